/- How a slice of lists that comes in is opened. -/
import Derived.Test.YteanbjhlfplojaaOn
namespace Go.Proofs.Yteanbjhlfplojaa
open Go.ChangeShapes Go.WideShapes Go.ChangeAt Go.RowKit Go.Deep Go.Joins

theorem lists_of {H : Type} {enc : TypeId × Value → H} {W : World} {base fuel : Nat} {v : Value} {x : DataW H × List MemPlace} (h : DataW.trod enc Try.prog W base (fun _ => true) true fuel 24 [v] = some x) :
    ∃ a n c L, v = .slice a n c ∧ n ≤ maxLen ∧ Lists W a n L := by
  have hC : Try.prog.cellsOf 30 = 1 := by kernel_rfl
  rcases open_slice Try.underlying24 h with ⟨hcs, _⟩ | ⟨a, len, cap, q, n', D, Pl, hcs, hb, hl, hm, hq, _, hel⟩
  · simp at hcs
    subst hcs
    exact ⟨none, 0, 0, [], rfl, Nat.zero_le _, rfl, .inl rfl⟩
  · simp at hcs
    subst hcs
    simp at hq
    subst hq
    rw [hC] at hel
    have key : ∀ i, i < len → ∃ t : Option Addr × Nat × Nat × List Int, W.cell? (a.add i) = some (.slice t.1 t.2.1 t.2.2.1) ∧ t.2.1 ≤ maxLen ∧ Row W t.1 t.2.1 t.2.2.2 := by
      intro i hi
      obtain ⟨cs', hc1, hc2⟩ := hel i (by omega)
      obtain ⟨_, hlen, hcell⟩ := World.cells?_some hc1
      match cs', hlen with
      | [u0], _ =>
        obtain ⟨a0, n0, c0, x0, rfl, l0, r0⟩ := row_of_ints hc2
        have w0 := hcell 0 (by omega)
        simp at w0
        exact ⟨(a0, n0, c0, x0), by simpa [Addr.add] using w0, l0, r0⟩
    obtain ⟨f, hf⟩ := choose_lt key
    refine ⟨some a, len, _, (List.range len).map fun j => (f j).2.2.2, rfl, by omega, by simp, ?_⟩
    by_cases h0 : len = 0
    · exact .inl h0
    · obtain ⟨b, off, spot⟩ := a
      have hc := (hf 0 (by omega)).1
      have hspot : spot = none := by simpa [Addr.add] using World.cell?_spot hc
      subst hspot
      refine .inr ⟨b, off, rfl, ?_, fun j hj => ?_⟩
      · have := block_lt_of_cell hc; simpa [Addr.add] using this
      · have q0 := hf j hj
        simp only [Addr.add_mid] at q0
        simp only [List.getD_eq_getElem?_getD, List.getElem?_map, List.getElem?_range hj, Option.map_some, Option.getD_some]
        exact ⟨_, _, _, q0⟩
end Go.Proofs.Yteanbjhlfplojaa
