/- How a flow that comes in is opened. -/
import Derived.Test.YtnknhjiofpjbbaaOn
import Derived.WalkKit
import Derived.ProofKit
import Derived.OpenShut
import Derived.ChangeOld
import Derived.Below
namespace Go.Proofs.Ytnknhjiofpjbbaa
open Go.ChangeShapes Go.WideShapes Go.ChangeAt Go.RowKit Go.Deep Go.Joins

set_option maxRecDepth 10000 in
theorem trans_of {H : Type} {enc : TypeId × Value → H} {W : World} {base fuel : Nat} {v1 : Value} {x : DataW H × List MemPlace} (h1 : DataW.trod enc Try.prog W base (fun _ => true) true fuel 22 [v1] = some x) :
    ∃ a n c L, v1 = .slice a n c ∧ n ≤ maxLen ∧ Lists W a (3 * n) L := by
  have hC : Try.prog.cellsOf 97 = 3 := by kernel_rfl
  rcases open_slice Try.underlying22 h1 with ⟨hcs, _⟩ | ⟨a, len, cap, q, n', D, Pl, hcs, hb, hl, hm, hq, _, hel⟩
  · simp at hcs
    subst hcs
    exact ⟨none, 0, 0, [], rfl, Nat.zero_le _, rfl, .inl rfl⟩
  · simp at hcs
    subst hcs
    simp at hq
    subst hq
    rw [hC] at hel
    have key : ∀ i, i < len → ∃ (t : (Option Addr × Nat × Nat × List Int) × (Option Addr × Nat × Nat × List Int) × (Option Addr × Nat × Nat × List Int)),
        (W.cell? (a.add (i * 3)) = some (.slice t.1.1 t.1.2.1 t.1.2.2.1) ∧ t.1.2.1 ≤ maxLen ∧ Row W t.1.1 t.1.2.1 t.1.2.2.2) ∧
        (W.cell? ((a.add (i * 3)).add 1) = some (.slice t.2.1.1 t.2.1.2.1 t.2.1.2.2.1) ∧ t.2.1.2.1 ≤ maxLen ∧ Row W t.2.1.1 t.2.1.2.1 t.2.1.2.2.2) ∧
        (W.cell? ((a.add (i * 3)).add 2) = some (.slice t.2.2.1 t.2.2.2.1 t.2.2.2.2.1) ∧ t.2.2.2.1 ≤ maxLen ∧ Row W t.2.2.1 t.2.2.2.1 t.2.2.2.2.2) := by
      intro i hi
      obtain ⟨cs', hc1, hc2⟩ := hel i (by omega)
      obtain ⟨_, hlen, hcell⟩ := World.cells?_some hc1
      obtain ⟨y0, y1, y2, m', _, _, g0, g1, g2⟩ := trod_struct3 Try.underlying97 hc2
      match cs', hlen with
      | [u0, u1, u2], _ =>
        have k0 : Try.prog.cellsOf 38 = 1 := by kernel_rfl
        simp [k0] at g0 g1 g2
        obtain ⟨a0, n0, c0, x0, rfl, l0, r0⟩ := row_of_ints g0
        obtain ⟨a1, n1, c1, x1, rfl, l1, r1⟩ := row_of_ints g1
        obtain ⟨a2, n2, c2, x2, rfl, l2, r2⟩ := row_of_ints g2
        have w0 := hcell 0 (by omega)
        have w1 := hcell 1 (by omega)
        have w2 := hcell 2 (by omega)
        simp at w0 w1 w2
        refine ⟨((a0, n0, c0, x0), (a1, n1, c1, x1), (a2, n2, c2, x2)), ⟨by simpa [Addr.add] using w0, l0, r0⟩, ⟨w1, l1, r1⟩, ⟨w2, l2, r2⟩⟩
    obtain ⟨f, hf⟩ := choose_lt key
    refine ⟨some a, len, _, (List.range (3 * len)).map fun j => if j % 3 = 0 then (f (j / 3)).1.2.2.2 else if j % 3 = 1 then (f (j / 3)).2.1.2.2.2 else (f (j / 3)).2.2.2.2.2, rfl, by omega, by simp, ?_⟩
    by_cases h0 : len = 0
    · exact .inl (by omega)
    · obtain ⟨b, off, spot⟩ := a
      have hc := (hf 0 (by omega)).1.1
      have hspot : spot = none := by simpa [Addr.add] using World.cell?_spot hc
      subst hspot
      refine .inr ⟨b, off, rfl, ?_, fun j hj => ?_⟩
      · have := block_lt_of_cell hc; simpa [Addr.add] using this
      · have hj3 : j / 3 < len := by omega
        obtain ⟨q0, q1, q2⟩ := hf (j / 3) hj3
        simp only [Addr.add_mid] at q0 q1 q2
        simp only [List.getD_eq_getElem?_getD, List.getElem?_map, List.getElem?_range hj, Option.map_some, Option.getD_some]
        by_cases e0 : j % 3 = 0
        · rw [if_pos e0]
          have : off + j = off + j / 3 * 3 := by omega
          rw [this]; exact ⟨_, _, _, q0⟩
        · rw [if_neg e0]
          by_cases e1 : j % 3 = 1
          · rw [if_pos e1]
            have : off + j = off + j / 3 * 3 + 1 := by omega
            rw [this]; exact ⟨_, _, _, q1⟩
          · rw [if_neg e1]
            have : off + j = off + j / 3 * 3 + 2 := by omega
            rw [this]; exact ⟨_, _, _, q2⟩


set_option maxRecDepth 10000 in
theorem open_flow {H : Type} {enc : TypeId × Value → H} {W : World} {base b0 : Nat} {r : Reach} {v : Value} {d : DataW H} {ps : List MemPlace} (hv : Value.okWide Try.prog W r b0 26 v) (h : DataW.Trod enc Try.prog W base (fun _ => true) true 26 v d ps) :
    ∃ p a n c f t L, v = .agg #[.int .i64 p, .slice a n c, .int .i64 f, .int .i64 t] ∧ n ≤ maxLen ∧ Lists W a (3 * n) L := by
  obtain ⟨cs, rfl, hsz⟩ := okWide_struct Try.underlying26 hv
  have hC4 : Try.prog.cellsOf 26 = 4 := by kernel_rfl
  rw [hC4] at hsz
  obtain ⟨fuel, hf⟩ := h
  obtain ⟨l⟩ := cs
  match l, hsz with
  | [u0, u1, u2, u3], _ =>
    simp only [Value.cells] at hf
    obtain ⟨y0, y1, y2, m', _, _, g0, g1, g2⟩ := trod_struct3 Try.underlying26 hf
    have k0 : Try.prog.cellsOf 24 = 2 := by kernel_rfl
    have k1 : Try.prog.cellsOf 3 = 1 := by kernel_rfl
    simp [k0, k1] at g0 g1 g2
    obtain ⟨z0, z1, m'', _, _, g3, g4⟩ := trod_struct2 Try.underlying24 g0
    simp [k1] at g3 g4
    obtain ⟨a, n, c, L, rfl, hm, hl⟩ := trans_of g4
    obtain ⟨p, hp, _, _⟩ := DataW.trod_int Try.underlying3 g3
    obtain ⟨f, hf1, _, _⟩ := DataW.trod_int Try.underlying3 g1
    obtain ⟨t, ht, _, _⟩ := DataW.trod_int Try.underlying3 g2
    simp at hp hf1 ht
    subst hp hf1 ht
    exact ⟨p, a, n, c, f, t, L, rfl, hm, hl⟩
end Go.Proofs.Ytnknhjiofpjbbaa
