/- How a net that comes in is opened: a number and a slice whose lists can be read. -/
import Derived.Test.YtnknhjiofpjbbaaNt
import Derived.WalkKit
import Derived.ProofKit
import Derived.OpenShut
import Derived.ChangeOld
import Derived.Below
namespace Go.Proofs.Ytnknhjiofpjbbaa
open Go.ChangeShapes Go.WideShapes Go.ChangeAt Go.RowKit Go.Deep Go.Joins

theorem row_of_ints {H : Type} {enc : TypeId × Value → H} {W : World} {base fuel : Nat} {v : Value} {x : DataW H × List MemPlace} (h : DataW.trod enc Try.prog W base (fun _ => true) true fuel 38 [v] = some x) :
    ∃ a n c xs, v = .slice a n c ∧ n ≤ maxLen ∧ Row W a n xs := by
  rcases open_ints Try.underlying38 Try.underlying3 (by kernel_rfl) h with ⟨hcs, _⟩ | ⟨y, l, c, zs, hcs, _, hl, hm, hz, _, hcell, _⟩
  · simp at hcs
    exact ⟨none, 0, 0, [], hcs, Nat.zero_le _, rfl, .inl rfl⟩
  · simp at hcs
    refine ⟨some y, l, c, zs.take l, hcs, by omega, ?_, ?_⟩
    · rw [List.length_take]; simp at hz; omega
    · by_cases h0 : l = 0
      · exact .inl h0
      · simp at hz
        obtain ⟨b, off, spot⟩ := y
        have hc := hcell 0 (by omega)
        have hspot : spot = none := by simpa [Addr.add] using World.cell?_spot hc
        subst hspot
        refine .inr ⟨b, off, rfl, ?_, fun i hi => ?_⟩
        · have := block_lt_of_cell hc; simpa [Addr.add] using this
        · have := hcell i (by omega)
          rw [List.getD_eq_getElem?_getD, List.getElem?_take_of_lt hi, ← List.getD_eq_getElem?_getD]
          rw [Addr.add_mid] at this
          exact this

set_option maxRecDepth 10000 in
theorem open_net {H : Type} {enc : TypeId × Value → H} {W : World} {base b0 : Nat} {r : Reach} {v : Value} {d : DataW H} {ps : List MemPlace} (hv : Value.okWide Try.prog W r b0 24 v) (h : DataW.Trod enc Try.prog W base (fun _ => true) true 24 v d ps) :
    ∃ p a n c L, v = .agg #[.int .i64 p, .slice a n c] ∧ n ≤ maxLen ∧ Lists W a (3 * n) L := by
  obtain ⟨v0, v1, y0, y1, m, rfl, _, _, h0, h1⟩ := open_agg2 Try.underlying24 (by kernel_rfl) (by kernel_rfl) hv h
  obtain ⟨p, hp, _, _⟩ := DataW.trod_int Try.underlying3 h0
  simp at hp
  subst hp
  have hC : Try.prog.cellsOf 97 = 3 := by kernel_rfl
  rcases open_slice Try.underlying22 h1 with ⟨hcs, _⟩ | ⟨a, len, cap, q, n', D, Pl, hcs, hb, hl, hm, hq, _, hel⟩
  · simp at hcs
    subst hcs
    exact ⟨p, none, 0, 0, [], rfl, Nat.zero_le _, rfl, .inl rfl⟩
  · simp at hcs
    subst hcs
    simp at hq
    subst hq
    rw [hC] at hel
    have key : ∀ i, i < len → ∃ (t : (Option Addr × Nat × Nat × List Int) × (Option Addr × Nat × Nat × List Int) × (Option Addr × Nat × Nat × List Int)),
        (W.cell? (a.add (i * 3)) = some (.slice t.1.1 t.1.2.1 t.1.2.2.1) ∧ t.1.2.1 ≤ maxLen ∧ Row W t.1.1 t.1.2.1 t.1.2.2.2) ∧
        (W.cell? ((a.add (i * 3)).add 1) = some (.slice t.2.1.1 t.2.1.2.1 t.2.1.2.2.1) ∧ t.2.1.2.1 ≤ maxLen ∧ Row W t.2.1.1 t.2.1.2.1 t.2.1.2.2.2) ∧
        (W.cell? ((a.add (i * 3)).add 2) = some (.slice t.2.2.1 t.2.2.2.1 t.2.2.2.2.1) ∧ t.2.2.2.1 ≤ maxLen ∧ Row W t.2.2.1 t.2.2.2.1 t.2.2.2.2.2) := by
      intro i hi
      obtain ⟨cs', hc1, hc2⟩ := hel i (by omega)
      obtain ⟨_, hlen, hcell⟩ := World.cells?_some hc1
      obtain ⟨y0, y1, y2, m', _, _, g0, g1, g2⟩ := trod_struct3 Try.underlying97 hc2
      match cs', hlen with
      | [u0, u1, u2], _ =>
        have k0 : Try.prog.cellsOf 38 = 1 := by kernel_rfl
        simp [k0] at g0 g1 g2
        obtain ⟨a0, n0, c0, x0, rfl, l0, r0⟩ := row_of_ints g0
        obtain ⟨a1, n1, c1, x1, rfl, l1, r1⟩ := row_of_ints g1
        obtain ⟨a2, n2, c2, x2, rfl, l2, r2⟩ := row_of_ints g2
        have w0 := hcell 0 (by omega)
        have w1 := hcell 1 (by omega)
        have w2 := hcell 2 (by omega)
        simp at w0 w1 w2
        refine ⟨((a0, n0, c0, x0), (a1, n1, c1, x1), (a2, n2, c2, x2)), ⟨by simpa [Addr.add] using w0, l0, r0⟩, ⟨w1, l1, r1⟩, ⟨w2, l2, r2⟩⟩
    obtain ⟨f, hf⟩ := choose_lt key
    refine ⟨p, some a, len, _, (List.range (3 * len)).map fun j => if j % 3 = 0 then (f (j / 3)).1.2.2.2 else if j % 3 = 1 then (f (j / 3)).2.1.2.2.2 else (f (j / 3)).2.2.2.2.2, rfl, by omega, by simp, ?_⟩
    by_cases h0 : len = 0
    · exact .inl (by omega)
    · obtain ⟨b, off, spot⟩ := a
      have hc := (hf 0 (by omega)).1.1
      have hspot : spot = none := by simpa [Addr.add] using World.cell?_spot hc
      subst hspot
      refine .inr ⟨b, off, rfl, ?_, fun j hj => ?_⟩
      · have := block_lt_of_cell hc; simpa [Addr.add] using this
      · have hj3 : j / 3 < len := by omega
        obtain ⟨q0, q1, q2⟩ := hf (j / 3) hj3
        simp only [Addr.add_mid] at q0 q1 q2
        simp only [List.getD_eq_getElem?_getD, List.getElem?_map, List.getElem?_range hj, Option.map_some, Option.getD_some]
        by_cases e0 : j % 3 = 0
        · rw [if_pos e0]
          have : off + j = off + j / 3 * 3 := by omega
          rw [this]; exact ⟨_, _, _, q0⟩
        · rw [if_neg e0]
          by_cases e1 : j % 3 = 1
          · rw [if_pos e1]
            have : off + j = off + j / 3 * 3 + 1 := by omega
            rw [this]; exact ⟨_, _, _, q1⟩
          · rw [if_neg e1]
            have : off + j = off + j / 3 * 3 + 2 := by omega
            rw [this]; exact ⟨_, _, _, q2⟩

theorem keep {v v' : World} {b : Nat} {C : Array Value} {t : TypeId} (h : v.heap[b]? = some (.cells C t (0, 0))) (hb : Below v.heap.size v v') : v'.heap[b]? = some (.cells C t (0, 0)) :=
  (hb.block b (Array.getElem?_eq_some_iff.mp h).1).trans h

theorem cells2 {v : World} {b : Nat} {x y : Value} {t : TypeId} (h : v.heap[b]? = some (.cells #[x, y] t (0, 0))) : v.cell? ⟨b, 0, none⟩ = some x ∧ v.cell? ⟨b, 1, none⟩ = some y :=
  ⟨cell_of_row v b 0 _ _ _ h, cell_of_row v b 1 _ _ _ h⟩

theorem row_lt {v : World} {b : Nat} {C : Array Value} {t : TypeId} (h : v.heap[b]? = some (.cells C t (0, 0))) : b < v.heap.size := (Array.getElem?_eq_some_iff.mp h).1
end Go.Proofs.Ytnknhjiofpjbbaa
