/- l1Own: a list's own copy; l2Can, l2Fire and the specification's Fire, for every net and mark in memory. -/
import Derived.Test.YtnknhjiofpjbbaaFs
import Derived.Test.YtnknhjiofpjbbaaMn
import Derived.Test.YtnknhjiofpjbbaaOn
import Derived.OwnWalk
namespace Go.Proofs.Ytnknhjiofpjbbaa
open Go.RowKit

/-- A slice of n numbers from the head of the block g, in which there may be more room. -/
def OutR (w : World) (g n : Nat) (ys : List Int) : Prop :=
  ys.length = n ∧ ∃ cur, w.heap[g]? = some (.cells cur 3 (0, 0)) ∧ n ≤ cur.size ∧ ∀ i, i < n → cur[i]? = some (.int .i64 (ys.getD i 0))

theorem OutR.row {w : World} {g n : Nat} {ys : List Int} (h : OutR w g n ys) : Row w (some ⟨g, 0, none⟩) n ys := by
  obtain ⟨hl, cur, h1, h2, h3⟩ := h
  refine ⟨hl, .inr ⟨g, 0, rfl, (Array.getElem?_eq_some_iff.mp h1).1, fun i hi => ?_⟩⟩
  rw [cell_of_row w g (0 + i) _ _ _ h1, Nat.zero_add]
  exact h3 i hi

theorem OutR.grow {w w' : World} {g n : Nat} {ys : List Int} (h : OutR w g n ys) (hb : Below w.heap.size w w') : OutR w' g n ys := by
  obtain ⟨hl, cur, h1, h2, h3⟩ := h
  exact ⟨hl, cur, (hb.block g (Array.getElem?_eq_some_iff.mp h1).1).trans h1, h2, h3⟩

theorem OutR.set {w : World} {g n : Nat} {ys : List Int} (h : OutR w g n ys) (k : Nat) (hk : k < n) (x : Int) : OutR (w.setCell ⟨g, k, none⟩ (.int .i64 x)) g n (ys.set k x) := by
  obtain ⟨hl, cur, h1, h2, h3⟩ := h
  refine ⟨by simpa using hl, _, heap_setCell_same w g k cur _ _ h1, by simpa using h2, fun i hi => ?_⟩
  rw [Array.getElem?_setIfInBounds]
  by_cases e : k = i
  · subst e
    rw [if_pos rfl, if_pos (by omega)]
    simp [List.getD_eq_getElem?_getD, show k < ys.length by omega]
  · rw [if_neg e, h3 i hi]
    simp [List.getD_eq_getElem?_getD, e]

theorem outR_of_own {B : Nat} {w : World} {v : Value} {n : Nat} {l : List Int} (hown : w.ownsRow B 3 1 v n (l.map (Value.int .i64))) (hv : v ≠ .slice none 0 0) : ∃ g c, v = .slice (some ⟨g, 0, none⟩) n c ∧ B ≤ g ∧ n ≤ c ∧ OutR w g n l := by
  have hl : l.length = n := by have := hown.1; simpa using this
  rcases hown.2 with ⟨rfl, rfl⟩ | ⟨g, cap, cur, rfl, hb, hh, hnc, _, hsz, ht⟩
  · exact absurd rfl hv
  · refine ⟨g, cap, rfl, hb, hnc, hl, cur, hh, by omega, fun i hi => ?_⟩
    have e : (cur.toList.take (n * 1))[i]? = (l.map (Value.int .i64))[i]? := by rw [ht]
    rw [List.getElem?_take_of_lt (by omega), Array.getElem?_toList] at e
    rw [e]
    simp [List.getElem?_eq_getElem (show i < l.length by omega)]

theorem info_split {P : Program} {e : TypeId} {z : Value} {size bytes : Nat} (h : (P.info? e).map (fun i => (i.zero, i.size, i.bytes)) = some (some z, size, bytes)) : ∃ i, P.info? e = some i ∧ i.zero = some z ∧ i.size = size ∧ i.bytes = bytes := by
  obtain ⟨i, hi, hzz⟩ := Option.map_eq_some_iff.1 h
  simp only [Prod.mk.injEq] at hzz
  exact ⟨i, hi, hzz.1, hzz.2.1, hzz.2.2⟩

theorem Row.cells {w : World} {b off n : Nat} {xs : List Int} (h : Row w (some ⟨b, off, none⟩) n xs) : ∀ j u, (xs.map (Value.int .i64))[j]? = some u → w.cell? ((⟨b, off, none⟩ : Addr).add j) = some u := by
  intro j u hu
  rw [Addr.add_mid]
  simp only [List.getElem?_map, Option.map_eq_some_iff] at hu
  obtain ⟨x, hx, rfl⟩ := hu
  have hj := (List.getElem?_eq_some_iff.mp hx).1
  have hl := h.1
  obtain ⟨b1, o1, y, he, _, hc, H⟩ := h.at (show j < n by omega)
  simp only [Option.some.injEq, Addr.mk.injEq] at he
  obtain ⟨rfl, rfl, _⟩ := he
  rw [hc]
  have := H.out
  rw [hx] at this
  simp at this
  rw [this]

set_option maxHeartbeats 400000 in
theorem own_any (b off n ca : Nat) (xs : List Int) (w : World) (ha : Row w (some ⟨b, off, none⟩) n xs) (hn : n ≤ 1048576) :
    Calls Try.prog 76 #[.slice (some ⟨b, off, none⟩) n ca] w fun e w' => ∃ g c, e = .returned (.slice (some ⟨g, 0, none⟩) n c) ∧ w.heap.size ≤ g ∧ n ≤ c ∧ OutR w' g n xs ∧ Below w.heap.size w w' := by
  obtain ⟨i0, hi, hz0, hz1, hz2⟩ := info_split Try.info3
  have HA := hide ha
  have HL := hide ha.1
  clear ha
  have HW := hide (HA.out.alloc (.cells #[] 3))
  have HO : Hid ((w.alloc (.cells #[] 3)).ownsRow w.heap.size 3 1 (.slice (some ⟨w.heap.size, 0, none⟩) 0 0) 0 []) :=
    ⟨rfl, .inr ⟨w.heap.size, 0, #[], rfl, Nat.le_refl _, heap_alloc_new _ _, Nat.le_refl _, Nat.zero_le _, rfl, rfl⟩⟩
  have HN := hide (show (xs.map (Value.int .i64)).length = n * 1 by rw [List.length_map, Nat.mul_one]; exact HL.out)
  have H1 := hide (show ∀ u ∈ xs.map (Value.int .i64), u.oneCell' = true by intro u hu; simp at hu; obtain ⟨x, _, rfl⟩ := hu; rfl)
  have HX := hide (show 0 + n ≤ maxLen by unfold maxLen; omega)
  have HY := hide (show (0 + n) * 8 ≤ 140737488355328 by omega)
  have HZ := hide (show w.heap.size ≤ (w.alloc (.cells #[] 3)).heap.size by simp)
  go_enter Try.func76, Try.ntmps76
  go_wp2_with (refine wpList_append_own _ rfl (.tmp 3) (.tmp 4) 38 rfl w.heap.size 3 i0 (.int .i64 0) 1 8 Try.underlying38 hi hz0 hz1 hz2 rfl (by decide) (.slice (some ⟨w.heap.size, 0, none⟩) 0 0) 0 [] rfl HO.out ⟨b, off, none⟩ n ca (xs.map (Value.int .i64)) rfl HN.out HW.out.cells H1.out HX.out HY.out HZ.out ?_; intro v' W' r1 r2 r3)
  go_ret
  rw [Nat.zero_add, List.nil_append] at r1
  obtain ⟨g, c, rfl, hg, hc, hout⟩ := outR_of_own r1 (fun e => by have := (r3.mp e).1; simp at this)
  exact ⟨g, c, rfl, hg, hc, hout, (below_al w _).grown r2 (by simp) (fun k hk => by simp [Value.ownBlock] at hk; omega)⟩

def canB (x0 ys : List Int) : Bool := x0.all fun p => !decide (ys.getD p.toNat 0 = 0)

theorem canB_take {xs ys : List Int} {k : Nat} {x : Int} (h : canB (xs.take k) ys = true) (hx : xs[k]? = some x) (hne : ¬ ys.getD x.toNat 0 = 0) : canB (xs.take (k + 1)) ys = true := by
  unfold canB at *
  rw [List.take_add_one, hx, List.all_append, h]
  simpa [List.getD_eq_getElem?_getD] using hne

theorem canB_no {xs ys : List Int} {k : Nat} {x : Int} (hx : xs[k]? = some x) (he : ys.getD x.toNat 0 = 0) : canB xs ys = false := by
  unfold canB
  rw [List.all_eq_false]
  exact ⟨x, List.mem_of_getElem? hx, by simpa [List.getD_eq_getElem?_getD] using he⟩

end Go.Proofs.Ytnknhjiofpjbbaa
