/- What toTrans, toTransS and toNet make: a net of the same lists, all in blocks of their own; and what eqTrans, eqTransS and eqNet answer. -/
import Derived.Test.YtbobppcnmpiacaaNt
import Derived.Laws.Tables
import Derived.Laws.ResultCell
namespace Go.Proofs.Ytbobppcnmpiacaa
open Go.RowKit

/-- Three lists in blocks of their own. -/
def Tri3 (w w' : World) (e : Ending) (x0 x1 x2 : List Int) : Prop :=
  ∃ b0 b1 b2, e = .returned (.agg #[.slice (some ⟨b0, 0, none⟩) x0.length x0.length, .slice (some ⟨b1, 0, none⟩) x1.length x1.length, .slice (some ⟨b2, 0, none⟩) x2.length x2.length]) ∧ w.heap.size ≤ b0 ∧ b0 < b1 ∧ b1 < b2 ∧ b2 < w'.heap.size ∧
    w'.heap[b0]? = some (.cells (cellsOf x0) 3 (0, 0)) ∧ w'.heap[b1]? = some (.cells (cellsOf x1) 3 (0, 0)) ∧ w'.heap[b2]? = some (.cells (cellsOf x2) 3 (0, 0)) ∧ Below w.heap.size w w'

theorem heap_al_old (w : World) (o : Obj) (k : Nat) (h : k < w.heap.size) : (w.alloc o).heap[k]? = w.heap[k]? := (below_al w o).block k h

theorem tri3_of (w v : World) (x0 x1 x2 : List Int) (hb : Below w.heap.size w v) :
    Tri3 w (((v.alloc (.cells (cellsOf x0) 3)).alloc (.cells (cellsOf x1) 3)).alloc (.cells (cellsOf x2) 3)) (.returned (.agg #[.slice (some ⟨v.heap.size, 0, none⟩) x0.length x0.length, .slice (some ⟨v.heap.size + 1, 0, none⟩) x1.length x1.length, .slice (some ⟨v.heap.size + 1 + 1, 0, none⟩) x2.length x2.length])) x0 x1 x2 := by
  have hs := hb.size
  refine ⟨_, _, _, rfl, hs, by omega, by omega, by simp, ?_, ?_, ?_, ?_⟩
  · rw [heap_al_old _ _ _ (by simp; omega), heap_al_old _ _ _ (by simp)]; exact heap_alloc_new _ _
  · rw [heap_al_old _ _ _ (by simp)]
    have := heap_alloc_new (v.alloc (.cells (cellsOf x0) 3)) (.cells (cellsOf x1) 3)
    simpa using this
  · have := heap_alloc_new ((v.alloc (.cells (cellsOf x0) 3)).alloc (.cells (cellsOf x1) 3)) (.cells (cellsOf x2) 3)
    simpa using this
  · exact ((hb.alloc hs _).alloc (by simp; omega) _).alloc (by simp; omega) _

theorem run_make_many {P : Program} (t e : TypeId) (z : Value) (size bytes : Nat) (ht : P.underlying t = some (.slice e)) (hinfo : (P.info? e).map (fun i => (i.zero, i.size, i.bytes)) = some (some z, size, bytes))
    (kl kc : IntKind) (n : Nat) (hbytes : bytes * n ≤ 281474976710656) (h63 : n ≤ 9223372036854775807) (w : World) :
    (Instr.makeSlice t (.int kl (n : Int)) (.int kc (n : Int))).run P w = .ok (.slice (some ⟨w.heap.size, 0, none⟩) n n) (w.alloc (.cells (madeCells z.cells (n * size)) e)) := by
  obtain ⟨i, hi, hzz⟩ := Option.map_eq_some_iff.1 hinfo
  simp only [Prod.mk.injEq] at hzz
  obtain ⟨hz, hs, hb⟩ := hzz
  have hb' : (i.bytes : Int) * (n : Int) ≤ 281474976710656 := by
    rw [hb]
    have h : ((bytes * n : Nat) : Int) ≤ 281474976710656 := by omega
    rwa [Int.natCast_mul] at h
  have hr := run_make (P := P) w t e i z ht hi hz kl kc n n (by omega) (Int.le_refl _) hb' (by omega)
  simp only [Int.toNat_natCast, hs] at hr
  exact hr

theorem Try.info39 : (Try.prog.info? 39).map (fun i => (i.zero, i.size, i.bytes)) = some (some (.agg #[.slice none 0 0, .slice none 0 0, .slice none 0 0]), 3, 72) := by kernel_rfl

/-- The first k of n lists lie in blocks of their own, rising, behind the block B that leads to them. -/
def PartL (w : World) (B n k : Nat) (T : TypeId) (L : List (List Int)) : Prop :=
  ∃ (C : Array Value) (f : Nat → Nat), w.heap[B]? = some (.cells C T (0, 0)) ∧ C.size = n ∧
    (∀ j, j < k → C[j]? = some (.slice (some ⟨f j, 0, none⟩) (L.getD j []).length (L.getD j []).length) ∧ B < f j ∧ w.heap[f j]? = some (.cells (cellsOf (L.getD j [])) 3 (0, 0))) ∧
    (∀ i j, i < j → j < k → f i < f j)

theorem PartL.grow {w w' : World} {B n k : Nat} {T : TypeId} {L : List (List Int)} (h : PartL w B n k T L) (hb : Below w.heap.size w w') : PartL w' B n k T L := by
  obtain ⟨C, f, h1, h2, h3, h4⟩ := h
  refine ⟨C, f, (hb.block B (Array.getElem?_eq_some_iff.mp h1).1).trans h1, h2, fun j hj => ?_, h4⟩
  obtain ⟨e1, e2, e3⟩ := h3 j hj
  exact ⟨e1, e2, (hb.block _ (Array.getElem?_eq_some_iff.mp e3).1).trans e3⟩

theorem heap_set3_same {w : World} {B o : Nat} {C : Array Value} {T : TypeId} (h : w.heap[B]? = some (.cells C T (0, 0))) (v0 v1 v2 : Value) :
    (w.setCells B o [v0, v1, v2]).heap[B]? = some (.cells (((C.setIfInBounds o v0).setIfInBounds (o + 1) v1).setIfInBounds (o + 1 + 1) v2) T (0, 0)) := by
  simp only [World.setCells]
  exact heap_setCell_same _ _ _ _ _ _ (heap_setCell_same _ _ _ _ _ _ (heap_setCell_same _ _ _ _ _ _ h))

theorem heap_set3_other (w : World) (B o k : Nat) (v0 v1 v2 : Value) (h : k ≠ B) : (w.setCells B o [v0, v1, v2]).heap[k]? = w.heap[k]? := by
  simp only [World.setCells]
  rw [Below.heap_setCell _ _ _ _ h, Below.heap_setCell _ _ _ _ h, Below.heap_setCell _ _ _ _ h]

theorem size_set3 (w : World) (B o : Nat) (v0 v1 v2 : Value) : (w.setCells B o [v0, v1, v2]).heap.size = w.heap.size := by simp [World.setCells, World.setCell]

theorem below_set3 {D : Nat} {a w : World} (h : Below D a w) {B : Nat} (hB : D ≤ B) (o : Nat) (v0 v1 v2 : Value) : Below D a (w.setCells B o [v0, v1, v2]) := by
  simp only [World.setCells]
  exact ((h.setCell (p := ⟨B, o, none⟩) hB v0).setCell (p := ⟨B, o + 1, none⟩) hB v1).setCell (p := ⟨B, o + 1 + 1, none⟩) hB v2

theorem there_of_row {w : World} {B o m : Nat} {C : Array Value} {T : TypeId} (h : w.heap[B]? = some (.cells C T (0, 0))) (hm : o + m ≤ C.size) : w.there B o m := fun j hj =>
  ⟨by rw [cell_of_row w B (o + j) C T _ h, Array.getElem?_eq_getElem (by omega)]; rfl, frozen_of_row w B (o + j) C _ h⟩

theorem wpList_store3 {P : Program} {ops : Array Oper} {rest : List Oper} {op : Oper} {a : Act} {w : World} {Q : Exit → Act → World → Prop} (hgd : op.guard = none) (ty : TypeId) (x y : Operand) (ho : op.op = .store ty x y)
    (b o : Nat) (v0 v1 v2 : Value) (hx : a.eval x = .pointer (some ⟨b, o, none⟩)) (hy : a.eval y = .agg #[v0, v1, v2]) (ht : w.there b o 3) (hi : (P.info? ty).map (·.size) = some 3) (h0 : v0.oneCell' = true) (h1 : v1.oneCell' = true) (h2 : v2.oneCell' = true)
    (h : wpList P ops Q rest (a.put op.dst undef) (w.setCells b o [v0, v1, v2])) : wpList P ops Q (op :: rest) a w :=
  wpList_store_mid hgd ty x y ho b o #[v0, v1, v2] hx hy ht hi (by simp [h0, h1, h2]) h

theorem Try.size39 : (Try.prog.info? 39).map (·.size) = some 3 := by kernel_rfl

theorem PartL.step {v w : World} {B n k b0 b1 b2 : Nat} {T : TypeId} {L : List (List Int)} {x0 x1 x2 : List Int} (h : PartL v B (3 * n) (3 * k) T L) (hk : k < n) (hb : Below v.heap.size v w)
    (h0 : v.heap.size ≤ b0) (h01 : b0 < b1) (h12 : b1 < b2) (g0 : w.heap[b0]? = some (.cells (cellsOf x0) 3 (0, 0))) (g1 : w.heap[b1]? = some (.cells (cellsOf x1) 3 (0, 0))) (g2 : w.heap[b2]? = some (.cells (cellsOf x2) 3 (0, 0)))
    (e0 : L.getD (3 * k) [] = x0) (e1 : L.getD (3 * k + 1) [] = x1) (e2 : L.getD (3 * k + 2) [] = x2) :
    PartL (w.setCells B (k * 3) [.slice (some ⟨b0, 0, none⟩) x0.length x0.length, .slice (some ⟨b1, 0, none⟩) x1.length x1.length, .slice (some ⟨b2, 0, none⟩) x2.length x2.length]) B (3 * n) (3 * (k + 1)) T L := by
  obtain ⟨C, f, h1, h2, h3, h4⟩ := h
  have hB := (Array.getElem?_eq_some_iff.mp h1).1
  have hold : ∀ j, j < 3 * k → f j < v.heap.size := fun j hj => (Array.getElem?_eq_some_iff.mp (h3 j hj).2.2).1
  refine ⟨_, fun j => if j < 3 * k then f j else if j = 3 * k then b0 else if j = 3 * k + 1 then b1 else b2, heap_set3_same ((hb.block B hB).trans h1) _ _ _, by simp [h2], fun j hj => ?_, fun i j hij hj => ?_⟩
  · by_cases hj3 : j < 3 * k
    · obtain ⟨q1, q2, q3⟩ := h3 j hj3
      simp only [if_pos hj3]
      refine ⟨?_, q2, ?_⟩
      · rw [Array.getElem?_setIfInBounds_ne (by omega), Array.getElem?_setIfInBounds_ne (by omega), Array.getElem?_setIfInBounds_ne (by omega)]; exact q1
      · rw [heap_set3_other _ _ _ _ _ _ _ (by omega)]; exact (hb.block _ (hold j hj3)).trans q3
    · simp only [if_neg hj3]
      obtain rfl | rfl | rfl : j = 3 * k ∨ j = 3 * k + 1 ∨ j = 3 * k + 2 := by omega
      · rw [if_pos rfl, e0]
        refine ⟨?_, by omega, ?_⟩
        · rw [Array.getElem?_setIfInBounds_ne (by omega), Array.getElem?_setIfInBounds_ne (by omega), Array.getElem?_setIfInBounds, if_pos (by omega), if_pos (by omega)]
        · rw [heap_set3_other _ _ _ _ _ _ _ (by omega)]; exact g0
      · rw [if_neg (by omega), if_pos rfl, e1]
        refine ⟨?_, by omega, ?_⟩
        · rw [Array.getElem?_setIfInBounds_ne (by omega), Array.getElem?_setIfInBounds, if_pos (by omega), if_pos (by simp; omega)]
        · rw [heap_set3_other _ _ _ _ _ _ _ (by omega)]; exact g1
      · rw [if_neg (by omega), if_neg (by omega), e2]
        refine ⟨?_, by omega, ?_⟩
        · rw [Array.getElem?_setIfInBounds, if_pos (by omega), if_pos (by simp; omega)]
        · rw [heap_set3_other _ _ _ _ _ _ _ (by omega)]; exact g2
  · have := h4 i j hij
    by_cases hi3 : i < 3 * k
    · have := hold i hi3
      simp only [if_pos hi3]
      repeat' split
      all_goals omega
    · simp only [if_neg hi3, if_neg (show ¬ j < 3 * k by omega)]
      repeat' split
      all_goals omega

theorem len_le (L : List (List Int)) (j : Nat) : (L.getD j []).length ≤ sizeL L := by
  by_cases h : j < L.length
  · have h1 := sizeL_take_succ L j h
    have h2 := sizeL_take_le L (j + 1)
    omega
  · simp [List.getD_eq_getElem?_getD, List.getElem?_eq_none (show L.length ≤ j by omega)]

end Go.Proofs.Ytbobppcnmpiacaa
