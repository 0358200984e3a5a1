/- What the program's TurnNet keeps in mind while it fills the turned net. -/
import Derived.Test.YtbobppcnmpiacaaNl
import Derived.Test.YtbobppcnmpiacaaHi
import Derived.Deep.RegionHeld3
namespace Go.Proofs.Ytbobppcnmpiacaa
open Go.RowKit

/-- The lists of the turned net, as far as k transitions. -/
def turnF (L : List (List Int)) (k j : Nat) : List Int :=
  if j < 3 * k then (if j % 3 = 0 then L.getD (j + 1) [] else if j % 3 = 1 then L.getD (j - 1) [] else []) else []

theorem turnF_old {L : List (List Int)} {k j : Nat} (h : j < 3 * k) : turnF L (k + 1) j = turnF L k j := by
  unfold turnF; rw [if_pos h, if_pos (by omega)]
theorem turnF_far {L : List (List Int)} {k j : Nat} (h : 3 * k ≤ j) : turnF L k j = [] := by
  unfold turnF; rw [if_neg (by omega)]
theorem turnF_0 (L : List (List Int)) (k : Nat) : turnF L (k + 1) (3 * k) = L.getD (3 * k + 1) [] := by
  unfold turnF; rw [if_pos (by omega), if_pos (by omega)]
theorem turnF_1 (L : List (List Int)) (k : Nat) : turnF L (k + 1) (3 * k + 1) = L.getD (3 * k) [] := by
  unfold turnF; rw [if_pos (by omega), if_neg (by omega), if_pos (by omega)]; rfl
theorem turnF_2 (L : List (List Int)) (k : Nat) : turnF L (k + 1) (3 * k + 2) = [] := by
  unfold turnF; rw [if_pos (by omega), if_neg (by omega), if_neg (by omega)]

theorem PartG.room {w : World} {B lo hi hi' n : Nat} {T : TypeId} {M : Nat → List Int} (h : PartG w B lo hi n T M) (hh : hi ≤ hi') : PartG w B lo hi' n T M := by
  obtain ⟨C, A, f, cap, h1, h2, h3, h4⟩ := h
  refine ⟨C, A, f, cap, h1, h2, fun j hj => ?_, h4⟩
  obtain ⟨e1, e2, e3⟩ := h3 j hj
  exact ⟨e1, e2, fun hm => ⟨(e3 hm).1, by have := (e3 hm).2.1; omega, (e3 hm).2.2⟩⟩

theorem Ob.set_far {w : World} {a : Option Addr} {b n : Nat} {xs : List Int} (h : Ob w a b n xs) {B o : Nat} {v0 v1 v2 : Value} (hb : xs ≠ [] → b ≠ B) : Ob (w.setCells B o [v0, v1, v2]) a b n xs := by
  rcases h with ⟨h1, h0 | ⟨e, cur, q1, q2, q3⟩⟩
  · exact ⟨h1, .inl h0⟩
  · by_cases hx : xs = []
    · subst hx; exact ⟨h1, .inl (by rw [← h1]; rfl)⟩
    · exact ⟨h1, .inr ⟨e, cur, (heap_set3_other _ _ _ _ _ _ _ (hb hx)).trans q1, q2, q3⟩⟩

theorem PartG.put3 {w : World} {B lo hi mid hi' n k b1 b2 m1 m2 c1 c2 : Nat} {T : TypeId} {L : List (List Int)} {a1 a2 : Option Addr} {X1 X2 : List Int} (h : PartG w B lo hi (3 * n) T (turnF L k)) (hk : k < n)
    (o1 : Ob w a1 b1 m1 X1) (o2 : Ob w a2 b2 m2 X2) (e1 : X1 = L.getD (3 * k + 1) []) (e2 : X2 = L.getD (3 * k) []) (hlo : lo ≤ hi) (hB : B < hi) (g1 : hi ≤ b1) (g1' : X1 ≠ [] → b1 < mid) (g2 : mid ≤ b2) (g2' : X2 ≠ [] → b2 < hi') (hm : hi ≤ mid) (hm' : mid ≤ hi') :
    PartG (w.setCells B (k * 3) [.slice a1 m1 c1, .slice a2 m2 c2, .slice none 0 0]) B lo hi' (3 * n) T (turnF L (k + 1)) := by
  obtain ⟨C, A, f, cap, h1, h2, h3, h4⟩ := h
  have hl1 := o1.1
  have hl2 := o2.1
  refine ⟨_, fun j => if j = 3 * k then a1 else if j = 3 * k + 1 then a2 else if j = 3 * k + 2 then none else A j, fun j => if j = 3 * k then b1 else if j = 3 * k + 1 then b2 else f j, fun j => if j = 3 * k then c1 else if j = 3 * k + 1 then c2 else if j = 3 * k + 2 then 0 else cap j, heap_set3_same h1 _ _ _, by simp [h2], fun j hj => ?_, fun i j hij hj hi0 hj0 => ?_⟩
  · by_cases j0 : j = 3 * k
    · subst j0
      simp only [if_true]
      rw [turnF_0, ← e1, hl1]
      refine ⟨?_, o1.set_far (fun _ => by omega), fun hx => ⟨by omega, by have := g1' hx; omega, by omega⟩⟩
      rw [Array.getElem?_setIfInBounds_ne (by omega), Array.getElem?_setIfInBounds_ne (by omega), Array.getElem?_setIfInBounds, if_pos (by omega), if_pos (by omega)]
    · by_cases j1 : j = 3 * k + 1
      · subst j1
        simp only [if_neg j0, if_true]
        rw [turnF_1, ← e2, hl2]
        refine ⟨?_, o2.set_far (fun _ => by omega), fun hx => ⟨by omega, by have := g2' hx; omega, by omega⟩⟩
        rw [Array.getElem?_setIfInBounds_ne (by omega), Array.getElem?_setIfInBounds, if_pos (by omega), if_pos (by simp; omega)]
      · by_cases j2 : j = 3 * k + 2
        · subst j2
          simp only [if_neg j0, if_neg j1, if_true]
          rw [turnF_2]
          refine ⟨?_, ⟨rfl, .inl rfl⟩, fun hx => absurd rfl hx⟩
          rw [Array.getElem?_setIfInBounds, if_pos (by omega), if_pos (by simp; omega)]
          rfl
        · simp only [if_neg j0, if_neg j1, if_neg j2]
          obtain ⟨q1, q2, q3⟩ := h3 j hj
          have hold : turnF L (k + 1) j = turnF L k j := by
            by_cases hlt : j < 3 * k
            · exact turnF_old hlt
            · rw [turnF_far (by omega), turnF_far (by omega)]
          rw [hold]
          refine ⟨?_, q2.set_far (fun hx => (q3 hx).2.2), fun hx => ⟨(q3 hx).1, by have := (q3 hx).2.1; omega, (q3 hx).2.2⟩⟩
          rw [Array.getElem?_setIfInBounds_ne (by omega), Array.getElem?_setIfInBounds_ne (by omega), Array.getElem?_setIfInBounds_ne (by omega)]
          exact q1
  · have jlt : j < 3 * k + 2 := by
      by_cases hc : j < 3 * k + 2
      · exact hc
      · exfalso
        by_cases j2 : j = 3 * k + 2
        · subst j2; exact hj0 (turnF_2 L k)
        · exact hj0 (turnF_far (by omega))
    by_cases j0 : j = 3 * k
    · subst j0
      simp only [if_neg (show i ≠ 3 * k by omega), if_neg (show i ≠ 3 * k + 1 by omega), if_true]
      rw [turnF_old hij] at hi0
      have := (h3 i (by omega)).2.2 hi0
      omega
    · by_cases j1 : j = 3 * k + 1
      · subst j1
        simp only [if_neg j0, if_true]
        by_cases i0 : i = 3 * k
        · subst i0
          simp only [if_true]
          rw [turnF_0, ← e1] at hi0
          have := g1' hi0
          omega
        · simp only [if_neg i0, if_neg (show i ≠ 3 * k + 1 by omega)]
          rw [turnF_old (by omega)] at hi0
          have := (h3 i (by omega)).2.2 hi0
          omega
      · simp only [if_neg j0, if_neg j1, if_neg (show i ≠ 3 * k by omega), if_neg (show i ≠ 3 * k + 1 by omega)]
        rw [turnF_old (by omega)] at hi0 hj0
        exact h4 i j hij hj hi0 hj0

theorem madeNil3 (n j : Nat) (h : j < 3 * n) : (madeCells #[.slice none 0 0, .slice none 0 0, .slice none 0 0] (n * 3))[j]? = some (.slice none 0 0) := by
  have hj : j < n * 3 := by omega
  simp only [madeCells, Array.getElem?_map, Array.getElem?_range, hj, if_true]
  have h3 : j % 3 = 0 ∨ j % 3 = 1 ∨ j % 3 = 2 := by omega
  rcases h3 with e | e | e <;> simp [e]

/-- The world in which the loop stands: the variable, the net that is being filled. -/
structure TuInv (w3 wr : World) (V M : Nat) (p : Int) (n k : Nat) (L : List (List Int)) : Prop where
  var : wr.heap[V]? = some (.cells #[.int .i64 p, .slice (some ⟨M, 0, none⟩) n n] 26 (0, 0))
  part : PartG wr M w3.heap.size wr.heap.size (3 * n) 39 (turnF L k)
  bel : Below w3.heap.size w3 wr
  ne : V ≠ M
  hV : w3.heap.size ≤ V
  hM : w3.heap.size ≤ M

theorem TuInv.grow {w3 wr v : World} {V M : Nat} {p : Int} {n k : Nat} {L : List (List Int)} (h : TuInv w3 wr V M p n k L) (hb : Below wr.heap.size wr v) : TuInv w3 v V M p n k L :=
  ⟨(hb.block _ (Array.getElem?_eq_some_iff.mp h.var).1).trans h.var, (h.part.grow hb).room hb.size, h.bel.trans (hb.mono h.bel.size), h.ne, h.hV, h.hM⟩

theorem TuInv.ltM {w3 wr : World} {V M : Nat} {p : Int} {n k : Nat} {L : List (List Int)} (h : TuInv w3 wr V M p n k L) : M < wr.heap.size := by
  obtain ⟨C, A, f, cap, h1, _⟩ := h.part
  exact (Array.getElem?_eq_some_iff.mp h1).1

theorem TuInv.there {w3 wr : World} {V M : Nat} {p : Int} {n k : Nat} {L : List (List Int)} (h : TuInv w3 wr V M p n k L) {i : Nat} (hi : i < n) :
    ∃ u0 u1 u2, wr.cell? ⟨M, i * 3, none⟩ = some u0 ∧ wr.cell? ⟨M, i * 3 + 1, none⟩ = some u1 ∧ wr.cell? ⟨M, i * 3 + 2, none⟩ = some u2 ∧ wr.frozen? ⟨M, i * 3, none⟩ = false ∧ wr.frozen? ⟨M, i * 3 + 1, none⟩ = false ∧ wr.frozen? ⟨M, i * 3 + 2, none⟩ = false := by
  obtain ⟨C, A, f, cap, h1, h2, _⟩ := h.part
  refine ⟨C[i * 3]'(by omega), C[i * 3 + 1]'(by omega), C[i * 3 + 2]'(by omega), ?_, ?_, ?_, frozen_of_row _ _ _ C _ h1, frozen_of_row _ _ _ C _ h1, frozen_of_row _ _ _ C _ h1⟩
  · rw [cell_of_row _ M _ C _ _ h1, Array.getElem?_eq_getElem (by omega)]
  · rw [cell_of_row _ M _ C _ _ h1, Array.getElem?_eq_getElem (by omega)]
  · rw [cell_of_row _ M _ C _ _ h1, Array.getElem?_eq_getElem (by omega)]

theorem TuInv.step {w3 wr v1 v2 : World} {V M : Nat} {p : Int} {n k : Nat} {L : List (List Int)} (h : TuInv w3 wr V M p n k L) (hk : k < n) {a1 a2 : Option Addr} {b1 b2 m1 m2 c1 c2 : Nat} {X1 X2 : List Int}
    (hb1 : Below wr.heap.size wr v1) (g1 : wr.heap.size ≤ b1) (o1 : Ob v1 a1 b1 m1 X1) (hb2 : Below v1.heap.size v1 v2) (g2 : v1.heap.size ≤ b2) (o2 : Ob v2 a2 b2 m2 X2) (e1 : X1 = L.getD (3 * k + 1) []) (e2 : X2 = L.getD (3 * k) []) :
    TuInv w3 (v2.setCells M (k * 3) [.slice a1 m1 c1, .slice a2 m2 c2, .slice none 0 0]) V M p n (k + 1) L := by
  have hg := (h.grow hb1).grow hb2
  have hlt : ∀ {w : World} {a : Option Addr} {b m : Nat} {X : List Int}, Ob w a b m X → X ≠ [] → b < w.heap.size := by
    intro w a b m X ho hx
    rcases ho with ⟨q, h0 | ⟨_, cur, hh, _⟩⟩
    · exact absurd (List.length_eq_zero_iff.mp (q.trans h0)) hx
    · exact (Array.getElem?_eq_some_iff.mp hh).1
  refine ⟨(heap_set3_other _ _ _ _ _ _ _ h.ne).trans hg.var, ?_, below_set3 hg.bel h.hM _ _ _ _, h.ne, h.hV, h.hM⟩
  rw [size_set3]
  exact ((h.part.grow hb1).grow hb2).put3 hk (o1.grow hb2) o2 e1 e2 h.bel.size h.ltM g1 (hlt o1) g2 (hlt o2) hb1.size hb2.size
end Go.Proofs.Ytbobppcnmpiacaa
