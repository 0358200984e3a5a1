/- What both Covers answer, for every number of places and every two lists: whether each number of the first is at least that of the second, and true, where both are good marks, else false and false; nothing that was there is written. -/
import Derived.Test.YtbobppcnmpiacaaBoth
namespace Go.Proofs.Ytbobppcnmpiacaa
open Go.RowKit
set_option maxRecDepth 10000

theorem _root_.Go.RowKit.Below.drewN {B : Nat} {a w : World} (h : Below B a w) (q : Nat) : Below B a (w.drewN q) := ⟨h.os, h.tape, h.output, h.size, h.block⟩

def getF (xs : List Int) : Nat → Int := fun i => xs.getD i 0

theorem getF_of {xs : List Int} {k : Nat} {x : Int} (h : Hid (xs[k]? = some x)) : getF xs k = x := by simp [getF, h.out]

/-- Each number of the list is in 0..50. -/
def Small (f : Nat → Int) : Prop := ∀ i, 0 ≤ f i ∧ f i ≤ 50

theorem good_parts {p : Int} {xs : List Int} (h : goodB p xs = true) : Small (getF xs) ∧ xs.length ≤ 16 ∧ 1 ≤ xs.length ∧ (xs.length : Int) = p := by
  simp only [goodB, Bool.and_eq_true, decide_eq_true_eq] at h
  obtain ⟨⟨h1, h2⟩, h3⟩ := h
  refine ⟨fun i => ?_, (inB_le h1 h2).2, (inB_le h1 h2).1, h2⟩
  unfold getF
  by_cases hi : i < xs.length
  · rw [List.getD_eq_getElem?_getD, List.getElem?_eq_getElem hi]
    have := List.all_eq_true.mp h3 xs[i] (List.getElem_mem hi)
    simp [inB] at this
    simpa using this
  · rw [List.getD_eq_getElem?_getD, List.getElem?_eq_none (by omega)]
    simp

theorem small_fOf {xs : List Int} (h : Small (getF xs)) (n : Nat) : Small (fOf xs n) := by
  intro i
  unfold fOf
  split
  · exact h i
  · omega

/-- The first k numbers of f are at least those of g. -/
def CovUpto (f g : Nat → Int) (k : Nat) : Prop := ∀ i, i < k → g i ≤ f i
def covF (f g : Nat → Int) (n : Nat) : Bool := (List.range n).all fun i => decide (g i ≤ f i)

theorem covF_yes {f g : Nat → Int} {n : Nat} (h : CovUpto f g n) : covF f g n = true := by
  simp only [covF, List.all_eq_true, List.mem_range, decide_eq_true_eq]; exact h

theorem covF_iff {f g : Nat → Int} {n : Nat} : covF f g n = true ↔ CovUpto f g n := by
  simp [covF, CovUpto]

theorem covF_no {f g : Nat → Int} {n k : Nat} (hk : k < n) (h : f k < g k) : covF f g n = false := by
  rw [Bool.eq_false_iff]
  intro hc
  have := covF_iff.mp hc k hk
  omega

theorem CovUpto.step {f g : Nat → Int} {k : Nat} (h : CovUpto f g k) (hk : g k ≤ f k) : CovUpto f g (k + 1) := by
  intro i hi
  by_cases e : i = k
  · subst e; exact hk
  · exact h i (by omega)

theorem covF_pad (xs ys : List Int) (n : Nat) (hn : n ≤ 16) : covF (fOf xs n) (fOf ys n) 16 = covF (getF xs) (getF ys) n := by
  rw [Bool.eq_iff_iff, covF_iff, covF_iff]
  constructor
  · intro h i hi
    have := h i (by omega)
    unfold fOf at this
    rw [if_pos hi, if_pos hi] at this
    exact this
  · intro h i hi
    unfold fOf
    by_cases e : i < n
    · rw [if_pos e, if_pos e]; exact h i e
    · rw [if_neg e, if_neg e]; exact Int.le_refl 0

def covB (p : Int) (xs ys : List Int) : Bool := goodB p xs && goodB p ys && covF (getF xs) (getF ys) xs.length

def CovEnd (p : Int) (xs ys : List Int) (w : World) (e : Ending) (w' : World) : Prop :=
  e = .returned (.tuple #[.bool (covB p xs ys), .bool (goodB p xs && goodB p ys)]) ∧ Below w.heap.size w w'

theorem covEnd_no {p : Int} {xs ys : List Int} {w w' : World} (h : (goodB p xs && goodB p ys) = false) (hb : Below w.heap.size w w') : CovEnd p xs ys w (.returned (.tuple #[.bool false, .bool false])) w' := by
  refine ⟨?_, hb⟩; unfold covB; rw [h]; rfl

theorem covEnd_yes {p : Int} {xs ys : List Int} {w w' : World} {c : Bool} (h : (goodB p xs && goodB p ys) = true) (hc : covF (getF xs) (getF ys) xs.length = c) (hb : Below w.heap.size w w') : CovEnd p xs ys w (.returned (.tuple #[.bool c, .bool true])) w' := by
  refine ⟨?_, hb⟩; unfold covB; rw [h, hc]; simp

theorem two_len {p : Int} {xs ys : List Int} (h : (goodB p xs && goodB p ys) = true) : xs.length = ys.length ∧ xs.length ≤ 16 := by
  rw [Bool.and_eq_true] at h
  have h1 := good_parts h.1
  have h2 := good_parts h.2
  omega

end Go.Proofs.Ytbobppcnmpiacaa
