/- l2Marked and the specification's Fire, for every net, mark and number in memory. -/
import Derived.Test.YtecgiinhdigpoaaSf
import Derived.Test.YtecgiinhdigpoaaGood
namespace Go.Proofs.Ytecgiinhdigpoaa
open Go.RowKit

theorem goodB_parts {p : Int} {ys : List Int} (h : goodB p ys = true) : (1 ≤ p ∧ p ≤ 16) ∧ (ys.length : Int) = p ∧ ∀ i, 0 ≤ ys.getD i 0 ∧ ys.getD i 0 ≤ 50 := by
  unfold goodB at h
  simp only [Bool.and_eq_true, decide_eq_true_eq] at h
  obtain ⟨⟨h1, h2⟩, h3⟩ := h
  refine ⟨by simpa [inB] using h1, h2, fun i => ?_⟩
  by_cases hi : i < ys.length
  · unfold allB at h3
    rw [List.all_eq_true] at h3
    have := h3 (ys.getD i 0) (by rw [List.getD_eq_getElem?_getD, List.getElem?_eq_getElem hi]; simp)
    simpa [inB] using this
  · rw [List.getD_eq_getElem?_getD, List.getElem?_eq_none (by omega)]; simp

/-- The lists of a transition, by its number. -/
def inOf (L : List (List Int)) (t : Int) : List Int := L.getD (3 * t.toNat) []
def outOf (L : List (List Int)) (t : Int) : List Int := L.getD (3 * t.toNat + 1) []
def resOf (L : List (List Int)) (t : Int) : List Int := L.getD (3 * t.toNat + 2) []

def firedL (L : List (List Int)) (ys : List Int) (t : Int) : List Int := fireL (inOf L t) (outOf L t) (resOf L t) ys

def fireOk (p : Int) (n : Nat) (L : List (List Int)) (ys : List Int) (t : Int) : Bool :=
  netOk p n L && goodB p ys && inB t 0 ((n : Int) - 1) && canB (inOf L t) ys && goodB p (firedL L ys t)

def fireR (p : Int) (n : Nat) (L : List (List Int)) (ys : List Int) (t : Int) : List Int := if fireOk p n L ys t then firedL L ys t else []

/-- A list and a bool; nothing that was there is written. -/
def REnd (g : Bool) (r : List Int) (w : World) (e : Ending) (w' : World) : Prop := ∃ a n c, e = .returned (.tuple #[.slice a n c, .bool g]) ∧ Row w' a n r ∧ Below w.heap.size w w'

theorem rend_no {p : Int} {n : Nat} {L : List (List Int)} {ys : List Int} {t : Int} {w w' : World} (h : fireOk p n L ys t = false) (hb : Below w.heap.size w w') : REnd (fireOk p n L ys t) (fireR p n L ys t) w (.returned (.tuple #[.slice none 0 0, .bool false])) w' := by
  refine ⟨none, 0, 0, by rw [h], ⟨?_, .inl rfl⟩, hb⟩
  unfold fireR; rw [h]; rfl

theorem rend_yes {p : Int} {n : Nat} {L : List (List Int)} {ys : List Int} {t : Int} {w w' : World} {a : Option Addr} {m c : Nat} (h : fireOk p n L ys t = true) (hr : Row w' a m (firedL L ys t)) (hb : Below w.heap.size w w') : REnd (fireOk p n L ys t) (fireR p n L ys t) w (.returned (.tuple #[.slice a m c, .bool true])) w' := by
  refine ⟨a, m, c, by rw [h], ?_, hb⟩
  unfold fireR; rw [h]; exact hr

theorem fireOk_no1 {p : Int} {n : Nat} {L : List (List Int)} {ys : List Int} {t : Int} (h : (netOk p n L && goodB p ys) = false) : fireOk p n L ys t = false := by unfold fireOk; rw [h]; rfl
theorem fireOk_no2 {p : Int} {n : Nat} {L : List (List Int)} {ys : List Int} {t : Int} (h : inB t 0 ((n : Int) - 1) = false) : fireOk p n L ys t = false := by unfold fireOk; rw [h]; simp
theorem fireOk_no3 {p : Int} {n : Nat} {L : List (List Int)} {ys : List Int} {t : Int} (h : canB (inOf L t) ys = false) : fireOk p n L ys t = false := by unfold fireOk; rw [h]; simp
theorem fireOk_no4 {p : Int} {n : Nat} {L : List (List Int)} {ys : List Int} {t : Int} (h : goodB p (firedL L ys t) = false) : fireOk p n L ys t = false := by unfold fireOk; rw [h]; simp
theorem fireOk_yes {p : Int} {n : Nat} {L : List (List Int)} {ys : List Int} {t : Int} (h : (netOk p n L && goodB p ys) = true) (h2 : inB t 0 ((n : Int) - 1) = true) (h3 : canB (inOf L t) ys = true) (h4 : goodB p (firedL L ys t) = true) : fireOk p n L ys t = true := by
  unfold fireOk; rw [h, h2, h3, h4]; rfl

theorem triOkOf {p : Int} {n i : Nat} {L : List (List Int)} (h : netOk p n L = true) (hi : i < n) : triOk p L i = true := by
  unfold netOk at h
  rw [Bool.and_eq_true] at h
  exact List.all_eq_true.mp h.2 i (by simpa using hi)

theorem tri_rise {p : Int} {L : List (List Int)} {i : Nat} (h : triOk p L i = true) : riseB (L.getD (3 * i) []) 0 (p - 1) = true ∧ riseB (L.getD (3 * i + 1) []) 0 (p - 1) = true ∧ riseB (L.getD (3 * i + 2) []) 0 (p - 1) = true := by
  unfold triOk at h
  simp only [Bool.and_eq_true] at h
  exact ⟨h.1.1.2, h.1.2, h.2⟩

theorem netOkN {p : Int} {n : Nat} {L : List (List Int)} (h : netOk p n L = true) : n ≤ 24 := by
  unfold netOk at h; simp at h; exact h.1.2

end Go.Proofs.Ytecgiinhdigpoaa
