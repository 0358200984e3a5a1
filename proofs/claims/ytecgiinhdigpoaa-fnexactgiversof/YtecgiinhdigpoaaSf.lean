/- l2Fire and the specification's Fire, for every net and mark in memory. -/
import Derived.Test.YtecgiinhdigpoaaOw
namespace Go.Proofs.Ytecgiinhdigpoaa
open Go.RowKit

/-- The numbers at the places xs are changed by g, one behind the other. -/
def updL (g : Int → Int) (xs ys : List Int) : List Int := xs.foldl (fun l p => l.set p.toNat (g (l.getD p.toNat 0))) ys

theorem updL_snoc (g : Int → Int) (xs ys : List Int) (x : Int) : updL g (xs ++ [x]) ys = (updL g xs ys).set x.toNat (g ((updL g xs ys).getD x.toNat 0)) := by simp [updL, List.foldl_append]

theorem updL_take (g : Int → Int) (xs ys : List Int) (k : Nat) (x : Int) (h : xs[k]? = some x) : updL g (xs.take (k + 1)) ys = (updL g (xs.take k) ys).set x.toNat (g ((updL g (xs.take k) ys).getD x.toNat 0)) := by
  rw [List.take_add_one, h]; exact updL_snoc _ _ _ _

theorem updL_len (g : Int → Int) (xs ys : List Int) : (updL g xs ys).length = ys.length := by
  induction xs using snoc_ind with
  | h0 => rfl
  | h1 xs x ih => rw [updL_snoc, List.length_set, ih]

theorem riseB_snoc {xs : List Int} {x lo hi : Int} (h : riseB (xs ++ [x]) lo hi = true) : riseB xs lo hi = true ∧ x ∉ xs := by
  induction xs generalizing lo with
  | nil => exact ⟨rfl, by simp⟩
  | cons y r ih =>
    simp only [List.cons_append, riseB, Bool.and_eq_true, decide_eq_true_eq] at h ⊢
    obtain ⟨h1, h2⟩ := h
    have := ih h2
    refine ⟨⟨h1, this.1⟩, ?_⟩
    intro hm
    rcases List.mem_cons.mp hm with e | hm
    · have := riseB_mem h2 x (by simp); omega
    · exact this.2 hm

theorem updL_at (g : Int → Int) {xs : List Int} (ys : List Int) (hi : Int) (h : riseB xs 0 hi = true) (hl : hi < ys.length) (i : Nat) : (updL g xs ys).getD i 0 = if (i : Int) ∈ xs then g (ys.getD i 0) else ys.getD i 0 := by
  induction xs using snoc_ind with
  | h0 => simp [updL]
  | h1 xs x ih =>
    have hs := riseB_snoc h
    have hx := riseB_mem h x (by simp)
    have ih' := ih hs.1
    rw [updL_snoc, List.getD_eq_getElem?_getD, List.getElem?_set, updL_len]
    by_cases e : x.toNat = i
    · subst e
      rw [if_pos rfl, if_pos (by omega), ih', Int.toNat_of_nonneg hx.1, if_neg hs.2, if_pos (by simp)]
      rfl
    · rw [if_neg e, ← List.getD_eq_getElem?_getD, ih']
      have hne : (i : Int) ≠ x := by omega
      by_cases hm : (i : Int) ∈ xs
      · rw [if_pos hm, if_pos (by simp [hm])]
      · rw [if_neg hm, if_neg (by simp [hm, hne])]

theorem bound3 (g : Int → Int) {xs : List Int} (ys : List Int) (hi : Int) (h : riseB xs 0 hi = true) (hl : hi < ys.length) (i : Nat) (hb : -60 ≤ ys.getD i 0 ∧ ys.getD i 0 ≤ 60) (hg : -60 ≤ g (ys.getD i 0) ∧ g (ys.getD i 0) ≤ 60) : -60 ≤ (updL g xs ys).getD i 0 ∧ (updL g xs ys).getD i 0 ≤ 60 := by
  rw [updL_at g ys hi h hl i]; split
  · exact hg
  · exact hb

def fireL (x0 x1 x2 ys : List Int) : List Int := updL (· + 1) x1 (updL (fun _ => 0) x2 (updL (· - 1) x0 ys))

end Go.Proofs.Ytecgiinhdigpoaa
