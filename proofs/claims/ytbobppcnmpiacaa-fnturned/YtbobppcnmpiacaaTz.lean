/- A net that is turned twice is as before, and what fired forth fires back: the mathematics. -/
import Derived.Test.YtbobppcnmpiacaaTu
import Derived.Test.YtbobppcnmpiacaaMo
import Derived.Test.YtbobppcnmpiacaaTn
namespace Go.Proofs.Ytbobppcnmpiacaa
open Go.RowKit

theorem turnL_at (n : Nat) (L : List (List Int)) (j : Nat) : (turnL n L).getD j [] = turnF L n j := congrFun (turnL_get n L) j

theorem resB_at {n : Nat} {L : List (List Int)} (h : resB n L = false) {i : Nat} (hi : i < n) : L.getD (3 * i + 2) [] = [] := by
  unfold resB at h
  rw [List.any_eq_false] at h
  have := h i (by simp; omega)
  simpa using this

theorem turn_parts {p : Int} {n : Nat} {L : List (List Int)} (h : turnOk p n L = true) : netOk p n L = true ∧ resB n L = false ∧ netOk p n (turnL n L) = true := by
  unfold turnOk at h
  simp only [Bool.and_eq_true, Bool.not_eq_true'] at h
  exact ⟨h.1.1, h.1.2, h.2⟩

theorem turn_turn {p : Int} {n : Nat} {L : List (List Int)} (h : turnOk p n L = true) (hl : L.length = 3 * n) : turnL n (turnL n L) = L := by
  obtain ⟨_, hr, _⟩ := turn_parts h
  apply List.ext_getElem (by rw [turnL_len]; omega)
  intro j h1 h2
  have hj : j < 3 * n := by rw [turnL_len] at h1; exact h1
  have e1 : (turnL n (turnL n L))[j] = (turnL n (turnL n L)).getD j [] := by simp [h1]
  have e2 : L[j] = L.getD j [] := by simp [h2]
  rw [e1, e2, turnL_at]
  unfold turnF
  rw [if_pos hj]
  by_cases j0 : j % 3 = 0
  · rw [if_pos j0, turnL_at]
    unfold turnF
    rw [if_pos (by omega), if_neg (by omega), if_pos (by omega), show j + 1 - 1 = j by omega]
  · rw [if_neg j0]
    by_cases j1 : j % 3 = 1
    · rw [if_pos j1, turnL_at]
      unfold turnF
      rw [if_pos (by omega), if_pos (by omega), show j - 1 + 1 = j by omega]
    · rw [if_neg j1]
      have := resB_at hr (show j / 3 < n by omega)
      rw [show 3 * (j / 3) + 2 = j by omega] at this
      exact this.symm

theorem turn_back {p : Int} {n : Nat} {L : List (List Int)} (h : turnOk p n L = true) (hl : L.length = 3 * n) : turnOk p n (turnL n L) = true := by
  obtain ⟨h1, hr, h3⟩ := turn_parts h
  have hres : resB n (turnL n L) = false := by
    unfold resB
    rw [List.any_eq_false]
    intro i hi
    have hi' : i < n := by simpa using hi
    rw [turnL_at]
    unfold turnF
    rw [if_pos (by omega), if_neg (by omega), if_neg (by omega)]
    decide
  unfold turnOk
  rw [h3, hres, turn_turn h hl, h1]
  rfl

structure BackF (p : Int) (n : Nat) (L : List (List Int)) (ys : List Int) (t : Int) : Prop where
  ok : fireOk p n (turnL n L) (fireR p n L ys t) t = true
  eq : fireR p n (turnL n L) (fireR p n L ys t) t = ys

theorem nil_upd (zs : List Int) : updL (fun _ => 0) [] zs = zs := rfl

theorem back_facts {p : Int} {n : Nat} {L : List (List Int)} {ys : List Int} {t : Int} (h : turnOk p n L = true) (hf : fireOk p n L ys t = true) : BackF p n L ys t := by
  obtain ⟨hn1, hr, hn3⟩ := turn_parts h
  have hres := res_none hf hr
  have e3 : fireR p n L ys t = firedL L ys t := by unfold fireR; rw [hf]; rfl
  have hf' := hf
  unfold fireOk at hf'
  simp only [Bool.and_eq_true] at hf'
  obtain ⟨⟨⟨⟨f1, f2⟩, f3⟩, f4⟩, f5⟩ := hf'
  have ht : t.toNat < n := by unfold inB at f3; simp only [Bool.and_eq_true, decide_eq_true_eq] at f3; omega
  have hri0 : riseB (inOf L t) 0 (p - 1) = true := (tri_riseT (triOkT hn1 ht)).1
  have hri1 : riseB (outOf L t) 0 (p - 1) = true := (tri_riseT (triOkT hn1 ht)).2.1
  have hlen : (ys.length : Int) = p := by
    unfold goodB at f2
    simp only [Bool.and_eq_true, decide_eq_true_eq] at f2
    exact f2.1.2
  have hy := good_parts f2
  have ei : inOf (turnL n L) t = outOf L t := by
    unfold inOf outOf
    rw [turnL_at]; unfold turnF
    rw [if_pos (by omega), if_pos (by omega)]
  have eo : outOf (turnL n L) t = inOf L t := by
    unfold inOf outOf
    rw [turnL_at]; unfold turnF
    rw [if_pos (by omega), if_neg (by omega), if_pos (by omega), show 3 * t.toNat + 1 - 1 = 3 * t.toNat by omega]
  have er : resOf (turnL n L) t = [] := by
    unfold resOf
    rw [turnL_at]; unfold turnF
    rw [if_pos (by omega), if_neg (by omega), if_neg (by omega)]
  have hx : firedL L ys t = updL (· + 1) (outOf L t) (updL (· - 1) (inOf L t) ys) := by unfold firedL fireL; rw [hres, nil_upd]
  have hl1 : (updL (· - 1) (inOf L t) ys).length = ys.length := updL_len _ _ _
  have a1 : ∀ i : Nat, (updL (· - 1) (inOf L t) ys).getD i 0 = if (i : Int) ∈ inOf L t then ys.getD i 0 - 1 else ys.getD i 0 := fun i => updL_at _ ys (p - 1) hri0 (by omega) i
  have a2 : ∀ i : Nat, (firedL L ys t).getD i 0 = if (i : Int) ∈ outOf L t then (updL (· - 1) (inOf L t) ys).getD i 0 + 1 else (updL (· - 1) (inOf L t) ys).getD i 0 := fun i => by
    rw [hx]; exact updL_at _ _ (p - 1) hri1 (by rw [hl1]; omega) i
  have hlx : (firedL L ys t).length = ys.length := by rw [hx, updL_len, updL_len]
  have hback : firedL (turnL n L) (firedL L ys t) t = ys := by
    unfold firedL at *
    unfold fireL
    rw [ei, eo, er, nil_upd]
    change updL (· + 1) (inOf L t) (updL (· - 1) (outOf L t) (fireL (inOf L t) (outOf L t) (resOf L t) ys)) = ys
    have hlz : (updL (· - 1) (outOf L t) (fireL (inOf L t) (outOf L t) (resOf L t) ys)).length = ys.length := by rw [updL_len]; exact hlx
    apply List.ext_getElem (by rw [updL_len]; exact hlz)
    intro i h1 h2
    have b1 := updL_at (· - 1) (fireL (inOf L t) (outOf L t) (resOf L t) ys) (p - 1) hri1 (by rw [hlx]; omega) i
    have b2 := updL_at (· + 1) (updL (· - 1) (outOf L t) (fireL (inOf L t) (outOf L t) (resOf L t) ys)) (p - 1) hri0 (by rw [hlz]; omega) i
    have c1 := a1 i
    have c2 := a2 i
    have g1 : ∀ (l : List Int) (hh : i < l.length), l[i] = l.getD i 0 := fun l hh => by simp [hh]
    rw [g1 _ h1, g1 _ h2]
    change (updL (· + 1) (inOf L t) (updL (· - 1) (outOf L t) (fireL (inOf L t) (outOf L t) (resOf L t) ys))).getD i 0 = _
    rw [b2, b1, c2, c1]
    by_cases m1 : (i : Int) ∈ inOf L t
    · by_cases m2 : (i : Int) ∈ outOf L t
      · simp only [if_pos m1, if_pos m2]; omega
      · simp only [if_pos m1, if_neg m2]; omega
    · by_cases m2 : (i : Int) ∈ outOf L t
      · simp only [if_neg m1, if_pos m2]; omega
      · simp only [if_neg m1, if_neg m2]
  have hcan : canB (inOf (turnL n L) t) (firedL L ys t) = true := by
    rw [ei]
    unfold canB at *
    rw [List.all_eq_true] at *
    intro q hq
    have hq0 := riseB_mem hri1 q hq
    have c1 := a1 q.toNat
    have c2 := a2 q.toNat
    rw [Int.toNat_of_nonneg hq0.1] at c1 c2
    rw [if_pos hq] at c2
    have hy0 : 0 ≤ ys.getD q.toNat 0 := (hy.1 q.toNat).1
    simp only [Bool.not_eq_true', decide_eq_false_iff_not]
    by_cases m1 : q ∈ inOf L t
    · have h4 := f4 q m1
      simp only [Bool.not_eq_true', decide_eq_false_iff_not] at h4
      rw [if_pos m1] at c1
      omega
    · rw [if_neg m1] at c1
      omega
  have hok : fireOk p n (turnL n L) (firedL L ys t) t = true := by
    unfold fireOk
    rw [hn3, f5, f3, hcan, hback, f2]
    rfl
  refine ⟨by rw [e3]; exact hok, ?_⟩
  rw [e3]
  unfold fireR
  rw [hok, if_pos rfl]
  exact hback
end Go.Proofs.Ytbobppcnmpiacaa
