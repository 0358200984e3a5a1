/- With more tokens a net without resets fires to as many more. -/
import Derived.Test.YtbobppcnmpiacaaAdd1
import Derived.Test.YtbobppcnmpiacaaFk
import Derived.Test.YtbobppcnmpiacaaHi
namespace Go.Proofs.Ytbobppcnmpiacaa
open Go.RowKit

theorem sumL_get (xs ys : List Int) (i : Nat) : (sumL xs ys)[i]? = if i < xs.length then some (getF xs i + getF ys i) else none := by
  unfold sumL
  by_cases h : i < xs.length
  · simp [h]
  · rw [if_neg h]; simp; omega

theorem sum_set (ys d : List Int) (k : Nat) (c : Int) : (sumL ys d).set k ((sumL ys d).getD k 0 + c) = sumL (ys.set k (ys.getD k 0 + c)) d := by
  apply List.ext_getElem?
  intro i
  rw [List.getElem?_set, sumL_get, sumL_get, sumL_len, List.length_set]
  by_cases hk : k = i
  · subst hk
    rw [if_pos rfl]
    by_cases hl : k < ys.length
    · rw [if_pos hl, if_pos hl]
      have e1 : (sumL ys d).getD k 0 = getF ys k + getF d k := by rw [List.getD_eq_getElem?_getD, sumL_get, if_pos hl]; rfl
      have e2 : getF (ys.set k (ys.getD k 0 + c)) k = ys.getD k 0 + c := by unfold getF; rw [List.getD_eq_getElem?_getD, List.getElem?_set_self hl]; rfl
      rw [e1, e2]
      unfold getF
      congr 1; omega
    · rw [if_neg hl, if_neg hl]
  · rw [if_neg hk]
    have e2 : getF (ys.set k (ys.getD k 0 + c)) i = getF ys i := by unfold getF; rw [List.getD_eq_getElem?_getD, List.getElem?_set_ne hk, ← List.getD_eq_getElem?_getD]
    rw [e2]

theorem sum_upd (c : Int) (xs ys d : List Int) : updL (· + c) xs (sumL ys d) = sumL (updL (· + c) xs ys) d := by
  unfold updL
  induction xs generalizing ys with
  | nil => rfl
  | cons x xs ih => simp only [List.foldl_cons]; rw [sum_set, ih]

theorem upd_sub (xs ys : List Int) : updL (· - 1) xs ys = updL (· + (-1)) xs ys := rfl

theorem fired_sum (L : List (List Int)) (ys d : List Int) (t : Int) (hr : resOf L t = []) : firedL L (sumL ys d) t = sumL (firedL L ys t) d := by
  unfold firedL fireL
  rw [hr]
  have e : ∀ zs : List Int, updL (fun _ => 0) [] zs = zs := fun _ => rfl
  rw [e, e, upd_sub, upd_sub, sum_upd, sum_upd]

theorem can_sum {x0 ys d : List Int} (h : canB x0 ys = true) (hy : ∀ i, 0 ≤ getF ys i) (hd : ∀ i, 0 ≤ getF d i) : canB x0 (sumL ys d) = true := by
  unfold canB at *
  rw [List.all_eq_true] at *
  intro p hp
  have h1 := h p hp
  simp only [Bool.not_eq_true', decide_eq_false_iff_not] at *
  have hlt : p.toNat < ys.length := by
    by_cases hl : p.toNat < ys.length
    · exact hl
    · exact absurd (by rw [List.getD_eq_getElem?_getD, List.getElem?_eq_none (by omega)]; rfl) h1
  rw [List.getD_eq_getElem?_getD, sumL_get, if_pos hlt]
  have a := hy p.toNat
  have b := hd p.toNat
  unfold getF at *
  simp only [Option.getD_some]
  omega

theorem res_none {p : Int} {n : Nat} {L : List (List Int)} {ys : List Int} {t : Int} (hf : fireOk p n L ys t = true) (hr : resB n L = false) : resOf L t = [] := by
  unfold fireOk at hf
  simp only [Bool.and_eq_true] at hf
  have ht := hf.1.1.2
  unfold inB at ht
  simp only [Bool.and_eq_true, decide_eq_true_eq] at ht
  unfold resB at hr
  rw [List.any_eq_false] at hr
  have := hr t.toNat (by simp; omega)
  unfold resOf
  simpa using this

structure MonoF (p : Int) (n : Nat) (L : List (List Int)) (ys d : List Int) (t : Int) : Prop where
  ok : fireOk p n L (addR p ys d) t = true
  eq : fireR p n L (addR p ys d) t = addR p (fireR p n L ys t) d

theorem mono_facts {p : Int} {n : Nat} {L : List (List Int)} {ys d : List Int} {t : Int} (hf : fireOk p n L ys t = true) (hr : resB n L = false) (h1 : addOk p ys d = true) (h2 : addOk p (fireR p n L ys t) d = true) : MonoF p n L ys d t := by
  have hres := res_none hf hr
  have e1 : addR p ys d = sumL ys d := by unfold addR; rw [h1]; rfl
  have e2 : addR p (fireR p n L ys t) d = sumL (fireR p n L ys t) d := by unfold addR; rw [h2]; rfl
  have e3 : fireR p n L ys t = firedL L ys t := by unfold fireR; rw [hf]; rfl
  rw [e3] at h2
  have hf' := hf
  unfold fireOk at hf'
  simp only [Bool.and_eq_true] at hf'
  obtain ⟨⟨⟨⟨f1, f2⟩, f3⟩, f4⟩, f5⟩ := hf'
  unfold addOk at h1 h2
  simp only [Bool.and_eq_true] at h1 h2
  have hd := good_parts h1.1.2
  have hy := good_parts f2
  have hok : fireOk p n L (sumL ys d) t = true := by
    unfold fireOk
    rw [f1, h1.2, f3, can_sum f4 (fun i => (hy.1 i).1) (fun i => (hd.1 i).1), fired_sum L ys d t hres, h2.2]
    rfl
  refine ⟨by rw [e1]; exact hok, ?_⟩
  rw [e1, e2, e3]
  unfold fireR
  rw [hok, if_pos rfl]
  exact fired_sum L ys d t hres
end Go.Proofs.Ytbobppcnmpiacaa
