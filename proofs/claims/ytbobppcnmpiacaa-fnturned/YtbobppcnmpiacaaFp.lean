/- What a step does by sets is what it does by lists. -/
import Derived.Test.YtbobppcnmpiacaaFm
namespace Go.Proofs.Ytbobppcnmpiacaa
open Go.RowKit

theorem sub_iff {a b : Nat} : subB a b = true ↔ ∀ i, a.testBit i = true → b.testBit i = true := by
  unfold subB
  rw [decide_eq_true_eq]
  constructor
  · intro h i hi
    have : (a &&& b).testBit i = a.testBit i := by rw [h]
    rw [Nat.testBit_and, hi] at this
    simpa using this
  · intro h
    apply Nat.eq_of_testBit_eq
    intro i
    rw [Nat.testBit_and]
    cases h1 : a.testBit i
    · rfl
    · rw [h i h1]; rfl

theorem posL_bit (f : Nat → Int) (i : Nat) : (maskL (posL f 16)).testBit i = (decide (i < 16) && decide (0 < f i)) := by
  rw [maskL_bit _ _ (by intro x hx; unfold posL at hx; simp at hx; obtain ⟨j, _, rfl⟩ := hx; omega)]
  unfold posL
  by_cases h : i < 16 ∧ 0 < f i
  · have : ((i : Int) ∈ ((List.range 16).filter fun i => decide (0 < f i)).map fun (i : Nat) => (i : Int)) := by
      simp; exact ⟨i, h, rfl⟩
    simp [this, h.1, h.2]
  · have : ¬ ((i : Int) ∈ ((List.range 16).filter fun i => decide (0 < f i)).map fun (i : Nat) => (i : Int)) := by
      simp; intro a h1 h2 e; have : a = i := by omega
      subst this; exact h ⟨h1, h2⟩
    simp only [this, decide_false]
    cases h1 : decide (i < 16)
    · rfl
    · cases h2 : decide (0 < f i)
      · rfl
      · exact absurd ⟨by simpa using h1, by simpa using h2⟩ h

section
variable {p : Int} {nm : Nat} {x0 x1 x2 ys : List Int} (hp : 1 ≤ p ∧ p ≤ 16) (hnm : (nm : Int) = p) (hly : ys.length = nm) (hy : ∀ i, 0 ≤ ys.getD i 0 ∧ ys.getD i 0 ≤ 50)
  (h0 : riseB x0 0 (p - 1) = true) (h1 : riseB x1 0 (p - 1) = true) (h2 : riseB x2 0 (p - 1) = true)
include hp hnm hy h0 in
theorem can_sub : subB (maskL x0) (maskL (posL (fOf ys nm) 16)) = canB x0 ys := by
  have n0 := fun z hz => (riseB_mem h0 z hz)
  rw [Bool.eq_iff_iff, sub_iff]
  unfold canB
  rw [List.all_eq_true]
  constructor
  · intro h x hx
    obtain ⟨hx0, hx1⟩ := n0 x hx
    have hb := h x.toNat (by rw [maskL_bit _ _ (fun z hz => (n0 z hz).1), Int.toNat_of_nonneg hx0]; simpa using hx)
    rw [posL_bit] at hb
    simp only [Bool.and_eq_true, decide_eq_true_eq] at hb
    have hf : fOf ys nm x.toNat = ys.getD x.toNat 0 := by unfold fOf; rw [if_pos (by omega)]
    rw [hf] at hb
    simp only [Bool.not_eq_true', decide_eq_false_iff_not]
    omega
  · intro h i hi
    rw [maskL_bit _ _ (fun z hz => (n0 z hz).1)] at hi
    have hm : (i : Int) ∈ x0 := by simpa using hi
    obtain ⟨hx0, hx1⟩ := n0 _ hm
    have hc := h _ hm
    rw [Int.toNat_natCast] at hc
    simp only [Bool.not_eq_true', decide_eq_false_iff_not] at hc
    rw [posL_bit]
    have hf : fOf ys nm i = ys.getD i 0 := by unfold fOf; rw [if_pos (by omega)]
    rw [hf]
    have := hy i
    simp only [Bool.and_eq_true, decide_eq_true_eq]
    omega

include hnm hly h0 h1 h2 in
theorem step_fire (i : Nat) : stepF (maskL x0) (maskL x1) (maskL x2) (fOf ys nm) i = if i < nm then (fireL x0 x1 x2 ys).getD i 0 else 0 := by
  have n0 := fun z hz => (riseB_mem h0 z hz)
  have n1 := fun z hz => (riseB_mem h1 z hz)
  have n2 := fun z hz => (riseB_mem h2 z hz)
  unfold stepF
  rw [maskL_bit _ _ (fun z hz => (n0 z hz).1), maskL_bit _ _ (fun z hz => (n1 z hz).1), maskL_bit _ _ (fun z hz => (n2 z hz).1)]
  simp only [decide_eq_true_eq]
  by_cases hi : i < nm
  · rw [if_pos hi]
    unfold fireL
    rw [updL_at _ _ (p - 1) h1 (by rw [updL_len, updL_len]; omega), updL_at _ _ (p - 1) h2 (by rw [updL_len]; omega), updL_at _ _ (p - 1) h0 (by omega)]
    have hf : fOf ys nm i = ys.getD i 0 := by unfold fOf; rw [if_pos hi]
    rw [hf]
    (repeat' split) <;> omega
  · rw [if_neg hi]
    have m0 : ¬ (i : Int) ∈ x0 := fun h => by have := n0 _ h; omega
    have m1 : ¬ (i : Int) ∈ x1 := fun h => by have := n1 _ h; omega
    have m2 : ¬ (i : Int) ∈ x2 := fun h => by have := n2 _ h; omega
    rw [if_neg m2, if_neg m0, if_neg m1]
    unfold fOf; rw [if_neg hi]; rfl

include hp hnm hly hy h0 h1 h2 in
theorem good_cap (hc : canB x0 ys = true) : goodB p (fireL x0 x1 x2 ys) = capB (maskL x0) (maskL x1) (maskL x2) (fOf ys nm) 16 := by
  have hlen : (fireL x0 x1 x2 ys).length = nm := by unfold fireL; rw [updL_len, updL_len, updL_len]; exact hly
  have key := step_fire hnm hly h0 h1 h2
  have n0 := fun z hz => (riseB_mem h0 z hz)
  have hpos : ∀ i, 0 ≤ stepF (maskL x0) (maskL x1) (maskL x2) (fOf ys nm) i := by
    intro i
    unfold stepF
    rw [maskL_bit _ _ (fun z hz => (n0 z hz).1)]
    simp only [decide_eq_true_eq]
    have hfi : 0 ≤ fOf ys nm i := by unfold fOf; split
                                     · exact (hy i).1
                                     · exact Int.le_refl _
    have : (i : Int) ∈ x0 → 1 ≤ fOf ys nm i := by
      intro hm
      unfold canB at hc
      rw [List.all_eq_true] at hc
      have h := hc _ hm
      rw [Int.toNat_natCast] at h
      simp only [Bool.not_eq_true', decide_eq_false_iff_not] at h
      obtain ⟨_, hx1⟩ := n0 _ hm
      unfold fOf; rw [if_pos (by omega)]
      have := hy i; omega
    (repeat' split) <;> first | omega | (rename_i hm _; have := this hm; omega) | (rename_i hm; have := this hm; omega) | (rename_i _ hm _; have := this hm; omega)
  rw [Bool.eq_iff_iff]
  unfold capB
  rw [List.all_eq_true]
  constructor
  · intro hg i _
    have := (goodB_parts hg).2.2 i
    rw [decide_eq_true_eq, key i]
    split <;> omega
  · intro h
    unfold goodB
    have hin : inB p 1 16 = true := by unfold inB; simp; exact hp
    rw [hin, hlen]
    simp only [hnm, decide_true, Bool.true_and]
    unfold allB
    rw [List.all_eq_true]
    intro x hx
    obtain ⟨i, hi, rfl⟩ := List.mem_iff_getElem.mp hx
    rw [hlen] at hi
    have h1 := h i (by simp; omega)
    have h2 := hpos i
    rw [decide_eq_true_eq] at h1
    rw [key i, if_pos hi, List.getD_eq_getElem?_getD, List.getElem?_eq_getElem (by omega)] at h1 h2
    simp at h1 h2
    unfold inB; simp; exact ⟨h2, h1⟩

include hp hnm hly h0 h1 h2 in
theorem list_fire : listF (partF (maskL x0) (maskL x1) (maskL x2) (fOf ys nm) 16) nm = fireL x0 x1 x2 ys := by
  have hlen : (fireL x0 x1 x2 ys).length = nm := by unfold fireL; rw [updL_len, updL_len, updL_len]; exact hly
  apply List.ext_getElem?
  intro i
  by_cases hi : i < nm
  · have := listF_at (partF (maskL x0) (maskL x1) (maskL x2) (fOf ys nm) 16) nm i hi
    rw [List.getD_eq_getElem?_getD, List.getElem?_eq_getElem (by rw [listF_len]; exact hi)] at this
    rw [List.getElem?_eq_getElem (by rw [listF_len]; exact hi), List.getElem?_eq_getElem (by omega)]
    simp only [Option.getD_some] at this
    rw [this]
    unfold partF
    rw [if_pos (by omega), step_fire hnm hly h0 h1 h2 i, if_pos hi, List.getD_eq_getElem?_getD, List.getElem?_eq_getElem (by omega)]
    rfl
  · rw [List.getElem?_eq_none (by rw [listF_len]; omega), List.getElem?_eq_none (by omega)]
end
end Go.Proofs.Ytbobppcnmpiacaa
