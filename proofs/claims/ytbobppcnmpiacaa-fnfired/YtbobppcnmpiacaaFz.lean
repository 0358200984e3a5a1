/- What FnFired speaks of: only what is enabled fires, and places that a transition does not touch stay; the laws' own has. -/
import Derived.Test.YtbobppcnmpiacaaFr
import Derived.Test.YtbobppcnmpiacaaEp
namespace Go.Proofs.Ytbobppcnmpiacaa
open Go.RowKit
set_option maxRecDepth 10000

set_option maxHeartbeats 400000 in
theorem hasL_any (a : Option Addr) (n ca : Nat) (xs : List Int) (y : Int) (w : World) (ha : Row w a n xs) (hn : n ≤ 1048576) :
    Calls Try.prog 15 #[.slice a n ca, .int .i64 y] w fun e w' => e = .returned (.bool (hasB xs y)) ∧ w' = w := by
  go_enter Try.func15, Try.ntmps15
  go_wp2_with fail
  go_loop [9] (fun i => ∃ k : Nat, k ≤ n ∧ i = .int .i64 k ∧ Hid (hasB (xs.take k) y = false)) (fun i => n - (intOf i).toNat)
  case atStart => exact ⟨0, Nat.zero_le _, rfl, rfl⟩
  case round =>
    obtain ⟨k, hk, rfl, hu⟩ := hrel
    by_cases hlt : k < n
    · obtain ⟨b1, o1, x, rfl, hl1, hc1, H1⟩ := ha.at hlt
      clear ha
      by_cases he : x = y
      · subst he
        have HY := hide (hasB_yes H1.out)
        have hd : (x == x) = true := by simp
        clear H1 hu
        go_wp2_with fail
        go_ret
        exact ⟨ret_bool HY.out.symm, rfl⟩
      · have HU := hide (hasB_take hu.out H1.out he)
        have hd : (x == y) = false := by simp [he]
        clear H1 hu he
        go_wp2_with fail
        go_round
        case rel => exact ⟨k + 1, by omega, by go_num, HU⟩
        case measure => simp [intOf]; omega
    · have hk' : k = n := by omega
      subst hk'
      have HA : Hid (hasB xs y = false) := by have := hu.out; rwa [List.take_of_length_le (by have := ha.1; omega)] at this
      go_wp2_with fail
      go_ret
      exact ⟨ret_bool HA.out.symm, rfl⟩

theorem Ran.more {p : Int} {n : Nat} {L : List (List Int)} {ys ts us : List Int} {k : Nat} (h : Ran p n L ys ts k us) (hk : k < runN p n L ys ts) : ∃ t, ts[k]? = some t ∧ fireOk p n L us t = true := by
  by_cases hl : k < ts.length
  · refine ⟨ts[k], List.getElem?_eq_getElem hl, ?_⟩
    cases hf : fireOk p n L us ts[k]
    · have := (h.stop (List.getElem?_eq_getElem hl) hf).2
      omega
    · rfl
  · have e : ts.drop k = [] := List.drop_eq_nil_of_le (by omega)
    have := h.m
    rw [e] at this
    simp only [runN] at this
    omega

theorem Ran.end' {p : Int} {n : Nat} {L : List (List Int)} {ys ts us : List Int} {k : Nat} (h : Ran p n L ys ts k us) (hk : k = runN p n L ys ts) : runL p n L ys ts = us := by
  by_cases hl : k < ts.length
  · cases hf : fireOk p n L us ts[k]
    · exact (h.stop (List.getElem?_eq_getElem hl) hf).1
    · have := (h.step (List.getElem?_eq_getElem hl) hf).m
      omega
  · have e : ts.drop k = [] := List.drop_eq_nil_of_le (by omega)
    rw [h.l, e]; rfl

theorem runN_le (p : Int) (n : Nat) (L : List (List Int)) (ys ts : List Int) : runN p n L ys ts ≤ ts.length := by
  induction ts generalizing ys with
  | nil => simp [runN]
  | cons t ts ih =>
    simp only [runN]
    split
    · have := ih (firedL L ys t); simp; omega
    · omega

theorem fire_in {p : Int} {n : Nat} {L : List (List Int)} {us : List Int} {t : Int} (h : fireOk p n L us t = true) : 0 ≤ t ∧ t < (n : Int) := by
  unfold fireOk at h
  simp only [Bool.and_eq_true] at h
  have ht := h.1.1.2
  unfold inB at ht
  simp only [Bool.and_eq_true, decide_eq_true_eq] at ht
  omega

theorem en_ok {p : Int} {n : Nat} {L : List (List Int)} {us : List Int} {t : Int} (h : fireOk p n L us t = true) : enOk p n L us = true := by
  unfold fireOk at h
  simp only [Bool.and_eq_true] at h
  unfold enOk
  rw [h.1.1.1.1, h.1.1.1.2]; rfl

theorem en_has {p : Int} {n : Nat} {L : List (List Int)} {us : List Int} {t : Int} (h : fireOk p n L us t = true) : hasB (enR p n L us) t = true := by
  have ht := fire_in h
  have ho := en_ok h
  unfold fireOk at h
  simp only [Bool.and_eq_true] at h
  have hc := h.1.2
  unfold enR
  rw [ho, if_pos rfl]
  unfold hasB numsL
  simp only [List.contains_eq_any_beq, List.any_eq_true, List.mem_map, List.mem_filter, List.mem_range]
  exact ⟨t, ⟨t.toNat, ⟨by omega, hc⟩, by omega⟩, by simp⟩

theorem upd_other (g : Int → Int) (xs ys : List Int) (i : Nat) (h0 : ∀ x ∈ xs, 0 ≤ x) (h : hasB xs (i : Int) = false) : (updL g xs ys)[i]? = ys[i]? := by
  unfold updL
  induction xs generalizing ys with
  | nil => rfl
  | cons x xs ih =>
    simp only [List.foldl_cons]
    have hx := h0 x (by simp)
    unfold hasB at h ih
    simp only [List.contains_cons, Bool.or_eq_false_iff, beq_eq_false_iff_ne] at h
    rw [ih _ (fun y hy => h0 y (by simp [hy])) h.2, List.getElem?_set_ne (by omega)]

theorem fired_stays {p : Int} {n : Nat} {L : List (List Int)} {us : List Int} {t : Int} {i : Nat} (h : fireOk p n L us t = true) (h0 : hasB (inOf L t) (i : Int) = false) (h1 : hasB (outOf L t) (i : Int) = false) (h2 : hasB (resOf L t) (i : Int) = false) : (firedL L us t)[i]? = us[i]? := by
  have ht := fire_in h
  unfold fireOk at h
  simp only [Bool.and_eq_true] at h
  have htri := tri_rise (triOkOf (i := t.toNat) h.1.1.1.1 (by omega))
  unfold firedL fireL
  exact (upd_other _ (outOf L t) _ i (fun x hx => (riseB_mem htri.2.1 x hx).1) h1).trans ((upd_other _ (resOf L t) _ i (fun x hx => (riseB_mem htri.2.2 x hx).1) h2).trans (upd_other _ (inOf L t) _ i (fun x hx => (riseB_mem htri.1 x hx).1) h0))
end Go.Proofs.Ytbobppcnmpiacaa
