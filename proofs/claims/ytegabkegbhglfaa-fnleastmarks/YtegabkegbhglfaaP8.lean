/- Contracts that the proof stands on, one behind the other. -/
import Derived.Test.YtegabkegbhglfaaP7
/- sameLists; what the least ones are like; DrawCompareMarks. -/
namespace Go.Proofs.Ytegabkegbhglfaa
open Go.RowKit
set_option maxRecDepth 10000

set_option maxHeartbeats 400000 in
theorem sameSS_any (a d : Option Addr) (n c e : Nat) (L : List (List Int)) (w : World) (h : Lists w a n L) (g : Lists w d n L) (hs : sizeN n L ≤ 1048576) :
    Calls Try.prog 12 #[.slice a n c, .slice d n e] w fun e w' => e = .returned (.bool true) ∧ Below w.heap.size w w' := by
  have hn : n ≤ 1048576 := by unfold sizeN at hs; omega
  have hne : ((n : Int) != (n : Int)) = false := by simp
  have HL := hide h
  have HG := hide g
  clear h g
  go_enter Try.func12, Try.ntmps12
  go_wp2_with fail
  go_loopw [13] (fun i wr => ∃ k : Nat, k ≤ n ∧ i = .int .i64 k ∧ Hid (Below w.heap.size w wr)) (fun i _ => n - (intOf i).toNat)
  case atStart => exact ⟨0, Nat.zero_le _, rfl, Below.refl _ _⟩
  case round =>
    obtain ⟨k, hk, rfl, hbw⟩ := hrel
    clear hne
    by_cases hlt : k < n
    · obtain ⟨b, off, a0, n0, c0, rfl, hb, hc0, m0, r0⟩ := (HL.out.below hbw.out).at hlt
      obtain ⟨b', off', a0', n0', c0', rfl, hb', hc0', m0', r0'⟩ := (HG.out.below hbw.out).at hlt
      have hl0 := len_le L k
      have hs' : n + sizeL L ≤ 1048576 := hs
      have q0 : n0 ≤ 1048576 := by have := r0.1; omega
      have HT := hide (fun q => sameI_any a0 a0' n0 n0' c0 c0' _ _ (wr.drewN q) (r0.drewN q) (r0'.drewN q) q0)
      have hsm := sameB_self (L.getD k [])
      generalize L.getD k [] = x0 at *
      clear r0 hl0 q0 hs' r0' m0 m0'
      go_wp2_with fail
      go_region_with (go_at_call 22; refine (HT.out 1).mono ?_; rintro e w1 ⟨rfl, q, rfl⟩)
      all_goals
        have HB := hide (hbw.out.trans ((below_drewN' wr (1 + q)).mono hbw.out.size))
        clear HT
        go_wp2_with fail
        go_roundw
        case rel => exact ⟨k + 1, by omega, by go_num, HB⟩
        case measure => simp [intOf]; omega
    · have hk' : k = n := by omega
      subst hk'
      go_wp2_with fail
      go_ret
      exact ⟨rfl, hbw.out⟩

set_option maxHeartbeats 400000 in
theorem drawCmp_any (ca : Option Addr) (cn cc : Nat) (bs : List Int) (w : World) (hr : RowB w ca cn bs) (hn : cn ≤ 1048576) :
    Calls Try.prog 15 #[.slice ca cn cc] w fun e w' => DrawEnd2 w e w' := by
  have HC := hide (draw2_any ca cn cc bs w hr hn)
  clear hr
  go_enter Try.func15, Try.ntmps15
  go_wp2_with fail
  refine HC.out.mono ?_
  rintro e v2 ⟨p, a, n, c, xs, b, m, d, ys, rfl, h1, h2, h3, h4, h5⟩
  have HE := hide (⟨p, a, n, c, xs, b, m, d, ys, rfl, h1, h2, h3, h4, h5⟩ : DrawEnd2 w _ v2)
  clear h1 h2 h3 h4 h5
  go_wp2
  go_ret3
  exact HE.out

theorem min_cov {n : Nat} {L R : List (List Int)} (hl : ∀ x ∈ L, x.length = n) (h : MinOf n L R) : ∀ x ∈ L, ∃ u ∈ R, covL n x u = true := by
  have hm : ∀ x, x ∈ L.mergeSort (fun x y => decide (cmpL n x y ≤ 0)) ↔ x ∈ L := fun x => (List.mergeSort_perm L _).mem_iff
  have hs : (L.mergeSort (fun x y => decide (cmpL n x y ≤ 0))).Pairwise fun x y => ¬ cmpL n y x < 0 := by
    have := List.pairwise_mergeSort (le := fun x y => decide (cmpL n x y ≤ 0)) (fun a b c h1 h2 => by
      simp only [decide_eq_true_eq] at *; exact cmpL_le h1 h2) (fun a b => by
      have := cmpL_anti n a b
      simp only [Bool.or_eq_true, decide_eq_true_eq]
      omega) L
    refine this.imp fun {x y} h => ?_
    simp only [decide_eq_true_eq] at h
    rw [cmpL_anti n x y]
    omega
  have hl' := fun x hx => hl x ((hm x).mp hx)
  have e : R = keepL n (L.mergeSort (fun x y => decide (cmpL n x y ≤ 0))) := h.unique ((keep_min hl' hs).perm hm)
  have ki := keep_inv hl' hs _ (Nat.le_refl _)
  rw [List.take_length, ← e] at ki
  exact fun x hx => ki.cov x ((hm x).mpr hx)

theorem cmpN_one (f g : Nat → Int) (m k : Nat) : -1 ≤ cmpN f g m k ∧ cmpN f g m k ≤ 1 := by
  induction m generalizing k with
  | zero => simp [cmpN]
  | succ m ih =>
    simp only [cmpN]
    split
    · omega
    · split
      · omega
      · exact ih (k + 1)

theorem min_pair {n : Nat} {L R : List (List Int)} (h : MinOf n L R) {i j : Nat} (hj : j < i) (hi : i < R.length) :
    covL n (R.getD i []) (R.getD j []) = false ∧ covL n (R.getD j []) (R.getD i []) = false ∧ cmpL n (R.getD j []) (R.getD i []) = -1 := by
  have h6 := (List.pairwise_iff_getElem.mp h.1) j i (by omega) hi hj
  have e1 : R.getD i [] = R[i] := by simp [hi]
  have e2 : R.getD j [] = R[j] := by simp [show j < R.length by omega]
  rw [e1, e2]
  have hb := cmpN_one (getF R[j]) (getF R[i]) n 0
  have hc : cmpL n R[j] R[i] = cmpN (getF R[j]) (getF R[i]) n 0 := rfl
  have m1 := (h.2 R[i]).mp (List.getElem_mem hi)
  have m2 := (h.2 R[j]).mp (List.getElem_mem (by omega))
  refine ⟨?_, ?_, by omega⟩
  · rw [Bool.eq_false_iff]
    intro hcv
    have := m1.2 _ m2.1 hcv
    rw [this, cmpL_self] at h6
    omega
  · rw [Bool.eq_false_iff]
    intro hcv
    have := m2.2 _ m1.1 hcv
    rw [this, cmpL_self] at h6
    omega

theorem covB_good {p : Int} {xs ys : List Int} (h1 : goodB p xs = true) (h2 : goodB p ys = true) : covB p xs ys = covL p.toNat xs ys := by
  unfold covB covL
  rw [h1, h2, good_len h1]
  rfl
theorem cmpB_good {p : Int} {xs ys : List Int} (h1 : goodB p xs = true) (h2 : goodB p ys = true) : cmpB p xs ys = cmpL p.toNat xs ys := by
  unfold cmpB cmpL
  rw [h1, h2, good_len h1]
  rfl
theorem cmpB_anti (p : Int) (xs ys : List Int) : cmpB p ys xs = - cmpB p xs ys := by
  unfold cmpB
  rw [Bool.and_comm (goodB p ys)]
  cases h : (goodB p xs && goodB p ys)
  · rfl
  · simp only [Bool.and_eq_true] at h
    rw [if_pos rfl, if_pos rfl, good_len h.1, good_len h.2]
    exact cmpN_anti _ _ _ _
theorem cmpB_one (p : Int) (xs ys : List Int) : -1 ≤ cmpB p xs ys ∧ cmpB p xs ys ≤ 1 := by
  unfold cmpB
  split
  · exact cmpN_one _ _ _ _
  · omega

/-- Whether one of the first j is covered. -/
def metU (n : Nat) (K : List (List Int)) (m : List Int) (j : Nat) : Bool := (K.take j).any fun u => covL n m u
theorem metU_succ {n : Nat} {K : List (List Int)} {m : List Int} {j : Nat} (hj : j < K.length) : metU n K m (j + 1) = (metU n K m j || covL n m (K.getD j [])) := by
  unfold metU
  rw [take_getD hj, List.any_append]
  simp only [List.any_cons, List.any_nil, Bool.or_false]
theorem metU_all {n : Nat} {K : List (List Int)} {m : List Int} (h : ∃ u ∈ K, covL n m u = true) : metU n K m K.length = true := by
  unfold metU
  rw [List.take_length, List.any_eq_true]
  exact h
end Go.Proofs.Ytegabkegbhglfaa
