/- compareTokens leaves all as it was but for two new blocks and draws. -/
import Derived.Test.YteanbjhlfplojaaCmp
namespace Go.Proofs.Yteanbjhlfplojaa
open Go.RowKit
set_option maxRecDepth 10000

set_option maxHeartbeats 1000000 in
theorem cmpG_any (f g : Nat → Int) (w : World) :
    Calls Try.prog 33 #[.agg (tokF f), .agg (tokF g)] w fun e w' => e = .returned (.int .i64 (cmpN f g 16 0)) ∧ ∃ q, w' = ((w.alloc (.cells (tokF f) 50)).alloc (.cells (tokF g) 50)).drewN q := by
  have hgd : ∀ w, (eqGuard .eql 50 (.tmp 6) (.tmp 7) (.agg (tokF f)) (.agg (tokF g))).run Try.prog w = .ok () w := fun w => run_eqGuard_agg w _ _ _ _ _ _ (by kernel_rfl)
  have hg0 := heap_alloc2_old w (.cells (tokF f) 50) (.cells (tokF g) 50)
  have hg1 := heap_alloc2_new w (.cells (tokF f) 50) (.cells (tokF g) 50)
  by_cases hq : EqUpto f g 16
  · have heq : ∀ w, (Op.equalIn 10000 50 (.agg (tokF f)) (.agg (tokF g))).run Try.prog w = .ok true w := fun w => by
      rw [← eqF_upto.mpr hq]; exact run_equalIn_tok 9999 9998 rfl f g w
    have HC := hide (cmpN_eq hq)
    clear hq
    go_enter Try.func33, Try.ntmps33
    go_wp2_with (first
      | refine wpList_load_row rfl 50 (.tmp 2) rfl _ rfl 50 (tokF f) (0, 0) _ hg0 Try.underlying50 rfl (by rw [tokF_size]; exact Try.size50) ?_
      | refine wpList_load_row rfl 50 (.tmp 3) rfl _ rfl 50 (tokF g) (0, 0) _ hg1 Try.underlying50 rfl (by rw [tokF_size]; exact Try.size50) ?_)
    go_ret
    exact ⟨ret_int HC.out.symm, 0, rfl⟩
  · have heq : ∀ w, (Op.equalIn 10000 50 (.agg (tokF f)) (.agg (tokF g))).run Try.prog w = .ok false w := fun w => by
      rw [← (Bool.eq_false_iff.mpr (fun h => hq (eqF_upto.mp h)) : eqF f g (List.range 16) = false)]; exact run_equalIn_tok 9999 9998 rfl f g w
    have HQ := hide hq
    clear hq
    go_enter Try.func33, Try.ntmps33
    go_wp2_with (first
      | refine wpList_load_row rfl 50 (.tmp 2) rfl _ rfl 50 (tokF f) (0, 0) _ hg0 Try.underlying50 rfl (by rw [tokF_size]; exact Try.size50) ?_
      | refine wpList_load_row rfl 50 (.tmp 3) rfl _ rfl 50 (tokF g) (0, 0) _ hg1 Try.underlying50 rfl (by rw [tokF_size]; exact Try.size50) ?_)
    clear heq hgd hg0 hg1
    go_loopw [9] (fun i wr => ∃ k : Nat, k ≤ 16 ∧ i = .int .i64 k ∧ EqUpto f g k ∧ ∃ q, wr = ((w.alloc (.cells (tokF f) 50)).alloc (.cells (tokF g) 50)).drewN q) (fun i _ => 16 - (intOf i).toNat)
    case atStart => exact ⟨0, Nat.zero_le _, rfl, fun i hi => absurd hi (by omega), 0, rfl⟩
    case round =>
      obtain ⟨k, hk, rfl, hu, q, rfl⟩ := hrel
      by_cases hlt : k < 16
      · have h1 := tokF_at f k hlt
        have h2 := tokF_at g k hlt
        have hi1 : ((k : Int)) < 16 := by omega
        by_cases he : f k < g k
        · have HC := hide (cmpN_lt hu hlt he)
          obtain ⟨x, hx⟩ : ∃ x, Hid (f k = x) := ⟨_, rfl⟩
          obtain ⟨y, hy⟩ : ∃ y, Hid (g k = y) := ⟨_, rfl⟩
          rw [hx.out] at h1 he
          rw [hy.out] at h2 he
          clear hu
          go_wp2
          go_quiet (fail)
          go_wp2
          go_ret
          exact ⟨ret_int HC.out.symm, by first | exact ⟨_, rfl⟩ | exact ⟨_, drewN_two _ _ _⟩⟩
        · by_cases he2 : g k < f k
          · have HC := hide (cmpN_gt hu hlt he2)
            obtain ⟨x, hx⟩ : ∃ x, Hid (f k = x) := ⟨_, rfl⟩
            obtain ⟨y, hy⟩ : ∃ y, Hid (g k = y) := ⟨_, rfl⟩
            rw [hx.out] at h1 he he2
            rw [hy.out] at h2 he he2
            clear hu
            go_wp2
            go_quiet (fail)
            go_wp2
            go_quiet (fail)
            go_wp2
            go_ret
            exact ⟨ret_int HC.out.symm, by first | exact ⟨_, rfl⟩ | exact ⟨_, drewN_two _ _ _⟩ | exact ⟨_, by rw [drewN_two, drewN_two]⟩⟩
          · have HU := hide (hu.step he he2)
            obtain ⟨x, hx⟩ : ∃ x, Hid (f k = x) := ⟨_, rfl⟩
            obtain ⟨y, hy⟩ : ∃ y, Hid (g k = y) := ⟨_, rfl⟩
            rw [hx.out] at h1 he he2
            rw [hy.out] at h2 he he2
            clear hu
            go_wp2
            go_quiet (fail)
            go_wp2
            go_quiet (fail)
            go_wp2
            go_roundw
            case rel => exact ⟨k + 1, by omega, by go_num, HU.out, by first | exact ⟨_, rfl⟩ | exact ⟨_, drewN_two _ _ _⟩⟩
            case measure => simp [intOf]; omega
      · have hk' : k = 16 := by omega
        subst hk'
        exact absurd hu HQ.out
end Go.Proofs.Yteanbjhlfplojaa
