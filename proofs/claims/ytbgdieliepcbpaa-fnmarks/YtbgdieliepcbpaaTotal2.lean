/- What both TotalOfs answer, for every number of places and every list: the sum of the numbers and true where the mark is good, else 0 and false; nothing that was there is written. -/
import Derived.Test.YtbgdieliepcbpaaTake
namespace Go.Proofs.Ytbgdieliepcbpaa
open Go.RowKit

def sumF (f : Nat → Int) : Nat → Int
  | 0 => 0
  | k + 1 => sumF f k + f k

theorem sumF_le {f : Nat → Int} (h : Small f) (k : Nat) : 0 ≤ sumF f k ∧ sumF f k ≤ 50 * k := by
  induction k with
  | zero => simp [sumF]
  | succ k ih => have := h k; simp only [sumF]; omega

theorem sumF_pad (xs : List Int) (n j : Nat) : sumF (fOf xs n) (n + j) = sumF (getF xs) n := by
  induction j with
  | zero =>
    have : ∀ k, k ≤ n → sumF (fOf xs n) k = sumF (getF xs) k := by
      intro k hk
      induction k with
      | zero => rfl
      | succ k ih => simp only [sumF]; rw [ih (by omega)]; unfold fOf getF; rw [if_pos (by omega)]
    exact this n (Nat.le_refl _)
  | succ j ih => show sumF (fOf xs n) (n + j) + fOf xs n (n + j) = _; rw [ih]; unfold fOf; rw [if_neg (by omega)]; omega

def totB (p : Int) (xs : List Int) : Int := if goodB p xs then sumF (getF xs) xs.length else 0

def TotEnd (p : Int) (xs : List Int) (w : World) (e : Ending) (w' : World) : Prop :=
  e = .returned (.tuple #[.int .i64 (totB p xs), .bool (goodB p xs)]) ∧ Below w.heap.size w w'

theorem totEnd_no {p : Int} {xs : List Int} {w w' : World} (h : goodB p xs = false) (hb : Below w.heap.size w w') : TotEnd p xs w (.returned (.tuple #[.int .i64 0, .bool false])) w' := by
  refine ⟨?_, hb⟩; unfold totB; rw [h]; rfl

theorem totEnd_yes {p : Int} {xs : List Int} {w w' : World} {s : Int} (h : goodB p xs = true) (hs : sumF (getF xs) xs.length = s) (hb : Below w.heap.size w w') : TotEnd p xs w (.returned (.tuple #[.int .i64 s, .bool true])) w' := by
  refine ⟨?_, hb⟩; unfold totB; rw [h, ← hs]; rfl

set_option maxHeartbeats 400000 in
theorem total_any (a : Option Addr) (n ca : Nat) (xs : List Int) (w : World) (ha : Row w a n xs) (hn : n ≤ 16) (hs : Small (getF xs)) :
    Calls Try.prog 29 #[.slice a n ca] w fun e w' => e = .returned (.int .i64 (sumF (getF xs) n)) ∧ w' = w := by
  go_enter Try.func29, Try.ntmps29
  go_wp2
  go_loop [3, 8] (fun s i => ∃ k : Nat, k ≤ n ∧ i = .int .i64 k ∧ s = .int .i64 (sumF (getF xs) k)) (fun _ i => n - (intOf i).toNat)
  case atStart => exact ⟨0, Nat.zero_le _, rfl, rfl⟩
  case round =>
    obtain ⟨k, hk, rfl, rfl⟩ := hrel
    by_cases hlt : k < n
    · obtain ⟨b1, o1, x, rfl, hl1, hc1, H1⟩ := ha.at hlt
      have hb := sumF_le hs k
      have hb1 := hs k
      rw [getF_of H1] at hb1
      have HE : Hid (sumF (getF xs) (k + 1) = sumF (getF xs) k + x) := by unfold Hid; simp only [sumF]; rw [getF_of H1]
      clear ha H1 hs
      obtain ⟨s, hsq⟩ : ∃ s, Hid (sumF (getF xs) k = s) := ⟨_, rfl⟩
      rw [hsq.out] at hb ⊢
      go_wp2
      go_round
      case rel => exact ⟨k + 1, by omega, by go_num, by rw [HE.out, hsq.out]⟩
      case measure => simp [intOf]; omega
    · have hk' : k = n := by omega
      subst hk'
      go_wp2
      go_ret
      exact ⟨rfl, rfl⟩

set_option maxHeartbeats 400000 in
theorem totalS_any (p : Int) (a : Option Addr) (n ca : Nat) (xs : List Int) (w : World) (ha : Row w a n xs) (hn : n ≤ 1048576) :
    Calls Try.prog 17 #[.int .i64 p, .slice a n ca] w fun e w' => TotEnd p xs w e w' := by
  have HG := hide (goodS_any p a n ca xs w ha hn)
  by_cases hg : goodB p xs = true
  · have hp := good_parts hg
    have hl := ha.1
    have HT := hide (total_any a n ca xs w ha (by omega) hp.1)
    have HY := hide (totEnd_yes (w := w) (w' := w) hg (by rw [hl]) (Below.refl _ _))
    clear hp hl ha
    go_enter Try.func17, Try.ntmps17
    go_wp2_with (first
      | (go_at_call 14; refine HG.out.mono ?_; rintro e w' ⟨rfl, rfl⟩)
      | (go_at_call 29; refine HT.out.mono ?_; rintro e w' ⟨rfl, rfl⟩))
    go_ret2
    exact HY.out
  · have hg' : goodB p xs = false := by simpa using hg
    have HN := hide (totEnd_no (w := w) (w' := w) hg' (Below.refl _ _))
    clear hg ha
    go_enter Try.func17, Try.ntmps17
    go_wp2_with (go_at_call 14; refine HG.out.mono ?_; rintro e w' ⟨rfl, rfl⟩)
    go_ret2
    exact HN.out

theorem Try.size5' : (Try.prog.info? 5).map (·.size) = some 1 := by kernel_rfl

theorem run_index_tok (f : Nat → Int) (k : Nat) (hk : k < 16) (w : World) : (Instr.index 44 (.agg (tokF f)) (.int .i64 k)).run Try.prog w = .ok (.int .u8 (f k)) w := by
  have h := tokF_at f k hk
  have h1 : (0 : Int) ≤ (k : Int) ∧ (k : Int) < 16 := by omega
  obtain ⟨i, hi, hs⟩ := Option.map_eq_some_iff.1 Try.size5'
  simp [Instr.index, run_underlying Try.underlying44, asIntOf, h1, part, isAgg, run_underlying Try.underlying5, sizeOf, typeInfo, hi, hs, h, go_sem]
  omega

set_option maxHeartbeats 1000000 in
theorem totalI_any (p : Int) (a : Option Addr) (n ca : Nat) (xs : List Int) (w : World) (ha : Row w a n xs) (hn : n ≤ 1048576) :
    Calls Try.prog 15 #[.int .i64 p, .slice a n ca] w fun e w' => TotEnd p xs w e w' := by
  have ht := tokens_any p a n ca xs w ha hn
  by_cases hg : goodB p xs = true
  · have hp := good_parts hg
    have hl := ha.1
    have HG := hide hg
    have HL := hide hl
    have hsm := small_fOf hp.1 n
    have hn16 : n ≤ 16 := by omega
    have HS := hide (show sumF (fOf xs n) 16 = sumF (getF xs) n from by have := sumF_pad xs n (16 - n); rwa [show n + (16 - n) = 16 by omega] at this)
    rw [hg] at ht
    have HT := hide ht
    clear ht ha hg hp hl hn
    go_enter Try.func15, Try.ntmps15
    go_wp2_with fail
    refine HT.out.mono ?_
    rintro e w1 ⟨m, rfl, hm, hb1⟩
    obtain rfl : m = n := hm.out rfl
    have hg0 := heap_alloc_new w1 (.cells #[.int .u8 0, .int .u8 0, .int .u8 0, .int .u8 0, .int .u8 0, .int .u8 0, .int .u8 0, .int .u8 0, .int .u8 0, .int .u8 0, .int .u8 0, .int .u8 0, .int .u8 0, .int .u8 0, .int .u8 0, .int .u8 0] 44)
    have hg1 : ((w1.alloc (.cells #[.int .u8 0, .int .u8 0, .int .u8 0, .int .u8 0, .int .u8 0, .int .u8 0, .int .u8 0, .int .u8 0, .int .u8 0, .int .u8 0, .int .u8 0, .int .u8 0, .int .u8 0, .int .u8 0, .int .u8 0, .int .u8 0] 44)).setRow w1.heap.size (packOf xs m)).heap[w1.heap.size]? = some (.cells (packOf xs m) 44 (0, 0)) := by
      simp only [World.setRow, Array.getElem?_modify]; rw [if_pos trivial, hg0]; rfl
    have hbb := below_setRow (hb1.alloc hb1.size (.cells #[.int .u8 0, .int .u8 0, .int .u8 0, .int .u8 0, .int .u8 0, .int .u8 0, .int .u8 0, .int .u8 0, .int .u8 0, .int .u8 0, .int .u8 0, .int .u8 0, .int .u8 0, .int .u8 0, .int .u8 0, .int .u8 0] 44)) _ hb1.size (packOf xs m)
    go_wp2_with (first
      | refine wpList_store_row rfl 44 _ _ rfl _ _ rfl rfl 44 _ hg0 (by rw [packOf_size]; exact Try.size44) (by rw [packOf_size]; rfl) (packOf_one _ _) ?_
      | refine wpList_load_row rfl 44 _ rfl _ rfl 44 (packOf xs m) (0, 0) _ hg1 Try.underlying44 rfl (by rw [packOf_size]; exact Try.size44) ?_)
    clear hg0 hg1 HT
    go_loop [8, 20] (fun s i => ∃ k : Nat, k ≤ 16 ∧ i = .int .i64 k ∧ s = .int .i64 (sumF (fOf xs m) k)) (fun _ i => 16 - (intOf i).toNat)
    case atStart => exact ⟨0, Nat.zero_le _, rfl, rfl⟩
    case round =>
      obtain ⟨k, hk, rfl, rfl⟩ := hrel
      by_cases hlt : k < 16
      · have hix : ∀ w, (Instr.index 44 (.agg (packOf xs m)) (.int .i64 k)).run Try.prog w = .ok (.int .u8 (fOf xs m k)) w := fun w => run_index_tok (fOf xs m) k hlt w
        have hb := sumF_le hsm k
        have hb2 := hsm k
        have HE : Hid (sumF (fOf xs m) (k + 1) = sumF (fOf xs m) k + fOf xs m k) := rfl
        clear hsm
        obtain ⟨s, hsq⟩ : ∃ s, Hid (sumF (fOf xs m) k = s) := ⟨_, rfl⟩
        obtain ⟨x, hxq⟩ : ∃ x, Hid (fOf xs m k = x) := ⟨_, rfl⟩
        rw [hsq.out] at hb ⊢
        rw [hxq.out] at hb2 hix
        go_wp2
        go_round
        case rel => exact ⟨k + 1, by omega, by go_num, by rw [HE.out, hsq.out, hxq.out]⟩
        case measure => simp [intOf]; omega
      · have hk' : k = 16 := by omega
        subst hk'
        have HY := hide (totEnd_yes (w := w) (s := sumF (fOf xs m) 16) HG.out (by rw [HS.out, HL.out]) hbb)
        clear hsm hbb hb1
        go_wp2
        go_ret2
        exact HY.out
  · have hg' : goodB p xs = false := by simpa using hg
    rw [hg'] at ht
    have HT := hide ht
    have HG := hide hg'
    clear ht ha hg hg' hn
    go_enter Try.func15, Try.ntmps15
    go_wp2_with (first
      | (go_at_call 25; refine HT.out.mono ?_; rintro e w1 ⟨m, rfl, hm, hb1⟩; have hg0 := heap_alloc_new w1 (.cells #[.int .u8 0, .int .u8 0, .int .u8 0, .int .u8 0, .int .u8 0, .int .u8 0, .int .u8 0, .int .u8 0, .int .u8 0, .int .u8 0, .int .u8 0, .int .u8 0, .int .u8 0, .int .u8 0, .int .u8 0, .int .u8 0] 44))
      | refine wpList_store_row rfl 44 _ _ rfl _ _ rfl rfl 44 _ (by assumption) (by rw [packOf_size]; exact Try.size44) (by rw [packOf_size]; rfl) (packOf_one _ _) ?_)
    go_ret2
    exact totEnd_no HG.out (below_setRow (hb1.alloc hb1.size _) _ hb1.size _)

end Go.Proofs.Ytbgdieliepcbpaa
