/- What both Covers answer, for every number of places and every two lists: whether each number of the first is at least that of the second, and true, where both are good marks, else false and false; nothing that was there is written. -/
import Derived.Test.YteanbjhlfplojaaBoth
namespace Go.Proofs.Yteanbjhlfplojaa
open Go.RowKit
set_option maxRecDepth 10000

theorem _root_.Go.RowKit.Below.drewN {B : Nat} {a w : World} (h : Below B a w) (q : Nat) : Below B a (w.drewN q) := ⟨h.os, h.tape, h.output, h.size, h.block⟩

def getF (xs : List Int) : Nat → Int := fun i => xs.getD i 0

theorem getF_of {xs : List Int} {k : Nat} {x : Int} (h : Hid (xs[k]? = some x)) : getF xs k = x := by simp [getF, h.out]

/-- Each number of the list is in 0..50. -/
def Small (f : Nat → Int) : Prop := ∀ i, 0 ≤ f i ∧ f i ≤ 50

theorem good_parts {p : Int} {xs : List Int} (h : goodB p xs = true) : Small (getF xs) ∧ xs.length ≤ 16 ∧ 1 ≤ xs.length ∧ (xs.length : Int) = p := by
  simp only [goodB, Bool.and_eq_true, decide_eq_true_eq] at h
  obtain ⟨⟨h1, h2⟩, h3⟩ := h
  refine ⟨fun i => ?_, (inB_le h1 h2).2, (inB_le h1 h2).1, h2⟩
  unfold getF
  by_cases hi : i < xs.length
  · rw [List.getD_eq_getElem?_getD, List.getElem?_eq_getElem hi]
    have := List.all_eq_true.mp h3 xs[i] (List.getElem_mem hi)
    simp [inB] at this
    simpa using this
  · rw [List.getD_eq_getElem?_getD, List.getElem?_eq_none (by omega)]
    simp

theorem small_fOf {xs : List Int} (h : Small (getF xs)) (n : Nat) : Small (fOf xs n) := by
  intro i
  unfold fOf
  split
  · exact h i
  · omega

/-- The first k numbers of f are at least those of g. -/
def CovUpto (f g : Nat → Int) (k : Nat) : Prop := ∀ i, i < k → g i ≤ f i
def covF (f g : Nat → Int) (n : Nat) : Bool := (List.range n).all fun i => decide (g i ≤ f i)

theorem covF_yes {f g : Nat → Int} {n : Nat} (h : CovUpto f g n) : covF f g n = true := by
  simp only [covF, List.all_eq_true, List.mem_range, decide_eq_true_eq]; exact h

theorem covF_iff {f g : Nat → Int} {n : Nat} : covF f g n = true ↔ CovUpto f g n := by
  simp [covF, CovUpto]

theorem covF_no {f g : Nat → Int} {n k : Nat} (hk : k < n) (h : f k < g k) : covF f g n = false := by
  rw [Bool.eq_false_iff]
  intro hc
  have := covF_iff.mp hc k hk
  omega

theorem CovUpto.step {f g : Nat → Int} {k : Nat} (h : CovUpto f g k) (hk : g k ≤ f k) : CovUpto f g (k + 1) := by
  intro i hi
  by_cases e : i = k
  · subst e; exact hk
  · exact h i (by omega)

theorem covF_pad (xs ys : List Int) (n : Nat) (hn : n ≤ 16) : covF (fOf xs n) (fOf ys n) 16 = covF (getF xs) (getF ys) n := by
  rw [Bool.eq_iff_iff, covF_iff, covF_iff]
  constructor
  · intro h i hi
    have := h i (by omega)
    unfold fOf at this
    rw [if_pos hi, if_pos hi] at this
    exact this
  · intro h i hi
    unfold fOf
    by_cases e : i < n
    · rw [if_pos e, if_pos e]; exact h i e
    · rw [if_neg e, if_neg e]; exact Int.le_refl 0

set_option maxHeartbeats 400000 in
theorem cov_any (f g : Nat → Int) (w : World) :
    Calls Try.prog 32 #[.agg (tokF f), .agg (tokF g)] w fun e w' => BoolEnd (covF f g 16) w e w' := by
  go_enter Try.func32, Try.ntmps32
  go_wp2
  go_loopw [6] (fun i wr => ∃ k : Nat, k ≤ 16 ∧ i = .int .i64 k ∧ CovUpto f g k ∧ ∃ q, wr = ((w.alloc (.cells (tokF f) 50)).alloc (.cells (tokF g) 50)).drewN q) (fun i _ => 16 - (intOf i).toNat)
  case atStart => exact ⟨0, Nat.zero_le _, rfl, fun i hi => absurd hi (by omega), 0, rfl⟩
  case round =>
    obtain ⟨k, hk, rfl, hu, q, rfl⟩ := hrel
    by_cases hlt : k < 16
    · have h1 := tokF_at f k hlt
      have h2 := tokF_at g k hlt
      have hi1 : ((k : Int)) < 16 := by omega
      by_cases he : f k < g k
      · have HC := hide (covF_no hlt he)
        obtain ⟨x, hx⟩ : ∃ x, Hid (f k = x) := ⟨_, rfl⟩
        obtain ⟨y, hy⟩ : ∃ y, Hid (g k = y) := ⟨_, rfl⟩
        rw [hx.out] at h1 he
        rw [hy.out] at h2 he
        clear hu
        go_wp2
        go_quiet (fail)
        go_wp2
        go_ret
        exact ⟨ret_bool HC.out.symm, by first | exact (below_two w _ _).drewN _ | exact ((below_two w _ _).drewN _).drewN _⟩
      · have HU := hu.step (by omega)
        obtain ⟨x, hx⟩ : ∃ x, Hid (f k = x) := ⟨_, rfl⟩
        obtain ⟨y, hy⟩ : ∃ y, Hid (g k = y) := ⟨_, rfl⟩
        rw [hx.out] at h1 he
        rw [hy.out] at h2 he
        have HUU := hide HU
        clear hu HU
        go_wp2
        go_quiet (fail)
        go_wp2
        go_roundw
        case rel => exact ⟨k + 1, by omega, by go_num, HUU.out, _, rfl⟩
        case measure => simp [intOf]; omega
    · have hk' : k = 16 := by omega
      subst hk'
      have HC := hide (covF_yes hu)
      clear hu
      go_wp2
      go_ret
      exact ⟨ret_bool HC.out.symm, by first | exact (below_two w _ _).drewN _ | exact ((below_two w _ _).drewN _).drewN _⟩

set_option maxHeartbeats 400000 in
theorem covS_any (a b : Option Addr) (n ca cb : Nat) (xs ys : List Int) (w : World) (ha : Row w a n xs) (hb : Row w b n ys) (hn : n ≤ 16) :
    Calls Try.prog 47 #[.slice a n ca, .slice b n cb] w fun e w' => e = .returned (.bool (covF (getF xs) (getF ys) n)) ∧ w' = w := by
  go_enter Try.func47, Try.ntmps47
  go_wp2
  go_loop [9] (fun i => ∃ k : Nat, k ≤ n ∧ i = .int .i64 k ∧ CovUpto (getF xs) (getF ys) k) (fun i => n - (intOf i).toNat)
  case atStart => exact ⟨0, Nat.zero_le _, rfl, fun i hi => absurd hi (by omega)⟩
  case round =>
    obtain ⟨k, hk, rfl, hu⟩ := hrel
    by_cases hlt : k < n
    · obtain ⟨b1, o1, x, rfl, hl1, hc1, H1⟩ := ha.at hlt
      obtain ⟨b2, o2, y, rfl, hl2, hc2, H2⟩ := hb.at hlt
      have hi1 : ((k : Int)) < ((n : Int)) := by omega
      by_cases he : x < y
      · have HC := hide (covF_no (f := getF xs) (g := getF ys) hlt (by rw [getF_of H1, getF_of H2]; exact he))
        clear ha hb hu H1 H2
        go_wp2
        go_ret
        exact ⟨ret_bool HC.out.symm, rfl⟩
      · have HU := hide (hu.step (by rw [getF_of H1, getF_of H2]; omega))
        clear ha hb hu H1 H2
        go_wp2
        go_round
        case rel => exact ⟨k + 1, by omega, by go_num, HU.out⟩
        case measure => simp [intOf]; omega
    · have hk' : k = n := by omega
      subst hk'
      have HC := hide (covF_yes hu)
      clear hu
      go_wp2
      go_ret
      exact ⟨ret_bool HC.out.symm, rfl⟩

set_option maxHeartbeats 400000 in
theorem two_any (p : Int) (a b : Option Addr) (n m ca cb : Nat) (xs ys : List Int) (w : World) (ha : Row w a n xs) (hb : Row w b m ys) (hn : n ≤ 1048576) (hm : m ≤ 1048576) :
    Calls Try.prog 35 #[.int .i64 p, .slice a n ca, .slice b m cb] w fun e w' => e = .returned (.bool (goodB p xs && goodB p ys)) ∧ w' = w := by
  have HA := hide (goodS_any p a n ca xs w ha hn)
  have HB := hide (goodS_any p b m cb ys w hb hm)
  clear ha hb
  by_cases hg : goodB p xs = true
  · go_enter Try.func35, Try.ntmps35
    go_wp2_with fail
    refine HA.out.mono ?_
    rintro e w' ⟨rfl, rfl⟩
    go_wp2_with fail
    refine HB.out.mono ?_
    rintro e w' ⟨rfl, rfl⟩
    go_wp2
    go_ret
    exact ⟨by rw [hg]; rfl, rfl⟩
  · have hg' : goodB p xs = false := by simpa using hg
    clear hg
    go_enter Try.func35, Try.ntmps35
    go_wp2_with fail
    refine HA.out.mono ?_
    rintro e w' ⟨rfl, rfl⟩
    go_wp2
    go_ret
    exact ⟨by rw [hg']; rfl, rfl⟩

def covB (p : Int) (xs ys : List Int) : Bool := goodB p xs && goodB p ys && covF (getF xs) (getF ys) xs.length

def CovEnd (p : Int) (xs ys : List Int) (w : World) (e : Ending) (w' : World) : Prop :=
  e = .returned (.tuple #[.bool (covB p xs ys), .bool (goodB p xs && goodB p ys)]) ∧ Below w.heap.size w w'

theorem covEnd_no {p : Int} {xs ys : List Int} {w w' : World} (h : (goodB p xs && goodB p ys) = false) (hb : Below w.heap.size w w') : CovEnd p xs ys w (.returned (.tuple #[.bool false, .bool false])) w' := by
  refine ⟨?_, hb⟩; unfold covB; rw [h]; rfl

theorem covEnd_yes {p : Int} {xs ys : List Int} {w w' : World} {c : Bool} (h : (goodB p xs && goodB p ys) = true) (hc : covF (getF xs) (getF ys) xs.length = c) (hb : Below w.heap.size w w') : CovEnd p xs ys w (.returned (.tuple #[.bool c, .bool true])) w' := by
  refine ⟨?_, hb⟩; unfold covB; rw [h, hc]; simp

theorem two_len {p : Int} {xs ys : List Int} (h : (goodB p xs && goodB p ys) = true) : xs.length = ys.length ∧ xs.length ≤ 16 := by
  rw [Bool.and_eq_true] at h
  have h1 := good_parts h.1
  have h2 := good_parts h.2
  omega

set_option maxHeartbeats 1000000 in
theorem coversI_any (p : Int) (a b : Option Addr) (n m ca cb : Nat) (xs ys : List Int) (w : World) (ha : Row w a n xs) (hb : Row w b m ys) (hn : n ≤ 1048576) (hm : m ≤ 1048576) :
    Calls Try.prog 10 #[.int .i64 p, .slice a n ca, .slice b m cb] w fun e w' => CovEnd p xs ys w e w' := by
  have ht := both_any p a b n m ca cb xs ys w ha hb hn hm
  obtain ⟨g, hg⟩ : ∃ g, Hid ((goodB p xs && goodB p ys) = g) := ⟨_, rfl⟩
  rw [hg.out] at ht
  have HT := hide ht
  have hla := hide ha.1
  have hlb := hide hb.1
  clear ht ha hb
  go_enter Try.func10, Try.ntmps10
  go_wp2_with fail
  refine HT.out.mono ?_
  rintro e w1 ⟨k, l, rfl, hkl, hb1⟩
  have hg0 := heap_alloc2_old w1 (.cells #[.int .u8 0, .int .u8 0, .int .u8 0, .int .u8 0, .int .u8 0, .int .u8 0, .int .u8 0, .int .u8 0, .int .u8 0, .int .u8 0, .int .u8 0, .int .u8 0, .int .u8 0, .int .u8 0, .int .u8 0, .int .u8 0] 50) (.cells #[.int .u8 0, .int .u8 0, .int .u8 0, .int .u8 0, .int .u8 0, .int .u8 0, .int .u8 0, .int .u8 0, .int .u8 0, .int .u8 0, .int .u8 0, .int .u8 0, .int .u8 0, .int .u8 0, .int .u8 0, .int .u8 0] 50)
  have hg1 : (((w1.alloc (.cells #[.int .u8 0, .int .u8 0, .int .u8 0, .int .u8 0, .int .u8 0, .int .u8 0, .int .u8 0, .int .u8 0, .int .u8 0, .int .u8 0, .int .u8 0, .int .u8 0, .int .u8 0, .int .u8 0, .int .u8 0, .int .u8 0] 50)).alloc (.cells #[.int .u8 0, .int .u8 0, .int .u8 0, .int .u8 0, .int .u8 0, .int .u8 0, .int .u8 0, .int .u8 0, .int .u8 0, .int .u8 0, .int .u8 0, .int .u8 0, .int .u8 0, .int .u8 0, .int .u8 0, .int .u8 0] 50)).setRow w1.heap.size (packOf xs k)).heap[w1.heap.size + 1]? = some (.cells #[.int .u8 0, .int .u8 0, .int .u8 0, .int .u8 0, .int .u8 0, .int .u8 0, .int .u8 0, .int .u8 0, .int .u8 0, .int .u8 0, .int .u8 0, .int .u8 0, .int .u8 0, .int .u8 0, .int .u8 0, .int .u8 0] 50 (0, 0)) := by
    rw [setRow_other _ _ _ _ (by omega)]; exact heap_alloc2_new _ _ _
  have hg3 := setRow_same hg1 (packOf ys l)
  have hg2 := (setRow_other (((w1.alloc (.cells #[.int .u8 0, .int .u8 0, .int .u8 0, .int .u8 0, .int .u8 0, .int .u8 0, .int .u8 0, .int .u8 0, .int .u8 0, .int .u8 0, .int .u8 0, .int .u8 0, .int .u8 0, .int .u8 0, .int .u8 0, .int .u8 0] 50)).alloc (.cells #[.int .u8 0, .int .u8 0, .int .u8 0, .int .u8 0, .int .u8 0, .int .u8 0, .int .u8 0, .int .u8 0, .int .u8 0, .int .u8 0, .int .u8 0, .int .u8 0, .int .u8 0, .int .u8 0, .int .u8 0, .int .u8 0] 50)).setRow w1.heap.size (packOf xs k)) (w1.heap.size + 1) w1.heap.size (packOf ys l) (by omega)).trans (setRow_same hg0 (packOf xs k))
  have hbW := below_setRow (below_setRow (((hb1.alloc hb1.size (.cells #[.int .u8 0, .int .u8 0, .int .u8 0, .int .u8 0, .int .u8 0, .int .u8 0, .int .u8 0, .int .u8 0, .int .u8 0, .int .u8 0, .int .u8 0, .int .u8 0, .int .u8 0, .int .u8 0, .int .u8 0, .int .u8 0] 50)).alloc (by have := hb1.size; simp; omega) (.cells #[.int .u8 0, .int .u8 0, .int .u8 0, .int .u8 0, .int .u8 0, .int .u8 0, .int .u8 0, .int .u8 0, .int .u8 0, .int .u8 0, .int .u8 0, .int .u8 0, .int .u8 0, .int .u8 0, .int .u8 0, .int .u8 0] 50))) w1.heap.size hb1.size (packOf xs k)) (w1.heap.size + 1) (by have := hb1.size; omega) (packOf ys l)
  obtain ⟨W, hW⟩ : ∃ W, Hid (W = ((((w1.alloc (.cells #[.int .u8 0, .int .u8 0, .int .u8 0, .int .u8 0, .int .u8 0, .int .u8 0, .int .u8 0, .int .u8 0, .int .u8 0, .int .u8 0, .int .u8 0, .int .u8 0, .int .u8 0, .int .u8 0, .int .u8 0, .int .u8 0] 50)).alloc (.cells #[.int .u8 0, .int .u8 0, .int .u8 0, .int .u8 0, .int .u8 0, .int .u8 0, .int .u8 0, .int .u8 0, .int .u8 0, .int .u8 0, .int .u8 0, .int .u8 0, .int .u8 0, .int .u8 0, .int .u8 0, .int .u8 0] 50)).setRow w1.heap.size (packOf xs k)).setRow (w1.heap.size + 1) (packOf ys l))) := ⟨_, rfl⟩
  rw [← hW.out] at hg2 hg3 hbW
  have HW := hide hbW
  clear hb1 hbW HT
  cases g
  · go_wp2_with (first
      | refine wpList_store_row rfl 50 (.tmp 8) _ rfl _ _ rfl rfl 50 _ hg0 (by rw [packOf_size]; exact Try.size50) (by rw [packOf_size]; rfl) (packOf_one _ _) ?_
      | (refine wpList_store_row rfl 50 (.tmp 9) _ rfl _ _ rfl rfl 50 _ hg1 (by rw [packOf_size]; exact Try.size50) (by rw [packOf_size]; rfl) (packOf_one _ _) ?_; rw [← hW.out]; clear hg0 hg1))
    go_ret2
    exact covEnd_no hg.out HW.out
  · go_wp2_with (first
      | refine wpList_store_row rfl 50 (.tmp 8) _ rfl _ _ rfl rfl 50 _ hg0 (by rw [packOf_size]; exact Try.size50) (by rw [packOf_size]; rfl) (packOf_one _ _) ?_
      | (refine wpList_store_row rfl 50 (.tmp 9) _ rfl _ _ rfl rfl 50 _ hg1 (by rw [packOf_size]; exact Try.size50) (by rw [packOf_size]; rfl) (packOf_one _ _) ?_; rw [← hW.out]; clear hg0 hg1)
      | refine wpList_load_row rfl 50 (.tmp 8) rfl _ rfl 50 (packOf xs k) (0, 0) _ hg2 Try.underlying50 rfl (by rw [packOf_size]; exact Try.size50) ?_
      | refine wpList_load_row rfl 50 (.tmp 9) rfl _ rfl 50 (packOf ys l) (0, 0) _ hg3 Try.underlying50 rfl (by rw [packOf_size]; exact Try.size50) ?_)
    refine (cov_any (fOf xs k) (fOf ys l) _).mono ?_
    rintro e w2 ⟨rfl, hb2⟩
    have hl := two_len hg.out
    obtain ⟨rfl, rfl⟩ := hkl.out trivial
    have hcv : covF (fOf xs k) (fOf ys l) 16 = covF (getF xs) (getF ys) xs.length := by
      have e1 := hla.out
      have e2 := hlb.out
      obtain rfl : k = l := by omega
      rw [covF_pad xs ys k (by omega), hla.out]
    have HY := hide (covEnd_yes (w := w) hg.out hcv.symm (HW.out.trans (hb2.mono HW.out.size)))
    clear hg2 hg3 hb2 hl hcv hkl
    go_wp2
    go_ret2
    exact HY.out
end Go.Proofs.Yteanbjhlfplojaa
