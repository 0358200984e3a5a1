/- Contracts that the proof stands on, one behind the other. -/
import Derived.Test.YtegabkegbhglfaaP5
/- What both Covers answer, for every number of places and every two lists: whether each number of the first is at least that of the second, and true, where both are good marks, else false and false; nothing that was there is written. -/
namespace Go.Proofs.Ytegabkegbhglfaa
open Go.RowKit
set_option maxRecDepth 10000

theorem _root_.Go.RowKit.Below.drewN {B : Nat} {a w : World} (h : Below B a w) (q : Nat) : Below B a (w.drewN q) := ⟨h.os, h.tape, h.output, h.size, h.block⟩

def getF (xs : List Int) : Nat → Int := fun i => xs.getD i 0

theorem getF_of {xs : List Int} {k : Nat} {x : Int} (h : Hid (xs[k]? = some x)) : getF xs k = x := by simp [getF, h.out]

/-- Each number of the list is in 0..50. -/
def Small50 (f : Nat → Int) : Prop := ∀ i, 0 ≤ f i ∧ f i ≤ 50

theorem good_parts {p : Int} {xs : List Int} (h : goodB p xs = true) : Small50 (getF xs) ∧ xs.length ≤ 16 ∧ 1 ≤ xs.length ∧ (xs.length : Int) = p := by
  simp only [goodB, Bool.and_eq_true, decide_eq_true_eq] at h
  obtain ⟨⟨h1, h2⟩, h3⟩ := h
  refine ⟨fun i => ?_, (inB_le h1 h2).2, (inB_le h1 h2).1, h2⟩
  unfold getF
  by_cases hi : i < xs.length
  · rw [List.getD_eq_getElem?_getD, List.getElem?_eq_getElem hi]
    have := List.all_eq_true.mp h3 xs[i] (List.getElem_mem hi)
    simp [inB] at this
    simpa using this
  · rw [List.getD_eq_getElem?_getD, List.getElem?_eq_none (by omega)]
    simp

theorem small_fOf {xs : List Int} (h : Small50 (getF xs)) (n : Nat) : Small50 (fOf xs n) := by
  intro i
  unfold fOf
  split
  · exact h i
  · omega

/-- The first k numbers of f are at least those of g. -/
def CovUpto (f g : Nat → Int) (k : Nat) : Prop := ∀ i, i < k → g i ≤ f i
def covF (f g : Nat → Int) (n : Nat) : Bool := (List.range n).all fun i => decide (g i ≤ f i)

theorem covF_yes {f g : Nat → Int} {n : Nat} (h : CovUpto f g n) : covF f g n = true := by
  simp only [covF, List.all_eq_true, List.mem_range, decide_eq_true_eq]; exact h

theorem covF_iff {f g : Nat → Int} {n : Nat} : covF f g n = true ↔ CovUpto f g n := by
  simp [covF, CovUpto]

theorem covF_no {f g : Nat → Int} {n k : Nat} (hk : k < n) (h : f k < g k) : covF f g n = false := by
  rw [Bool.eq_false_iff]
  intro hc
  have := covF_iff.mp hc k hk
  omega

theorem CovUpto.step {f g : Nat → Int} {k : Nat} (h : CovUpto f g k) (hk : g k ≤ f k) : CovUpto f g (k + 1) := by
  intro i hi
  by_cases e : i = k
  · subst e; exact hk
  · exact h i (by omega)

theorem covF_pad (xs ys : List Int) (n : Nat) (hn : n ≤ 16) : covF (fOf xs n) (fOf ys n) 16 = covF (getF xs) (getF ys) n := by
  rw [Bool.eq_iff_iff, covF_iff, covF_iff]
  constructor
  · intro h i hi
    have := h i (by omega)
    unfold fOf at this
    rw [if_pos hi, if_pos hi] at this
    exact this
  · intro h i hi
    unfold fOf
    by_cases e : i < n
    · rw [if_pos e, if_pos e]; exact h i e
    · rw [if_neg e, if_neg e]; exact Int.le_refl 0

set_option maxHeartbeats 400000 in
theorem cov_any (f g : Nat → Int) (w : World) :
    Calls Try.prog 61 #[.agg (tokF f), .agg (tokF g)] w fun e w' => BoolEnd (covF f g 16) w e w' := by
  go_enter Try.func61, Try.ntmps61
  go_wp2
  go_loopw [6] (fun i wr => ∃ k : Nat, k ≤ 16 ∧ i = .int .i64 k ∧ CovUpto f g k ∧ ∃ q, wr = ((w.alloc (.cells (tokF f) 82)).alloc (.cells (tokF g) 82)).drewN q) (fun i _ => 16 - (intOf i).toNat)
  case atStart => exact ⟨0, Nat.zero_le _, rfl, fun i hi => absurd hi (by omega), 0, rfl⟩
  case round =>
    obtain ⟨k, hk, rfl, hu, q, rfl⟩ := hrel
    by_cases hlt : k < 16
    · have h1 := tokF_at f k hlt
      have h2 := tokF_at g k hlt
      have hi1 : ((k : Int)) < 16 := by omega
      by_cases he : f k < g k
      · have HC := hide (covF_no hlt he)
        obtain ⟨x, hx⟩ : ∃ x, Hid (f k = x) := ⟨_, rfl⟩
        obtain ⟨y, hy⟩ : ∃ y, Hid (g k = y) := ⟨_, rfl⟩
        rw [hx.out] at h1 he
        rw [hy.out] at h2 he
        clear hu
        go_wp2
        go_quiet (fail)
        go_wp2
        go_ret
        exact ⟨ret_bool HC.out.symm, by first | exact (below_two w _ _).drewN _ | exact ((below_two w _ _).drewN _).drewN _⟩
      · have HU := hu.step (by omega)
        obtain ⟨x, hx⟩ : ∃ x, Hid (f k = x) := ⟨_, rfl⟩
        obtain ⟨y, hy⟩ : ∃ y, Hid (g k = y) := ⟨_, rfl⟩
        rw [hx.out] at h1 he
        rw [hy.out] at h2 he
        have HUU := hide HU
        clear hu HU
        go_wp2
        go_quiet (fail)
        go_wp2
        go_roundw
        case rel => exact ⟨k + 1, by omega, by go_num, HUU.out, _, rfl⟩
        case measure => simp [intOf]; omega
    · have hk' : k = 16 := by omega
      subst hk'
      have HC := hide (covF_yes hu)
      clear hu
      go_wp2
      go_ret
      exact ⟨ret_bool HC.out.symm, by first | exact (below_two w _ _).drewN _ | exact ((below_two w _ _).drewN _).drewN _⟩

set_option maxHeartbeats 400000 in
theorem covS_any (a b : Option Addr) (n ca cb : Nat) (xs ys : List Int) (w : World) (ha : Row w a n xs) (hb : Row w b n ys) (hn : n ≤ 16) :
    Calls Try.prog 108 #[.slice a n ca, .slice b n cb] w fun e w' => e = .returned (.bool (covF (getF xs) (getF ys) n)) ∧ w' = w := by
  go_enter Try.func108, Try.ntmps108
  go_wp2
  go_loop [9] (fun i => ∃ k : Nat, k ≤ n ∧ i = .int .i64 k ∧ CovUpto (getF xs) (getF ys) k) (fun i => n - (intOf i).toNat)
  case atStart => exact ⟨0, Nat.zero_le _, rfl, fun i hi => absurd hi (by omega)⟩
  case round =>
    obtain ⟨k, hk, rfl, hu⟩ := hrel
    by_cases hlt : k < n
    · obtain ⟨b1, o1, x, rfl, hl1, hc1, H1⟩ := ha.at hlt
      obtain ⟨b2, o2, y, rfl, hl2, hc2, H2⟩ := hb.at hlt
      have hi1 : ((k : Int)) < ((n : Int)) := by omega
      by_cases he : x < y
      · have HC := hide (covF_no (f := getF xs) (g := getF ys) hlt (by rw [getF_of H1, getF_of H2]; exact he))
        clear ha hb hu H1 H2
        go_wp2
        go_ret
        exact ⟨ret_bool HC.out.symm, rfl⟩
      · have HU := hide (hu.step (by rw [getF_of H1, getF_of H2]; omega))
        clear ha hb hu H1 H2
        go_wp2
        go_round
        case rel => exact ⟨k + 1, by omega, by go_num, HU.out⟩
        case measure => simp [intOf]; omega
    · have hk' : k = n := by omega
      subst hk'
      have HC := hide (covF_yes hu)
      clear hu
      go_wp2
      go_ret
      exact ⟨ret_bool HC.out.symm, rfl⟩

set_option maxHeartbeats 400000 in
theorem two_any (p : Int) (a b : Option Addr) (n m ca cb : Nat) (xs ys : List Int) (w : World) (ha : Row w a n xs) (hb : Row w b m ys) (hn : n ≤ 1048576) (hm : m ≤ 1048576) :
    Calls Try.prog 64 #[.int .i64 p, .slice a n ca, .slice b m cb] w fun e w' => e = .returned (.bool (goodB p xs && goodB p ys)) ∧ w' = w := by
  have HA := hide (goodS_any p a n ca xs w ha hn)
  have HB := hide (goodS_any p b m cb ys w hb hm)
  clear ha hb
  by_cases hg : goodB p xs = true
  · go_enter Try.func64, Try.ntmps64
    go_wp2_with fail
    refine HA.out.mono ?_
    rintro e w' ⟨rfl, rfl⟩
    go_wp2_with fail
    refine HB.out.mono ?_
    rintro e w' ⟨rfl, rfl⟩
    go_wp2
    go_ret
    exact ⟨by rw [hg]; rfl, rfl⟩
  · have hg' : goodB p xs = false := by simpa using hg
    clear hg
    go_enter Try.func64, Try.ntmps64
    go_wp2_with fail
    refine HA.out.mono ?_
    rintro e w' ⟨rfl, rfl⟩
    go_wp2
    go_ret
    exact ⟨by rw [hg']; rfl, rfl⟩

def covB (p : Int) (xs ys : List Int) : Bool := goodB p xs && goodB p ys && covF (getF xs) (getF ys) xs.length

def CovEnd (p : Int) (xs ys : List Int) (w : World) (e : Ending) (w' : World) : Prop :=
  e = .returned (.tuple #[.bool (covB p xs ys), .bool (goodB p xs && goodB p ys)]) ∧ Below w.heap.size w w'

theorem covEnd_no {p : Int} {xs ys : List Int} {w w' : World} (h : (goodB p xs && goodB p ys) = false) (hb : Below w.heap.size w w') : CovEnd p xs ys w (.returned (.tuple #[.bool false, .bool false])) w' := by
  refine ⟨?_, hb⟩; unfold covB; rw [h]; rfl

theorem covEnd_yes {p : Int} {xs ys : List Int} {w w' : World} {c : Bool} (h : (goodB p xs && goodB p ys) = true) (hc : covF (getF xs) (getF ys) xs.length = c) (hb : Below w.heap.size w w') : CovEnd p xs ys w (.returned (.tuple #[.bool c, .bool true])) w' := by
  refine ⟨?_, hb⟩; unfold covB; rw [h, hc]; simp

theorem two_len {p : Int} {xs ys : List Int} (h : (goodB p xs && goodB p ys) = true) : xs.length = ys.length ∧ xs.length ≤ 16 := by
  rw [Bool.and_eq_true] at h
  have h1 := good_parts h.1
  have h2 := good_parts h.2
  omega

set_option maxHeartbeats 1000000 in
theorem coversI_any (p : Int) (a b : Option Addr) (n m ca cb : Nat) (xs ys : List Int) (w : World) (ha : Row w a n xs) (hb : Row w b m ys) (hn : n ≤ 1048576) (hm : m ≤ 1048576) :
    Calls Try.prog 13 #[.int .i64 p, .slice a n ca, .slice b m cb] w fun e w' => CovEnd p xs ys w e w' := by
  have ht := bothT_any p a b n m ca cb xs ys w ha hb hn hm
  obtain ⟨g, hg⟩ : ∃ g, Hid ((goodB p xs && goodB p ys) = g) := ⟨_, rfl⟩
  rw [hg.out] at ht
  have HT := hide ht
  have hla := hide ha.1
  have hlb := hide hb.1
  clear ht ha hb
  go_enter Try.func13, Try.ntmps13
  go_wp2_with fail
  refine HT.out.mono ?_
  rintro e w1 ⟨k, l, rfl, hkl, hb1⟩
  have hg0 := heap_alloc2_old w1 (.cells #[.int .u8 0, .int .u8 0, .int .u8 0, .int .u8 0, .int .u8 0, .int .u8 0, .int .u8 0, .int .u8 0, .int .u8 0, .int .u8 0, .int .u8 0, .int .u8 0, .int .u8 0, .int .u8 0, .int .u8 0, .int .u8 0] 82) (.cells #[.int .u8 0, .int .u8 0, .int .u8 0, .int .u8 0, .int .u8 0, .int .u8 0, .int .u8 0, .int .u8 0, .int .u8 0, .int .u8 0, .int .u8 0, .int .u8 0, .int .u8 0, .int .u8 0, .int .u8 0, .int .u8 0] 82)
  have hg1 : (((w1.alloc (.cells #[.int .u8 0, .int .u8 0, .int .u8 0, .int .u8 0, .int .u8 0, .int .u8 0, .int .u8 0, .int .u8 0, .int .u8 0, .int .u8 0, .int .u8 0, .int .u8 0, .int .u8 0, .int .u8 0, .int .u8 0, .int .u8 0] 82)).alloc (.cells #[.int .u8 0, .int .u8 0, .int .u8 0, .int .u8 0, .int .u8 0, .int .u8 0, .int .u8 0, .int .u8 0, .int .u8 0, .int .u8 0, .int .u8 0, .int .u8 0, .int .u8 0, .int .u8 0, .int .u8 0, .int .u8 0] 82)).setRow w1.heap.size (packOf xs k)).heap[w1.heap.size + 1]? = some (.cells #[.int .u8 0, .int .u8 0, .int .u8 0, .int .u8 0, .int .u8 0, .int .u8 0, .int .u8 0, .int .u8 0, .int .u8 0, .int .u8 0, .int .u8 0, .int .u8 0, .int .u8 0, .int .u8 0, .int .u8 0, .int .u8 0] 82 (0, 0)) := by
    rw [setRow_other _ _ _ _ (by omega)]; exact heap_alloc2_new _ _ _
  have hg3 := setRow_same hg1 (packOf ys l)
  have hg2 := (setRow_other (((w1.alloc (.cells #[.int .u8 0, .int .u8 0, .int .u8 0, .int .u8 0, .int .u8 0, .int .u8 0, .int .u8 0, .int .u8 0, .int .u8 0, .int .u8 0, .int .u8 0, .int .u8 0, .int .u8 0, .int .u8 0, .int .u8 0, .int .u8 0] 82)).alloc (.cells #[.int .u8 0, .int .u8 0, .int .u8 0, .int .u8 0, .int .u8 0, .int .u8 0, .int .u8 0, .int .u8 0, .int .u8 0, .int .u8 0, .int .u8 0, .int .u8 0, .int .u8 0, .int .u8 0, .int .u8 0, .int .u8 0] 82)).setRow w1.heap.size (packOf xs k)) (w1.heap.size + 1) w1.heap.size (packOf ys l) (by omega)).trans (setRow_same hg0 (packOf xs k))
  have hbW := below_setRow (below_setRow (((hb1.alloc hb1.size (.cells #[.int .u8 0, .int .u8 0, .int .u8 0, .int .u8 0, .int .u8 0, .int .u8 0, .int .u8 0, .int .u8 0, .int .u8 0, .int .u8 0, .int .u8 0, .int .u8 0, .int .u8 0, .int .u8 0, .int .u8 0, .int .u8 0] 82)).alloc (by have := hb1.size; simp; omega) (.cells #[.int .u8 0, .int .u8 0, .int .u8 0, .int .u8 0, .int .u8 0, .int .u8 0, .int .u8 0, .int .u8 0, .int .u8 0, .int .u8 0, .int .u8 0, .int .u8 0, .int .u8 0, .int .u8 0, .int .u8 0, .int .u8 0] 82))) w1.heap.size hb1.size (packOf xs k)) (w1.heap.size + 1) (by have := hb1.size; omega) (packOf ys l)
  obtain ⟨W, hW⟩ : ∃ W, Hid (W = ((((w1.alloc (.cells #[.int .u8 0, .int .u8 0, .int .u8 0, .int .u8 0, .int .u8 0, .int .u8 0, .int .u8 0, .int .u8 0, .int .u8 0, .int .u8 0, .int .u8 0, .int .u8 0, .int .u8 0, .int .u8 0, .int .u8 0, .int .u8 0] 82)).alloc (.cells #[.int .u8 0, .int .u8 0, .int .u8 0, .int .u8 0, .int .u8 0, .int .u8 0, .int .u8 0, .int .u8 0, .int .u8 0, .int .u8 0, .int .u8 0, .int .u8 0, .int .u8 0, .int .u8 0, .int .u8 0, .int .u8 0] 82)).setRow w1.heap.size (packOf xs k)).setRow (w1.heap.size + 1) (packOf ys l))) := ⟨_, rfl⟩
  rw [← hW.out] at hg2 hg3 hbW
  have HW := hide hbW
  clear hb1 hbW HT
  cases g
  · go_wp2_with (first
      | refine wpList_store_row rfl 82 (.tmp 8) _ rfl _ _ rfl rfl 82 _ hg0 (by rw [packOf_size]; exact Try.size82) (by rw [packOf_size]; rfl) (packOf_one _ _) ?_
      | (refine wpList_store_row rfl 82 (.tmp 9) _ rfl _ _ rfl rfl 82 _ hg1 (by rw [packOf_size]; exact Try.size82) (by rw [packOf_size]; rfl) (packOf_one _ _) ?_; rw [← hW.out]; clear hg0 hg1))
    go_ret2
    exact covEnd_no hg.out HW.out
  · go_wp2_with (first
      | refine wpList_store_row rfl 82 (.tmp 8) _ rfl _ _ rfl rfl 82 _ hg0 (by rw [packOf_size]; exact Try.size82) (by rw [packOf_size]; rfl) (packOf_one _ _) ?_
      | (refine wpList_store_row rfl 82 (.tmp 9) _ rfl _ _ rfl rfl 82 _ hg1 (by rw [packOf_size]; exact Try.size82) (by rw [packOf_size]; rfl) (packOf_one _ _) ?_; rw [← hW.out]; clear hg0 hg1)
      | refine wpList_load_row rfl 82 (.tmp 8) rfl _ rfl 82 (packOf xs k) (0, 0) _ hg2 Try.underlying82 rfl (by rw [packOf_size]; exact Try.size82) ?_
      | refine wpList_load_row rfl 82 (.tmp 9) rfl _ rfl 82 (packOf ys l) (0, 0) _ hg3 Try.underlying82 rfl (by rw [packOf_size]; exact Try.size82) ?_)
    refine (cov_any (fOf xs k) (fOf ys l) _).mono ?_
    rintro e w2 ⟨rfl, hb2⟩
    have hl := two_len hg.out
    obtain ⟨rfl, rfl⟩ := hkl.out trivial
    have hcv : covF (fOf xs k) (fOf ys l) 16 = covF (getF xs) (getF ys) xs.length := by
      have e1 := hla.out
      have e2 := hlb.out
      obtain rfl : k = l := by omega
      rw [covF_pad xs ys k (by omega), hla.out]
    have HY := hide (covEnd_yes (w := w) hg.out hcv.symm (HW.out.trans (hb2.mono HW.out.size)))
    clear hg2 hg3 hb2 hl hcv hkl
    go_wp2
    go_ret2
    exact HY.out
end Go.Proofs.Ytegabkegbhglfaa


/- A step back fires to what covers the mark; what fires to what covers it covers the step back. -/
namespace Go.Proofs.Ytegabkegbhglfaa
open Go.RowKit

theorem has_iff {xs : List Int} {x : Int} : hasB xs x = decide (x ∈ xs) := by unfold hasB; simp [List.contains_eq_mem]

theorem fired_at {p : Int} {n : Nat} {L : List (List Int)} {ys : List Int} {t : Int} (hf : fireOk p n L ys t = true) (i : Nat) :
    (firedL L ys t).getD i 0 = (if hasB (resOf L t) (i : Int) then 0 else ys.getD i 0 - one01 (hasB (inOf L t) (i : Int))) + one01 (hasB (outOf L t) (i : Int)) := by
  unfold fireOk at hf
  simp only [Bool.and_eq_true] at hf
  obtain ⟨⟨⟨⟨f1, f2⟩, f3⟩, f4⟩, f5⟩ := hf
  unfold netOk at f1
  simp only [Bool.and_eq_true, decide_eq_true_eq] at f1
  unfold inB at f3
  simp only [Bool.and_eq_true, decide_eq_true_eq] at f3
  have ht := List.all_eq_true.mp f1.2 t.toNat (by simp; omega)
  obtain ⟨r0, r1, r2⟩ := tri_rise ht
  have e0 : riseB (inOf L t) 0 (p - 1) = true := r0
  have e1 : riseB (outOf L t) 0 (p - 1) = true := r1
  have e2 : riseB (resOf L t) 0 (p - 1) = true := r2
  have hlen : (ys.length : Int) = p := by
    unfold goodB at f2; simp only [Bool.and_eq_true, decide_eq_true_eq] at f2; exact f2.1.2
  unfold firedL fireL
  rw [updL_at _ _ _ e1 (by rw [updL_len, updL_len]; omega), updL_at _ _ _ e2 (by rw [updL_len]; omega), updL_at _ _ _ e0 (by omega)]
  rw [has_iff, has_iff, has_iff]
  unfold one01
  by_cases h1 : (i : Int) ∈ outOf L t <;> by_cases h2 : (i : Int) ∈ resOf L t <;> by_cases h0 : (i : Int) ∈ inOf L t <;> simp [h0, h1, h2]

structure SbFacts (p : Int) (n : Nat) (L : List (List Int)) (ys : List Int) (t : Int) : Prop where
  net : netOk p n L = true
  good : goodB p ys = true
  num : inB t 0 ((n : Int) - 1) = true
  can : ∀ i, i < ys.length → hasB (resOf L t) (i : Int) = true → ys.getD i 0 ≤ one01 (hasB (outOf L t) (i : Int))
  back : goodB p (sbOf L ys t ys.length) = true

theorem sbOk_facts {p : Int} {n : Nat} {L : List (List Int)} {ys : List Int} {t : Int} (h : sbOk p n L ys t = true) : SbFacts p n L ys t := by
  unfold sbOk at h
  simp only [Bool.and_eq_true] at h
  obtain ⟨⟨⟨⟨f1, f2⟩, f3⟩, f4⟩, f5⟩ := h
  refine ⟨f1, f2, f3, fun i hi hr => ?_, f5⟩
  unfold sbCan sbOkL at f4
  have := List.all_eq_true.mp f4 i (by simpa using hi)
  unfold sbNo at this
  rw [hr] at this
  simp at this
  exact this

theorem good_len {p : Int} {xs : List Int} (h : goodB p xs = true) : (xs.length : Int) = p := by
  unfold goodB at h; simp only [Bool.and_eq_true, decide_eq_true_eq] at h; exact h.1.2

theorem one01_is (b : Bool) : one01 b = 0 ∨ one01 b = 1 := by cases b <;> simp [one01]

/-- What the step back fires to covers the mark. -/
theorem back_covers {p : Int} {n : Nat} {L : List (List Int)} {ys : List Int} {t : Int} (h : sbOk p n L ys t = true) (hf : fireOk p n L (sbR p n L ys t) t = true) :
    covB p (fireR p n L (sbR p n L ys t) t) ys = true ∧ (goodB p (fireR p n L (sbR p n L ys t) t) && goodB p ys) = true := by
  have F := sbOk_facts h
  have eb : sbR p n L ys t = sbOf L ys t ys.length := sbR_yes h
  have ef : fireR p n L (sbR p n L ys t) t = firedL L (sbR p n L ys t) t := by unfold fireR; rw [hf]; rfl
  have hg := (by unfold fireOk at hf; simp only [Bool.and_eq_true] at hf; exact hf.2)
  rw [ef]
  have hgg : (goodB p (firedL L (sbR p n L ys t) t) && goodB p ys) = true := by rw [hg, F.good]; rfl
  refine ⟨?_, hgg⟩
  unfold covB
  rw [hgg]
  refine covF_yes (fun i hi => ?_)
  have hl1 := good_len hg
  have hl2 := good_len F.good
  have hi2 : i < ys.length := by omega
  show ys.getD i 0 ≤ (firedL L (sbR p n L ys t) t).getD i 0
  rw [fired_at hf i, eb]
  unfold sbOf
  rw [sbL_at _ _ _ _ _ _ hi2]
  have hc := F.can i hi2
  unfold sbV
  rcases one01_is (hasB (outOf L t) (i : Int)) with ho | ho <;> rcases one01_is (hasB (inOf L t) (i : Int)) with hn | hn <;> cases hr : hasB (resOf L t) (i : Int) <;> simp only [hr, ho, hn, if_true, if_false, Bool.false_eq_true, forall_const] at hc ⊢ <;> first | omega | (split <;> omega)

/-- What fires to what covers the mark covers the step back, and the step back is there. -/
theorem covers_back {p : Int} {n : Nat} {L : List (List Int)} {ys ds : List Int} {t : Int} (hf : fireOk p n L ds t = true) (hc : covB p (fireR p n L ds t) ys = true) :
    sbOk p n L ys t = true ∧ covB p ds (sbR p n L ys t) = true ∧ (goodB p ds && goodB p (sbR p n L ys t)) = true := by
  have ef : fireR p n L ds t = firedL L ds t := by unfold fireR; rw [hf]; rfl
  rw [ef] at hc
  unfold covB at hc
  simp only [Bool.and_eq_true] at hc
  obtain ⟨⟨c1, c2⟩, c3⟩ := hc
  have hf' := hf
  unfold fireOk at hf'
  simp only [Bool.and_eq_true] at hf'
  obtain ⟨⟨⟨⟨f1, f2⟩, f3⟩, f4⟩, f5⟩ := hf'
  have hl1 := good_len c1
  have hl2 := good_len c2
  have hl3 := good_len f2
  have hd := good_parts f2
  have hy := good_parts c2
  have hcov : ∀ i, i < ys.length → ys.getD i 0 ≤ (if hasB (resOf L t) (i : Int) then 0 else ds.getD i 0 - one01 (hasB (inOf L t) (i : Int))) + one01 (hasB (outOf L t) (i : Int)) := by
    intro i hi
    rw [← fired_at hf i]
    unfold covF at c3
    have := List.all_eq_true.mp c3 i (by simp; omega)
    simpa [getF] using this
  have hcan : ∀ i : Nat, one01 (hasB (inOf L t) (i : Int)) ≤ ds.getD i 0 := by
    intro i
    have h0 := (hd.1 i).1
    unfold getF at h0
    cases hin : hasB (inOf L t) (i : Int)
    · simpa [one01] using h0
    · rw [has_iff] at hin
      have := List.all_eq_true.mp f4 (i : Int) (by simpa using hin)
      simp at this
      show (1 : Int) ≤ _
      rw [List.getD_eq_getElem?_getD] at h0 ⊢
      omega
  have hcan2 : sbCan L ys t ys.length = true := by
    unfold sbCan sbOkL
    rw [List.all_eq_true]
    intro i hi
    have hi' : i < ys.length := by simpa using hi
    have := hcov i hi'
    unfold sbNo
    cases hr : hasB (resOf L t) (i : Int)
    · rfl
    · rw [hr] at this; simp at this ⊢; exact this
  have hval : ∀ i, i < ys.length → 0 ≤ sbV (inOf L t) (outOf L t) (resOf L t) (i : Int) (ys.getD i 0) ∧ sbV (inOf L t) (outOf L t) (resOf L t) (i : Int) (ys.getD i 0) ≤ ds.getD i 0 := by
    intro i hi
    have a1 := hcov i hi
    have a2 := hcan i
    unfold sbV
    rcases one01_is (hasB (outOf L t) (i : Int)) with ho | ho <;> rcases one01_is (hasB (inOf L t) (i : Int)) with hn | hn <;> cases hr : hasB (resOf L t) (i : Int) <;> simp only [hr, ho, hn, if_true, if_false, Bool.false_eq_true] at a1 a2 ⊢ <;> first | omega | (split <;> omega)
  have hback : goodB p (sbOf L ys t ys.length) = true := by
    unfold goodB at c2 ⊢
    simp only [Bool.and_eq_true, decide_eq_true_eq] at c2 ⊢
    refine ⟨⟨c2.1.1, by unfold sbOf; rw [sbL_len]; exact c2.1.2⟩, ?_⟩
    unfold allB
    rw [List.all_eq_true]
    intro x hx
    obtain ⟨i, hi, rfl⟩ := List.mem_iff_getElem.mp hx
    have hi2 : i < ys.length := by unfold sbOf at hi; rw [sbL_len] at hi; exact hi
    have e : (sbOf L ys t ys.length)[i]? = some (sbV (inOf L t) (outOf L t) (resOf L t) (i : Int) (ys.getD i 0)) := by
      unfold sbOf sbL
      rw [List.getElem?_map, List.getElem?_range hi2]
      rfl
    have e := Option.some.inj ((List.getElem?_eq_getElem hi).symm.trans e)
    rw [e]
    have h1 := hval i hi2
    have h2 := (hd.1 i).2
    unfold getF at h2
    have h3 : sbV (inOf L t) (outOf L t) (resOf L t) (i : Int) (ys.getD i 0) ≤ 50 := by omega
    unfold inB
    simp only [Bool.and_eq_true, decide_eq_true_eq]
    exact ⟨h1.1, h3⟩
  have hok : sbOk p n L ys t = true := sbOk_yes (by rw [f1, c2]; rfl) f3 hcan2 hback
  have hgg : (goodB p ds && goodB p (sbR p n L ys t)) = true := by rw [sbR_yes hok, f2, hback]; rfl
  refine ⟨hok, ?_, hgg⟩
  unfold covB
  rw [hgg]
  refine covF_yes (fun i hi => ?_)
  have hi2 : i < ys.length := by omega
  show (sbR p n L ys t).getD i 0 ≤ ds.getD i 0
  rw [sbR_yes hok]
  unfold sbOf
  rw [sbL_at _ _ _ _ _ _ hi2]
  exact (hval i hi2).2
end Go.Proofs.Ytegabkegbhglfaa


/- l1Put: a number put to its place in a list, once; the list that is answered is the one that came, or a new one. -/
namespace Go.Proofs.Ytegabkegbhglfaa
open Go.RowKit
set_option maxRecDepth 10000

/-- append, whatever is appended: nil, empty or not. -/
theorem wpList_append_any {P : Program} (w : World) {ops : Array Oper} {rest : List Oper} {o : Oper} {a : Act} {Q : Exit → Act → World → Prop} (hgd : o.guard = none) (s x : Operand) (t : TypeId)
    (ho : o.op = .call { callee := .builtin .append, args := #[s, x], argTypes := #[t, t] })
    (base : Nat) (e : TypeId) (i : TypeInfo) (z : Value) (size bytes : Nat) (ht : P.underlying t = some (.slice e)) (hi : P.info? e = some i) (hz : i.zero = some z)
    (hsize : i.size = size) (hby : i.bytes = bytes) (hzs : z.cells.size = size) (hsz : 0 < size)
    (v : Value) (n : Nat) (xs : List Value) (hs : a.eval s = v) (hown : w.ownsRow base e size v n xs)
    (ao : Option Addr) (m c : Nat) (news : List Value) (hx : a.eval x = .slice ao m c) (hl : news.length = m * size) (hnone : ao = none → m = 0 ∧ c = 0)
    (hnews : ∀ ad, ao = some ad → ∀ j u, news[j]? = some u → w.cell? (ad.add j) = some u) (h1 : ∀ u ∈ news, u.oneCell' = true)
    (h63 : n + m ≤ maxLen) (hbytes : (n + m) * bytes ≤ 140737488355328) (hbase : base ≤ w.heap.size)
    (h : ∀ v' w', w'.ownsRow base e size v' (n + m) (xs ++ news) → w.grownBy w' v.ownBlock → wpList P ops Q rest (a.put o.dst v') w') : wpList P ops Q (o :: rest) a w := by
  cases ao with
  | some ad => exact wpList_append_own w hgd s x t ho base e i z size bytes ht hi hz hsize hby hzs hsz v n xs hs hown ad m c news hx hl (hnews ad rfl) h1 h63 hbytes hbase fun v' w' r1 r2 _ => h v' w' r1 r2
  | none =>
    obtain ⟨rfl, rfl⟩ := hnone rfl
    have hnews : news = [] := List.eq_nil_of_length_eq_zero (by simpa using hl)
    subst hnews
    refine wpList_plain hgd fun K hK' => ?_
    have hrun := run_append_owned_none (P := P) w base t o.type e i size ht hi _ n xs hown
    unfold Oper.wp
    simp [execOp, ho, resolve, invoke, builtin, hs, hx, hrun, Result.andThen]
    exact hK' _ _ (by simpa using h v w (by simpa using hown) (World.grownBy.refl _ _))

/-- How l1Put ends. -/
def PutEnd (n b : Nat) (w : World) (e : Ending) (w' : World) : Prop :=
  ∃ g n' c' ys, e = .returned (.slice (some ⟨g, 0, none⟩) n' c') ∧ 1 ≤ n' ∧ n' ≤ n + 1 ∧ n' ≤ c' ∧ c' ≤ maxLen ∧ Row w' (some ⟨g, 0, none⟩) n' ys ∧ (g = b ∨ w.heap.size ≤ g) ∧ Below w.heap.size w w'

theorem cells_upto {w : World} {a : Option Addr} {l i : Nat} {A : List Int} (h : Row w a l A) (hi : i ≤ l) : ∀ ad, a = some ad → ∀ t u, ((A.take i).map (Value.int .i64))[t]? = some u → w.cell? (ad.add t) = some u := by
  intro ad had t u hu
  have hA := h.1
  have ht : t < i := by
    have := (List.getElem?_eq_some_iff.1 hu).1
    simp at this; omega
  rcases h.2 with h0 | ⟨b, off, e, hl, hc⟩
  · omega
  · rw [e] at had
    obtain rfl := Option.some.inj had
    rw [Addr.add_mid, hc t (by omega), ← hu]
    simp [ht, show t < A.length by omega]

theorem cells_behind {w : World} {a : Option Addr} {l i : Nat} {A : List Int} (h : Row w a l A) (hi : i < l) : ∀ b off, a = some ⟨b, off, none⟩ → ∀ t u, ((A.drop i).map (Value.int .i64))[t]? = some u → w.cell? ((⟨b, off + i, none⟩ : Addr).add t) = some u := by
  intro b off had t u hu
  have hA := h.1
  have ht : t < l - i := by
    have := (List.getElem?_eq_some_iff.1 hu).1
    simp at this; omega
  rcases h.2 with h0 | ⟨b', off', e, hl, hc⟩
  · omega
  · rw [e] at had
    obtain ⟨rfl, rfl⟩ : b' = b ∧ off' = off := by simpa using had
    rw [Addr.add_mid, Nat.add_assoc, hc (i + t) (by omega), ← hu]
    simp [show i + t < A.length by omega]

theorem ownsRow_row2 {B : Nat} {w : World} {v : Value} {n : Nat} {l : List Int} (hown : w.ownsRow B 3 1 v n (l.map (Value.int .i64))) : ∃ a c, v = .slice a n c ∧ Row w a n l := by
  have hl : l.length = n := by have := hown.1; simpa using this
  rcases hown.2 with ⟨rfl, rfl⟩ | ⟨g, cap, cur, rfl, hb, hh, hnc, _, hsz, ht⟩
  · exact ⟨none, 0, rfl, hl, .inl rfl⟩
  · refine ⟨_, cap, rfl, hl, .inr ⟨g, 0, rfl, (Array.getElem?_eq_some_iff.mp hh).1, fun i hi => ?_⟩⟩
    rw [cell_of_row w g (0 + i) _ _ _ hh, Nat.zero_add]
    have e1 : (cur.toList.take (n * 1))[i]? = some (.int .i64 (l.getD i 0)) := by
      rw [ht]; simp [List.getElem?_map, List.getElem?_eq_getElem (show i < l.length by omega)]
    rw [List.getElem?_take_of_lt (by omega)] at e1
    simpa using e1

theorem putEnd_own {n b m : Nat} {w v : World} {u : Value} {ys : List Int} (hb : Below w.heap.size w v) (hown : v.ownsRow w.heap.size 3 1 u m (ys.map (Value.int .i64))) (hm : 1 ≤ m) (hmn : m ≤ n + 1) : PutEnd n b w (.returned u) v := by
  rcases hown.2 with ⟨_, h0⟩ | ⟨g, cap, cur, rfl, hbg, hh, hnc, hcm, hsz, ht⟩
  · omega
  · obtain ⟨a', c', e, hr⟩ := ownsRow_row2 hown
    obtain ⟨rfl, rfl⟩ : a' = some ⟨g, 0, none⟩ ∧ c' = cap := by simpa [eq_comm] using e
    exact ⟨g, m, _, ys, rfl, hm, hmn, hnc, hcm, hr, .inr hbg, hb⟩

/-- What is there while l1Put builds its list. -/
structure PutSt (w v : World) (u : Value) (m : Nat) (ys : List Int) : Prop where
  own : v.ownsRow w.heap.size 3 1 u m (ys.map (Value.int .i64))
  bel : Below w.heap.size w v

theorem PutSt.first (w : World) : PutSt w (w.alloc (.cells #[] 3)) (.slice (some ⟨w.heap.size, 0, none⟩) 0 0) 0 [] :=
  ⟨⟨rfl, .inr ⟨w.heap.size, 0, #[], rfl, Nat.le_refl _, heap_alloc_new _ _, Nat.le_refl _, Nat.zero_le _, rfl, rfl⟩⟩, below_al w _⟩
theorem PutSt.alloc {w v : World} {u : Value} {m : Nat} {ys : List Int} (h : PutSt w v u m ys) (o : Obj) : PutSt w (v.alloc o) u m ys := ⟨h.own.alloc o, h.bel.trans ((below_al v o).mono h.bel.size)⟩
theorem PutSt.step {w v v' : World} {u u' : Value} {m q : Nat} {ys zs : List Int} (h : PutSt w v u m ys) (r1 : v'.ownsRow w.heap.size 3 1 u' (m + q) (ys.map (Value.int .i64) ++ zs.map (Value.int .i64))) (r2 : v.grownBy v' u.ownBlock) : PutSt w v' u' (m + q) (ys ++ zs) :=
  ⟨by rw [List.map_append]; exact r1, h.bel.grown r2 h.bel.size fun k hk => (h.own.lt k hk).1⟩
theorem PutSt.done {w v : World} {u : Value} {m n b : Nat} {ys : List Int} (h : PutSt w v u m ys) (hm : 1 ≤ m) (hmn : m ≤ n + 1) : PutEnd n b w (.returned u) v := putEnd_own h.bel h.own hm hmn

set_option maxHeartbeats 1000000 in
theorem put_nil (x : Int) (w : World) :
    Calls Try.prog 135 #[.slice none 0 0, .int .i64 x] w fun e w' => PutEnd 0 w.heap.size w e w' := by
  obtain ⟨i0, hi, hz0, hz1, hz2⟩ := info_split Try.info3
  have P0 := hide (PutSt.first w)
  go_enter Try.func135, Try.ntmps135
  go_wp2_with fail
  go_loop [5] (fun i => i = .int .i64 0) (fun _ => 0)
  case atStart => rfl
  case round =>
    obtain rfl := hrel
    go_wp2_with (at_builtin; first
      | (refine wpList_append_any _ rfl (.tmp 34) (.tmp 37) 30 rfl w.heap.size 3 i0 (.int .i64 0) 1 8 Try.underlying30 hi hz0 hz1 hz2 rfl (by decide) (.slice (some ⟨w.heap.size, 0, none⟩) 0 0) 0 [] rfl P0.out.own none 0 0 [] rfl rfl (fun _ => ⟨rfl, rfl⟩) (fun ad h => by cases h) (by simp) (by unfold maxLen; omega) (by omega) (by simp) ?_; intro u1 W1 r1 r2; have P1 := hide ((P0.out.step (q := 0) (zs := []) r1 r2).alloc (.cells #[.int .i64 x] 3)); clear r1 r2)
      | (refine wpList_append_own _ rfl (.tmp 39) (.tmp 41) 30 rfl w.heap.size 3 i0 (.int .i64 0) 1 8 Try.underlying30 hi hz0 hz1 hz2 rfl (by decide) u1 _ _ rfl P1.out.own ⟨W1.heap.size, 0, none⟩ 1 1 [.int .i64 x] rfl rfl (cell_one_new _ _ _) (by simp [Value.oneCell']) (by unfold maxLen; omega) (by omega) (Nat.le_trans P1.out.bel.size (Nat.le_refl _)) ?_; intro u2 W2 r1 r2 _; have P2 := hide (P1.out.step (q := 1) (zs := [x]) r1 r2); clear r1 r2)
      | (refine wpList_append_any _ rfl (.tmp 43) (.tmp 46) 30 rfl w.heap.size 3 i0 (.int .i64 0) 1 8 Try.underlying30 hi hz0 hz1 hz2 rfl (by decide) u2 _ _ rfl P2.out.own none 0 0 [] rfl rfl (fun _ => ⟨rfl, rfl⟩) (fun ad h => by cases h) (by simp) (by unfold maxLen; omega) (by omega) P2.out.bel.size ?_; intro u3 W3 r1 r2; have P3 := hide (P2.out.step (q := 0) (zs := []) r1 r2); clear r1 r2))
    go_ret
    exact P3.out.done (by omega) (by omega)

set_option maxHeartbeats 2000000 in
theorem put_some (b n c : Nat) (xs : List Int) (x : Int) (w : World) (h : Row w (some ⟨b, 0, none⟩) n xs) (hn : n ≤ 1000) (hn1 : 1 ≤ n) (hc : n ≤ c) (hc2 : c ≤ maxLen) :
    Calls Try.prog 135 #[.slice (some ⟨b, 0, none⟩) n c, .int .i64 x] w fun e w' => PutEnd n b w e w' := by
  have HR := hide h
  have hlen := hide h.1
  unfold maxLen at hc2
  clear h
  obtain ⟨i0, hi, hz0, hz1, hz2⟩ := info_split Try.info3
  have P0 := hide (PutSt.first w)
  go_enter Try.func135, Try.ntmps135
  go_wp2_with fail
  go_loop [5] (fun i => ∃ k : Nat, k ≤ n ∧ i = .int .i64 k) (fun i => n - (intOf i).toNat)
  case atStart => exact ⟨0, Nat.zero_le _, rfl⟩
  case round =>
    obtain ⟨k, hk, rfl⟩ := hrel
    have HC1 := hide (fun W (hb : Below w.heap.size w W) => cells_upto (HR.out.below hb) hk _ rfl)
    by_cases hlt : k < n
    · obtain ⟨b1, o1, y, he, hl1, hc1, H1⟩ := HR.out.at hlt
      obtain ⟨rfl, rfl⟩ : b1 = b ∧ o1 = 0 := by simpa [eq_comm] using he
      rw [Nat.zero_add] at hc1
      have hki : (k : Int) < (n : Int) := by omega
      have hkn : k < n := hlt
      have hkc : ¬ c = k := by omega
      have HC2 := hide (fun W (hb : Below w.heap.size w W) => cells_behind (HR.out.below hb) hlt b1 0 rfl)
      rw [Nat.zero_add] at HC2
      clear he hlt
      by_cases hy : y < x
      · go_wp2_with fail
        go_round
        case rel => exact ⟨k + 1, by omega, by go_num⟩
        case measure => simp [intOf]; omega
      · by_cases hy2 : y = x
        · go_wp2_with fail
          go_ret
          exact ⟨b1, n, c, xs, rfl, hn1, by omega, hc, by unfold maxLen; omega, HR.out, .inl rfl, Below.refl _ _⟩
        · go_wp2_with (at_builtin; first
            | (refine wpList_append_any _ rfl (.tmp 34) (.tmp 37) 30 rfl w.heap.size 3 i0 (.int .i64 0) 1 8 Try.underlying30 hi hz0 hz1 hz2 rfl (by decide) (.slice (some ⟨w.heap.size, 0, none⟩) 0 0) 0 [] rfl P0.out.own (some ⟨b1, 0, none⟩) k c ((xs.take k).map (Value.int .i64)) rfl (by have := hlen.out; simp; omega) (fun h => by cases h) (fun ad h => by cases h; exact HC1.out _ P0.out.bel) (ints_oneCell _ _) (by unfold maxLen; omega) (by omega) (by simp) ?_; intro u1 W1 r1 r2; have P1 := hide ((P0.out.step (q := k) (zs := xs.take k) r1 r2).alloc (.cells #[.int .i64 x] 3)); clear r1 r2)
            | (refine wpList_append_own _ rfl (.tmp 39) (.tmp 41) 30 rfl w.heap.size 3 i0 (.int .i64 0) 1 8 Try.underlying30 hi hz0 hz1 hz2 rfl (by decide) u1 _ _ rfl P1.out.own ⟨W1.heap.size, 0, none⟩ 1 1 [.int .i64 x] rfl rfl (cell_one_new _ _ _) (by simp [Value.oneCell']) (by unfold maxLen; omega) (by omega) P1.out.bel.size ?_; intro u2 W2 r1 r2 _; have P2 := hide (P1.out.step (q := 1) (zs := [x]) r1 r2); clear r1 r2)
            | (refine wpList_append_own _ rfl (.tmp 43) (.tmp 46) 30 rfl w.heap.size 3 i0 (.int .i64 0) 1 8 Try.underlying30 hi hz0 hz1 hz2 rfl (by decide) u2 _ _ rfl P2.out.own ⟨b1, k, none⟩ (n - k) (c - k) ((xs.drop k).map (Value.int .i64)) rfl (by have := hlen.out; simp; omega) (HC2.out _ P2.out.bel) (ints_oneCell _ _) (by unfold maxLen; omega) (by omega) P2.out.bel.size ?_; intro u3 W3 r1 r2 _; have P3 := hide (P2.out.step (q := n - k) (zs := xs.drop k) r1 r2); clear r1 r2))
          go_ret
          exact P3.out.done (by omega) (by omega)
    · have hk' : k = n := by omega
      have hki : ¬ (k : Int) < (n : Int) := by omega
      subst hk'
      go_wp2_with (at_builtin; first
        | (refine wpList_append_any _ rfl (.tmp 34) (.tmp 37) 30 rfl w.heap.size 3 i0 (.int .i64 0) 1 8 Try.underlying30 hi hz0 hz1 hz2 rfl (by decide) (.slice (some ⟨w.heap.size, 0, none⟩) 0 0) 0 [] rfl P0.out.own (some ⟨b, 0, none⟩) k c ((xs.take k).map (Value.int .i64)) rfl (by have := hlen.out; simp; omega) (fun h => by cases h) (fun ad h => by cases h; exact HC1.out _ P0.out.bel) (ints_oneCell _ _) (by unfold maxLen; omega) (by omega) (by simp) ?_; intro u1 W1 r1 r2; have P1 := hide ((P0.out.step (q := k) (zs := xs.take k) r1 r2).alloc (.cells #[.int .i64 x] 3)); clear r1 r2)
        | (refine wpList_append_own _ rfl (.tmp 39) (.tmp 41) 30 rfl w.heap.size 3 i0 (.int .i64 0) 1 8 Try.underlying30 hi hz0 hz1 hz2 rfl (by decide) u1 _ _ rfl P1.out.own ⟨W1.heap.size, 0, none⟩ 1 1 [.int .i64 x] rfl rfl (cell_one_new _ _ _) (by simp [Value.oneCell']) (by unfold maxLen; omega) (by omega) P1.out.bel.size ?_; intro u2 W2 r1 r2 _; have P2 := hide (P1.out.step (q := 1) (zs := [x]) r1 r2); clear r1 r2)
        | (refine wpList_append_any _ rfl (.tmp 43) (.tmp 46) 30 rfl w.heap.size 3 i0 (.int .i64 0) 1 8 Try.underlying30 hi hz0 hz1 hz2 rfl (by decide) u2 _ _ rfl P2.out.own _ _ _ [] rfl (by simp) (by intro h; first | cases h | (split at h <;> cases h)) (by intro ad _ j u hu; simp at hu) (by simp) (by unfold maxLen; omega) (by omega) P2.out.bel.size ?_; intro u3 W3 r1 r2; have P3 := hide (P2.out.step (zs := []) r1 r2); clear r1 r2))
      all_goals go_ret
      all_goals exact P3.out.done (by omega) (by omega)
end Go.Proofs.Ytegabkegbhglfaa


/- The cursor that draws choices from bytes: next, pick, one, among, places and mark answer within their bounds, whatever the bytes, and write into nothing that was there but the cursor. -/
namespace Go.Proofs.Ytegabkegbhglfaa
open Go.RowKit

/-- A slice of bytes reads as the list bs. -/
def RowB (w : World) (a : Option Addr) (n : Nat) (bs : List Int) : Prop :=
  bs.length = n ∧ (∀ i, 0 ≤ bs.getD i 0 ∧ bs.getD i 0 ≤ 255) ∧ (n = 0 ∨ ∃ b off, a = some ⟨b, off, none⟩ ∧ b < w.heap.size ∧ ∀ i, i < n → w.cell? ⟨b, off + i, none⟩ = some (.int .u8 (bs.getD i 0)))

/-- The cursor lies in the block bc, over the bytes (ca, cn, cc), at the place p. -/
def Cur (w : World) (bc : Nat) (ca : Option Addr) (cn cc p : Nat) : Prop :=
  ∃ s : Int, w.heap[bc]? = some (.cells #[.slice ca cn cc, .int .i64 (p : Int), .int .u64 s] 75 (0, 0))

theorem cur_step {w : World} {bc : Nat} {t : TypeId} {A B C : Value} (h : w.heap[bc]? = some (.cells #[A, B, C] t (0, 0))) (q : Nat) (v u : Value) :
    (((w.drewN q).setCell ⟨bc, 1, none⟩ v).setCell ⟨bc, 2, none⟩ u).heap[bc]? = some (.cells #[A, v, u] t (0, 0)) := by
  have h1 := heap_setCell_same (w.drewN q) bc 1 _ _ v h
  have h2 := heap_setCell_same _ bc 2 _ _ u h1
  simpa using h2

/-- Nothing but the block b has turned, and no block is new. -/
structure OnlyC (b : Nat) (w w' : World) : Prop where
  os : w'.os = w.os
  tape : w'.tape = w.tape
  output : w'.output = w.output
  size : w'.heap.size = w.heap.size
  block : ∀ k, k ≠ b → w'.heap[k]? = w.heap[k]?

theorem OnlyC.refl (b : Nat) (w : World) : OnlyC b w w := ⟨rfl, rfl, rfl, rfl, fun _ _ => rfl⟩
theorem OnlyC.drewN {b : Nat} {w w' : World} (h : OnlyC b w w') (q : Nat) : OnlyC b w (w'.drewN q) := ⟨h.os, h.tape, h.output, h.size, h.block⟩
theorem OnlyC.setCell {b : Nat} {w w' : World} (h : OnlyC b w w') (o : Nat) (v : Value) : OnlyC b w (w'.setCell ⟨b, o, none⟩ v) :=
  ⟨h.os, h.tape, h.output, by rw [← h.size]; simp [World.setCell], fun k hk => (Below.heap_setCell _ _ _ _ hk).trans (h.block k hk)⟩

/-- How next ends. -/
def NextEnd (bc : Nat) (ca : Option Addr) (cn cc p : Nat) (w : World) (e : Ending) (w' : World) : Prop :=
  ∃ r : Int, e = .returned (.int .i64 r) ∧ (0 ≤ r ∧ r ≤ 255) ∧ Cur w' bc ca cn cc (p + 1) ∧ OnlyC bc w w'

theorem and255 (n : Int) : 0 ≤ wrap64 (bits .and .u64 n 255) ∧ wrap64 (bits .and .u64 n 255) ≤ 255 := by
  have h255 : (BitVec.ofInt 64 255).toNat = 2 ^ 8 - 1 := by decide
  have key : (BitVec.ofInt 64 n &&& BitVec.ofInt 64 255).toNat = (n % ((2 ^ 64 : Nat) : Int)).toNat % 2 ^ 8 := by
    rw [BitVec.toNat_and, BitVec.toNat_ofInt, h255, Nat.and_two_pow_sub_one_eq_mod]
  have e : bits .and .u64 n 255 = (((n % ((2 ^ 64 : Nat) : Int)).toNat % 2 ^ 8 : Nat) : Int) := by
    show IntKind.u64.wrap ((BitVec.ofInt 64 n &&& BitVec.ofInt 64 255).toNat : Nat) = _
    rw [key, IntKind.wrap_u64]
    omega
  rw [e]
  have : (n % ((2 ^ 64 : Nat) : Int)).toNat % 2 ^ 8 < 256 := Nat.mod_lt _ (by decide)
  generalize (n % ((2 ^ 64 : Nat) : Int)).toNat % 2 ^ 8 = m at *
  rw [IntWalk.wrap64_in _ ⟨by omega, by omega⟩]
  omega

set_option maxHeartbeats 1000000 in
theorem next_in (bc : Nat) (ca : Option Addr) (cn cc p : Nat) (s x : Int) (w : World)
    (h : w.heap[bc]? = some (.cells #[.slice ca cn cc, .int .i64 (p : Int), .int .u64 s] 75 (0, 0))) (hp : p ≤ 1000000) (_hn : cn ≤ 1048576)
    (hlt : p < cn) (b off : Nat) (ha : ca = some ⟨b, off, none⟩) (hx : w.cell? ⟨b, off + p, none⟩ = some (.int .u8 x)) (hx0 : 0 ≤ x ∧ x ≤ 255) :
    Calls Try.prog 105 #[.pointer (some ⟨bc, 0, none⟩)] w fun e w' => NextEnd bc ca cn cc p w e w' := by
  subst ha
  have c0 : w.cell? ⟨bc, 0, none⟩ = some (.slice (some ⟨b, off, none⟩) cn cc) := cell_of_row w bc 0 _ _ _ h
  have c1 : w.cell? ⟨bc, 1, none⟩ = some (.int .i64 (p : Int)) := cell_of_row w bc 1 _ _ _ h
  have c2 : w.cell? ⟨bc, 2, none⟩ = some (.int .u64 s) := cell_of_row w bc 2 _ _ _ h
  have f1 := frozen_of_row w bc 1 _ _ h
  have f2 := frozen_of_row w bc 2 _ _ h
  have hi : (p : Int) < (cn : Int) := by omega
  have HS := hide (fun q v u => cur_step h q v u)
  clear h
  go_enter Try.func105, Try.ntmps105
  go_wp2
  go_quiet (fail)
  go_wp2
  go_quiet (fail)
  go_wp2
  go_quiet (fail)
  go_wp2
  go_ret
  exact ⟨x, rfl, hx0, ⟨_, HS.out _ _ _⟩, ((((OnlyC.refl bc w).drewN _).setCell 1 _).setCell 2 _).drewN _⟩

set_option maxHeartbeats 1000000 in
theorem next_out (bc : Nat) (ca : Option Addr) (cn cc p : Nat) (s : Int) (w : World)
    (h : w.heap[bc]? = some (.cells #[.slice ca cn cc, .int .i64 (p : Int), .int .u64 s] 75 (0, 0))) (hp : p ≤ 1000000) (_hn : cn ≤ 1048576)
    (hlt : ¬ p < cn) :
    Calls Try.prog 105 #[.pointer (some ⟨bc, 0, none⟩)] w fun e w' => NextEnd bc ca cn cc p w e w' := by
  have c0 : w.cell? ⟨bc, 0, none⟩ = some (.slice ca cn cc) := cell_of_row w bc 0 _ _ _ h
  have c1 : w.cell? ⟨bc, 1, none⟩ = some (.int .i64 (p : Int)) := cell_of_row w bc 1 _ _ _ h
  have c2 : w.cell? ⟨bc, 2, none⟩ = some (.int .u64 s) := cell_of_row w bc 2 _ _ _ h
  have f1 := frozen_of_row w bc 1 _ _ h
  have f2 := frozen_of_row w bc 2 _ _ h
  have hi : ¬ (p : Int) < (cn : Int) := by omega
  have HS := hide (fun q v u => cur_step h q v u)
  clear h
  go_enter Try.func105, Try.ntmps105
  go_wp2
  go_quiet (fail)
  go_wp2
  go_quiet (fail)
  go_wp2
  go_ret
  exact ⟨_, rfl, and255 _, ⟨_, HS.out _ _ _⟩, ((((OnlyC.refl bc w).drewN _).setCell 1 _).setCell 2 _).drewN _⟩

/-- The bytes lie in another block than the cursor's. -/
def Apart (ca : Option Addr) (cn bc : Nat) : Prop := 0 < cn → ∀ x, ca = some x → x.block ≠ bc

theorem RowB.keep {w w' : World} {ca : Option Addr} {cn bc : Nat} {bs : List Int} (h : RowB w ca cn bs) (ho : OnlyC bc w w') (hap : Apart ca cn bc) : RowB w' ca cn bs := by
  refine ⟨h.1, h.2.1, ?_⟩
  rcases h.2.2 with h0 | ⟨b, off, e, hl, hc⟩
  · exact .inl h0
  · refine .inr ⟨b, off, e, by rw [ho.size]; exact hl, fun i hi => ?_⟩
    rw [World.cell?_of_block (ho.block b (hap (by omega) _ e))]
    exact hc i hi

theorem next_any (bc : Nat) (ca : Option Addr) (cn cc p : Nat) (bs : List Int) (w : World) (h : Cur w bc ca cn cc p) (hr : RowB w ca cn bs) (hp : p ≤ 1000000) (hn : cn ≤ 1048576) :
    Calls Try.prog 105 #[.pointer (some ⟨bc, 0, none⟩)] w fun e w' => NextEnd bc ca cn cc p w e w' := by
  obtain ⟨s, hs⟩ := h
  by_cases hlt : p < cn
  · rcases hr.2.2 with h0 | ⟨b, off, e, hl, hc⟩
    · omega
    · exact next_in bc ca cn cc p s _ w hs hp hn hlt b off e (hc p hlt) (hr.2.1 p)
  · exact next_out bc ca cn cc p s w hs hp hn hlt

/-- How pick ends. -/
def PickEnd (m : Nat) (bc : Nat) (ca : Option Addr) (cn cc p : Nat) (w : World) (e : Ending) (w' : World) : Prop :=
  ∃ r : Nat, e = .returned (.int .i64 (r : Int)) ∧ r < m ∧ Cur w' bc ca cn cc (p + 1) ∧ OnlyC bc w w'

set_option maxHeartbeats 400000 in
theorem pick_any (m : Nat) (bc : Nat) (ca : Option Addr) (cn cc p : Nat) (bs : List Int) (w : World) (h : Cur w bc ca cn cc p) (hr : RowB w ca cn bs) (hp : p ≤ 1000000) (hn : cn ≤ 1048576) (h2 : 2 ≤ m) (h200 : m ≤ 200) :
    Calls Try.prog 51 #[.pointer (some ⟨bc, 0, none⟩), .int .i64 (m : Int)] w fun e w' => PickEnd m bc ca cn cc p w e w' := by
  have HN := hide (next_any bc ca cn cc p bs w h hr hp hn)
  clear h hr
  go_enter Try.func51, Try.ntmps51
  go_wp2_with fail
  refine HN.out.mono ?_
  rintro e w1 ⟨r, rfl, hr, hcur, ho⟩
  have HC := hide hcur
  have HO := hide ho
  clear hcur ho
  have hm : (2 : Int) ≤ (m : Int) := by omega
  have hm2 : (m : Int) ≤ 200 := by omega
  go_wp2
  go_ret
  have hmod : r % (m : Int) = ((r % (m : Int)).toNat : Int) := by have := Int.emod_nonneg r (show (m : Int) ≠ 0 by omega); omega
  have hlt : (r % (m : Int)).toNat < m := by have := Int.emod_lt_of_pos r (show (0 : Int) < (m : Int) by omega); omega
  have e : Ending.returned (Value.int .i64 (r % (m : Int))) = .returned (.int .i64 (((r % (m : Int)).toNat : Nat) : Int)) := by rw [← hmod]
  exact ⟨_, e, hlt, HC.out, HO.out⟩

set_option maxHeartbeats 400000 in
theorem one_any (m : Nat) (bc : Nat) (ca : Option Addr) (cn cc p : Nat) (bs : List Int) (w : World) (h : Cur w bc ca cn cc p) (hr : RowB w ca cn bs) (hp : p ≤ 1000000) (hn : cn ≤ 1048576) (h2 : 2 ≤ m) (h200 : m ≤ 200) :
    Calls Try.prog 53 #[.pointer (some ⟨bc, 0, none⟩), .int .i64 (m : Int)] w fun e w' => ∃ b : Bool, e = .returned (.bool b) ∧ Cur w' bc ca cn cc (p + 1) ∧ OnlyC bc w w' := by
  have HN := hide (pick_any m bc ca cn cc p bs w h hr hp hn h2 h200)
  clear h hr
  go_enter Try.func53, Try.ntmps53
  go_wp2_with fail
  refine HN.out.mono ?_
  rintro e w1 ⟨r, rfl, hr, hcur, ho⟩
  have HC := hide hcur
  have HO := hide ho
  clear hcur ho
  go_wp2
  go_ret
  exact ⟨_, rfl, HC.out, HO.out⟩

set_option maxHeartbeats 400000 in
theorem among_any (m c : Nat) (al : Option Addr) (ls : List Int) (bc : Nat) (ca : Option Addr) (cn cc p : Nat) (bs : List Int) (w : World) (h : Cur w bc ca cn cc p) (hr : RowB w ca cn bs) (hp : p ≤ 1000000) (hn : cn ≤ 1048576) (h2 : 2 ≤ m) (h200 : m ≤ 200)
    (hl : Row w al m ls) (hap : Apart al m bc) :
    Calls Try.prog 50 #[.pointer (some ⟨bc, 0, none⟩), .slice al m c] w fun e w' => ∃ x, e = .returned (.int .i64 x) ∧ x ∈ ls ∧ Cur w' bc ca cn cc (p + 1) ∧ OnlyC bc w w' := by
  have HN := hide (pick_any m bc ca cn cc p bs w h hr hp hn h2 h200)
  clear h hr
  go_enter Try.func50, Try.ntmps50
  go_wp2_with fail
  refine HN.out.mono ?_
  rintro e w1 ⟨r, rfl, hr, hcur, ho⟩
  obtain ⟨b1, o1, x, rfl, hl1, hc1, H1⟩ := hl.at hr
  have hc2 : w1.cell? ⟨b1, o1 + r, none⟩ = some (.int .i64 x) := (World.cell?_of_block (ho.block b1 (hap (by omega) _ rfl))).trans hc1
  have HC := hide hcur
  have HO := hide ho
  have hri : (r : Int) < (m : Int) := by omega
  clear hcur ho hl hc1 hap
  go_wp2
  go_ret
  exact ⟨x, rfl, List.mem_of_getElem? H1.out, HC.out, HO.out⟩

/-- Behind a call that moves the cursor in bc and makes memory: no other block below B has turned. -/
structure Kept (bc B : Nat) (w w' : World) : Prop where
  os : w'.os = w.os
  tape : w'.tape = w.tape
  output : w'.output = w.output
  size : w.heap.size ≤ w'.heap.size
  block : ∀ k, k < B → k ≠ bc → w'.heap[k]? = w.heap[k]?

theorem Kept.refl (bc B : Nat) (w : World) : Kept bc B w w := ⟨rfl, rfl, rfl, Nat.le_refl _, fun _ _ _ => rfl⟩
theorem Kept.trans {bc B : Nat} {a b c : World} (h : Kept bc B a b) (k : Kept bc B b c) : Kept bc B a c :=
  ⟨k.os.trans h.os, k.tape.trans h.tape, k.output.trans h.output, Nat.le_trans h.size k.size, fun i hi hne => (k.block i hi hne).trans (h.block i hi hne)⟩
theorem Kept.of_only {bc B : Nat} {w w' : World} (h : OnlyC bc w w') : Kept bc B w w' := ⟨h.os, h.tape, h.output, Nat.le_of_eq h.size.symm, fun k _ hne => h.block k hne⟩
theorem Kept.of_below {bc B : Nat} {w w' : World} (h : Below B w w') : Kept bc B w w' := ⟨h.os, h.tape, h.output, h.size, fun k hk _ => h.block k hk⟩
theorem Kept.mono {bc B C : Nat} {w w' : World} (h : Kept bc B w w') (hC : C ≤ B) : Kept bc C w w' := ⟨h.os, h.tape, h.output, h.size, fun k hk hne => h.block k (by omega) hne⟩
theorem Kept.below {bc B : Nat} {w w' : World} (h : Kept bc B w w') (hB : B ≤ bc) : Below B w w' := ⟨h.os, h.tape, h.output, h.size, fun k hk => h.block k hk (by omega)⟩

theorem Cur.lt {w : World} {bc : Nat} {ca : Option Addr} {cn cc p : Nat} (h : Cur w bc ca cn cc p) : bc < w.heap.size := by
  obtain ⟨s, hs⟩ := h; exact (Array.getElem?_eq_some_iff.mp hs).1
theorem Cur.below {w w' : World} {bc B : Nat} {ca : Option Addr} {cn cc p : Nat} (h : Cur w bc ca cn cc p) (hb : Below B w w') (hB : bc < B) : Cur w' bc ca cn cc p := by
  obtain ⟨s, hs⟩ := h; exact ⟨s, (hb.block bc hB).trans hs⟩

theorem RowB.kept {w w' : World} {ca : Option Addr} {cn bc : Nat} {bs : List Int} (h : RowB w ca cn bs) (ho : Kept bc w.heap.size w w') (hap : Apart ca cn bc) : RowB w' ca cn bs := by
  refine ⟨h.1, h.2.1, ?_⟩
  rcases h.2.2 with h0 | ⟨b, off, e, hl, hc⟩
  · exact .inl h0
  · refine .inr ⟨b, off, e, Nat.lt_of_lt_of_le hl ho.size, fun i hi => ?_⟩
    rw [World.cell?_of_block (ho.block b hl (hap (by omega) _ e))]
    exact hc i hi

theorem Row.kept {w w' : World} {a : Option Addr} {n bc : Nat} {xs : List Int} (h : Row w a n xs) (ho : Kept bc w.heap.size w w') (hap : Apart a n bc) : Row w' a n xs := by
  refine ⟨h.1, ?_⟩
  rcases h.2 with h0 | ⟨b, off, e, hl, hc⟩
  · exact .inl h0
  · refine .inr ⟨b, off, e, Nat.lt_of_lt_of_le hl ho.size, fun i hi => ?_⟩
    rw [World.cell?_of_block (ho.block b hl (hap (by omega) _ e))]
    exact hc i hi

set_option maxHeartbeats 400000 in
theorem places_draw (bc : Nat) (ca : Option Addr) (cn cc p : Nat) (bs : List Int) (w : World) (h : Cur w bc ca cn cc p) (hr : RowB w ca cn bs) (hap : Apart ca cn bc) (hp : p ≤ 1000000) (hn : cn ≤ 1048576) :
    Calls Try.prog 111 #[.pointer (some ⟨bc, 0, none⟩)] w fun e w' => ∃ x : Int, e = .returned (.int .i64 x) ∧ (0 ≤ x ∧ x ≤ 17) ∧ Cur w' bc ca cn cc (p + 1) ∧ Kept bc w.heap.size w w' := by
  have hbc := h.lt
  have HB := hide ((Below.refl w.heap.size w).alloc (Nat.le_refl _) (.cells (cellsOf [1, 2, 3, 4, 5, 16, 0, 17]) 3))
  have HN := hide (among_any 8 8 (some ⟨w.heap.size, 0, none⟩) [1, 2, 3, 4, 5, 16, 0, 17] bc ca cn cc p bs (w.alloc (.cells (cellsOf [1, 2, 3, 4, 5, 16, 0, 17]) 3)) (h.below HB.out hbc) (hr.kept (Kept.of_below HB.out) hap) hp hn (by omega) (by omega)
    (row_new w _ 8 _ rfl rfl) (by intro _ x hx; obtain rfl := Option.some.inj hx; simp; omega))
  clear h hr
  go_enter Try.func111, Try.ntmps111
  go_wp2_with fail
  refine HN.out.mono ?_
  rintro e w1 ⟨x, rfl, hx, hcur, ho⟩
  have HC := hide hcur
  have HO := hide ho
  have hx2 : 0 ≤ x ∧ x ≤ 17 := by simp at hx; omega
  clear hcur ho hx
  go_wp2
  go_ret
  exact ⟨x, rfl, hx2, HC.out, (Kept.of_below HB.out).trans (Kept.of_only HO.out)⟩
end Go.Proofs.Ytegabkegbhglfaa


/- someOf: some rising numbers in new memory, whatever the bytes; nothing that was there is written but the cursor. -/
namespace Go.Proofs.Ytegabkegbhglfaa
open Go.RowKit
set_option maxRecDepth 10000

/-- A list that is nil, or lies from the head of a block at B or behind. -/
def NewL (B : Nat) (w : World) (a : Option Addr) (n c : Nat) (xs : List Int) : Prop :=
  (a = none ∧ n = 0 ∧ c = 0 ∧ xs = []) ∨ ∃ g, a = some ⟨g, 0, none⟩ ∧ B ≤ g ∧ 1 ≤ n ∧ n ≤ c ∧ c ≤ maxLen ∧ Row w a n xs

theorem NewL.row {B : Nat} {w : World} {a : Option Addr} {n c : Nat} {xs : List Int} (h : NewL B w a n c xs) : Row w a n xs := by
  rcases h with ⟨rfl, rfl, rfl, rfl⟩ | ⟨g, _, _, _, _, _, hr⟩
  · exact ⟨rfl, .inl rfl⟩
  · exact hr

theorem NewL.keep {B : Nat} {w w' : World} {a : Option Addr} {n c : Nat} {xs : List Int} (h : NewL B w a n c xs) (hs : w.heap.size ≤ w'.heap.size) (hk : ∀ g, B ≤ g → g < w.heap.size → (∃ o, a = some o ∧ o.block = g) → w'.heap[g]? = w.heap[g]?) : NewL B w' a n c xs := by
  rcases h with h | ⟨g, rfl, hB, h1, h2, h3, hr⟩
  · exact .inl h
  · refine .inr ⟨g, rfl, hB, h1, h2, h3, hr.1, ?_⟩
    rcases hr.2 with h0 | ⟨b, off, e, hl, hc⟩
    · exact .inl h0
    · obtain ⟨rfl, rfl⟩ : b = g ∧ off = 0 := by simpa [eq_comm] using e
      exact .inr ⟨b, 0, rfl, by omega, fun i hi => (World.cell?_of_block (hk b hB hl ⟨_, rfl, rfl⟩)).trans (hc i hi)⟩

theorem NewL.kept {B bc C : Nat} {w w' : World} {a : Option Addr} {n c : Nat} {xs : List Int} (h : NewL B w a n c xs) (hk : Kept bc C w w') (hC : w.heap.size ≤ C) (hb : bc < B) : NewL B w' a n c xs :=
  h.keep hk.size fun g hg hl _ => hk.block g (by omega) (by omega)
theorem NewL.mono {B C : Nat} {w : World} {a : Option Addr} {n c : Nat} {xs : List Int} (h : NewL B w a n c xs) (hC : C ≤ B) : NewL C w a n c xs := by
  rcases h with h | ⟨g, e, hB, h1⟩
  · exact .inl h
  · exact .inr ⟨g, e, by omega, h1⟩

/-- What is there while someOf draws. -/
structure SomeSt (w v : World) (bc : Nat) (ca : Option Addr) (cn cc p : Nat) (bs : List Int) (u : Value) (m : Nat) : Prop where
  new : ∃ a n c xs, u = .slice a n c ∧ n ≤ m ∧ NewL w.heap.size v a n c xs
  cur : Cur v bc ca cn cc p
  bytes : RowB v ca cn bs
  kept : Kept bc w.heap.size w v

/-- How someOf ends. -/
def SomeEnd (bc : Nat) (ca : Option Addr) (cn cc p : Nat) (bs : List Int) (w : World) (e : Ending) (w' : World) : Prop :=
  ∃ a n c xs p', e = .returned (.slice a n c) ∧ n ≤ 2 ∧ NewL w.heap.size w' a n c xs ∧ p' ≤ p + 3 ∧ Cur w' bc ca cn cc p' ∧ RowB w' ca cn bs ∧ Kept bc w.heap.size w w'

theorem SomeSt.only {w v v' : World} {bc : Nat} {ca : Option Addr} {cn cc p p' : Nat} {bs : List Int} {u : Value} {m : Nat} (h : SomeSt w v bc ca cn cc p bs u m) (ho : OnlyC bc v v') (hc : Cur v' bc ca cn cc p') (hap : Apart ca cn bc) (hb : bc < w.heap.size) : SomeSt w v' bc ca cn cc p' bs u m := by
  obtain ⟨a, n, c, xs, e, hn, hl⟩ := h.new
  exact ⟨⟨a, n, c, xs, e, hn, hl.kept (Kept.of_only (B := v.heap.size) ho) (Nat.le_refl _) hb⟩, hc, h.bytes.keep ho hap, h.kept.trans (Kept.of_only ho)⟩

/-- A put. -/
theorem SomeSt.put {w v : World} {bc : Nat} {ca : Option Addr} {cn cc p : Nat} {bs : List Int} {u : Value} {m : Nat} (h : SomeSt w v bc ca cn cc p bs u m) (hm : m ≤ 100) (x : Int) (hap : Apart ca cn bc) :
    Calls Try.prog 135 #[u, .int .i64 x] v fun e v' => ∃ u', e = .returned u' ∧ SomeSt w v' bc ca cn cc p bs u' (m + 1) := by
  have hcl := h.cur.lt
  have fin : ∀ {n b : Nat} {e : Ending} {v' : World}, n ≤ m → w.heap.size ≤ b → PutEnd n b v e v' → ∃ u', e = .returned u' ∧ SomeSt w v' bc ca cn cc p bs u' (m + 1) := by
    rintro n b e v' hn hgb ⟨g, n', c', ys, rfl, h1, h2, h3, h4, h5, h6, h7⟩
    refine ⟨_, rfl, ⟨_, _, _, ys, rfl, by omega, .inr ⟨g, rfl, ?_, h1, h3, h4, h5⟩⟩, h.cur.below h7 hcl, h.bytes.kept (Kept.of_below h7) hap, h.kept.trans ((Kept.of_below h7).mono h.kept.size)⟩
    have := h.kept.size
    rcases h6 with rfl | h6
    · exact hgb
    · omega
  obtain ⟨a, n, c, xs, rfl, hn, hl⟩ := h.new
  rcases hl with ⟨rfl, rfl, rfl, rfl⟩ | ⟨g, rfl, hB, h1, h2, h3, hr⟩
  · exact (put_nil x v).mono fun e v' he => fin (Nat.zero_le _) h.kept.size he
  · exact (put_some g n c xs x v hr (by omega) h1 h2 h3).mono fun e v' he => fin hn hB he

theorem SomeSt.done {w v : World} {bc : Nat} {ca : Option Addr} {cn cc p q : Nat} {bs : List Int} {u : Value} {m : Nat} (h : SomeSt w v bc ca cn cc q bs u m) (hm : m ≤ 2) (hq : q ≤ p + 3) : SomeEnd bc ca cn cc p bs w (.returned u) v := by
  obtain ⟨a, n, c, xs, rfl, hn, hl⟩ := h.new
  exact ⟨a, n, c, xs, q, rfl, by omega, hl, hq, h.cur, h.bytes, h.kept⟩

set_option maxHeartbeats 1000000 in
theorem some_draw (pl lo : Nat) (bc : Nat) (ca : Option Addr) (cn cc p : Nat) (bs : List Int) (w : World) (h : Cur w bc ca cn cc p) (hr : RowB w ca cn bs) (hap : Apart ca cn bc) (hp : p ≤ 900000) (hn : cn ≤ 1048576) (hpl : 2 ≤ pl) (hpl2 : pl ≤ 200) (hlo : lo ≤ 1) :
    Calls Try.prog 136 #[.pointer (some ⟨bc, 0, none⟩), .int .i64 (pl : Int), .int .i64 (lo : Int), .int .i64 2] w fun e w' => SomeEnd bc ca cn cc p bs w e w' := by
  have hbc := h.lt
  have ST := hide (SomeSt.mk (w := w) (u := .slice none 0 0) (m := 0) ⟨none, 0, 0, [], rfl, Nat.le_refl _, .inl ⟨rfl, rfl, rfl, rfl⟩⟩ h hr (Kept.refl bc _ w))
  have HP := hide (pick_any (3 - lo) bc ca cn cc p bs w h hr (by omega) hn (by omega) (by omega))
  rw [show ((3 - lo : Nat) : Int) = 2 - (lo : Int) + 1 by omega] at HP
  clear h hr
  go_enter Try.func136, Try.ntmps136
  go_wp2_with fail
  refine HP.out.mono ?_
  rintro e v1 ⟨r, rfl, hr, hcur, ho⟩
  have S1 := hide (ST.out.only ho hcur hap hbc)
  clear hcur ho ST HP
  go_wp2_with fail
  go_loopw [9, 10] (fun u i wr => ∃ k q m : Nat, i = .int .i64 k ∧ k + m ≤ 2 ∧ q + k ≤ p + 3 ∧ Hid (SomeSt w wr bc ca cn cc q bs u m)) (fun _ i _ => (intOf i).toNat)
  case atStart => exact ⟨lo + r, p + 1, 0, by go_num, by omega, by omega, S1⟩
  case round =>
    obtain ⟨k, q, m, rfl, hkm, hq, S0⟩ := hrel
    clear S1
    by_cases hlt : 0 < k
    · have hi1 : (0 : Int) < (k : Int) := by omega
      go_wp2_with fail
      refine (pick_any pl bc ca cn cc q bs _ S0.out.cur S0.out.bytes (by omega) hn hpl hpl2).mono ?_
      rintro e v2 ⟨x, rfl, hx, hcur, ho⟩
      have S2 := hide (S0.out.only ho hcur hap hbc)
      clear hcur ho S0
      go_wp2_with fail
      refine (S2.out.put (by omega) _ hap).mono ?_
      rintro e v3 ⟨u', rfl, S3'⟩
      have S3 := hide S3'
      clear S3' S2
      go_wp2_with fail
      go_roundw
      case rel => exact ⟨k - 1, q + 1, m + 1, by go_num, by omega, by omega, S3⟩
      case measure => simp [intOf]; omega
    · have hk0 : k = 0 := by omega
      subst hk0
      go_wp2_with fail
      go_ret
      exact S0.out.done (by omega) (by omega)
end Go.Proofs.Ytegabkegbhglfaa
