/- Contracts that the proof stands on, one behind the other. -/
import Derived.Test.YtegabkegbhglfaaP1
import Derived.Laws.StructEq
import Derived.Shelf.SlSortCmp.WholeK
import Derived.Shelf.SlGeneric
import Derived.Ground.SlsfProg
import Derived.Test.YtegabkegbhglfaaProg
/- What both Covers answer, for every number of places and every two lists: whether each number of the first is at least that of the second, and true, where both are good marks, else false and false; nothing that was there is written. -/
namespace Go.Proofs.Ytegabkegbhglfaa
open Go.RowKit
set_option maxRecDepth 10000

theorem _root_.Go.RowKit.Below.drewN {B : Nat} {a w : World} (h : Below B a w) (q : Nat) : Below B a (w.drewN q) := ⟨h.os, h.tape, h.output, h.size, h.block⟩

def getF (xs : List Int) : Nat → Int := fun i => xs.getD i 0

theorem getF_of {xs : List Int} {k : Nat} {x : Int} (h : Hid (xs[k]? = some x)) : getF xs k = x := by simp [getF, h.out]

/-- Each number of the list is in 0..50. -/
def Small (f : Nat → Int) : Prop := ∀ i, 0 ≤ f i ∧ f i ≤ 50

theorem good_parts {p : Int} {xs : List Int} (h : goodB p xs = true) : Small (getF xs) ∧ xs.length ≤ 16 ∧ 1 ≤ xs.length ∧ (xs.length : Int) = p := by
  simp only [goodB, Bool.and_eq_true, decide_eq_true_eq] at h
  obtain ⟨⟨h1, h2⟩, h3⟩ := h
  refine ⟨fun i => ?_, (inB_le h1 h2).2, (inB_le h1 h2).1, h2⟩
  unfold getF
  by_cases hi : i < xs.length
  · rw [List.getD_eq_getElem?_getD, List.getElem?_eq_getElem hi]
    have := List.all_eq_true.mp h3 xs[i] (List.getElem_mem hi)
    simp [inB] at this
    simpa using this
  · rw [List.getD_eq_getElem?_getD, List.getElem?_eq_none (by omega)]
    simp

theorem small_fOf {xs : List Int} (h : Small (getF xs)) (n : Nat) : Small (fOf xs n) := by
  intro i
  unfold fOf
  split
  · exact h i
  · omega

/-- The first k numbers of f are at least those of g. -/
def CovUpto (f g : Nat → Int) (k : Nat) : Prop := ∀ i, i < k → g i ≤ f i
def covF (f g : Nat → Int) (n : Nat) : Bool := (List.range n).all fun i => decide (g i ≤ f i)

theorem covF_yes {f g : Nat → Int} {n : Nat} (h : CovUpto f g n) : covF f g n = true := by
  simp only [covF, List.all_eq_true, List.mem_range, decide_eq_true_eq]; exact h

theorem covF_iff {f g : Nat → Int} {n : Nat} : covF f g n = true ↔ CovUpto f g n := by
  simp [covF, CovUpto]

theorem covF_no {f g : Nat → Int} {n k : Nat} (hk : k < n) (h : f k < g k) : covF f g n = false := by
  rw [Bool.eq_false_iff]
  intro hc
  have := covF_iff.mp hc k hk
  omega

theorem CovUpto.step {f g : Nat → Int} {k : Nat} (h : CovUpto f g k) (hk : g k ≤ f k) : CovUpto f g (k + 1) := by
  intro i hi
  by_cases e : i = k
  · subst e; exact hk
  · exact h i (by omega)

theorem covF_pad (xs ys : List Int) (n : Nat) (hn : n ≤ 16) : covF (fOf xs n) (fOf ys n) 16 = covF (getF xs) (getF ys) n := by
  rw [Bool.eq_iff_iff, covF_iff, covF_iff]
  constructor
  · intro h i hi
    have := h i (by omega)
    unfold fOf at this
    rw [if_pos hi, if_pos hi] at this
    exact this
  · intro h i hi
    unfold fOf
    by_cases e : i < n
    · rw [if_pos e, if_pos e]; exact h i e
    · rw [if_neg e, if_neg e]; exact Int.le_refl 0

set_option maxHeartbeats 400000 in
theorem cov_any (f g : Nat → Int) (w : World) :
    Calls Try.prog 61 #[.agg (tokF f), .agg (tokF g)] w fun e w' => BoolEnd (covF f g 16) w e w' := by
  go_enter Try.func61, Try.ntmps61
  go_wp2
  go_loopw [6] (fun i wr => ∃ k : Nat, k ≤ 16 ∧ i = .int .i64 k ∧ CovUpto f g k ∧ ∃ q, wr = ((w.alloc (.cells (tokF f) 82)).alloc (.cells (tokF g) 82)).drewN q) (fun i _ => 16 - (intOf i).toNat)
  case atStart => exact ⟨0, Nat.zero_le _, rfl, fun i hi => absurd hi (by omega), 0, rfl⟩
  case round =>
    obtain ⟨k, hk, rfl, hu, q, rfl⟩ := hrel
    by_cases hlt : k < 16
    · have h1 := tokF_at f k hlt
      have h2 := tokF_at g k hlt
      have hi1 : ((k : Int)) < 16 := by omega
      by_cases he : f k < g k
      · have HC := hide (covF_no hlt he)
        obtain ⟨x, hx⟩ : ∃ x, Hid (f k = x) := ⟨_, rfl⟩
        obtain ⟨y, hy⟩ : ∃ y, Hid (g k = y) := ⟨_, rfl⟩
        rw [hx.out] at h1 he
        rw [hy.out] at h2 he
        clear hu
        go_wp2
        go_quiet (fail)
        go_wp2
        go_ret
        exact ⟨ret_bool HC.out.symm, by first | exact (below_two w _ _).drewN _ | exact ((below_two w _ _).drewN _).drewN _⟩
      · have HU := hu.step (by omega)
        obtain ⟨x, hx⟩ : ∃ x, Hid (f k = x) := ⟨_, rfl⟩
        obtain ⟨y, hy⟩ : ∃ y, Hid (g k = y) := ⟨_, rfl⟩
        rw [hx.out] at h1 he
        rw [hy.out] at h2 he
        have HUU := hide HU
        clear hu HU
        go_wp2
        go_quiet (fail)
        go_wp2
        go_roundw
        case rel => exact ⟨k + 1, by omega, by go_num, HUU.out, _, rfl⟩
        case measure => simp [intOf]; omega
    · have hk' : k = 16 := by omega
      subst hk'
      have HC := hide (covF_yes hu)
      clear hu
      go_wp2
      go_ret
      exact ⟨ret_bool HC.out.symm, by first | exact (below_two w _ _).drewN _ | exact ((below_two w _ _).drewN _).drewN _⟩

set_option maxHeartbeats 400000 in
theorem covS_any (a b : Option Addr) (n ca cb : Nat) (xs ys : List Int) (w : World) (ha : Row w a n xs) (hb : Row w b n ys) (hn : n ≤ 16) :
    Calls Try.prog 108 #[.slice a n ca, .slice b n cb] w fun e w' => e = .returned (.bool (covF (getF xs) (getF ys) n)) ∧ w' = w := by
  go_enter Try.func108, Try.ntmps108
  go_wp2
  go_loop [9] (fun i => ∃ k : Nat, k ≤ n ∧ i = .int .i64 k ∧ CovUpto (getF xs) (getF ys) k) (fun i => n - (intOf i).toNat)
  case atStart => exact ⟨0, Nat.zero_le _, rfl, fun i hi => absurd hi (by omega)⟩
  case round =>
    obtain ⟨k, hk, rfl, hu⟩ := hrel
    by_cases hlt : k < n
    · obtain ⟨b1, o1, x, rfl, hl1, hc1, H1⟩ := ha.at hlt
      obtain ⟨b2, o2, y, rfl, hl2, hc2, H2⟩ := hb.at hlt
      have hi1 : ((k : Int)) < ((n : Int)) := by omega
      by_cases he : x < y
      · have HC := hide (covF_no (f := getF xs) (g := getF ys) hlt (by rw [getF_of H1, getF_of H2]; exact he))
        clear ha hb hu H1 H2
        go_wp2
        go_ret
        exact ⟨ret_bool HC.out.symm, rfl⟩
      · have HU := hide (hu.step (by rw [getF_of H1, getF_of H2]; omega))
        clear ha hb hu H1 H2
        go_wp2
        go_round
        case rel => exact ⟨k + 1, by omega, by go_num, HU.out⟩
        case measure => simp [intOf]; omega
    · have hk' : k = n := by omega
      subst hk'
      have HC := hide (covF_yes hu)
      clear hu
      go_wp2
      go_ret
      exact ⟨ret_bool HC.out.symm, rfl⟩

set_option maxHeartbeats 400000 in
theorem two_any (p : Int) (a b : Option Addr) (n m ca cb : Nat) (xs ys : List Int) (w : World) (ha : Row w a n xs) (hb : Row w b m ys) (hn : n ≤ 1048576) (hm : m ≤ 1048576) :
    Calls Try.prog 64 #[.int .i64 p, .slice a n ca, .slice b m cb] w fun e w' => e = .returned (.bool (goodB p xs && goodB p ys)) ∧ w' = w := by
  have HA := hide (goodS_any p a n ca xs w ha hn)
  have HB := hide (goodS_any p b m cb ys w hb hm)
  clear ha hb
  by_cases hg : goodB p xs = true
  · go_enter Try.func64, Try.ntmps64
    go_wp2_with fail
    refine HA.out.mono ?_
    rintro e w' ⟨rfl, rfl⟩
    go_wp2_with fail
    refine HB.out.mono ?_
    rintro e w' ⟨rfl, rfl⟩
    go_wp2
    go_ret
    exact ⟨by rw [hg]; rfl, rfl⟩
  · have hg' : goodB p xs = false := by simpa using hg
    clear hg
    go_enter Try.func64, Try.ntmps64
    go_wp2_with fail
    refine HA.out.mono ?_
    rintro e w' ⟨rfl, rfl⟩
    go_wp2
    go_ret
    exact ⟨by rw [hg']; rfl, rfl⟩

def covB (p : Int) (xs ys : List Int) : Bool := goodB p xs && goodB p ys && covF (getF xs) (getF ys) xs.length

def CovEnd (p : Int) (xs ys : List Int) (w : World) (e : Ending) (w' : World) : Prop :=
  e = .returned (.tuple #[.bool (covB p xs ys), .bool (goodB p xs && goodB p ys)]) ∧ Below w.heap.size w w'

theorem covEnd_no {p : Int} {xs ys : List Int} {w w' : World} (h : (goodB p xs && goodB p ys) = false) (hb : Below w.heap.size w w') : CovEnd p xs ys w (.returned (.tuple #[.bool false, .bool false])) w' := by
  refine ⟨?_, hb⟩; unfold covB; rw [h]; rfl

theorem covEnd_yes {p : Int} {xs ys : List Int} {w w' : World} {c : Bool} (h : (goodB p xs && goodB p ys) = true) (hc : covF (getF xs) (getF ys) xs.length = c) (hb : Below w.heap.size w w') : CovEnd p xs ys w (.returned (.tuple #[.bool c, .bool true])) w' := by
  refine ⟨?_, hb⟩; unfold covB; rw [h, hc]; simp

theorem two_len {p : Int} {xs ys : List Int} (h : (goodB p xs && goodB p ys) = true) : xs.length = ys.length ∧ xs.length ≤ 16 := by
  rw [Bool.and_eq_true] at h
  have h1 := good_parts h.1
  have h2 := good_parts h.2
  omega

set_option maxHeartbeats 1000000 in
theorem coversI_any (p : Int) (a b : Option Addr) (n m ca cb : Nat) (xs ys : List Int) (w : World) (ha : Row w a n xs) (hb : Row w b m ys) (hn : n ≤ 1048576) (hm : m ≤ 1048576) :
    Calls Try.prog 13 #[.int .i64 p, .slice a n ca, .slice b m cb] w fun e w' => CovEnd p xs ys w e w' := by
  have ht := bothT_any p a b n m ca cb xs ys w ha hb hn hm
  obtain ⟨g, hg⟩ : ∃ g, Hid ((goodB p xs && goodB p ys) = g) := ⟨_, rfl⟩
  rw [hg.out] at ht
  have HT := hide ht
  have hla := hide ha.1
  have hlb := hide hb.1
  clear ht ha hb
  go_enter Try.func13, Try.ntmps13
  go_wp2_with fail
  refine HT.out.mono ?_
  rintro e w1 ⟨k, l, rfl, hkl, hb1⟩
  have hg0 := heap_alloc2_old w1 (.cells #[.int .u8 0, .int .u8 0, .int .u8 0, .int .u8 0, .int .u8 0, .int .u8 0, .int .u8 0, .int .u8 0, .int .u8 0, .int .u8 0, .int .u8 0, .int .u8 0, .int .u8 0, .int .u8 0, .int .u8 0, .int .u8 0] 82) (.cells #[.int .u8 0, .int .u8 0, .int .u8 0, .int .u8 0, .int .u8 0, .int .u8 0, .int .u8 0, .int .u8 0, .int .u8 0, .int .u8 0, .int .u8 0, .int .u8 0, .int .u8 0, .int .u8 0, .int .u8 0, .int .u8 0] 82)
  have hg1 : (((w1.alloc (.cells #[.int .u8 0, .int .u8 0, .int .u8 0, .int .u8 0, .int .u8 0, .int .u8 0, .int .u8 0, .int .u8 0, .int .u8 0, .int .u8 0, .int .u8 0, .int .u8 0, .int .u8 0, .int .u8 0, .int .u8 0, .int .u8 0] 82)).alloc (.cells #[.int .u8 0, .int .u8 0, .int .u8 0, .int .u8 0, .int .u8 0, .int .u8 0, .int .u8 0, .int .u8 0, .int .u8 0, .int .u8 0, .int .u8 0, .int .u8 0, .int .u8 0, .int .u8 0, .int .u8 0, .int .u8 0] 82)).setRow w1.heap.size (packOf xs k)).heap[w1.heap.size + 1]? = some (.cells #[.int .u8 0, .int .u8 0, .int .u8 0, .int .u8 0, .int .u8 0, .int .u8 0, .int .u8 0, .int .u8 0, .int .u8 0, .int .u8 0, .int .u8 0, .int .u8 0, .int .u8 0, .int .u8 0, .int .u8 0, .int .u8 0] 82 (0, 0)) := by
    rw [setRow_other _ _ _ _ (by omega)]; exact heap_alloc2_new _ _ _
  have hg3 := setRow_same hg1 (packOf ys l)
  have hg2 := (setRow_other (((w1.alloc (.cells #[.int .u8 0, .int .u8 0, .int .u8 0, .int .u8 0, .int .u8 0, .int .u8 0, .int .u8 0, .int .u8 0, .int .u8 0, .int .u8 0, .int .u8 0, .int .u8 0, .int .u8 0, .int .u8 0, .int .u8 0, .int .u8 0] 82)).alloc (.cells #[.int .u8 0, .int .u8 0, .int .u8 0, .int .u8 0, .int .u8 0, .int .u8 0, .int .u8 0, .int .u8 0, .int .u8 0, .int .u8 0, .int .u8 0, .int .u8 0, .int .u8 0, .int .u8 0, .int .u8 0, .int .u8 0] 82)).setRow w1.heap.size (packOf xs k)) (w1.heap.size + 1) w1.heap.size (packOf ys l) (by omega)).trans (setRow_same hg0 (packOf xs k))
  have hbW := below_setRow (below_setRow (((hb1.alloc hb1.size (.cells #[.int .u8 0, .int .u8 0, .int .u8 0, .int .u8 0, .int .u8 0, .int .u8 0, .int .u8 0, .int .u8 0, .int .u8 0, .int .u8 0, .int .u8 0, .int .u8 0, .int .u8 0, .int .u8 0, .int .u8 0, .int .u8 0] 82)).alloc (by have := hb1.size; simp; omega) (.cells #[.int .u8 0, .int .u8 0, .int .u8 0, .int .u8 0, .int .u8 0, .int .u8 0, .int .u8 0, .int .u8 0, .int .u8 0, .int .u8 0, .int .u8 0, .int .u8 0, .int .u8 0, .int .u8 0, .int .u8 0, .int .u8 0] 82))) w1.heap.size hb1.size (packOf xs k)) (w1.heap.size + 1) (by have := hb1.size; omega) (packOf ys l)
  obtain ⟨W, hW⟩ : ∃ W, Hid (W = ((((w1.alloc (.cells #[.int .u8 0, .int .u8 0, .int .u8 0, .int .u8 0, .int .u8 0, .int .u8 0, .int .u8 0, .int .u8 0, .int .u8 0, .int .u8 0, .int .u8 0, .int .u8 0, .int .u8 0, .int .u8 0, .int .u8 0, .int .u8 0] 82)).alloc (.cells #[.int .u8 0, .int .u8 0, .int .u8 0, .int .u8 0, .int .u8 0, .int .u8 0, .int .u8 0, .int .u8 0, .int .u8 0, .int .u8 0, .int .u8 0, .int .u8 0, .int .u8 0, .int .u8 0, .int .u8 0, .int .u8 0] 82)).setRow w1.heap.size (packOf xs k)).setRow (w1.heap.size + 1) (packOf ys l))) := ⟨_, rfl⟩
  rw [← hW.out] at hg2 hg3 hbW
  have HW := hide hbW
  clear hb1 hbW HT
  cases g
  · go_wp2_with (first
      | refine wpList_store_row rfl 82 (.tmp 8) _ rfl _ _ rfl rfl 82 _ hg0 (by rw [packOf_size]; exact Try.size82) (by rw [packOf_size]; rfl) (packOf_one _ _) ?_
      | (refine wpList_store_row rfl 82 (.tmp 9) _ rfl _ _ rfl rfl 82 _ hg1 (by rw [packOf_size]; exact Try.size82) (by rw [packOf_size]; rfl) (packOf_one _ _) ?_; rw [← hW.out]; clear hg0 hg1))
    go_ret2
    exact covEnd_no hg.out HW.out
  · go_wp2_with (first
      | refine wpList_store_row rfl 82 (.tmp 8) _ rfl _ _ rfl rfl 82 _ hg0 (by rw [packOf_size]; exact Try.size82) (by rw [packOf_size]; rfl) (packOf_one _ _) ?_
      | (refine wpList_store_row rfl 82 (.tmp 9) _ rfl _ _ rfl rfl 82 _ hg1 (by rw [packOf_size]; exact Try.size82) (by rw [packOf_size]; rfl) (packOf_one _ _) ?_; rw [← hW.out]; clear hg0 hg1)
      | refine wpList_load_row rfl 82 (.tmp 8) rfl _ rfl 82 (packOf xs k) (0, 0) _ hg2 Try.underlying82 rfl (by rw [packOf_size]; exact Try.size82) ?_
      | refine wpList_load_row rfl 82 (.tmp 9) rfl _ rfl 82 (packOf ys l) (0, 0) _ hg3 Try.underlying82 rfl (by rw [packOf_size]; exact Try.size82) ?_)
    refine (cov_any (fOf xs k) (fOf ys l) _).mono ?_
    rintro e w2 ⟨rfl, hb2⟩
    have hl := two_len hg.out
    obtain ⟨rfl, rfl⟩ := hkl.out trivial
    have hcv : covF (fOf xs k) (fOf ys l) 16 = covF (getF xs) (getF ys) xs.length := by
      have e1 := hla.out
      have e2 := hlb.out
      obtain rfl : k = l := by omega
      rw [covF_pad xs ys k (by omega), hla.out]
    have HY := hide (covEnd_yes (w := w) hg.out hcv.symm (HW.out.trans (hb2.mono HW.out.size)))
    clear hg2 hg3 hb2 hl hcv hkl
    go_wp2
    go_ret2
    exact HY.out
end Go.Proofs.Ytegabkegbhglfaa


/- What both CompareMarks answer, for every number of places and every two lists: -1, 0 or 1 by the first number in which they part, and true, where both are good marks, else 0 and false; nothing that was there is written. -/
namespace Go.Proofs.Ytegabkegbhglfaa
open Go.RowKit

theorem Try.size5 : (Try.prog.info? 5).map (·.size) = some 1 := by kernel_rfl

def eqF (f g : Nat → Int) (l : List Nat) : Bool := l.all fun i => f i == g i

theorem run_part_tok (f : Nat → Int) (i : Nat) (hi : i < 16) (w : World) : (part 5 (tokF f) i).run Try.prog w = .ok (.int .u8 (f i)) w := by
  have h := tokF_at f i hi
  simp [part, isAgg, run_underlying Try.underlying5, h, go_sem]

theorem run_equalIn_tok (d e : Nat) (hd : d = e + 1) (f g : Nat → Int) (w : World) : (Op.equalIn (d + 1) 82 (.agg (tokF f)) (.agg (tokF g))).run Try.prog w = .ok (eqF f g (List.range 16)) w := by
  obtain ⟨i, hi, hs⟩ := Option.map_eq_some_iff.1 Try.size5
  simp only [Op.equalIn, Sem.run_bind, run_underlying Try.underlying82, Result.andThen_ok, sizeOf, typeInfo, run_program, hi, hs, Sem.run_pure, Std.Legacy.Range.forIn_eq_forIn_range', Nat.mul_one]
  have key : ∀ l : List Nat, (∀ i ∈ l, i < 16) → ∀ w : World, (Sem.run Try.prog (forIn l ((none : Option Bool), ()) fun i __s => do
      let a ← part 5 (tokF f) i
      let b ← part 5 (tokF g) i
      let r ← Op.equalIn d 5 a b
      if (!r) = true then pure (ForInStep.done (some false, ())) else pure (ForInStep.yield (none, ()))) w) = .ok (if eqF f g l = true then (none, ()) else (some false, ())) w := by
    intro l
    induction l with
    | nil => intro _ w; simp [eqF]
    | cons j l ih =>
      intro hl w
      have hj := hl j (by simp)
      have e1 : (Op.equalIn d 5 (.int .u8 (f j)) (.int .u8 (g j))).run Try.prog w = .ok (f j == g j) w := by
        rw [hd]; exact run_equalIn_int w e 5 .u8 .u8 _ _ Try.underlying5
      simp only [List.forIn_cons, Sem.run_bind, run_part_tok f j hj, run_part_tok g j hj, Result.andThen_ok, e1, Sem.run_ite]
      by_cases hq : f j = g j
      · have hq2 : (f j == g j) = true := by simp [hq]
        simp only [hq2, Bool.not_true, Bool.false_eq_true, if_false, Sem.run_pure, Result.andThen_ok]
        rw [ih (fun i h => hl i (by simp [h])) w]
        simp [eqF, hq2]
      · have hq2 : (f j == g j) = false := by simp [hq]
        simp only [hq2, Bool.not_false, if_true, Sem.run_pure, Result.andThen_ok]
        simp [eqF, hq2]
  have k16 := key (List.range' 0 16) (by intro i hi; simp [List.mem_range'] at hi; omega) w
  rw [show [:16].size = 16 from rfl, k16, show List.range 16 = List.range' 0 16 from rfl]
  cases eqF f g (List.range' 0 16) <;> rfl

def cmpN (f g : Nat → Int) : Nat → Nat → Int
  | 0, _ => 0
  | n + 1, k => if f k < g k then -1 else if g k < f k then 1 else cmpN f g n (k + 1)

def EqUpto (f g : Nat → Int) (k : Nat) : Prop := ∀ i, i < k → f i = g i

theorem EqUpto.step {f g : Nat → Int} {k : Nat} (h : EqUpto f g k) (h1 : ¬ f k < g k) (h2 : ¬ g k < f k) : EqUpto f g (k + 1) := by
  intro i hi
  by_cases e : i = k
  · subst e; omega
  · exact h i (by omega)

theorem cmpN_skip {f g : Nat → Int} {n k : Nat} (h : EqUpto f g k) (hk : k ≤ n) : cmpN f g n 0 = cmpN f g (n - k) k := by
  induction k with
  | zero => rfl
  | succ k ih =>
    rw [ih (fun i hi => h i (by omega)) (by omega), show n - k = (n - (k + 1)) + 1 by omega]
    have := h k (by omega)
    simp only [cmpN]
    rw [if_neg (by omega), if_neg (by omega)]

theorem cmpN_lt {f g : Nat → Int} {n k : Nat} (h : EqUpto f g k) (hk : k < n) (hl : f k < g k) : cmpN f g n 0 = -1 := by
  rw [cmpN_skip h (by omega), show n - k = (n - (k + 1)) + 1 by omega]
  simp only [cmpN]; rw [if_pos hl]

theorem cmpN_gt {f g : Nat → Int} {n k : Nat} (h : EqUpto f g k) (hk : k < n) (hl : g k < f k) : cmpN f g n 0 = 1 := by
  rw [cmpN_skip h (by omega), show n - k = (n - (k + 1)) + 1 by omega]
  simp only [cmpN]; rw [if_neg (by omega), if_pos hl]

theorem cmpN_eq {f g : Nat → Int} {n : Nat} (h : EqUpto f g n) : cmpN f g n 0 = 0 := by
  rw [cmpN_skip h (Nat.le_refl _), Nat.sub_self]; rfl

theorem eqF_upto {f g : Nat → Int} {n : Nat} : eqF f g (List.range n) = true ↔ EqUpto f g n := by
  simp [eqF, EqUpto]

theorem cmpN_zero {f g : Nat → Int} (j k : Nat) (h : ∀ i, k ≤ i → f i = g i) : cmpN f g j k = 0 := by
  induction j generalizing k with
  | zero => rfl
  | succ j ih =>
    have := h k (Nat.le_refl _)
    simp only [cmpN]
    rw [if_neg (by omega), if_neg (by omega)]
    exact ih (k + 1) (fun i hi => h i (by omega))

theorem cmpN_pad (xs ys : List Int) (n j m k : Nat) (hm : k + m = n) : cmpN (fOf xs n) (fOf ys n) (m + j) k = cmpN (getF xs) (getF ys) m k := by
  induction m generalizing k with
  | zero =>
    rw [Nat.zero_add]
    exact cmpN_zero j k (fun i hi => by unfold fOf; rw [if_neg (by omega), if_neg (by omega)])
  | succ m ih =>
    rw [show m + 1 + j = (m + j) + 1 by omega]
    simp only [cmpN]
    rw [ih (k + 1) (by omega)]
    have e1 : fOf xs n k = getF xs k := by unfold fOf getF; rw [if_pos (by omega)]
    have e2 : fOf ys n k = getF ys k := by unfold fOf getF; rw [if_pos (by omega)]
    rw [e1, e2]

/-- A call that answers an int and writes into nothing that was there. -/
def IntEnd (n : Int) (w : World) (e : Ending) (w' : World) : Prop := e = .returned (.int .i64 n) ∧ Below w.heap.size w w'

theorem ret_intC {a b : Int} (h : a = b) : Ending.returned (.int .i64 a) = .returned (.int .i64 b) := by rw [h]

set_option maxHeartbeats 1000000 in
theorem cmp_any (f g : Nat → Int) (w : World) :
    Calls Try.prog 62 #[.agg (tokF f), .agg (tokF g)] w fun e w' => IntEnd (cmpN f g 16 0) w e w' := by
  have hgd : ∀ w, (eqGuard .eql 82 (.tmp 6) (.tmp 7) (.agg (tokF f)) (.agg (tokF g))).run Try.prog w = .ok () w := fun w => run_eqGuard_agg w _ _ _ _ _ _ (by kernel_rfl)
  have hg0 := heap_alloc2_old w (.cells (tokF f) 82) (.cells (tokF g) 82)
  have hg1 := heap_alloc2_new w (.cells (tokF f) 82) (.cells (tokF g) 82)
  by_cases hq : EqUpto f g 16
  · have heq : ∀ w, (Op.equalIn 10000 82 (.agg (tokF f)) (.agg (tokF g))).run Try.prog w = .ok true w := fun w => by
      rw [← eqF_upto.mpr hq]; exact run_equalIn_tok 9999 9998 rfl f g w
    have HC := hide (cmpN_eq hq)
    clear hq
    go_enter Try.func62, Try.ntmps62
    go_wp2_with (first
      | refine wpList_load_row rfl 82 (.tmp 2) rfl _ rfl 82 (tokF f) (0, 0) _ hg0 Try.underlying82 rfl (by rw [tokF_size]; exact Try.size82) ?_
      | refine wpList_load_row rfl 82 (.tmp 3) rfl _ rfl 82 (tokF g) (0, 0) _ hg1 Try.underlying82 rfl (by rw [tokF_size]; exact Try.size82) ?_)
    go_ret
    exact ⟨ret_intC HC.out.symm, below_two w _ _⟩
  · have heq : ∀ w, (Op.equalIn 10000 82 (.agg (tokF f)) (.agg (tokF g))).run Try.prog w = .ok false w := fun w => by
      rw [← (Bool.eq_false_iff.mpr (fun h => hq (eqF_upto.mp h)) : eqF f g (List.range 16) = false)]; exact run_equalIn_tok 9999 9998 rfl f g w
    have HQ := hide hq
    clear hq
    go_enter Try.func62, Try.ntmps62
    go_wp2_with (first
      | refine wpList_load_row rfl 82 (.tmp 2) rfl _ rfl 82 (tokF f) (0, 0) _ hg0 Try.underlying82 rfl (by rw [tokF_size]; exact Try.size82) ?_
      | refine wpList_load_row rfl 82 (.tmp 3) rfl _ rfl 82 (tokF g) (0, 0) _ hg1 Try.underlying82 rfl (by rw [tokF_size]; exact Try.size82) ?_)
    clear heq hgd hg0 hg1
    go_loopw [9] (fun i wr => ∃ k : Nat, k ≤ 16 ∧ i = .int .i64 k ∧ EqUpto f g k ∧ ∃ q, wr = ((w.alloc (.cells (tokF f) 82)).alloc (.cells (tokF g) 82)).drewN q) (fun i _ => 16 - (intOf i).toNat)
    case atStart => exact ⟨0, Nat.zero_le _, rfl, fun i hi => absurd hi (by omega), 0, rfl⟩
    case round =>
      obtain ⟨k, hk, rfl, hu, q, rfl⟩ := hrel
      by_cases hlt : k < 16
      · have h1 := tokF_at f k hlt
        have h2 := tokF_at g k hlt
        have hi1 : ((k : Int)) < 16 := by omega
        by_cases he : f k < g k
        · have HC := hide (cmpN_lt hu hlt he)
          obtain ⟨x, hx⟩ : ∃ x, Hid (f k = x) := ⟨_, rfl⟩
          obtain ⟨y, hy⟩ : ∃ y, Hid (g k = y) := ⟨_, rfl⟩
          rw [hx.out] at h1 he
          rw [hy.out] at h2 he
          clear hu
          go_wp2
          go_quiet (fail)
          go_wp2
          go_ret
          exact ⟨ret_intC HC.out.symm, by first | exact (below_two w _ _).drewN _ | exact ((below_two w _ _).drewN _).drewN _⟩
        · by_cases he2 : g k < f k
          · have HC := hide (cmpN_gt hu hlt he2)
            obtain ⟨x, hx⟩ : ∃ x, Hid (f k = x) := ⟨_, rfl⟩
            obtain ⟨y, hy⟩ : ∃ y, Hid (g k = y) := ⟨_, rfl⟩
            rw [hx.out] at h1 he he2
            rw [hy.out] at h2 he he2
            clear hu
            go_wp2
            go_quiet (fail)
            go_wp2
            go_quiet (fail)
            go_wp2
            go_ret
            exact ⟨ret_intC HC.out.symm, by first | exact (below_two w _ _).drewN _ | exact ((below_two w _ _).drewN _).drewN _ | exact (((below_two w _ _).drewN _).drewN _).drewN _⟩
          · have HU := hide (hu.step he he2)
            obtain ⟨x, hx⟩ : ∃ x, Hid (f k = x) := ⟨_, rfl⟩
            obtain ⟨y, hy⟩ : ∃ y, Hid (g k = y) := ⟨_, rfl⟩
            rw [hx.out] at h1 he he2
            rw [hy.out] at h2 he he2
            clear hu
            go_wp2
            go_quiet (fail)
            go_wp2
            go_quiet (fail)
            go_wp2
            go_roundw
            case rel => exact ⟨k + 1, by omega, by go_num, HU.out, by first | exact ⟨_, rfl⟩ | exact ⟨_, drewN_two _ _ _⟩⟩
            case measure => simp [intOf]; omega
      · have hk' : k = 16 := by omega
        subst hk'
        exact absurd hu HQ.out

set_option maxHeartbeats 400000 in
theorem cmpS_any (a b : Option Addr) (n ca cb : Nat) (xs ys : List Int) (w : World) (ha : Row w a n xs) (hb : Row w b n ys) (hn : n ≤ 16) :
    Calls Try.prog 65 #[.slice a n ca, .slice b n cb] w fun e w' => e = .returned (.int .i64 (cmpN (getF xs) (getF ys) n 0)) ∧ ∃ q, w' = w.drewN q := by
  go_enter Try.func65, Try.ntmps65
  go_wp2
  go_loopw [8] (fun i wr => ∃ k : Nat, k ≤ n ∧ i = .int .i64 k ∧ EqUpto (getF xs) (getF ys) k ∧ ∃ q, wr = w.drewN q) (fun i _ => n - (intOf i).toNat)
  case atStart => exact ⟨0, Nat.zero_le _, rfl, fun i hi => absurd hi (by omega), 0, rfl⟩
  case round =>
    obtain ⟨k, hk, rfl, hu, q, rfl⟩ := hrel
    by_cases hlt : k < n
    · obtain ⟨b1, o1, x, rfl, hl1, hc1, H1⟩ := ha.at hlt
      obtain ⟨b2, o2, y, rfl, hl2, hc2, H2⟩ := hb.at hlt
      have hi1 : ((k : Int)) < ((n : Int)) := by omega
      have e1 := hide (getF_of H1)
      have e2 := hide (getF_of H2)
      clear ha hb H1 H2
      by_cases he : x < y
      · have HC := hide (cmpN_lt (n := n) hu hlt (by rw [e1.out, e2.out]; exact he))
        clear hu
        go_wp2
        go_quiet (fail)
        go_wp2
        go_ret
        exact ⟨ret_intC HC.out.symm, by first | exact ⟨_, rfl⟩ | exact ⟨_, drewN_two _ _ _⟩⟩
      · by_cases he2 : y < x
        · have HC := hide (cmpN_gt (n := n) hu hlt (by rw [e1.out, e2.out]; exact he2))
          clear hu
          go_wp2
          go_quiet (fail)
          go_wp2
          go_quiet (fail)
          go_wp2
          go_ret
          exact ⟨ret_intC HC.out.symm, by first | exact ⟨_, rfl⟩ | exact ⟨_, drewN_two _ _ _⟩ | (rw [drewN_two, drewN_two]; exact ⟨_, rfl⟩)⟩
        · have HU := hide (hu.step (by rw [e1.out, e2.out]; exact he) (by rw [e1.out, e2.out]; exact he2))
          clear hu
          go_wp2
          go_quiet (fail)
          go_wp2
          go_quiet (fail)
          go_wp2
          go_roundw
          case rel => exact ⟨k + 1, by omega, by go_num, HU.out, by first | exact ⟨_, rfl⟩ | exact ⟨_, drewN_two _ _ _⟩ | (rw [drewN_two, drewN_two]; exact ⟨_, rfl⟩)⟩
          case measure => simp [intOf]; omega
    · have hk' : k = n := by omega
      subst hk'
      have HC := hide (cmpN_eq hu)
      clear hu
      go_wp2
      go_ret
      exact ⟨ret_intC HC.out.symm, _, rfl⟩

def cmpB (p : Int) (xs ys : List Int) : Int := if goodB p xs && goodB p ys then cmpN (getF xs) (getF ys) xs.length 0 else 0

def CmpEnd (p : Int) (xs ys : List Int) (w : World) (e : Ending) (w' : World) : Prop :=
  e = .returned (.tuple #[.int .i64 (cmpB p xs ys), .bool (goodB p xs && goodB p ys)]) ∧ Below w.heap.size w w'

theorem cmpEnd_no {p : Int} {xs ys : List Int} {w w' : World} (h : (goodB p xs && goodB p ys) = false) (hb : Below w.heap.size w w') : CmpEnd p xs ys w (.returned (.tuple #[.int .i64 0, .bool false])) w' := by
  refine ⟨?_, hb⟩; unfold cmpB; rw [h]; rfl

theorem cmpEnd_yes {p : Int} {xs ys : List Int} {w w' : World} {c : Int} (h : (goodB p xs && goodB p ys) = true) (hc : cmpN (getF xs) (getF ys) xs.length 0 = c) (hb : Below w.heap.size w w') : CmpEnd p xs ys w (.returned (.tuple #[.int .i64 c, .bool true])) w' := by
  refine ⟨?_, hb⟩; unfold cmpB; rw [h, hc]; rfl

set_option maxHeartbeats 400000 in
theorem compareS_any (p : Int) (a b : Option Addr) (n m ca cb : Nat) (xs ys : List Int) (w : World) (ha : Row w a n xs) (hb : Row w b m ys) (hn : n ≤ 1048576) (hm : m ≤ 1048576) :
    Calls Try.prog 16 #[.int .i64 p, .slice a n ca, .slice b m cb] w fun e w' => CmpEnd p xs ys w e w' := by
  have HG := hide (two_any p a b n m ca cb xs ys w ha hb hn hm)
  by_cases hg : (goodB p xs && goodB p ys) = true
  · have hl := two_len hg
    obtain rfl : n = m := by have := ha.1; have := hb.1; omega
    have HC := hide (cmpS_any a b n ca cb xs ys w ha hb (by have := ha.1; omega))
    have HY := hide (fun q => cmpEnd_yes (w := w) (w' := w.drewN q) hg rfl ((Below.refl _ _).drewN q))
    rw [ha.1] at HY
    clear hl ha hb
    go_enter Try.func16, Try.ntmps16
    go_wp2_with (first
      | (go_at_call 64; refine HG.out.mono ?_; rintro e w' ⟨rfl, rfl⟩)
      | (go_at_call 65; refine HC.out.mono ?_; rintro e w' ⟨rfl, q, rfl⟩))
    go_ret2
    exact HY.out _
  · have hg' : (goodB p xs && goodB p ys) = false := by simpa using hg
    have HN := hide (cmpEnd_no (w := w) (w' := w) hg' (Below.refl _ _))
    clear hg ha hb
    go_enter Try.func16, Try.ntmps16
    go_wp2_with (go_at_call 64; refine HG.out.mono ?_; rintro e w' ⟨rfl, rfl⟩)
    go_ret2
    exact HN.out

set_option maxHeartbeats 1000000 in
theorem compareI_any (p : Int) (a b : Option Addr) (n m ca cb : Nat) (xs ys : List Int) (w : World) (ha : Row w a n xs) (hb : Row w b m ys) (hn : n ≤ 1048576) (hm : m ≤ 1048576) :
    Calls Try.prog 14 #[.int .i64 p, .slice a n ca, .slice b m cb] w fun e w' => CmpEnd p xs ys w e w' := by
  have ht := bothT_any p a b n m ca cb xs ys w ha hb hn hm
  obtain ⟨g, hg⟩ : ∃ g, Hid ((goodB p xs && goodB p ys) = g) := ⟨_, rfl⟩
  rw [hg.out] at ht
  have HT := hide ht
  have hla := hide ha.1
  have hlb := hide hb.1
  clear ht ha hb
  go_enter Try.func14, Try.ntmps14
  go_wp2_with fail
  refine HT.out.mono ?_
  rintro e w1 ⟨k, l, rfl, hkl, hb1⟩
  have hg0 := heap_alloc2_old w1 (.cells #[.int .u8 0, .int .u8 0, .int .u8 0, .int .u8 0, .int .u8 0, .int .u8 0, .int .u8 0, .int .u8 0, .int .u8 0, .int .u8 0, .int .u8 0, .int .u8 0, .int .u8 0, .int .u8 0, .int .u8 0, .int .u8 0] 82) (.cells #[.int .u8 0, .int .u8 0, .int .u8 0, .int .u8 0, .int .u8 0, .int .u8 0, .int .u8 0, .int .u8 0, .int .u8 0, .int .u8 0, .int .u8 0, .int .u8 0, .int .u8 0, .int .u8 0, .int .u8 0, .int .u8 0] 82)
  have hg1 : (((w1.alloc (.cells #[.int .u8 0, .int .u8 0, .int .u8 0, .int .u8 0, .int .u8 0, .int .u8 0, .int .u8 0, .int .u8 0, .int .u8 0, .int .u8 0, .int .u8 0, .int .u8 0, .int .u8 0, .int .u8 0, .int .u8 0, .int .u8 0] 82)).alloc (.cells #[.int .u8 0, .int .u8 0, .int .u8 0, .int .u8 0, .int .u8 0, .int .u8 0, .int .u8 0, .int .u8 0, .int .u8 0, .int .u8 0, .int .u8 0, .int .u8 0, .int .u8 0, .int .u8 0, .int .u8 0, .int .u8 0] 82)).setRow w1.heap.size (packOf xs k)).heap[w1.heap.size + 1]? = some (.cells #[.int .u8 0, .int .u8 0, .int .u8 0, .int .u8 0, .int .u8 0, .int .u8 0, .int .u8 0, .int .u8 0, .int .u8 0, .int .u8 0, .int .u8 0, .int .u8 0, .int .u8 0, .int .u8 0, .int .u8 0, .int .u8 0] 82 (0, 0)) := by
    rw [setRow_other _ _ _ _ (by omega)]; exact heap_alloc2_new _ _ _
  have hg3 := setRow_same hg1 (packOf ys l)
  have hg2 := (setRow_other (((w1.alloc (.cells #[.int .u8 0, .int .u8 0, .int .u8 0, .int .u8 0, .int .u8 0, .int .u8 0, .int .u8 0, .int .u8 0, .int .u8 0, .int .u8 0, .int .u8 0, .int .u8 0, .int .u8 0, .int .u8 0, .int .u8 0, .int .u8 0] 82)).alloc (.cells #[.int .u8 0, .int .u8 0, .int .u8 0, .int .u8 0, .int .u8 0, .int .u8 0, .int .u8 0, .int .u8 0, .int .u8 0, .int .u8 0, .int .u8 0, .int .u8 0, .int .u8 0, .int .u8 0, .int .u8 0, .int .u8 0] 82)).setRow w1.heap.size (packOf xs k)) (w1.heap.size + 1) w1.heap.size (packOf ys l) (by omega)).trans (setRow_same hg0 (packOf xs k))
  have hbW := below_setRow (below_setRow (((hb1.alloc hb1.size (.cells #[.int .u8 0, .int .u8 0, .int .u8 0, .int .u8 0, .int .u8 0, .int .u8 0, .int .u8 0, .int .u8 0, .int .u8 0, .int .u8 0, .int .u8 0, .int .u8 0, .int .u8 0, .int .u8 0, .int .u8 0, .int .u8 0] 82)).alloc (by have := hb1.size; simp; omega) (.cells #[.int .u8 0, .int .u8 0, .int .u8 0, .int .u8 0, .int .u8 0, .int .u8 0, .int .u8 0, .int .u8 0, .int .u8 0, .int .u8 0, .int .u8 0, .int .u8 0, .int .u8 0, .int .u8 0, .int .u8 0, .int .u8 0] 82))) w1.heap.size hb1.size (packOf xs k)) (w1.heap.size + 1) (by have := hb1.size; omega) (packOf ys l)
  obtain ⟨W, hW⟩ : ∃ W, Hid (W = ((((w1.alloc (.cells #[.int .u8 0, .int .u8 0, .int .u8 0, .int .u8 0, .int .u8 0, .int .u8 0, .int .u8 0, .int .u8 0, .int .u8 0, .int .u8 0, .int .u8 0, .int .u8 0, .int .u8 0, .int .u8 0, .int .u8 0, .int .u8 0] 82)).alloc (.cells #[.int .u8 0, .int .u8 0, .int .u8 0, .int .u8 0, .int .u8 0, .int .u8 0, .int .u8 0, .int .u8 0, .int .u8 0, .int .u8 0, .int .u8 0, .int .u8 0, .int .u8 0, .int .u8 0, .int .u8 0, .int .u8 0] 82)).setRow w1.heap.size (packOf xs k)).setRow (w1.heap.size + 1) (packOf ys l))) := ⟨_, rfl⟩
  rw [← hW.out] at hg2 hg3 hbW
  have HW := hide hbW
  clear hb1 hbW HT
  cases g
  · go_wp2_with (first
      | refine wpList_store_row rfl 82 (.tmp 8) _ rfl _ _ rfl rfl 82 _ hg0 (by rw [packOf_size]; exact Try.size82) (by rw [packOf_size]; rfl) (packOf_one _ _) ?_
      | (refine wpList_store_row rfl 82 (.tmp 9) _ rfl _ _ rfl rfl 82 _ hg1 (by rw [packOf_size]; exact Try.size82) (by rw [packOf_size]; rfl) (packOf_one _ _) ?_; rw [← hW.out]; clear hg0 hg1))
    go_ret2
    exact cmpEnd_no hg.out HW.out
  · go_wp2_with (first
      | refine wpList_store_row rfl 82 (.tmp 8) _ rfl _ _ rfl rfl 82 _ hg0 (by rw [packOf_size]; exact Try.size82) (by rw [packOf_size]; rfl) (packOf_one _ _) ?_
      | (refine wpList_store_row rfl 82 (.tmp 9) _ rfl _ _ rfl rfl 82 _ hg1 (by rw [packOf_size]; exact Try.size82) (by rw [packOf_size]; rfl) (packOf_one _ _) ?_; rw [← hW.out]; clear hg0 hg1)
      | refine wpList_load_row rfl 82 (.tmp 8) rfl _ rfl 82 (packOf xs k) (0, 0) _ hg2 Try.underlying82 rfl (by rw [packOf_size]; exact Try.size82) ?_
      | refine wpList_load_row rfl 82 (.tmp 9) rfl _ rfl 82 (packOf ys l) (0, 0) _ hg3 Try.underlying82 rfl (by rw [packOf_size]; exact Try.size82) ?_)
    refine (cmp_any (fOf xs k) (fOf ys l) _).mono ?_
    rintro e w2 ⟨rfl, hb2⟩
    have hl := two_len hg.out
    obtain ⟨rfl, rfl⟩ := hkl.out trivial
    have hcv : cmpN (fOf xs k) (fOf ys l) 16 0 = cmpN (getF xs) (getF ys) xs.length 0 := by
      have e1 := hla.out
      have e2 := hlb.out
      obtain rfl : k = l := by omega
      have := cmpN_pad xs ys k (16 - k) k 0 (by omega)
      rw [show k + (16 - k) = 16 by omega] at this
      rw [this, hla.out]
    have HY := hide (cmpEnd_yes (w := w) hg.out hcv.symm (HW.out.trans (hb2.mono HW.out.size)))
    clear hg2 hg3 hb2 hl hcv hkl
    go_wp2
    go_ret2
    exact HY.out
end Go.Proofs.Ytegabkegbhglfaa


/- The least of some marks: the mathematics of it. A list of marks in order, each of them least among all and each least one among them, is told by that alone; sorting and keeping what covers none that is kept gives it, and so does putting each least one to its place. -/
namespace Go.Proofs.Ytegabkegbhglfaa
open Go.RowKit

theorem cmpN_anti (f g : Nat → Int) (m k : Nat) : cmpN g f m k = - cmpN f g m k := by
  induction m generalizing k with
  | zero => rfl
  | succ m ih =>
    simp only [cmpN]
    by_cases h1 : f k < g k
    · rw [if_neg (by omega), if_pos h1, if_pos h1]; rfl
    · by_cases h2 : g k < f k
      · rw [if_pos h2, if_neg h1, if_pos h2]
      · rw [if_neg h2, if_neg h1, if_neg h1, if_neg h2]; exact ih (k + 1)

theorem cmpN_le (f g h : Nat → Int) (m k : Nat) (h1 : cmpN f g m k ≤ 0) (h2 : cmpN g h m k ≤ 0) : cmpN f h m k ≤ 0 := by
  induction m generalizing k with
  | zero => exact Int.le_refl 0
  | succ m ih =>
    simp only [cmpN] at *
    by_cases a1 : f k < g k
    · by_cases b1 : g k < h k
      · rw [if_pos (by omega)]; omega
      · by_cases b2 : h k < g k
        · rw [if_neg b1, if_pos b2] at h2; omega
        · rw [if_pos (by omega)]; omega
    · by_cases a2 : g k < f k
      · rw [if_neg a1, if_pos a2] at h1; omega
      · rw [if_neg a1, if_neg a2] at h1
        by_cases b1 : g k < h k
        · rw [if_pos (by omega)]; omega
        · by_cases b2 : h k < g k
          · rw [if_neg b1, if_pos b2] at h2; omega
          · rw [if_neg b1, if_neg b2] at h2
            rw [if_neg (by omega), if_neg (by omega)]
            exact ih (k + 1) h1 h2

theorem cmpN_zero_iff (f g : Nat → Int) (m k : Nat) : cmpN f g m k = 0 ↔ ∀ i, k ≤ i → i < k + m → f i = g i := by
  induction m generalizing k with
  | zero => simp [cmpN]; omega
  | succ m ih =>
    simp only [cmpN]
    by_cases h1 : f k < g k
    · rw [if_pos h1]
      exact ⟨fun h => absurd h (by omega), fun h => by have := h k (by omega) (by omega); omega⟩
    · by_cases h2 : g k < f k
      · rw [if_neg h1, if_pos h2]
        exact ⟨fun h => absurd h (by omega), fun h => by have := h k (by omega) (by omega); omega⟩
      · rw [if_neg h1, if_neg h2, ih (k + 1)]
        constructor
        · intro h i hi hj
          by_cases e : i = k
          · subst e; omega
          · exact h i (by omega) (by omega)
        · intro h i hi hj
          exact h i (by omega) (by omega)

theorem cmpN_cov (f g : Nat → Int) (m k : Nat) (h : ∀ i, k ≤ i → i < k + m → g i ≤ f i) : 0 ≤ cmpN f g m k := by
  induction m generalizing k with
  | zero => exact Int.le_refl 0
  | succ m ih =>
    simp only [cmpN]
    rw [if_neg (by have := h k (by omega) (by omega); omega)]
    split
    · omega
    · exact ih (k + 1) (fun i hi hj => h i (by omega) (by omega))

/-- How two marks of n places stand, and whether the first covers the second. -/
def cmpL (n : Nat) (xs ys : List Int) : Int := cmpN (getF xs) (getF ys) n 0
def covL (n : Nat) (xs ys : List Int) : Bool := covF (getF xs) (getF ys) n

theorem cmpL_pad (xs ys : List Int) (n : Nat) (hn : n ≤ 16) : cmpN (fOf xs n) (fOf ys n) 16 0 = cmpL n xs ys := by
  have := cmpN_pad xs ys n (16 - n) n 0 (by omega)
  rwa [show n + (16 - n) = 16 by omega] at this

theorem getF_ext {xs ys : List Int} {n : Nat} (hx : xs.length = n) (hy : ys.length = n) (h : ∀ i, i < n → getF xs i = getF ys i) : xs = ys := by
  apply List.ext_getElem (by omega)
  intro i h1 h2
  have := h i (by omega)
  unfold getF at this
  simpa [h1, h2] using this

theorem cmpL_eq {n : Nat} {xs ys : List Int} (hx : xs.length = n) (hy : ys.length = n) : cmpL n xs ys = 0 ↔ xs = ys := by
  unfold cmpL
  rw [cmpN_zero_iff]
  constructor
  · intro h; exact getF_ext hx hy fun i hi => h i (by omega) (by omega)
  · rintro rfl i _ _; rfl

theorem cmpL_anti (n : Nat) (xs ys : List Int) : cmpL n ys xs = - cmpL n xs ys := cmpN_anti _ _ _ _
theorem cmpL_le {n : Nat} {xs ys zs : List Int} (h1 : cmpL n xs ys ≤ 0) (h2 : cmpL n ys zs ≤ 0) : cmpL n xs zs ≤ 0 := cmpN_le _ _ _ _ _ h1 h2
theorem cmpL_self (n : Nat) (xs : List Int) : cmpL n xs xs = 0 := by have := cmpL_anti n xs xs; omega

theorem cmpL_lt {n : Nat} {xs ys zs : List Int} (h1 : cmpL n xs ys < 0) (h2 : cmpL n ys zs ≤ 0) : cmpL n xs zs < 0 := by
  have h3 := cmpL_le (Int.le_of_lt h1) h2
  by_cases h : cmpL n xs zs = 0
  · have h4 : cmpL n zs xs ≤ 0 := by rw [cmpL_anti, h]; omega
    have h5 := cmpL_le h2 h4
    rw [cmpL_anti] at h5; omega
  · omega

theorem cmpL_lt' {n : Nat} {xs ys zs : List Int} (h1 : cmpL n xs ys ≤ 0) (h2 : cmpL n ys zs < 0) : cmpL n xs zs < 0 := by
  have h3 := cmpL_le h1 (Int.le_of_lt h2)
  by_cases h : cmpL n xs zs = 0
  · have h4 : cmpL n zs xs ≤ 0 := by rw [cmpL_anti, h]; omega
    have h5 := cmpL_le h4 h1
    rw [cmpL_anti] at h5; omega
  · omega

theorem covL_iff {n : Nat} {xs ys : List Int} : covL n xs ys = true ↔ ∀ i, i < n → getF ys i ≤ getF xs i := covF_iff
theorem covL_self (n : Nat) (xs : List Int) : covL n xs xs = true := covL_iff.mpr fun _ _ => Int.le_refl _
theorem covL_trans {n : Nat} {xs ys zs : List Int} (h1 : covL n xs ys = true) (h2 : covL n ys zs = true) : covL n xs zs = true :=
  covL_iff.mpr fun i hi => Int.le_trans (covL_iff.mp h2 i hi) (covL_iff.mp h1 i hi)
theorem covL_anti {n : Nat} {xs ys : List Int} (hx : xs.length = n) (hy : ys.length = n) (h1 : covL n xs ys = true) (h2 : covL n ys xs = true) : xs = ys :=
  getF_ext hx hy fun i hi => Int.le_antisymm (covL_iff.mp h2 i hi) (covL_iff.mp h1 i hi)
theorem covL_cmp {n : Nat} {xs ys : List Int} (h : covL n xs ys = true) : 0 ≤ cmpL n xs ys :=
  cmpN_cov _ _ _ _ fun i _ hi => covL_iff.mp h i (by omega)

/-- A least one of some marks. -/
def MinL (n : Nat) (L : List (List Int)) (x : List Int) : Prop := x ∈ L ∧ ∀ y ∈ L, covL n x y = true → y = x

/-- In order, each once. -/
def SortL (n : Nat) (O : List (List Int)) : Prop := O.Pairwise fun x y => cmpL n x y < 0

/-- The least ones of some marks, in order. -/
def MinOf (n : Nat) (L O : List (List Int)) : Prop := SortL n O ∧ ∀ x, x ∈ O ↔ MinL n L x

theorem sort_unique {n : Nat} : ∀ (O K : List (List Int)), SortL n O → SortL n K → (∀ x, x ∈ O ↔ x ∈ K) → O = K
  | [], [], _, _, _ => rfl
  | [], b :: K, _, _, h => by have := (h b).mpr (by simp); simp at this
  | a :: O, [], _, _, h => by have := (h a).mp (by simp); simp at this
  | a :: O, b :: K, ho, hk, h => by
    obtain ⟨ha, ho'⟩ := List.pairwise_cons.mp ho
    obtain ⟨hb, hk'⟩ := List.pairwise_cons.mp hk
    have e : a = b := by
      have h1 := (h a).mp (by simp)
      have h2 := (h b).mpr (by simp)
      rcases List.mem_cons.mp h1 with e | m1
      · exact e
      · rcases List.mem_cons.mp h2 with e | m2
        · exact e.symm
        · have q1 := hb a m1
          have q2 := ha b m2
          have := cmpL_anti n a b
          omega
    subst e
    congr 1
    refine sort_unique O K ho' hk' fun x => ⟨fun hx => ?_, fun hx => ?_⟩
    · rcases List.mem_cons.mp ((h x).mp (List.mem_cons_of_mem _ hx)) with e | m
      · subst e; have := ha x hx; rw [cmpL_self] at this; omega
      · exact m
    · rcases List.mem_cons.mp ((h x).mpr (List.mem_cons_of_mem _ hx)) with e | m
      · subst e; have := hb x hx; rw [cmpL_self] at this; omega
      · exact m

theorem MinOf.unique {n : Nat} {L O K : List (List Int)} (h : MinOf n L O) (g : MinOf n L K) : O = K :=
  sort_unique O K h.1 g.1 fun x => (h.2 x).trans (g.2 x).symm

theorem MinOf.perm {n : Nat} {L D O : List (List Int)} (h : MinOf n D O) (hm : ∀ x, x ∈ D ↔ x ∈ L) : MinOf n L O := by
  refine ⟨h.1, fun x => (h.2 x).trans ⟨fun ⟨a, b⟩ => ⟨(hm x).mp a, fun y hy => b y ((hm y).mpr hy)⟩, fun ⟨a, b⟩ => ⟨(hm x).mpr a, fun y hy => b y ((hm y).mp hy)⟩⟩⟩

/-- One mark more is looked at. -/
def keepStep (n : Nat) (acc : List (List Int)) (t : List Int) : List (List Int) := if acc.any (fun u => covL n t u) = true then acc else acc ++ [t]
def keepL (n : Nat) (D : List (List Int)) : List (List Int) := D.foldl (keepStep n) []

theorem keepL_take {n k : Nat} {D : List (List Int)} (hk : k < D.length) : keepL n (D.take (k + 1)) = keepStep n (keepL n (D.take k)) (D.getD k []) := by
  unfold keepL
  rw [List.take_add_one, List.getElem?_eq_getElem hk, List.foldl_append]
  simp [hk]

structure KeepInv (n : Nat) (D acc : List (List Int)) : Prop where
  sort : SortL n acc
  sub : ∀ u ∈ acc, u ∈ D
  cov : ∀ x ∈ D, ∃ u ∈ acc, covL n x u = true
  apart : ∀ u ∈ acc, ∀ v ∈ acc, covL n u v = true → v = u

theorem KeepInv.step {n : Nat} {D acc : List (List Int)} {t : List Int} (h : KeepInv n D acc) (hl : ∀ x ∈ D, x.length = n) (ht : t.length = n) (hs : ∀ u ∈ D, ¬ cmpL n t u < 0) : KeepInv n (D ++ [t]) (keepStep n acc t) := by
  unfold keepStep
  by_cases hc : acc.any (fun u => covL n t u) = true
  · rw [if_pos hc]
    obtain ⟨u, hu, hcu⟩ := List.any_eq_true.mp hc
    refine ⟨h.sort, fun v hv => List.mem_append_left _ (h.sub v hv), fun x hx => ?_, h.apart⟩
    rcases List.mem_append.mp hx with hx | hx
    · exact h.cov x hx
    · obtain rfl := List.mem_singleton.mp hx
      exact ⟨u, hu, hcu⟩
  · rw [if_neg hc]
    have hno : ∀ u ∈ acc, covL n t u = false := by
      intro u hu
      rw [Bool.eq_false_iff]
      intro hcu
      exact hc (List.any_eq_true.mpr ⟨u, hu, hcu⟩)
    have hlt : ∀ u ∈ acc, cmpL n u t < 0 := by
      intro u hu
      have h1 := hs u (h.sub u hu)
      have h2 := cmpL_anti n u t
      by_cases e : cmpL n u t = 0
      · have := (cmpL_eq (hl u (h.sub u hu)) ht).mp e
        subst this
        have := hno u hu
        rw [covL_self] at this
        exact absurd this (by decide)
      · omega
    refine ⟨?_, fun v hv => ?_, fun x hx => ?_, fun u hu v hv huv => ?_⟩
    · refine List.pairwise_append.mpr ⟨h.sort, List.pairwise_singleton _ _, fun u hu v hv => ?_⟩
      obtain rfl := List.mem_singleton.mp hv
      exact hlt u hu
    · rcases List.mem_append.mp hv with hv | hv
      · exact List.mem_append_left _ (h.sub v hv)
      · exact List.mem_append_right _ hv
    · rcases List.mem_append.mp hx with hx | hx
      · obtain ⟨u, hu, hcu⟩ := h.cov x hx
        exact ⟨u, List.mem_append_left _ hu, hcu⟩
      · obtain rfl := List.mem_singleton.mp hx
        exact ⟨x, List.mem_append_right _ (by simp), covL_self n x⟩
    · rcases List.mem_append.mp hu with hu' | hu
      · rcases List.mem_append.mp hv with hv | hv
        · exact h.apart u hu' v hv huv
        · obtain rfl := List.mem_singleton.mp hv
          have h1 := covL_cmp huv
          have h2 := hlt u hu'
          omega
      · obtain rfl := List.mem_singleton.mp hu
        rcases List.mem_append.mp hv with hv | hv
        · rw [hno v hv] at huv; exact absurd huv (by decide)
        · obtain rfl := List.mem_singleton.mp hv
          rfl

theorem keep_inv {n : Nat} {D : List (List Int)} (hl : ∀ x ∈ D, x.length = n) (hs : D.Pairwise fun x y => ¬ cmpL n y x < 0) (k : Nat) (hk : k ≤ D.length) : KeepInv n (D.take k) (keepL n (D.take k)) := by
  induction k with
  | zero => exact ⟨List.Pairwise.nil, fun u hu => by simp [keepL] at hu, fun x hx => by simp at hx, fun u hu => by simp [keepL] at hu⟩
  | succ k ih =>
    have hk' : k < D.length := by omega
    have h := ih (by omega)
    rw [keepL_take hk']
    have e : D.take (k + 1) = D.take k ++ [D.getD k []] := by
      rw [List.take_add_one, List.getElem?_eq_getElem hk']; simp [hk']
    have hm : D.getD k [] ∈ D := by simp [hk']
    rw [e]
    refine h.step (fun x hx => hl x (List.mem_of_mem_take hx)) (hl _ hm) fun u hu => ?_
    have hs' : (D.take (k + 1)).Pairwise fun x y => ¬ cmpL n y x < 0 := hs.sublist (List.take_sublist _ _)
    rw [e] at hs'
    exact (List.pairwise_append.mp hs').2.2 u hu _ (by simp)

theorem keep_min {n : Nat} {D : List (List Int)} (hl : ∀ x ∈ D, x.length = n) (hs : D.Pairwise fun x y => ¬ cmpL n y x < 0) : MinOf n D (keepL n D) := by
  have h := keep_inv hl hs D.length (Nat.le_refl _)
  rw [List.take_length] at h
  refine ⟨h.sort, fun x => ⟨fun hx => ⟨h.sub x hx, fun y hy hxy => ?_⟩, fun ⟨hx, hmin⟩ => ?_⟩⟩
  · obtain ⟨u, hu, hyu⟩ := h.cov y hy
    have := h.apart x hx u hu (covL_trans hxy hyu)
    subst this
    exact covL_anti (hl y hy) (hl u (h.sub u hx)) hyu hxy
  · obtain ⟨u, hu, hxu⟩ := h.cov x hx
    have := hmin u (h.sub u hu) hxu
    subst this
    exact hu

/-- What putting a mark to its place, once, makes. -/
def Ins (n : Nat) (m : List Int) (l R : List (List Int)) : Prop :=
  (R = l ∧ ∃ x ∈ l, cmpL n m x = 0) ∨ ∃ j, j ≤ l.length ∧ R = l.take j ++ m :: l.drop j ∧ (∀ x ∈ l.take j, 0 < cmpL n m x) ∧ ∀ x ∈ l.drop j, cmpL n m x < 0

theorem Ins.sort {n : Nat} {m : List Int} {l R : List (List Int)} (h : Ins n m l R) (hl : SortL n l) : SortL n R := by
  rcases h with ⟨rfl, _⟩ | ⟨j, hj, rfl, h1, h2⟩
  · exact hl
  · have hl' := hl
    rw [← List.take_append_drop j l] at hl'
    obtain ⟨p1, p2, p3⟩ := List.pairwise_append.mp hl'
    refine List.pairwise_append.mpr ⟨p1, List.pairwise_cons.mpr ⟨h2, p2⟩, fun a ha b hb => ?_⟩
    rcases List.mem_cons.mp hb with rfl | hb
    · have := h1 a ha
      rw [cmpL_anti]; omega
    · exact p3 a ha b hb

theorem Ins.mem {n : Nat} {m : List Int} {l R : List (List Int)} (h : Ins n m l R) (hm : m.length = n) (hl : ∀ x ∈ l, x.length = n) (x : List Int) : x ∈ R ↔ x = m ∨ x ∈ l := by
  rcases h with ⟨rfl, y, hy, hc⟩ | ⟨j, hj, rfl, h1, h2⟩
  · have := (cmpL_eq hm (hl y hy)).mp hc
    subst this
    exact ⟨fun h => .inr h, fun h => h.elim (fun e => e ▸ hy) id⟩
  · conv => rhs; rw [← List.take_append_drop j l]
    simp only [List.mem_append, List.mem_cons]
    constructor
    · rintro (h | h | h)
      · exact .inr (.inl h)
      · exact .inl h
      · exact .inr (.inr h)
    · rintro (h | h | h)
      · exact .inr (.inl h)
      · exact .inl h
      · exact .inr (.inr h)

theorem Ins.size {n : Nat} {m : List Int} {l R : List (List Int)} (h : Ins n m l R) : R.length ≤ l.length + 1 := by
  rcases h with ⟨rfl, _⟩ | ⟨j, hj, rfl, _, _⟩
  · omega
  · simp; omega

/-- Whether a mark is a least one, as it is asked. -/
def leastB (n : Nat) (L : List (List Int)) (m : List Int) : Bool := L.all fun x => !covL n m x || sameB m x

theorem leastB_iff {n : Nat} {L : List (List Int)} {m : List Int} (hm : m ∈ L) : leastB n L m = true ↔ MinL n L m := by
  unfold leastB MinL
  rw [List.all_eq_true]
  constructor
  · intro h
    refine ⟨hm, fun y hy hc => ?_⟩
    have := h y hy
    rw [hc] at this
    simp [sameB] at this
    exact this.symm
  · rintro ⟨_, h⟩ y hy
    by_cases hc : covL n m y = true
    · have := h y hy hc
      subst this
      simp [sameB_self]
    · simp only [Bool.not_eq_true] at hc
      simp [hc]

/-- The least ones among the first k. -/
def MinUpto (n : Nat) (L : List (List Int)) (k : Nat) (O : List (List Int)) : Prop := SortL n O ∧ (∀ x, x ∈ O ↔ x ∈ L.take k ∧ MinL n L x) ∧ O.length ≤ k

theorem MinUpto.first (n : Nat) (L : List (List Int)) : MinUpto n L 0 [] := ⟨List.Pairwise.nil, fun x => by simp, Nat.le_refl _⟩

theorem MinUpto.len {n k : Nat} {L O : List (List Int)} (h : MinUpto n L k O) (hl : ∀ x ∈ L, x.length = n) : ∀ x ∈ O, x.length = n := fun x hx => hl x ((h.2.1 x).mp hx).2.1

theorem take_getD {L : List (List Int)} {k : Nat} (hk : k < L.length) : L.take (k + 1) = L.take k ++ [L.getD k []] := by
  rw [List.take_add_one, List.getElem?_eq_getElem hk]; simp [hk]

theorem getD_mem {L : List (List Int)} {k : Nat} (hk : k < L.length) : L.getD k [] ∈ L := by simp [hk]

theorem MinUpto.skip {n k : Nat} {L O : List (List Int)} (h : MinUpto n L k O) (hk : k < L.length) (hb : leastB n L (L.getD k []) = false) : MinUpto n L (k + 1) O := by
  refine ⟨h.1, fun x => ?_, by have := h.2.2; omega⟩
  rw [h.2.1 x, take_getD hk, List.mem_append, List.mem_singleton]
  constructor
  · rintro ⟨a, b⟩; exact ⟨.inl a, b⟩
  · rintro ⟨a | rfl, b⟩
    · exact ⟨a, b⟩
    · rw [(leastB_iff (getD_mem hk)).mpr b] at hb; exact absurd hb (by decide)

theorem MinUpto.put {n k : Nat} {L O R : List (List Int)} (h : MinUpto n L k O) (hl : ∀ x ∈ L, x.length = n) (hk : k < L.length) (hb : leastB n L (L.getD k []) = true) (hi : Ins n (L.getD k []) O R) : MinUpto n L (k + 1) R := by
  refine ⟨hi.sort h.1, fun x => ?_, by have := h.2.2; have := hi.size; omega⟩
  rw [hi.mem (hl _ (getD_mem hk)) (h.len hl) x, h.2.1 x, take_getD hk, List.mem_append, List.mem_singleton]
  constructor
  · rintro (rfl | ⟨a, b⟩)
    · exact ⟨.inr rfl, (leastB_iff (getD_mem hk)).mp hb⟩
    · exact ⟨.inl a, b⟩
  · rintro ⟨a | rfl, b⟩
    · exact .inr ⟨a, b⟩
    · exact .inl rfl

theorem MinUpto.done {n : Nat} {L O : List (List Int)} (h : MinUpto n L L.length O) : MinOf n L O := by
  refine ⟨h.1, fun x => ?_⟩
  rw [h.2.1 x, List.take_length]
  exact ⟨fun ⟨_, b⟩ => b, fun b => ⟨b.1, b⟩⟩

/-- Both can be told. -/
def okL (p : Int) (L : List (List Int)) : Bool := inB p 1 16 && decide (L.length ≤ 400) && L.all fun x => goodB p x

theorem keepL_len (n : Nat) (D : List (List Int)) (k : Nat) (hk : k ≤ D.length) : (keepL n (D.take k)).length ≤ k := by
  induction k with
  | zero => simp [keepL]
  | succ k ih =>
    rw [keepL_take (by omega)]
    have := ih (by omega)
    unfold keepStep
    split
    · omega
    · simp; omega

theorem keepL_mem {n : Nat} {D : List (List Int)} (k : Nat) (hk : k ≤ D.length) : ∀ u ∈ keepL n (D.take k), u ∈ D := by
  induction k with
  | zero => intro u hu; simp [keepL] at hu
  | succ k ih =>
    rw [keepL_take (by omega)]
    intro u hu
    unfold keepStep at hu
    split at hu
    · exact ih (by omega) u hu
    · rcases List.mem_append.mp hu with hu | hu
      · exact ih (by omega) u hu
      · obtain rfl := List.mem_singleton.mp hu
        exact getD_mem (by omega)
end Go.Proofs.Ytegabkegbhglfaa


/- The library's sort at this program: the numbers of its functions and types here, and that each is as the library's contract names it (written by the shelf's plain laying for one seat alone: mk_sl.py writes it anew for another seat). -/
namespace Go.Proofs
open Go.Shelf
def Try.sortT_ren : Go.Shelf.Ren := ⟨fun | 6 => 106 | 15 => 133 | 14 => 132 | 28 => 152 | 29 => 153 | 20 => 144 | 21 => 145 | 22 => 146 | 23 => 147 | 24 => 148 | 25 => 149 | 26 => 150 | 27 => 151 | 46 => 156 | 47 => 157 | 48 => 158 | 49 => 159 | 50 => 160 | 57 => 164 | n => n, fun | 22 => 80 | 24 => 82 | 25 => 91 | 3 => 3 | 39 => 71 | 0 => 0 | 53 => 190 | 55 => 73 | 4 => 4 | 46 => 184 | 45 => 183 | 50 => 33 | 5 => 5 | 9 => 9 | 66 => 196 | 70 => 200 | 76 => 205 | 77 => 206 | n => n, fun | n => n⟩
theorem Try.sortT : Go.Proofs.SlLaysF0.n6 Try.prog Try.sortT_ren := {
  mixed := by kernel_rfl
  f6 := ⟨Try.f106.name, by decide, Try.func106.trans (congrArg some (by kernel_rfl))⟩
  f14 := ⟨Try.f132.name, by decide, Try.func132.trans (congrArg some (by kernel_rfl))⟩
  f15 := Try.func133.trans (congrArg some (by kernel_rfl))
  f20 := ⟨Try.f144.name, by decide, Try.func144.trans (congrArg some (by kernel_rfl))⟩
  f21 := ⟨Try.f145.name, by decide, Try.func145.trans (congrArg some (by kernel_rfl))⟩
  f22 := ⟨Try.f146.name, by decide, Try.func146.trans (congrArg some (by kernel_rfl))⟩
  f23 := ⟨Try.f147.name, by decide, Try.func147.trans (congrArg some (by kernel_rfl))⟩
  f24 := ⟨Try.f148.name, by decide, Try.func148.trans (congrArg some (by kernel_rfl))⟩
  f25 := ⟨Try.f149.name, by decide, Try.func149.trans (congrArg some (by kernel_rfl))⟩
  f26 := ⟨Try.f150.name, by decide, Try.func150.trans (congrArg some (by kernel_rfl))⟩
  f27 := ⟨Try.f151.name, by decide, Try.func151.trans (congrArg some (by kernel_rfl))⟩
  f28 := Try.func152.trans (congrArg some (by kernel_rfl))
  f29 := Try.func153.trans (congrArg some (by kernel_rfl))
  f46 := ⟨Try.f156.name, by decide, Try.func156.trans (congrArg some (by kernel_rfl))⟩
  f47 := Try.func157.trans (congrArg some (by kernel_rfl))
  f48 := Try.func158.trans (congrArg some (by kernel_rfl))
  f49 := ⟨Try.f159.name, by decide, Try.func159.trans (congrArg some (by kernel_rfl))⟩
  f50 := ⟨Try.f160.name, by decide, Try.func160.trans (congrArg some (by kernel_rfl))⟩
  f57 := ⟨Try.f164.name, by decide, Try.func164.trans (congrArg some (by kernel_rfl))⟩
  t0 := Try.underlying0
  a0 := Try.isAgg0
  z0 := Try.sizeOf0
  v0 := Try.zeroValue0
  t3 := Try.underlying3
  a3 := Try.isAgg3
  z3 := Try.sizeOf3
  v3 := Try.zeroValue3
  t4 := Try.underlying4
  a4 := Try.isAgg4
  z4 := Try.sizeOf4
  v4 := Try.zeroValue4
  t5 := Try.underlying5
  a5 := Try.isAgg5
  z5 := Try.sizeOf5
  v5 := Try.zeroValue5
  t9 := Try.underlying9
  a9 := Try.isAgg9
  z9 := Try.sizeOf9
  v9 := Try.zeroValue9
  t22 := Try.underlying80
  a22 := Try.isAgg80
  z22 := Try.sizeOf80
  v22 := Try.zeroValue80
  t25 := Try.underlying91
  a25 := Try.isAgg91
  z25 := Try.sizeOf91
  v25 := Try.zeroValue91
  t39 := Try.underlying71
  a39 := Try.isAgg71
  z39 := Try.sizeOf71
  v39 := Try.zeroValue71
  t45 := Try.underlying183
  a45 := Try.isAgg183
  z45 := Try.sizeOf183
  v45 := Try.zeroValue183
  t46 := Try.underlying184
  a46 := Try.isAgg184
  z46 := Try.sizeOf184
  v46 := Try.zeroValue184
  t50 := Try.underlying33
  a50 := Try.isAgg33
  z50 := Try.sizeOf33
  v50 := Try.zeroValue33
  t53 := Try.underlying190
  a53 := Try.isAgg190
  z53 := Try.sizeOf190
  v53 := Try.zeroValue190
  t55 := Try.underlying73
  a55 := Try.isAgg73
  z55 := Try.sizeOf73
  v55 := Try.zeroValue73
  t66 := Try.underlying196
  a66 := Try.isAgg196
  z66 := Try.sizeOf196
  v66 := Try.zeroValue196
  t70 := Try.underlying200
  a70 := Try.isAgg200
  z70 := Try.sizeOf200
  v70 := Try.zeroValue200
  t76 := Try.underlying205
  a76 := Try.isAgg205
  z76 := Try.sizeOf205
  v76 := Try.zeroValue205
  t77 := Try.underlying206
  a77 := Try.isAgg206
  z77 := Try.sizeOf206
  v77 := Try.zeroValue206 }
end Go.Proofs
