/- What both TakeMarks answer, for every number of places and every two lists: what is left in new memory and true, where both are good marks and the first covers the second, else nothing and false; nothing that was there is written. -/
import Derived.Test.YtbgdieliepcbpaaFin
namespace Go.Proofs.Ytbgdieliepcbpaa
open Go.RowKit

def difL (xs ys : List Int) : List Int := (List.range xs.length).map fun i => getF xs i - getF ys i
def takeOk (p : Int) (xs ys : List Int) : Bool := goodB p xs && goodB p ys && covF (getF xs) (getF ys) xs.length
def takeR (p : Int) (xs ys : List Int) : List Int := if takeOk p xs ys then difL xs ys else []

theorem difL_len (xs ys : List Int) : (difL xs ys).length = xs.length := by simp [difL]

theorem takeR_len (p : Int) (xs ys : List Int) : (takeR p xs ys).length ≤ xs.length := by
  unfold takeR; split
  · rw [difL_len]; exact Nat.le_refl _
  · exact Nat.zero_le _

theorem takeEnd_no {p : Int} {xs ys : List Int} {w w' : World} (h : takeOk p xs ys = false) (hb : Below w.heap.size w w') : ListEnd (takeOk p xs ys) (takeR p xs ys) w (.returned (.tuple #[.slice none 0 0, .bool false])) w' := by
  refine ⟨none, w.heap.size, 0, by rw [h], ⟨?_, .inl rfl⟩, Nat.le_refl _, hb⟩
  unfold takeR; rw [h]; rfl

theorem takeEnd_yes {p : Int} {xs ys : List Int} {w w' : World} {b n : Nat} (h : takeOk p xs ys = true) (hn : xs.length = n) (hh : w'.heap[b]? = some (.cells (cellsOf (difL xs ys)) 3 (0, 0))) (hB : w.heap.size ≤ b) (hb : Below w.heap.size w w') :
    ListEnd (takeOk p xs ys) (takeR p xs ys) w (.returned (.tuple #[.slice (some ⟨b, 0, none⟩) n n, .bool true])) w' := by
  have hr : takeR p xs ys = difL xs ys := by unfold takeR; rw [h]; rfl
  refine ⟨_, b, n, by rw [h], ⟨?_, .inr ⟨rfl, ?_⟩⟩, hB, hb⟩
  · rw [hr, difL_len, hn]
  · rw [hr]; exact hh

theorem tReadEnd_no {p : Int} {xs ys : List Int} {w w' : World} (h : takeOk p xs ys = false) (hb : Below w.heap.size w w') : ReadEnd (takeOk p xs ys) (takeR p xs ys) w (.returned (.tuple #[.slice none 0 0, .bool false])) w' := by
  refine ⟨none, 0, 0, by rw [h], ⟨?_, .inl rfl⟩, hb⟩
  unfold takeR; rw [h]; rfl

theorem tReadEnd_yes {p : Int} {xs ys : List Int} {w w' : World} {a : Option Addr} {n c : Nat} (h : takeOk p xs ys = true) (hr : Row w' a n (difL xs ys)) (hb : Below w.heap.size w w') : ReadEnd (takeOk p xs ys) (takeR p xs ys) w (.returned (.tuple #[.slice a n c, .bool true])) w' := by
  refine ⟨a, n, c, by rw [h], ?_, hb⟩
  unfold takeR; rw [h]; exact hr

/-- The first k numbers are differences. -/
def subF (f g : Nat → Int) (k : Nat) : Nat → Int := fun i => if i < k then f i - g i else f i

theorem subF_set (f g : Nat → Int) (k : Nat) : (tokF (subF f g k)).setIfInBounds k (.int .u8 (f k - g k)) = tokF (subF f g (k + 1)) := by
  refine tokF_set _ _ k _ ?_ fun i hi => ?_
  · unfold subF; rw [if_pos (by omega)]
  · unfold subF
    by_cases h : i < k
    · rw [if_pos h, if_pos (by omega)]
    · rw [if_neg h, if_neg (by omega)]

theorem subF_zero (f g : Nat → Int) : subF f g 0 = f := by
  funext i; unfold subF; rw [if_neg (by omega)]

theorem list_dif (xs ys : List Int) (n : Nat) (hx : xs.length = n) (hn : n ≤ 16) : listF (subF (fOf xs n) (fOf ys n) 16) n = difL xs ys := by
  unfold listF difL
  rw [hx]
  apply List.map_congr_left
  intro i hi
  have hi' : i < n := by simpa using hi
  unfold subF fOf getF
  rw [if_pos (by omega), if_pos hi', if_pos hi']

theorem tnot_both {p : Int} {xs ys : List Int} (h : (goodB p xs && goodB p ys) = false) : takeOk p xs ys = false := by unfold takeOk; rw [h]; rfl

/-- A whole array loaded, where the operation is wanted. -/
theorem wpList_load_want {P : Program} {ops : Array Oper} {rest : List Oper} {o : Oper} {a : Act} {w : World} {Q : Exit → Act → World → Prop} (hw : Region.wanted o (yielded ops a.tmps) = true) (ty : TypeId) (x : Operand) (ho : o.op = .load ty x)
    (g : Nat) (hx : a.eval x = .pointer (some ⟨g, 0, none⟩)) (t : TypeId) (cs : Array Value) (n : Nat) (e : TypeId) (hg : w.heap[g]? = some (.cells cs t (0, 0)))
    (hu : P.underlying ty = some (.array n e)) (hi : (P.info? ty).map (·.size) = some cs.size)
    (h : wpList P ops Q rest (a.put o.dst (.agg cs)) w) : wpList P ops Q (o :: rest) a w :=
  BigFrame.wpList_want hw fun _ hK => wp_load_row ty x ho g hx t cs (0, 0) _ hg hu rfl hi (hK _ _ h)

set_option maxHeartbeats 1000000 in
theorem takeI_any (p : Int) (a b : Option Addr) (n m ca cb : Nat) (xs ys : List Int) (w : World) (ha : Row w a n xs) (hb : Row w b m ys) (hn : n ≤ 1048576) (hm : m ≤ 1048576) :
    Calls Try.prog 10 #[.int .i64 p, .slice a n ca, .slice b m cb] w fun e w' => ListEnd (takeOk p xs ys) (takeR p xs ys) w e w' := by
  have ht := both_any p a b n m ca cb xs ys w ha hb hn hm
  obtain ⟨g, hg⟩ : ∃ g, Hid ((goodB p xs && goodB p ys) = g) := ⟨_, rfl⟩
  rw [hg.out] at ht
  have HT := hide ht
  have hla := hide ha.1
  have hlb := hide hb.1
  clear ht ha hb
  go_enter Try.func10, Try.ntmps10
  go_wp2_with fail
  refine HT.out.mono ?_
  rintro e w1 ⟨k, l, rfl, hkl, hb1⟩
  have hg0 := heap_alloc2_old w1 (.cells #[.int .u8 0, .int .u8 0, .int .u8 0, .int .u8 0, .int .u8 0, .int .u8 0, .int .u8 0, .int .u8 0, .int .u8 0, .int .u8 0, .int .u8 0, .int .u8 0, .int .u8 0, .int .u8 0, .int .u8 0, .int .u8 0] 44) (.cells #[.int .u8 0, .int .u8 0, .int .u8 0, .int .u8 0, .int .u8 0, .int .u8 0, .int .u8 0, .int .u8 0, .int .u8 0, .int .u8 0, .int .u8 0, .int .u8 0, .int .u8 0, .int .u8 0, .int .u8 0, .int .u8 0] 44)
  have hg1 : (((w1.alloc (.cells #[.int .u8 0, .int .u8 0, .int .u8 0, .int .u8 0, .int .u8 0, .int .u8 0, .int .u8 0, .int .u8 0, .int .u8 0, .int .u8 0, .int .u8 0, .int .u8 0, .int .u8 0, .int .u8 0, .int .u8 0, .int .u8 0] 44)).alloc (.cells #[.int .u8 0, .int .u8 0, .int .u8 0, .int .u8 0, .int .u8 0, .int .u8 0, .int .u8 0, .int .u8 0, .int .u8 0, .int .u8 0, .int .u8 0, .int .u8 0, .int .u8 0, .int .u8 0, .int .u8 0, .int .u8 0] 44)).setRow w1.heap.size (packOf xs k)).heap[w1.heap.size + 1]? = some (.cells #[.int .u8 0, .int .u8 0, .int .u8 0, .int .u8 0, .int .u8 0, .int .u8 0, .int .u8 0, .int .u8 0, .int .u8 0, .int .u8 0, .int .u8 0, .int .u8 0, .int .u8 0, .int .u8 0, .int .u8 0, .int .u8 0] 44 (0, 0)) := by
    rw [setRow_other _ _ _ _ (by omega)]; exact heap_alloc2_new _ _ _
  have hg3 := setRow_same hg1 (packOf ys l)
  have hg2 := (setRow_other (((w1.alloc (.cells #[.int .u8 0, .int .u8 0, .int .u8 0, .int .u8 0, .int .u8 0, .int .u8 0, .int .u8 0, .int .u8 0, .int .u8 0, .int .u8 0, .int .u8 0, .int .u8 0, .int .u8 0, .int .u8 0, .int .u8 0, .int .u8 0] 44)).alloc (.cells #[.int .u8 0, .int .u8 0, .int .u8 0, .int .u8 0, .int .u8 0, .int .u8 0, .int .u8 0, .int .u8 0, .int .u8 0, .int .u8 0, .int .u8 0, .int .u8 0, .int .u8 0, .int .u8 0, .int .u8 0, .int .u8 0] 44)).setRow w1.heap.size (packOf xs k)) (w1.heap.size + 1) w1.heap.size (packOf ys l) (by omega)).trans (setRow_same hg0 (packOf xs k))
  have hbW := below_setRow (below_setRow (((hb1.alloc hb1.size (.cells #[.int .u8 0, .int .u8 0, .int .u8 0, .int .u8 0, .int .u8 0, .int .u8 0, .int .u8 0, .int .u8 0, .int .u8 0, .int .u8 0, .int .u8 0, .int .u8 0, .int .u8 0, .int .u8 0, .int .u8 0, .int .u8 0] 44)).alloc (by have := hb1.size; simp; omega) (.cells #[.int .u8 0, .int .u8 0, .int .u8 0, .int .u8 0, .int .u8 0, .int .u8 0, .int .u8 0, .int .u8 0, .int .u8 0, .int .u8 0, .int .u8 0, .int .u8 0, .int .u8 0, .int .u8 0, .int .u8 0, .int .u8 0] 44))) w1.heap.size hb1.size (packOf xs k)) (w1.heap.size + 1) (by have := hb1.size; omega) (packOf ys l)
  obtain ⟨W, hW⟩ : ∃ W, Hid (W = ((((w1.alloc (.cells #[.int .u8 0, .int .u8 0, .int .u8 0, .int .u8 0, .int .u8 0, .int .u8 0, .int .u8 0, .int .u8 0, .int .u8 0, .int .u8 0, .int .u8 0, .int .u8 0, .int .u8 0, .int .u8 0, .int .u8 0, .int .u8 0] 44)).alloc (.cells #[.int .u8 0, .int .u8 0, .int .u8 0, .int .u8 0, .int .u8 0, .int .u8 0, .int .u8 0, .int .u8 0, .int .u8 0, .int .u8 0, .int .u8 0, .int .u8 0, .int .u8 0, .int .u8 0, .int .u8 0, .int .u8 0] 44)).setRow w1.heap.size (packOf xs k)).setRow (w1.heap.size + 1) (packOf ys l))) := ⟨_, rfl⟩
  rw [← hW.out] at hg2 hg3 hbW
  have HW := hide hbW
  have hb1s := hb1.size
  clear hb1 hbW HT
  have hbs : w.heap.size ≤ w1.heap.size := hb1s
  cases g
  · go_wp2_with (first
      | refine wpList_store_row rfl 44 (.tmp 8) _ rfl _ _ rfl rfl 44 _ hg0 (by rw [packOf_size]; exact Try.size44) (by rw [packOf_size]; rfl) (packOf_one _ _) ?_
      | (refine wpList_store_row rfl 44 (.tmp 9) _ rfl _ _ rfl rfl 44 _ hg1 (by rw [packOf_size]; exact Try.size44) (by rw [packOf_size]; rfl) (packOf_one _ _) ?_; rw [← hW.out]; clear hg0 hg1))
    go_ret2
    exact takeEnd_no (tnot_both hg.out) HW.out
  · have hl := two_len hg.out
    have hgg := hg.out
    rw [Bool.and_eq_true] at hgg
    have hp1 := good_parts hgg.1
    have hp2 := good_parts hgg.2
    obtain ⟨rfl, rfl⟩ := hkl.out rfl
    have e1 := hla.out
    have e2 := hlb.out
    obtain rfl : k = l := by omega
    obtain rfl : p = (k : Int) := by omega
    have hk16 : k ≤ 16 := by omega
    have hs1 := small_fOf hp1.1 k
    have hs2 := small_fOf hp2.1 k
    have HL := hide e1
    clear e1 e2 hp1 hp2 hgg hl hkl hla hlb hn hm
    have hcv : covF (fOf xs k) (fOf ys k) 16 = takeOk (k : Int) xs ys := by
      unfold takeOk; rw [hg.out, Bool.true_and, covF_pad xs ys k hk16, HL.out]
    have hu := Try.underlying44
    go_wp2_with (first
      | refine wpList_store_row rfl 44 (.tmp 8) _ rfl _ _ rfl rfl 44 _ hg0 (by rw [packOf_size]; exact Try.size44) (by rw [packOf_size]; rfl) (packOf_one _ _) ?_
      | (refine wpList_store_row rfl 44 (.tmp 9) _ rfl _ _ rfl rfl 44 _ hg1 (by rw [packOf_size]; exact Try.size44) (by rw [packOf_size]; rfl) (packOf_one _ _) ?_; rw [← hW.out]; clear hg0 hg1)
      | refine wpList_load_want (by simp [Region.wanted, yielded, Act.put]) 44 (.tmp 8) rfl w1.heap.size rfl 44 (packOf xs k) _ _ hg2 hu (by rw [packOf_size]; exact Try.size44) ?_
      | refine wpList_load_want (by simp [Region.wanted, yielded, Act.put]) 44 (.tmp 9) rfl (w1.heap.size + 1) rfl 44 (packOf ys k) _ _ hg3 hu (by rw [packOf_size]; exact Try.size44) ?_)
    refine (cov_any (fOf xs k) (fOf ys k) _).mono ?_
    rintro e w3 ⟨rfl, hb3⟩
    rw [hcv]
    have hzW : w1.heap.size + 1 < W.heap.size := (Array.getElem?_eq_some_iff.mp hg3).1
    have hg2' := (hb3.block w1.heap.size (by omega)).trans hg2
    have hg3' := (hb3.block (w1.heap.size + 1) (by omega)).trans hg3
    have HW3 := hide (HW.out.trans (hb3.mono HW.out.size))
    have HCV := hide hcv
    clear hb3 hW hb1s hg2 hg3 HW hcv hzW
    generalize w1.heap.size = B at *
    clear w1 W
    by_cases hok : takeOk (k : Int) xs ys = true
    rotate_left
    · have hok' : takeOk (k : Int) xs ys = false := by simpa using hok
      have HN := hide (takeEnd_no hok' HW3.out)
      clear hok
      go_wp2
      go_ret2
      exact HN.out
    have HCU := hide (covF_iff.mp (HCV.out.trans hok))
    have HA := hide hok
    go_wp2
    clear hok
    go_loopw [28] (fun i wr => ∃ j : Nat, j ≤ 16 ∧ i = .int .i64 j ∧ wr.heap[B]? = some (.cells (tokF (subF (fOf xs k) (fOf ys k) j)) 44 (0, 0)) ∧ wr.heap[B + 1]? = some (.cells (tokF (fOf ys k)) 44 (0, 0)) ∧ Hid (Below w.heap.size w wr)) (fun i _ => 16 - (intOf i).toNat)
    case atStart => exact ⟨0, Nat.zero_le _, rfl, by rw [subF_zero]; exact hg2', hg3', HW3⟩
    case round =>
      obtain ⟨j, hj, rfl, h8, h9, hbw⟩ := hrel
      clear hg2' hg3' HW3
      by_cases hlt : j < 16
      · have c8 : wr.cell? ⟨B, j, none⟩ = some (.int .u8 (fOf xs k j)) := by
          rw [cell_of_row wr B j _ _ _ h8, tokF_at _ _ hlt]; unfold subF; rw [if_neg (by omega)]
        have c9 : wr.cell? ⟨B + 1, j, none⟩ = some (.int .u8 (fOf ys k j)) := by
          rw [cell_of_row wr (B + 1) j _ _ _ h9, tokF_at _ _ hlt]
        have z8 := frozen_of_row wr B j _ _ h8
        have b1 := hs1 j
        have b2 := hs2 j
        have hi1 : ((j : Int)) < 16 := by omega
        have hsum := HCU.out j hlt
        have hh8 := heap_setCell_same wr B j _ _ (.int .u8 (fOf xs k j - fOf ys k j)) h8
        rw [subF_set] at hh8
        have hh9 : (wr.setCell ⟨B, j, none⟩ (.int .u8 (fOf xs k j - fOf ys k j))).heap[B + 1]? = some (.cells (tokF (fOf ys k)) 44 (0, 0)) := (Below.heap_setCell _ _ _ _ (by simp)).trans h9
        obtain ⟨x, hx⟩ : ∃ x, Hid (fOf xs k j = x) := ⟨_, rfl⟩
        obtain ⟨y, hy⟩ : ∃ y, Hid (fOf ys k j = y) := ⟨_, rfl⟩
        rw [hx.out] at c8 b1 hsum hh8 hh9
        rw [hy.out] at c9 b2 hsum hh8 hh9
        have HH8 := hide hh8
        have HH9 := hide hh9
        have HB2 := hide ((hbw.out.setCell (p := ⟨B, j, none⟩) hbs (.int .u8 (x - y))).drew)
        clear h8 h9 hbw hs1 hs2 hh8 hh9
        go_wp2
        go_region
        all_goals go_wp2
        all_goals
          go_roundw
          case rel => exact ⟨j + 1, by omega, by go_num, HH8.out, HH9.out, HB2⟩
          case measure => simp [intOf]; omega
      · have hj' : j = 16 := by omega
        subst hj'
        have hsm : ∀ i, 0 ≤ subF (fOf xs k) (fOf ys k) 16 i ∧ subF (fOf xs k) (fOf ys k) 16 i ≤ 255 := by
          intro i; have h1 := hs1 i; have h2 := hs2 i
          by_cases hi : i < 16
          · have h3 := HCU.out i hi
            unfold subF; rw [if_pos hi]; omega
          · unfold subF; rw [if_neg hi]; omega
        have HC := hide (list_any (subF (fOf xs k) (fOf ys k) 16) k wr hk16 hsm)
        rw [list_dif xs ys k HL.out hk16] at HC
        clear hs1 hs2 h9 hsm
        go_wp2_with (refine wpList_load_row rfl 44 (.tmp 8) rfl _ rfl 44 (tokF (subF (fOf xs k) (fOf ys k) 16)) (0, 0) _ h8 Try.underlying44 rfl (by rw [tokF_size]; exact Try.size44) ?_)
        refine HC.out.mono ?_
        rintro e w2 ⟨rfl, rfl⟩
        clear h8
        go_wp2
        go_ret2
        exact takeEnd_yes HA.out HL.out (heap_alloc2_new _ _ _) (by have := hbw.out.size; omega) (hbw.out.trans ((below_two _ _ _).mono hbw.out.size))
def difU (xs ys : List Int) (k : Nat) : List Int := (List.range k).map fun i => getF xs i - getF ys i

theorem difU_succ (xs ys : List Int) (k : Nat) : (difU xs ys (k + 1)).map (Value.int .i64) = (difU xs ys k).map (Value.int .i64) ++ [.int .i64 (getF xs k - getF ys k)] := by
  simp [difU, List.range_succ]

set_option maxHeartbeats 1000000 in
theorem takeS_any (p : Int) (a b : Option Addr) (n m ca cb : Nat) (xs ys : List Int) (w : World) (ha : Row w a n xs) (hb : Row w b m ys) (hn : n ≤ 1048576) (hm : m ≤ 1048576) :
    Calls Try.prog 11 #[.int .i64 p, .slice a n ca, .slice b m cb] w fun e w' => ReadEnd (takeOk p xs ys) (takeR p xs ys) w e w' := by
  have HG := hide (two_any p a b n m ca cb xs ys w ha hb hn hm)
  by_cases hg : (goodB p xs && goodB p ys) = true
  · have hl := two_len hg
    obtain rfl : n = m := by have := ha.1; have := hb.1; omega
    have hgg := hg
    rw [Bool.and_eq_true] at hgg
    have hp1 := good_parts hgg.1
    have hp2 := good_parts hgg.2
    have hn16 : n ≤ 16 := by have := ha.1; omega
    have HA := hide ha
    have HB := hide hb
    have HG2 := hide hg
    have hs1 := hp1.1
    have hs2 := hp2.1
    clear ha hb hl hgg hp1 hp2
    obtain ⟨i0, hi, hz0, hz1, hz2⟩ := info_parts Try.info3
    go_enter Try.func11, Try.ntmps11
    have hcv : covF (getF xs) (getF ys) n = takeOk p xs ys := by
      unfold takeOk; rw [HG2.out, Bool.true_and, HA.out.1]
    have HC := hide (covS_any a b n ca cb xs ys w HA.out HB.out hn16)
    rw [hcv] at HC
    have HCV := hide hcv
    clear hcv
    by_cases hok : takeOk p xs ys = true
    rotate_left
    · have hok' : takeOk p xs ys = false := by simpa using hok
      have HN := hide (tReadEnd_no (w := w) (w' := w) hok' (Below.refl _ _))
      clear hok
      go_wp2_with (first
        | (go_at_call 22; refine HG.out.mono ?_; rintro e w' ⟨rfl, rfl⟩)
        | (go_at_call 24; refine HC.out.mono ?_; rintro e w' ⟨rfl, rfl⟩))
      go_ret2
      exact HN.out
    have HCU := hide (covF_iff.mp (HCV.out.trans hok))
    have HOK := hide hok
    go_wp2_with (first
      | (go_at_call 22; refine HG.out.mono ?_; rintro e w' ⟨rfl, rfl⟩)
      | (go_at_call 24; refine HC.out.mono ?_; rintro e w' ⟨rfl, rfl⟩))
    clear hg HG HC hok HCV
    go_loopw [8, 23] (fun o i wr => ∃ k : Nat, k ≤ n ∧ i = .int .i64 k ∧ wr.ownsRow w'.heap.size 3 1 o k ((difU xs ys k).map (Value.int .i64)) ∧ Hid (Below w'.heap.size w' wr)) (fun _ i _ => n - (intOf i).toNat)
    case atStart => exact ⟨0, Nat.zero_le _, rfl, World.ownsRow_nil _ _ _ _, Below.refl _ _⟩
    case round =>
      obtain ⟨k, hk, rfl, hown, hbw⟩ := hrel
      by_cases hlt : k < n
      · obtain ⟨b1, o1, x, rfl, hl1, hc1, H1⟩ := (HA.out.below hbw.out).at hlt
        obtain ⟨b2, o2, y, rfl, hl2, hc2, H2⟩ := (HB.out.below hbw.out).at hlt
        have hi1 : ((k : Int)) < ((n : Int)) := by omega
        have hx := hs1 k
        have hy := hs2 k
        rw [getF_of H1] at hx
        rw [getF_of H2] at hy
        have hxy : y ≤ x := by have := HCU.out k hlt; rw [getF_of H1, getF_of H2] at this; exact this
        have HS := hide (difU_succ xs ys k)
        rw [getF_of H1, getF_of H2, ← wrap_in (x - y) ⟨by omega, by omega⟩] at HS
        have hOB := hide (fun v' W' (h1 : W'.ownsRow w'.heap.size 3 1 v' (k + 1) ((difU xs ys k).map (Value.int .i64) ++ [.int .i64 (IntKind.i64.wrap (x - y))])) (h2 : ((wr.alloc (.cells #[.int .i64 (IntKind.i64.wrap (x - y))] 3)).drew).grownBy W' u8.ownBlock) =>
          (⟨k + 1, by omega, by go_num, by rw [HS.out]; exact h1, ownsRow_below (w := (wr.alloc (.cells #[.int .i64 (IntKind.i64.wrap (x - y))] 3)).drew) (B := w'.heap.size) (hown.alloc _) h2 ((hbw.out.alloc hbw.out.size _).drew) (by have := hbw.out.size; simp; omega) (Nat.le_refl _)⟩ :
            ∃ j : Nat, j ≤ n ∧ Value.int .i64 ((k : Int) + 1) = .int .i64 j ∧ W'.ownsRow w'.heap.size 3 1 v' j ((difU xs ys j).map (Value.int .i64)) ∧ Hid (Below w'.heap.size w' W')))
        have hsz := hbw.out.size
        have HO := hide (hown.alloc (.cells #[.int .i64 (IntKind.i64.wrap (x - y))] 3))
        clear HS hs1 hs2 hown
        go_wp2
        go_region_law (refine step_append_own rfl (.tmp 26) (.tmp 36) 24 rfl w'.heap.size 3 i0 (.int .i64 0) 1 8 Try.underlying24 hi hz0 hz1 hz2 rfl (by decide) u8 k _ rfl HO.out ⟨wr.heap.size, 0, none⟩ 1 1 [.int .i64 (IntKind.i64.wrap (x - y))] rfl rfl (cell_one_new _ _ _) (by intro u hu; simp at hu; subst hu; rfl) (by unfold maxLen; omega) (by omega) (by simp; omega) ?_; intro v' W' r1 r2; have R := hide (hOB.out v' W' r1 r2); clear r1 r2)
        all_goals
          go_wp2
          go_roundw
          case rel => exact R.out
          case measure => simp [intOf]; omega
      · have hk' : k = n := by omega
        subst hk'
        obtain ⟨a3, c3, rfl, hr3⟩ := ownsRow_row hown
        have hl := HA.out.1
        rw [show difU xs ys k = difL xs ys from by rw [← hl]; rfl] at hr3
        have HY := hide (tReadEnd_yes (w := w') (c := c3) HOK.out hr3 hbw.out)
        clear hr3 hown hl hs1 hs2 hi hz0 hz1 hz2
        go_wp2
        go_ret2
        exact HY.out
  · have hg' : (goodB p xs && goodB p ys) = false := by simpa using hg
    have HN := hide (tReadEnd_no (w := w) (w' := w) (tnot_both hg') (Below.refl _ _))
    clear hg ha hb
    go_enter Try.func11, Try.ntmps11
    go_wp2_with (go_at_call 22; refine HG.out.mono ?_; rintro e w' ⟨rfl, rfl⟩)
    go_ret2
    exact HN.out
end Go.Proofs.Ytbgdieliepcbpaa
