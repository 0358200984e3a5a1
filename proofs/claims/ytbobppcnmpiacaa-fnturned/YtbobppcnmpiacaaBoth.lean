/- What bothTokensOf answers, for every number of places and every two lists: both arrays and true where both are good marks, else false; nothing that was there is written. -/
import Derived.Test.YtbobppcnmpiacaaGood
import Derived.Deep.RegionHeld3
import Derived.Deep.MidRow
namespace Go.Proofs.Ytbobppcnmpiacaa
open Go.RowKit

def tokL (f : Nat → Int) : List Value := (tokF f).toList

theorem tokL_len (f : Nat → Int) : (tokL f).length = 16 := by simp [tokL, tokF_size]
theorem tokL_arr (f : Nat → Int) : (tokL f).toArray = tokF f := by simp [tokL]
theorem tokL_one (f : Nat → Int) : ∀ v ∈ tokL f, v.oneCell' = true := by
  intro v hv
  exact Array.all_eq_true_iff_forall_mem.1 (tokF_one f) v (by simpa [tokL] using hv)

theorem range_of_block {w : World} {b : Nat} {f : Nat → Int} {t : TypeId} {fr : Nat × Nat} (hb : w.heap[b]? = some (.cells (tokF f) t fr)) : w.rangeAt b 0 (tokL f) := by
  intro j v hv
  rw [cell_of_row w b (0 + j) _ t fr hb, Nat.zero_add]
  simpa [tokL] using hv

theorem there_of_block {w : World} {b : Nat} {C : Array Value} {t : TypeId} (hb : w.heap[b]? = some (.cells C t (0, 0))) (hs : C.size = 16) : w.there b 0 16 := by
  intro j hj
  refine ⟨?_, frozen_of_row w b _ C t hb⟩
  rw [cell_of_row w b (0 + j) _ t (0, 0) hb, Nat.zero_add, Array.getElem?_eq_getElem (by omega)]
  rfl

theorem setRow_same {w : World} {b : Nat} {C : Array Value} {t : TypeId} (hb : w.heap[b]? = some (.cells C t (0, 0))) (D : Array Value) : (w.setRow b D).heap[b]? = some (.cells D t (0, 0)) := by
  simp only [World.setRow, Array.getElem?_modify]
  rw [if_pos trivial, hb]
  rfl

theorem setRow_other (w : World) (b k : Nat) (D : Array Value) (h : k ≠ b) : (w.setRow b D).heap[k]? = w.heap[k]? := by
  simp only [World.setRow, Array.getElem?_modify]
  rw [if_neg (by omega)]

theorem below_setCells {B : Nat} {a w : World} (h : Below B a w) (b o : Nat) (hb : B ≤ b) (vs : List Value) : Below B a (w.setCells b o vs) := by
  induction vs generalizing w o with
  | nil => exact h
  | cons v r ih => exact ih (h.setCell hb v) (o + 1)

theorem results_cells_tmp {fn : Func} {p q u : Tmp} {ty tz : TypeId} (h : fn.results = #[.cell p ty, .cell q tz, .tmp u]) (tmps : Array Value) (P : Program) (w : World) :
    (results fn tmps).run P w =
      ((asAddr (tmps.getD p undef)).run P w).andThen fun a w₁ => ((loadVar ty a).run P w₁).andThen fun v w₂ =>
        ((asAddr (tmps.getD q undef)).run P w₂).andThen fun b w₃ => ((loadVar tz b).run P w₃).andThen fun v' w₄ => .ok (.tuple #[v, v', tmps.getD u undef]) w₄ := by
  simp only [results, h]
  simp [Sem.run_bind, Result.andThen]

theorem cons_store {P : Program} {md : Region.Mode} {ops : Array Oper} {Q : Exit → Act → World → Prop} {fuel : Nat} {listed : Array Bool} {a : Act} {w : World} {i : Nat} {o : Oper} {rs : List Nat} (ho : ops[i]? = some o)
    (hgd : o.guard = none) (hd : o.dst = none) (ty : TypeId) (x y : Operand) (hop : o.op = .store ty x y)
    (g : Nat) (cells : Array Value) (hx : a.eval x = .pointer (some ⟨g, 0, none⟩)) (hy : a.eval y = .agg cells)
    (t : TypeId) (old : Array Value) (hg : w.heap[g]? = some (.cells old t (0, 0))) (hi : (P.info? ty).map (·.size) = some cells.size)
    (hold : old.size = cells.size) (h1 : cells.all (·.oneCell') = true)
    (h : wpAny P md ops Q fuel (listed.setIfInBounds i true) a (w.setRow g cells))
    (hs : AllReady P md ops Q fuel listed a w rs) : AllReady P md ops Q fuel listed a w (i :: rs) := by
  refine AllReady.cons ho (fun K hK => ?_) hs
  rw [if_pos (by simp [Region.wanted, hgd])]
  refine wp_store_row ty x y hop g cells hx hy t old hg hi hold h1 (hK _ _ ?_)
  rw [hd]
  exact h

theorem cons_load {P : Program} {md : Region.Mode} {ops : Array Oper} {Q : Exit → Act → World → Prop} {fuel : Nat} {listed : Array Bool} {a : Act} {w : World} {i : Nat} {o : Oper} {rs : List Nat} (ho : ops[i]? = some o)
    (hgd : o.guard = none) (d : Option Tmp) (hd : o.dst = d) (ty : TypeId) (x : Operand) (hop : o.op = .load ty x)
    (g : Nat) (cells : Array Value) (hx : a.eval x = .pointer (some ⟨g, 0, none⟩))
    (t : TypeId) (n : Nat) (e : TypeId) (hu : P.underlying ty = some (.array n e)) (hg : w.heap[g]? = some (.cells cells t (0, 0))) (hi : (P.info? ty).map (·.size) = some cells.size)
    (h : wpAny P md ops Q fuel (listed.setIfInBounds i true) (a.put d (.agg cells)) w)
    (hs : AllReady P md ops Q fuel listed a w rs) : AllReady P md ops Q fuel listed a w (i :: rs) := by
  refine AllReady.cons ho (fun K hK => ?_) hs
  rw [if_pos (by simp [Region.wanted, hgd])]
  refine wp_load_row ty x hop g hx t cells (0, 0) _ hg hu rfl hi (hK _ _ ?_)
  rw [hd]
  exact h

theorem cons_assign {P : Program} {md : Region.Mode} {ops : Array Oper} {Q : Exit → Act → World → Prop} {fuel : Nat} {listed : Array Bool} {a : Act} {w : World} {i : Nat} {o : Oper} {rs : List Nat} (ho : ops[i]? = some o)
    (hgd : o.guard = none) (d : Option Tmp) (hd : o.dst = d) (x : Operand) (hop : o.op = .assign x)
    (h : wpAny P md ops Q fuel (listed.setIfInBounds i true) (a.put d (a.eval x)) w)
    (hs : AllReady P md ops Q fuel listed a w rs) : AllReady P md ops Q fuel listed a w (i :: rs) := by
  refine AllReady.cons ho (fun K hK => ?_) hs
  rw [if_pos (by simp [Region.wanted, hgd])]
  unfold Oper.wp
  simp only [execOp, hop, Sem.run_pure]
  refine hK _ _ ?_
  rw [hd]
  exact h

set_option maxRecDepth 10000 in
theorem both_results {fn : Func} (hr : fn.results = #[.cell 6 68, .cell 7 68, .tmp 8]) (tmps : Array Value) (W : World) (b6 b7 : Nat) (f g : Nat → Int) (v : Value)
    (h6 : tmps.getD 6 undef = .pointer (some ⟨b6, 0, none⟩)) (h7 : tmps.getD 7 undef = .pointer (some ⟨b7, 0, none⟩)) (h8 : tmps.getD 8 undef = v)
    (q6 : W.heap[b6]? = some (.cells (tokF f) 68 (0, 0))) (q7 : W.heap[b7]? = some (.cells (tokF g) 68 (0, 0))) :
    (results fn tmps).run Try.prog W = .ok (.tuple #[.agg (tokF f), .agg (tokF g), v]) W := by
  refine (results_cells_tmp hr _ _ _).trans ?_
  rw [h6, h7, h8]
  show ((loadVar 68 ⟨b6, 0, none⟩).run Try.prog W).andThen _ = _
  rw [run_loadVar_row _ _ 68 68 (tokF f) (0, 0) _ q6 Try.underlying68 rfl (by rw [tokF_size]; exact Try.size68)]
  show ((loadVar 68 ⟨b7, 0, none⟩).run Try.prog W).andThen _ = _
  rw [run_loadVar_row _ _ 68 68 (tokF g) (0, 0) _ q7 Try.underlying68 rfl (by rw [tokF_size]; exact Try.size68)]
  rfl

theorem below_rows {B : Nat} {w V : World} (h : Below B w V) (b c : Nat) (hb : B ≤ b) (hc : B ≤ c) (C D : Array Value) : Below B w ((V.drew.setRow b C).setRow c D) :=
  below_setRow (below_setRow h.drew _ hb _) _ hc _

theorem lit_one : (#[.int .u8 0, .int .u8 0, .int .u8 0, .int .u8 0, .int .u8 0, .int .u8 0, .int .u8 0, .int .u8 0, .int .u8 0, .int .u8 0, .int .u8 0, .int .u8 0, .int .u8 0, .int .u8 0, .int .u8 0, .int .u8 0] : Array Value).all (·.oneCell') = true := by
  rw [← packOf_zero []]; exact packOf_one _ _

def BothEnd (g : Bool) (xs ys : List Int) (n m : Nat) (w : World) (e : Ending) (w' : World) : Prop :=
  ∃ k l, e = .returned (.tuple #[.agg (packOf xs k), .agg (packOf ys l), .bool g]) ∧ Hid (g = true → k = n ∧ l = m) ∧ Below w.heap.size w w'

set_option maxRecDepth 10000 in
set_option maxHeartbeats 1000000 in
theorem both_run (ga gb : Bool) (p : Int) (a b : Option Addr) (n m ca cb : Nat) (xs ys : List Int) (w : World) (ha : Row w a n xs) (hb : Row w b m ys) (hn : n ≤ 1048576) (hm : m ≤ 1048576)
    (hga : Hid (goodB p xs = ga)) (hgb : Hid (goodB p ys = gb)) :
    Calls Try.prog 70 #[.int .i64 p, .slice a n ca, .slice b m cb] w fun e w' => BothEnd (ga && gb) xs ys n m w e w' := by
  have HA := hide ha
  have HB := hide hb
  clear ha hb
  go_enter Try.func70, Try.ntmps70
  go_wp2_with fail
  refine (tokens_any p a n ca xs _ ((HA.out.alloc _).alloc _) hn).mono ?_
  rintro e w1 ⟨k, rfl, hk, hb1⟩
  rw [hga.out]
  rw [hga.out] at hk
  have hz1 : w.heap.size + 2 ≤ w1.heap.size := by have := hb1.size; simp at this; omega
  have q6 : w1.heap[w.heap.size]? = some (.cells #[.int .u8 0, .int .u8 0, .int .u8 0, .int .u8 0, .int .u8 0, .int .u8 0, .int .u8 0, .int .u8 0, .int .u8 0, .int .u8 0, .int .u8 0, .int .u8 0, .int .u8 0, .int .u8 0, .int .u8 0, .int .u8 0] 68 (0, 0)) := (hb1.block _ (by simp; omega)).trans (heap_alloc2_old _ _ _)
  have q7 : w1.heap[w.heap.size + 1]? = some (.cells #[.int .u8 0, .int .u8 0, .int .u8 0, .int .u8 0, .int .u8 0, .int .u8 0, .int .u8 0, .int .u8 0, .int .u8 0, .int .u8 0, .int .u8 0, .int .u8 0, .int .u8 0, .int .u8 0, .int .u8 0, .int .u8 0] 68 (0, 0)) := (hb1.block _ (by simp)).trans (heap_alloc2_new _ _ _)
  have hbw1 : Below w.heap.size w w1 := (below_two w _ _).trans (hb1.mono (by simp; omega))
  clear hb1
  have hg0 := heap_alloc_new w1 (.cells #[.int .u8 0, .int .u8 0, .int .u8 0, .int .u8 0, .int .u8 0, .int .u8 0, .int .u8 0, .int .u8 0, .int .u8 0, .int .u8 0, .int .u8 0, .int .u8 0, .int .u8 0, .int .u8 0, .int .u8 0, .int .u8 0] 68)
  go_wp2_with (first
    | refine wpList_store_row rfl 68 _ _ rfl _ _ rfl rfl 68 _ hg0 (by rw [packOf_size]; exact Try.size68) (by rw [packOf_size]; rfl) (packOf_one _ _) ?_)
  have h9 := setRow_same hg0 (packOf xs k)
  have q6' : ((w1.alloc (.cells #[.int .u8 0, .int .u8 0, .int .u8 0, .int .u8 0, .int .u8 0, .int .u8 0, .int .u8 0, .int .u8 0, .int .u8 0, .int .u8 0, .int .u8 0, .int .u8 0, .int .u8 0, .int .u8 0, .int .u8 0, .int .u8 0] 68)).setRow w1.heap.size (packOf xs k)).heap[w.heap.size]? = some (.cells #[.int .u8 0, .int .u8 0, .int .u8 0, .int .u8 0, .int .u8 0, .int .u8 0, .int .u8 0, .int .u8 0, .int .u8 0, .int .u8 0, .int .u8 0, .int .u8 0, .int .u8 0, .int .u8 0, .int .u8 0, .int .u8 0] 68 (0, 0)) := by
    rw [setRow_other _ _ _ _ (by omega), Below.heap_alloc _ _ _ (by omega)]; exact q6
  have q7' : ((w1.alloc (.cells #[.int .u8 0, .int .u8 0, .int .u8 0, .int .u8 0, .int .u8 0, .int .u8 0, .int .u8 0, .int .u8 0, .int .u8 0, .int .u8 0, .int .u8 0, .int .u8 0, .int .u8 0, .int .u8 0, .int .u8 0, .int .u8 0] 68)).setRow w1.heap.size (packOf xs k)).heap[w.heap.size + 1]? = some (.cells #[.int .u8 0, .int .u8 0, .int .u8 0, .int .u8 0, .int .u8 0, .int .u8 0, .int .u8 0, .int .u8 0, .int .u8 0, .int .u8 0, .int .u8 0, .int .u8 0, .int .u8 0, .int .u8 0, .int .u8 0, .int .u8 0] 68 (0, 0)) := by
    rw [setRow_other _ _ _ _ (by omega), Below.heap_alloc _ _ _ (by omega)]; exact q7
  have hbW := below_setRow (hbw1.alloc hbw1.size (.cells #[.int .u8 0, .int .u8 0, .int .u8 0, .int .u8 0, .int .u8 0, .int .u8 0, .int .u8 0, .int .u8 0, .int .u8 0, .int .u8 0, .int .u8 0, .int .u8 0, .int .u8 0, .int .u8 0, .int .u8 0, .int .u8 0] 68)) w1.heap.size (by omega) (packOf xs k)
  have hzW : ((w1.alloc (.cells #[.int .u8 0, .int .u8 0, .int .u8 0, .int .u8 0, .int .u8 0, .int .u8 0, .int .u8 0, .int .u8 0, .int .u8 0, .int .u8 0, .int .u8 0, .int .u8 0, .int .u8 0, .int .u8 0, .int .u8 0, .int .u8 0] 68)).setRow w1.heap.size (packOf xs k)).heap.size = w1.heap.size + 1 := by simp
  clear q6 q7 hbw1 hg0
  generalize ((w1.alloc (.cells #[.int .u8 0, .int .u8 0, .int .u8 0, .int .u8 0, .int .u8 0, .int .u8 0, .int .u8 0, .int .u8 0, .int .u8 0, .int .u8 0, .int .u8 0, .int .u8 0, .int .u8 0, .int .u8 0, .int .u8 0, .int .u8 0] 68)).setRow w1.heap.size (packOf xs k)) = W at *
  generalize w1.heap.size = B9 at *
  clear w1
  refine (tokens_any p b m cb ys _ (HB.out.below hbW) hm).mono ?_
  rintro e w2 ⟨l, rfl, hl, hb2⟩
  rw [hgb.out]
  rw [hgb.out] at hl
  have hz2 : B9 + 1 ≤ w2.heap.size := by have := hb2.size; omega
  have p6 : w2.heap[w.heap.size]? = some (.cells #[.int .u8 0, .int .u8 0, .int .u8 0, .int .u8 0, .int .u8 0, .int .u8 0, .int .u8 0, .int .u8 0, .int .u8 0, .int .u8 0, .int .u8 0, .int .u8 0, .int .u8 0, .int .u8 0, .int .u8 0, .int .u8 0] 68 (0, 0)) := (hb2.block _ (by omega)).trans q6'
  have p7 : w2.heap[w.heap.size + 1]? = some (.cells #[.int .u8 0, .int .u8 0, .int .u8 0, .int .u8 0, .int .u8 0, .int .u8 0, .int .u8 0, .int .u8 0, .int .u8 0, .int .u8 0, .int .u8 0, .int .u8 0, .int .u8 0, .int .u8 0, .int .u8 0, .int .u8 0] 68 (0, 0)) := (hb2.block _ (by omega)).trans q7'
  have p9 : w2.heap[B9]? = some (.cells (packOf xs k) 68 (0, 0)) := (hb2.block _ (by omega)).trans h9
  have hbw2 : Below w.heap.size w w2 := hbW.trans (hb2.mono (by omega))
  clear hb2 h9 q6' q7' hbW hzW W
  have hg0 := heap_alloc_new w2 (.cells #[.int .u8 0, .int .u8 0, .int .u8 0, .int .u8 0, .int .u8 0, .int .u8 0, .int .u8 0, .int .u8 0, .int .u8 0, .int .u8 0, .int .u8 0, .int .u8 0, .int .u8 0, .int .u8 0, .int .u8 0, .int .u8 0] 68)
  have h11 := setRow_same hg0 (packOf ys l)
  have r6 : ((w2.alloc (.cells #[.int .u8 0, .int .u8 0, .int .u8 0, .int .u8 0, .int .u8 0, .int .u8 0, .int .u8 0, .int .u8 0, .int .u8 0, .int .u8 0, .int .u8 0, .int .u8 0, .int .u8 0, .int .u8 0, .int .u8 0, .int .u8 0] 68)).setRow w2.heap.size (packOf ys l)).heap[w.heap.size]? = some (.cells #[.int .u8 0, .int .u8 0, .int .u8 0, .int .u8 0, .int .u8 0, .int .u8 0, .int .u8 0, .int .u8 0, .int .u8 0, .int .u8 0, .int .u8 0, .int .u8 0, .int .u8 0, .int .u8 0, .int .u8 0, .int .u8 0] 68 (0, 0)) := by
    rw [setRow_other _ _ _ _ (by omega), Below.heap_alloc _ _ _ (by omega)]; exact p6
  have r7 : ((w2.alloc (.cells #[.int .u8 0, .int .u8 0, .int .u8 0, .int .u8 0, .int .u8 0, .int .u8 0, .int .u8 0, .int .u8 0, .int .u8 0, .int .u8 0, .int .u8 0, .int .u8 0, .int .u8 0, .int .u8 0, .int .u8 0, .int .u8 0] 68)).setRow w2.heap.size (packOf ys l)).heap[w.heap.size + 1]? = some (.cells #[.int .u8 0, .int .u8 0, .int .u8 0, .int .u8 0, .int .u8 0, .int .u8 0, .int .u8 0, .int .u8 0, .int .u8 0, .int .u8 0, .int .u8 0, .int .u8 0, .int .u8 0, .int .u8 0, .int .u8 0, .int .u8 0] 68 (0, 0)) := by
    rw [setRow_other _ _ _ _ (by omega), Below.heap_alloc _ _ _ (by omega)]; exact p7
  have r9 : ((w2.alloc (.cells #[.int .u8 0, .int .u8 0, .int .u8 0, .int .u8 0, .int .u8 0, .int .u8 0, .int .u8 0, .int .u8 0, .int .u8 0, .int .u8 0, .int .u8 0, .int .u8 0, .int .u8 0, .int .u8 0, .int .u8 0, .int .u8 0] 68)).setRow w2.heap.size (packOf ys l)).heap[B9]? = some (.cells (packOf xs k) 68 (0, 0)) := by
    rw [setRow_other _ _ _ _ (by omega), Below.heap_alloc _ _ _ (by omega)]; exact p9
  have hbV := below_setRow (hbw2.alloc hbw2.size (.cells #[.int .u8 0, .int .u8 0, .int .u8 0, .int .u8 0, .int .u8 0, .int .u8 0, .int .u8 0, .int .u8 0, .int .u8 0, .int .u8 0, .int .u8 0, .int .u8 0, .int .u8 0, .int .u8 0, .int .u8 0, .int .u8 0] 68)) w2.heap.size (by omega) (packOf ys l)
  clear p6 p7 p9 hbw2
  have HK := hk
  have HL := hl
  by_cases hg : (ga && gb) = true
  · obtain ⟨rfl, rfl⟩ : ga = true ∧ gb = true := by simpa using hg
    clear hg
    go_wp2_with (refine wpList_store_row rfl 68 _ _ rfl _ _ rfl rfl 68 _ hg0 (by rw [packOf_size]; exact Try.size68) (by rw [packOf_size]; rfl) (packOf_one _ _) ?_)
    clear hg0
    generalize ((w2.alloc (.cells #[.int .u8 0, .int .u8 0, .int .u8 0, .int .u8 0, .int .u8 0, .int .u8 0, .int .u8 0, .int .u8 0, .int .u8 0, .int .u8 0, .int .u8 0, .int .u8 0, .int .u8 0, .int .u8 0, .int .u8 0, .int .u8 0] 68)).setRow w2.heap.size (packOf ys l)) = V at *
    generalize w2.heap.size = B11 at *
    clear w2
    have r7s : (V.setRow w.heap.size (packOf xs k)).heap[w.heap.size + 1]? = some (.cells #[.int .u8 0, .int .u8 0, .int .u8 0, .int .u8 0, .int .u8 0, .int .u8 0, .int .u8 0, .int .u8 0, .int .u8 0, .int .u8 0, .int .u8 0, .int .u8 0, .int .u8 0, .int .u8 0, .int .u8 0, .int .u8 0] 68 (0, 0)) := by
      rw [setRow_other _ _ _ _ (by omega)]; exact r7
    have r9s : (V.setRow w.heap.size (packOf xs k)).heap[B9]? = some (.cells (packOf xs k) 68 (0, 0)) := by
      rw [setRow_other _ _ _ _ (by omega)]; exact r9
    have r11s : (V.setRow w.heap.size (packOf xs k)).heap[B11]? = some (.cells (packOf ys l) 68 (0, 0)) := by
      rw [setRow_other _ _ _ _ (by omega)]; exact h11
    have HV := hide hbV
    clear hbV hk hl
    refine wp_region_any (by kernel_rfl) ?_
    refine wpAny_ready (rs := [0, 1]) (by kernel_rfl) (by simp) ?_
    refine cons_load rfl rfl (some 33) rfl 68 (.tmp 9) rfl B9 (packOf xs k) rfl 68 _ _ Try.underlying68 r9 (by rw [packOf_size]; exact Try.size68) ?_ (cons_load rfl rfl (some 34) rfl 68 (.tmp 11) rfl B11 (packOf ys l) rfl 68 _ _ Try.underlying68 h11 (by rw [packOf_size]; exact Try.size68) ?_ AllReady.nil)
    · refine wpAny_ready (rs := [1, 2]) (by kernel_rfl) (by simp) ?_
      refine cons_load rfl rfl (some 34) rfl 68 (.tmp 11) rfl B11 (packOf ys l) rfl 68 _ _ Try.underlying68 h11 (by rw [packOf_size]; exact Try.size68) ?_ (cons_store rfl rfl rfl 68 (.tmp 6) (.tmp 33) rfl w.heap.size (packOf xs k) rfl rfl 68 _ r6 (by rw [packOf_size]; exact Try.size68) (by rw [packOf_size]; rfl) (packOf_one _ _) ?_ AllReady.nil)
      · refine wpAny_ready (rs := [2]) (by kernel_rfl) (by simp) ?_
        refine cons_store rfl rfl rfl 68 (.tmp 6) (.tmp 33) rfl w.heap.size (packOf xs k) rfl rfl 68 _ r6 (by rw [packOf_size]; exact Try.size68) (by rw [packOf_size]; rfl) (packOf_one _ _) ?_ AllReady.nil
        refine wpAny_ready (rs := [3]) (by kernel_rfl) (by simp) ?_
        refine cons_store rfl rfl rfl 68 (.tmp 7) (.tmp 34) rfl (w.heap.size + 1) (packOf ys l) rfl rfl 68 _ r7s (by rw [packOf_size]; exact Try.size68) (by rw [packOf_size]; rfl) (packOf_one _ _) ?_ AllReady.nil
        refine wpAny_ready (rs := [4]) (by kernel_rfl) (by simp) ?_
        refine cons_assign rfl rfl (some 8) rfl (.const (.bool true)) rfl ?_ AllReady.nil
        refine wpAny_done (by kernel_rfl) ?_ _
        go_wp2
        refine bodyPost_ret (v := .tuple #[.agg (packOf xs k), .agg (packOf ys l), .bool true]) ?_ rfl ⟨k, l, rfl, fun _ => ⟨HK.out trivial, HL.out trivial⟩, below_rows HV.out _ _ (Nat.le_refl _) (Nat.le_succ _) _ _⟩
        exact both_results Try.results70 _ _ w.heap.size (w.heap.size + 1) (fOf xs k) (fOf ys l) _ rfl rfl rfl ((setRow_other _ _ _ _ (by omega)).trans (setRow_same (w := V.drew) r6 _)) (setRow_same r7s _)
      · refine wpAny_ready (rs := [1]) (by kernel_rfl) (by simp) ?_
        refine cons_load rfl rfl (some 34) rfl 68 (.tmp 11) rfl B11 (packOf ys l) rfl 68 _ _ Try.underlying68 r11s (by rw [packOf_size]; exact Try.size68) ?_ AllReady.nil
        refine wpAny_ready (rs := [3]) (by kernel_rfl) (by simp) ?_
        refine cons_store rfl rfl rfl 68 (.tmp 7) (.tmp 34) rfl (w.heap.size + 1) (packOf ys l) rfl rfl 68 _ r7s (by rw [packOf_size]; exact Try.size68) (by rw [packOf_size]; rfl) (packOf_one _ _) ?_ AllReady.nil
        refine wpAny_ready (rs := [4]) (by kernel_rfl) (by simp) ?_
        refine cons_assign rfl rfl (some 8) rfl (.const (.bool true)) rfl ?_ AllReady.nil
        refine wpAny_done (by kernel_rfl) ?_ _
        go_wp2
        refine bodyPost_ret (v := .tuple #[.agg (packOf xs k), .agg (packOf ys l), .bool true]) ?_ rfl ⟨k, l, rfl, fun _ => ⟨HK.out trivial, HL.out trivial⟩, below_rows HV.out _ _ (Nat.le_refl _) (Nat.le_succ _) _ _⟩
        exact both_results Try.results70 _ _ w.heap.size (w.heap.size + 1) (fOf xs k) (fOf ys l) _ rfl rfl rfl ((setRow_other _ _ _ _ (by omega)).trans (setRow_same (w := V.drew) r6 _)) (setRow_same r7s _)
    · refine wpAny_ready (rs := [0]) (by kernel_rfl) (by simp) ?_
      refine cons_load rfl rfl (some 33) rfl 68 (.tmp 9) rfl B9 (packOf xs k) rfl 68 _ _ Try.underlying68 r9 (by rw [packOf_size]; exact Try.size68) ?_ AllReady.nil
      refine wpAny_ready (rs := [2]) (by kernel_rfl) (by simp) ?_
      refine cons_store rfl rfl rfl 68 (.tmp 6) (.tmp 33) rfl w.heap.size (packOf xs k) rfl rfl 68 _ r6 (by rw [packOf_size]; exact Try.size68) (by rw [packOf_size]; rfl) (packOf_one _ _) ?_ AllReady.nil
      refine wpAny_ready (rs := [3]) (by kernel_rfl) (by simp) ?_
      refine cons_store rfl rfl rfl 68 (.tmp 7) (.tmp 34) rfl (w.heap.size + 1) (packOf ys l) rfl rfl 68 _ r7s (by rw [packOf_size]; exact Try.size68) (by rw [packOf_size]; rfl) (packOf_one _ _) ?_ AllReady.nil
      refine wpAny_ready (rs := [4]) (by kernel_rfl) (by simp) ?_
      refine cons_assign rfl rfl (some 8) rfl (.const (.bool true)) rfl ?_ AllReady.nil
      refine wpAny_done (by kernel_rfl) ?_ _
      go_wp2
      refine bodyPost_ret (v := .tuple #[.agg (packOf xs k), .agg (packOf ys l), .bool true]) ?_ rfl ⟨k, l, rfl, fun _ => ⟨HK.out trivial, HL.out trivial⟩, below_rows HV.out _ _ (Nat.le_refl _) (Nat.le_succ _) _ _⟩
      exact both_results Try.results70 _ _ w.heap.size (w.heap.size + 1) (fOf xs k) (fOf ys l) _ rfl rfl rfl ((setRow_other _ _ _ _ (by omega)).trans (setRow_same (w := V.drew) r6 _)) (setRow_same r7s _)
  · have hg' : (ga && gb) = false := by simpa using hg
    have hbr := below_setRow (below_setRow hbV w.heap.size (Nat.le_refl _) #[.int .u8 0, .int .u8 0, .int .u8 0, .int .u8 0, .int .u8 0, .int .u8 0, .int .u8 0, .int .u8 0, .int .u8 0, .int .u8 0, .int .u8 0, .int .u8 0, .int .u8 0, .int .u8 0, .int .u8 0, .int .u8 0]) (w.heap.size + 1) (Nat.le_succ _) #[.int .u8 0, .int .u8 0, .int .u8 0, .int .u8 0, .int .u8 0, .int .u8 0, .int .u8 0, .int .u8 0, .int .u8 0, .int .u8 0, .int .u8 0, .int .u8 0, .int .u8 0, .int .u8 0, .int .u8 0, .int .u8 0]
    have r7s : (((w2.alloc (.cells #[.int .u8 0, .int .u8 0, .int .u8 0, .int .u8 0, .int .u8 0, .int .u8 0, .int .u8 0, .int .u8 0, .int .u8 0, .int .u8 0, .int .u8 0, .int .u8 0, .int .u8 0, .int .u8 0, .int .u8 0, .int .u8 0] 68)).setRow w2.heap.size (packOf ys l)).setRow w.heap.size #[.int .u8 0, .int .u8 0, .int .u8 0, .int .u8 0, .int .u8 0, .int .u8 0, .int .u8 0, .int .u8 0, .int .u8 0, .int .u8 0, .int .u8 0, .int .u8 0, .int .u8 0, .int .u8 0, .int .u8 0, .int .u8 0]).heap[w.heap.size + 1]? = some (.cells #[.int .u8 0, .int .u8 0, .int .u8 0, .int .u8 0, .int .u8 0, .int .u8 0, .int .u8 0, .int .u8 0, .int .u8 0, .int .u8 0, .int .u8 0, .int .u8 0, .int .u8 0, .int .u8 0, .int .u8 0, .int .u8 0] 68 (0, 0)) := by
      rw [setRow_other _ _ _ _ (by omega)]; exact r7
    have f7 := setRow_same r7s #[.int .u8 0, .int .u8 0, .int .u8 0, .int .u8 0, .int .u8 0, .int .u8 0, .int .u8 0, .int .u8 0, .int .u8 0, .int .u8 0, .int .u8 0, .int .u8 0, .int .u8 0, .int .u8 0, .int .u8 0, .int .u8 0]
    have f6 := (setRow_other (((w2.alloc (.cells #[.int .u8 0, .int .u8 0, .int .u8 0, .int .u8 0, .int .u8 0, .int .u8 0, .int .u8 0, .int .u8 0, .int .u8 0, .int .u8 0, .int .u8 0, .int .u8 0, .int .u8 0, .int .u8 0, .int .u8 0, .int .u8 0] 68)).setRow w2.heap.size (packOf ys l)).setRow w.heap.size #[.int .u8 0, .int .u8 0, .int .u8 0, .int .u8 0, .int .u8 0, .int .u8 0, .int .u8 0, .int .u8 0, .int .u8 0, .int .u8 0, .int .u8 0, .int .u8 0, .int .u8 0, .int .u8 0, .int .u8 0, .int .u8 0]) (w.heap.size + 1) w.heap.size #[.int .u8 0, .int .u8 0, .int .u8 0, .int .u8 0, .int .u8 0, .int .u8 0, .int .u8 0, .int .u8 0, .int .u8 0, .int .u8 0, .int .u8 0, .int .u8 0, .int .u8 0, .int .u8 0, .int .u8 0, .int .u8 0] (by omega)).trans (setRow_same r6 #[.int .u8 0, .int .u8 0, .int .u8 0, .int .u8 0, .int .u8 0, .int .u8 0, .int .u8 0, .int .u8 0, .int .u8 0, .int .u8 0, .int .u8 0, .int .u8 0, .int .u8 0, .int .u8 0, .int .u8 0, .int .u8 0])
    have HF6 := hide f6
    have HF7 := hide f7
    have HBR := hide hbr
    clear f6 f7 hbr hbV
    have hE : Hid (∀ W, Below w.heap.size w W → BothEnd (ga && gb) xs ys n m w (.returned (.tuple #[.agg #[.int .u8 0, .int .u8 0, .int .u8 0, .int .u8 0, .int .u8 0, .int .u8 0, .int .u8 0, .int .u8 0, .int .u8 0, .int .u8 0, .int .u8 0, .int .u8 0, .int .u8 0, .int .u8 0, .int .u8 0, .int .u8 0], .agg #[.int .u8 0, .int .u8 0, .int .u8 0, .int .u8 0, .int .u8 0, .int .u8 0, .int .u8 0, .int .u8 0, .int .u8 0, .int .u8 0, .int .u8 0, .int .u8 0, .int .u8 0, .int .u8 0, .int .u8 0, .int .u8 0], .bool false])) W) := by
      intro W hW; rw [hg']; exact ⟨0, 0, by rw [packOf_zero, packOf_zero], fun h => by simp at h, hW⟩
    clear hg'
    by_cases h1 : ga = true
    · subst h1
      obtain rfl : gb = false := by simpa using hg
      clear hg
      go_wp2_with (first
        | refine wpList_store_row rfl 68 (.tmp 11) _ rfl _ _ rfl rfl 68 _ hg0 (by rw [packOf_size]; exact Try.size68) (by rw [packOf_size]; rfl) (packOf_one _ _) ?_
        | refine wpList_store_row rfl 68 (.tmp 6) _ rfl _ _ rfl rfl 68 _ r6 Try.size68 rfl lit_one ?_
        | refine wpList_store_row rfl 68 (.tmp 7) _ rfl _ _ rfl rfl 68 _ r7s Try.size68 rfl lit_one ?_)
      refine bodyPost_ret (v := .tuple #[.agg #[.int .u8 0, .int .u8 0, .int .u8 0, .int .u8 0, .int .u8 0, .int .u8 0, .int .u8 0, .int .u8 0, .int .u8 0, .int .u8 0, .int .u8 0, .int .u8 0, .int .u8 0, .int .u8 0, .int .u8 0, .int .u8 0], .agg #[.int .u8 0, .int .u8 0, .int .u8 0, .int .u8 0, .int .u8 0, .int .u8 0, .int .u8 0, .int .u8 0, .int .u8 0, .int .u8 0, .int .u8 0, .int .u8 0, .int .u8 0, .int .u8 0, .int .u8 0, .int .u8 0], .bool false]) ?_ rfl (hE.out _ HBR.out)
      have hx : (#[.int .u8 0, .int .u8 0, .int .u8 0, .int .u8 0, .int .u8 0, .int .u8 0, .int .u8 0, .int .u8 0, .int .u8 0, .int .u8 0, .int .u8 0, .int .u8 0, .int .u8 0, .int .u8 0, .int .u8 0, .int .u8 0] : Array Value) = tokF (fOf xs 0) := (packOf_zero xs).symm
      have f6 := HF6.out
      have f7 := HF7.out
      rw [hx] at f6 f7 ⊢
      exact both_results Try.results70 _ _ w.heap.size (w.heap.size + 1) (fOf xs 0) (fOf xs 0) (.bool false) rfl rfl rfl f6 f7
    · obtain rfl : ga = false := by simpa using h1
      clear hg h1
      go_wp2_with (first
        | refine wpList_store_row rfl 68 (.tmp 11) _ rfl _ _ rfl rfl 68 _ hg0 (by rw [packOf_size]; exact Try.size68) (by rw [packOf_size]; rfl) (packOf_one _ _) ?_
        | refine wpList_store_row rfl 68 (.tmp 6) _ rfl _ _ rfl rfl 68 _ r6 Try.size68 rfl lit_one ?_
        | refine wpList_store_row rfl 68 (.tmp 7) _ rfl _ _ rfl rfl 68 _ r7s Try.size68 rfl lit_one ?_)
      refine bodyPost_ret (v := .tuple #[.agg #[.int .u8 0, .int .u8 0, .int .u8 0, .int .u8 0, .int .u8 0, .int .u8 0, .int .u8 0, .int .u8 0, .int .u8 0, .int .u8 0, .int .u8 0, .int .u8 0, .int .u8 0, .int .u8 0, .int .u8 0, .int .u8 0], .agg #[.int .u8 0, .int .u8 0, .int .u8 0, .int .u8 0, .int .u8 0, .int .u8 0, .int .u8 0, .int .u8 0, .int .u8 0, .int .u8 0, .int .u8 0, .int .u8 0, .int .u8 0, .int .u8 0, .int .u8 0, .int .u8 0], .bool false]) ?_ rfl (hE.out _ HBR.out)
      have hx : (#[.int .u8 0, .int .u8 0, .int .u8 0, .int .u8 0, .int .u8 0, .int .u8 0, .int .u8 0, .int .u8 0, .int .u8 0, .int .u8 0, .int .u8 0, .int .u8 0, .int .u8 0, .int .u8 0, .int .u8 0, .int .u8 0] : Array Value) = tokF (fOf xs 0) := (packOf_zero xs).symm
      have f6 := HF6.out
      have f7 := HF7.out
      rw [hx] at f6 f7 ⊢
      exact both_results Try.results70 _ _ w.heap.size (w.heap.size + 1) (fOf xs 0) (fOf xs 0) (.bool false) rfl rfl rfl f6 f7
theorem both_any (p : Int) (a b : Option Addr) (n m ca cb : Nat) (xs ys : List Int) (w : World) (ha : Row w a n xs) (hb : Row w b m ys) (hn : n ≤ 1048576) (hm : m ≤ 1048576) :
    Calls Try.prog 70 #[.int .i64 p, .slice a n ca, .slice b m cb] w fun e w' => BothEnd (goodB p xs && goodB p ys) xs ys n m w e w' :=
  both_run _ _ p a b n m ca cb xs ys w ha hb hn hm rfl rfl
end Go.Proofs.Ytbobppcnmpiacaa
