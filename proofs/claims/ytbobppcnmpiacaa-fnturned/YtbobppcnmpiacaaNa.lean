/- What netAndTokens answers, for every net and list in memory. -/
import Derived.Test.YtbobppcnmpiacaaSg
import Derived.Test.YtbobppcnmpiacaaBoth
namespace Go.Proofs.Ytbobppcnmpiacaa
open Go.RowKit
set_option maxRecDepth 10000

theorem cons_load_s {P : Program} {md : Region.Mode} {ops : Array Oper} {Q : Exit → Act → World → Prop} {fuel : Nat} {listed : Array Bool} {a : Act} {w : World} {i : Nat} {o : Oper} {rs : List Nat} (ho : ops[i]? = some o)
    (hgd : o.guard = none) (d : Option Tmp) (hd : o.dst = d) (ty : TypeId) (x : Operand) (hop : o.op = .load ty x)
    (g : Nat) (cells : Array Value) (hx : a.eval x = .pointer (some ⟨g, 0, none⟩))
    (t : TypeId) (fs : Array Field) (hu : P.underlying ty = some (.struct fs)) (hg : w.heap[g]? = some (.cells cells t (0, 0))) (hi : (P.info? ty).map (·.size) = some cells.size)
    (h : wpAny P md ops Q fuel (listed.setIfInBounds i true) (a.put d (.agg cells)) w)
    (hs : AllReady P md ops Q fuel listed a w rs) : AllReady P md ops Q fuel listed a w (i :: rs) := by
  refine AllReady.cons ho (fun K hK => ?_) hs
  rw [if_pos (by simp [Region.wanted, hgd])]
  refine wp_load_row ty x hop g hx t cells (0, 0) _ hg hu rfl hi (hK _ _ ?_)
  rw [hd]
  exact h

theorem Try.size66 : (Try.prog.info? 66).map (·.size) = some 2 := by kernel_rfl

theorem netTok_results {fn : Func} (hr : fn.results = #[.cell 4 66, .cell 5 68, .tmp 6]) (tmps : Array Value) (W : World) (b4 b5 : Nat) (x y : Value) (g : Nat → Int) (v : Value)
    (h4 : tmps.getD 4 undef = .pointer (some ⟨b4, 0, none⟩)) (h5 : tmps.getD 5 undef = .pointer (some ⟨b5, 0, none⟩)) (h6 : tmps.getD 6 undef = v)
    (q4 : W.heap[b4]? = some (.cells #[x, y] 66 (0, 0))) (q5 : W.heap[b5]? = some (.cells (tokF g) 68 (0, 0))) :
    (results fn tmps).run Try.prog W = .ok (.tuple #[.agg #[x, y], .agg (tokF g), v]) W := by
  refine (results_cells_tmp hr _ _ _).trans ?_
  rw [h4, h5, h6]
  show ((loadVar 66 ⟨b4, 0, none⟩).run Try.prog W).andThen _ = _
  rw [run_loadVar_row _ _ 66 66 #[x, y] (0, 0) _ q4 Try.underlying66 rfl Try.size66]
  show ((loadVar 68 ⟨b5, 0, none⟩).run Try.prog W).andThen _ = _
  rw [run_loadVar_row _ _ 68 68 (tokF g) (0, 0) _ q5 Try.underlying68 rfl (by rw [tokF_size]; exact Try.size68)]
  rfl

theorem one2 {x y : Value} (hx : x.oneCell' = true) (hy : y.oneCell' = true) : (#[x, y] : Array Value).all (·.oneCell') = true := by simp [hx, hy]

/-- How netAndTokens ends. -/
def NtEnd (g : Bool) (p : Int) (n nm : Nat) (L : List (List Int)) (ys : List Int) (w : World) (e : Ending) (w' : World) : Prop :=
  ∃ p' a m c l, e = .returned (.tuple #[.agg #[.int .i64 p', .slice a m c], .agg (packOf ys l), .bool g]) ∧ Hid (g = true → p' = p ∧ m = n ∧ c = n ∧ l = nm ∧ ∃ B, a = some ⟨B, 0, none⟩ ∧ w.heap.size ≤ B ∧ PartS w' B (3 * n) (3 * n) L) ∧ Below w.heap.size w w'

theorem PartS.setRow {w : World} {B n k g : Nat} {L : List (List Int)} (h : PartS w B n k L) (hg : B ≠ g) (D : Array Value) : PartS (w.setRow g D) B n k L := by
  obtain ⟨C, h1, h2, h3⟩ := h
  exact ⟨C, (setRow_other _ _ _ _ hg).trans h1, h2, h3⟩

theorem keepR {v : World} {b g : Nat} {C : Array Value} {t : TypeId} (h : v.heap[b]? = some (.cells C t (0, 0))) (hb : b ≠ g) (D : Array Value) : (v.setRow g D).heap[b]? = some (.cells C t (0, 0)) :=
  (setRow_other _ _ _ _ hb).trans h

set_option maxHeartbeats 4000000 in
theorem netTok_any (p : Int) (a am : Option Addr) (n c nm cm : Nat) (L : List (List Int)) (ys : List Int) (w : World) (h : Lists w a (3 * n) L) (rm : Row w am nm ys) (hs : sizeN n L ≤ 1048576) (hnm : nm ≤ 1048576) :
    Calls Try.prog 40 #[.agg #[.int .i64 p, .slice a n c], .slice am nm cm] w fun e w' => NtEnd (netOk p n L && goodB p ys) p n nm L ys w e w' := by
  have hAl := ((below_al w (.cells #[.int .i64 p, .slice a n c] 26)).alloc (by simp) (.cells #[.int .i64 0, .slice none 0 0] 66)).alloc (by simp; omega) (.cells #[.int .u8 0, .int .u8 0, .int .u8 0, .int .u8 0, .int .u8 0, .int .u8 0, .int .u8 0, .int .u8 0, .int .u8 0, .int .u8 0, .int .u8 0, .int .u8 0, .int .u8 0, .int .u8 0, .int .u8 0, .int .u8 0] 68)
  have HL := hide (h.below hAl)
  have RM := hide (rm.below hAl)
  have P0 : ((((w.alloc (.cells #[.int .i64 p, .slice a n c] 26)).alloc (.cells #[.int .i64 0, .slice none 0 0] 66)).alloc (.cells #[.int .u8 0, .int .u8 0, .int .u8 0, .int .u8 0, .int .u8 0, .int .u8 0, .int .u8 0, .int .u8 0, .int .u8 0, .int .u8 0, .int .u8 0, .int .u8 0, .int .u8 0, .int .u8 0, .int .u8 0, .int .u8 0] 68))).heap[w.heap.size]? = some (.cells #[.int .i64 p, .slice a n c] 26 (0, 0)) := by
    rw [heap_al_old _ _ _ (by simp; omega), heap_al_old _ _ _ (by simp)]; exact heap_alloc_new _ _
  have P1 : ((((w.alloc (.cells #[.int .i64 p, .slice a n c] 26)).alloc (.cells #[.int .i64 0, .slice none 0 0] 66)).alloc (.cells #[.int .u8 0, .int .u8 0, .int .u8 0, .int .u8 0, .int .u8 0, .int .u8 0, .int .u8 0, .int .u8 0, .int .u8 0, .int .u8 0, .int .u8 0, .int .u8 0, .int .u8 0, .int .u8 0, .int .u8 0, .int .u8 0] 68))).heap[w.heap.size + 1]? = some (.cells #[.int .i64 0, .slice none 0 0] 66 (0, 0)) := by
    rw [heap_al_old _ _ _ (by simp)]
    have := heap_alloc_new (w.alloc (.cells #[.int .i64 p, .slice a n c] 26)) (.cells #[.int .i64 0, .slice none 0 0] 66)
    simpa using this
  have P2 : ((((w.alloc (.cells #[.int .i64 p, .slice a n c] 26)).alloc (.cells #[.int .i64 0, .slice none 0 0] 66)).alloc (.cells #[.int .u8 0, .int .u8 0, .int .u8 0, .int .u8 0, .int .u8 0, .int .u8 0, .int .u8 0, .int .u8 0, .int .u8 0, .int .u8 0, .int .u8 0, .int .u8 0, .int .u8 0, .int .u8 0, .int .u8 0, .int .u8 0] 68))).heap[w.heap.size + 1 + 1]? = some (.cells #[.int .u8 0, .int .u8 0, .int .u8 0, .int .u8 0, .int .u8 0, .int .u8 0, .int .u8 0, .int .u8 0, .int .u8 0, .int .u8 0, .int .u8 0, .int .u8 0, .int .u8 0, .int .u8 0, .int .u8 0, .int .u8 0] 68 (0, 0)) := by
    have := heap_alloc_new ((w.alloc (.cells #[.int .i64 p, .slice a n c] 26)).alloc (.cells #[.int .i64 0, .slice none 0 0] 66)) (.cells #[.int .u8 0, .int .u8 0, .int .u8 0, .int .u8 0, .int .u8 0, .int .u8 0, .int .u8 0, .int .u8 0, .int .u8 0, .int .u8 0, .int .u8 0, .int .u8 0, .int .u8 0, .int .u8 0, .int .u8 0, .int .u8 0] 68)
    simpa using this
  have HP := hide (And.intro P0 (And.intro P1 P2))
  have HB0 := hide hAl
  clear h rm hAl P0 P1 P2
  go_enter Try.func40, Try.ntmps40
  go_wp2_with fail
  generalize ((w.alloc (.cells #[.int .i64 p, .slice a n c] 26)).alloc (.cells #[.int .i64 0, .slice none 0 0] 66)).alloc (.cells #[.int .u8 0, .int .u8 0, .int .u8 0, .int .u8 0, .int .u8 0, .int .u8 0, .int .u8 0, .int .u8 0, .int .u8 0, .int .u8 0, .int .u8 0, .int .u8 0, .int .u8 0, .int .u8 0, .int .u8 0, .int .u8 0] 68) = v at *
  have hvs := row_lt HP.out.2.2
  refine (netSteps_any p a n c L v HL.out hs).mono ?_
  rintro e w1 ⟨p', a', m', c', rfl, hx, hb⟩
  have hA1 := below_al w1 (.cells #[.int .i64 p', .slice a' m' c'] 66)
  have hb1 := hb.trans (hA1.mono hb.size)
  have RM1 := hide (RM.out.below hb1)
  have HP1 := hide (And.intro (keep HP.out.1 hb1) (And.intro (keep HP.out.2.1 hb1) (keep HP.out.2.2 hb1)))
  have HB1 := hide (HB0.out.trans (hb1.mono HB0.out.size))
  have HV1 := hide (heap_alloc_new w1 (.cells #[.int .i64 p', .slice a' m' c'] 66))
  have HX1 : Hid (netOk p n L = true → p' = p ∧ m' = n ∧ c' = n ∧ ∃ B, a' = some ⟨B, 0, none⟩ ∧ w.heap.size ≤ B ∧ w.heap.size + 1 + 1 < B ∧ B < w1.heap.size ∧ PartS (w1.alloc (.cells #[.int .i64 p', .slice a' m' c'] 66)) B (3 * n) (3 * n) L) := by
    intro hg
    obtain ⟨e1, e2, e3, B, e4, e5, e6⟩ := hx.out hg
    refine ⟨e1, e2, e3, B, e4, by omega, by omega, ?_, e6.grow hA1⟩
    obtain ⟨C, q1, _⟩ := e6
    exact (Array.getElem?_eq_some_iff.mp q1).1
  have hv1s : w.heap.size + 1 + 1 < w1.heap.size := by have := hb.size; omega
  clear hb hA1 hb1 HL RM HP HB0 hx hvs
  obtain ⟨hc0, hc1⟩ := cells2 HP1.out.1
  have hlt0 := row_lt HP1.out.1
  go_wp2_with fail
  have hW : (w1.alloc (.cells #[.int .i64 p', .slice a' m' c'] 66)).heap.size = w1.heap.size + 1 := by simp
  generalize w1.alloc (.cells #[.int .i64 p', .slice a' m' c'] 66) = W at *
  generalize w1.heap.size = B7 at *
  clear w1 v
  refine (tokens_any p am nm cm ys W RM1.out hnm).mono ?_
  rintro e w2 ⟨l, rfl, hl, hb2⟩
  have hz2 := hb2.size
  have HP2 := hide (And.intro (keep HP1.out.1 hb2) (And.intro (keep HP1.out.2.1 hb2) (keep HP1.out.2.2 hb2)))
  have HV2 := hide (keep HV1.out hb2)
  have HB2 := hide (HB1.out.trans (hb2.mono HB1.out.size))
  have HX2 : Hid (netOk p n L = true → p' = p ∧ m' = n ∧ c' = n ∧ ∃ B, a' = some ⟨B, 0, none⟩ ∧ w.heap.size ≤ B ∧ w.heap.size + 1 + 1 < B ∧ B < w2.heap.size ∧ PartS w2 B (3 * n) (3 * n) L) := by
    intro hg
    obtain ⟨e1, e2, e3, B, e4, e5, e6, e7, e8⟩ := HX1.out hg
    exact ⟨e1, e2, e3, B, e4, e5, e6, by omega, e8.grow hb2⟩
  clear hb2 HP1 HV1 HB1 HX1 RM1 hc0 hc1
  have hA2 := below_al w2 (.cells #[.int .u8 0, .int .u8 0, .int .u8 0, .int .u8 0, .int .u8 0, .int .u8 0, .int .u8 0, .int .u8 0, .int .u8 0, .int .u8 0, .int .u8 0, .int .u8 0, .int .u8 0, .int .u8 0, .int .u8 0, .int .u8 0] 68)
  have hg0 := heap_alloc_new w2 (.cells #[.int .u8 0, .int .u8 0, .int .u8 0, .int .u8 0, .int .u8 0, .int .u8 0, .int .u8 0, .int .u8 0, .int .u8 0, .int .u8 0, .int .u8 0, .int .u8 0, .int .u8 0, .int .u8 0, .int .u8 0, .int .u8 0] 68)
  have h9 := setRow_same hg0 (packOf ys l)
  have r4 := keepR (keep HP2.out.2.1 hA2) (show w.heap.size + 1 ≠ w2.heap.size by omega) (packOf ys l)
  have r5 := keepR (keep HP2.out.2.2 hA2) (show w.heap.size + 1 + 1 ≠ w2.heap.size by omega) (packOf ys l)
  have r7 := keepR (keep HV2.out hA2) (show B7 ≠ w2.heap.size by omega) (packOf ys l)
  have hbV := below_setRow (HB2.out.trans (hA2.mono HB2.out.size)) w2.heap.size (by omega) (packOf ys l)
  have HX3 : Hid (netOk p n L = true → p' = p ∧ m' = n ∧ c' = n ∧ ∃ B, a' = some ⟨B, 0, none⟩ ∧ w.heap.size ≤ B ∧ w.heap.size + 1 + 1 < B ∧ B ≠ w2.heap.size ∧ PartS ((w2.alloc (.cells #[.int .u8 0, .int .u8 0, .int .u8 0, .int .u8 0, .int .u8 0, .int .u8 0, .int .u8 0, .int .u8 0, .int .u8 0, .int .u8 0, .int .u8 0, .int .u8 0, .int .u8 0, .int .u8 0, .int .u8 0, .int .u8 0] 68)).setRow w2.heap.size (packOf ys l)) B (3 * n) (3 * n) L) := by
    intro hg
    obtain ⟨e1, e2, e3, B, e4, e5, e6, e7, e8⟩ := HX2.out hg
    exact ⟨e1, e2, e3, B, e4, e5, e6, by omega, (e8.grow hA2).setRow (by omega) _⟩
  have HBV := hide hbV
  clear HX2 hA2 hbV HP2 HV2 HB2
  by_cases hg : (netOk p n L && goodB p ys) = true
  · have hgg := hg
    rw [Bool.and_eq_true] at hgg
    obtain ⟨e1, e2, e3, B, e4, e5, e6, e7, e8⟩ := HX3.out hgg.1
    have hln := hl.out hgg.2
    subst e1 e2 e3 e4 hln
    rw [hgg.1, hgg.2]
    have HG := hide hg
    have HPS := hide e8
    clear hg hgg HX3 e8 hl
    go_wp2_with (refine wpList_store_row rfl 68 (.tmp 9) _ rfl _ _ rfl rfl 68 _ hg0 (by rw [packOf_size]; exact Try.size68) (by rw [packOf_size]; rfl) (packOf_one _ _) ?_)
    clear hg0
    generalize (w2.alloc (.cells #[.int .u8 0, .int .u8 0, .int .u8 0, .int .u8 0, .int .u8 0, .int .u8 0, .int .u8 0, .int .u8 0, .int .u8 0, .int .u8 0, .int .u8 0, .int .u8 0, .int .u8 0, .int .u8 0, .int .u8 0, .int .u8 0] 68)).setRow w2.heap.size (packOf ys l) = V at *
    generalize w2.heap.size = B9 at *
    clear w2
    have r5s : (V.setRow (w.heap.size + 1) #[.int .i64 p', .slice (some ⟨B, 0, none⟩) c' c']).heap[w.heap.size + 1 + 1]? = some (.cells #[.int .u8 0, .int .u8 0, .int .u8 0, .int .u8 0, .int .u8 0, .int .u8 0, .int .u8 0, .int .u8 0, .int .u8 0, .int .u8 0, .int .u8 0, .int .u8 0, .int .u8 0, .int .u8 0, .int .u8 0, .int .u8 0] 68 (0, 0)) := keepR r5 (by omega) _
    have r9s : (V.setRow (w.heap.size + 1) #[.int .i64 p', .slice (some ⟨B, 0, none⟩) c' c']).heap[B9]? = some (.cells (packOf ys l) 68 (0, 0)) := keepR h9 (by omega) _
    have HEND : Hid (NtEnd (netOk p' c' L && goodB p' ys) p' c' l L ys w (.returned (.tuple #[.agg #[.int .i64 p', .slice (some ⟨B, 0, none⟩) c' c'], .agg (packOf ys l), .bool true])) ((V.drew.setRow (w.heap.size + 1) #[.int .i64 p', .slice (some ⟨B, 0, none⟩) c' c']).setRow (w.heap.size + 1 + 1) (packOf ys l))) :=
      ⟨p', _, c', c', l, by rw [HG.out], fun _ => ⟨rfl, rfl, rfl, rfl, B, rfl, e5, ((show PartS V.drew B (3 * c') (3 * c') L from HPS.out).setRow (by omega) _).setRow (by omega) _⟩, below_rows HBV.out _ _ (by omega) (by omega) _ _⟩
    refine wp_region_any (by kernel_rfl) ?_
    refine wpAny_ready (rs := [0, 1]) (by kernel_rfl) (by simp) ?_
    refine cons_load_s rfl rfl (some 31) rfl 66 (.tmp 7) rfl B7 #[.int .i64 p', .slice (some ⟨B, 0, none⟩) c' c'] rfl 66 _ Try.underlying66 r7 Try.size66 ?_ (cons_load rfl rfl (some 32) rfl 68 (.tmp 9) rfl B9 (packOf ys l) rfl 68 _ _ Try.underlying68 h9 (by rw [packOf_size]; exact Try.size68) ?_ AllReady.nil)
    · refine wpAny_ready (rs := [1, 2]) (by kernel_rfl) (by simp) ?_
      refine cons_load rfl rfl (some 32) rfl 68 (.tmp 9) rfl B9 (packOf ys l) rfl 68 _ _ Try.underlying68 h9 (by rw [packOf_size]; exact Try.size68) ?_ (cons_store rfl rfl rfl 66 (.tmp 4) (.tmp 31) rfl (w.heap.size + 1) #[.int .i64 p', .slice (some ⟨B, 0, none⟩) c' c'] rfl rfl 66 _ r4 Try.size66 rfl (one2 rfl rfl) ?_ AllReady.nil)
      · refine wpAny_ready (rs := [2]) (by kernel_rfl) (by simp) ?_
        refine cons_store rfl rfl rfl 66 (.tmp 4) (.tmp 31) rfl (w.heap.size + 1) #[.int .i64 p', .slice (some ⟨B, 0, none⟩) c' c'] rfl rfl 66 _ r4 Try.size66 rfl (one2 rfl rfl) ?_ AllReady.nil
        refine wpAny_ready (rs := [3]) (by kernel_rfl) (by simp) ?_
        refine cons_store rfl rfl rfl 68 (.tmp 5) (.tmp 32) rfl (w.heap.size + 1 + 1) (packOf ys l) rfl rfl 68 _ r5s (by rw [packOf_size]; exact Try.size68) (by rw [packOf_size]; rfl) (packOf_one _ _) ?_ AllReady.nil
        refine wpAny_ready (rs := [4]) (by kernel_rfl) (by simp) ?_
        refine cons_assign rfl rfl (some 6) rfl (.const (.bool true)) rfl ?_ AllReady.nil
        refine wpAny_done (by kernel_rfl) ?_ _
        go_wp2
        refine bodyPost_ret (v := .tuple #[.agg #[.int .i64 p', .slice (some ⟨B, 0, none⟩) c' c'], .agg (packOf ys l), .bool true]) ?_ rfl HEND.out
        exact netTok_results Try.results40 _ _ (w.heap.size + 1) (w.heap.size + 1 + 1) _ _ (fOf ys l) _ rfl rfl rfl ((setRow_other _ _ _ _ (by omega)).trans (setRow_same (w := V.drew) r4 _)) (setRow_same r5s _)
      · refine wpAny_ready (rs := [1]) (by kernel_rfl) (by simp) ?_
        refine cons_load rfl rfl (some 32) rfl 68 (.tmp 9) rfl B9 (packOf ys l) rfl 68 _ _ Try.underlying68 r9s (by rw [packOf_size]; exact Try.size68) ?_ AllReady.nil
        refine wpAny_ready (rs := [3]) (by kernel_rfl) (by simp) ?_
        refine cons_store rfl rfl rfl 68 (.tmp 5) (.tmp 32) rfl (w.heap.size + 1 + 1) (packOf ys l) rfl rfl 68 _ r5s (by rw [packOf_size]; exact Try.size68) (by rw [packOf_size]; rfl) (packOf_one _ _) ?_ AllReady.nil
        refine wpAny_ready (rs := [4]) (by kernel_rfl) (by simp) ?_
        refine cons_assign rfl rfl (some 6) rfl (.const (.bool true)) rfl ?_ AllReady.nil
        refine wpAny_done (by kernel_rfl) ?_ _
        go_wp2
        refine bodyPost_ret (v := .tuple #[.agg #[.int .i64 p', .slice (some ⟨B, 0, none⟩) c' c'], .agg (packOf ys l), .bool true]) ?_ rfl HEND.out
        exact netTok_results Try.results40 _ _ (w.heap.size + 1) (w.heap.size + 1 + 1) _ _ (fOf ys l) _ rfl rfl rfl ((setRow_other _ _ _ _ (by omega)).trans (setRow_same (w := V.drew) r4 _)) (setRow_same r5s _)
    · refine wpAny_ready (rs := [0]) (by kernel_rfl) (by simp) ?_
      refine cons_load_s rfl rfl (some 31) rfl 66 (.tmp 7) rfl B7 #[.int .i64 p', .slice (some ⟨B, 0, none⟩) c' c'] rfl 66 _ Try.underlying66 r7 Try.size66 ?_ AllReady.nil
      refine wpAny_ready (rs := [2]) (by kernel_rfl) (by simp) ?_
      refine cons_store rfl rfl rfl 66 (.tmp 4) (.tmp 31) rfl (w.heap.size + 1) #[.int .i64 p', .slice (some ⟨B, 0, none⟩) c' c'] rfl rfl 66 _ r4 Try.size66 rfl (one2 rfl rfl) ?_ AllReady.nil
      refine wpAny_ready (rs := [3]) (by kernel_rfl) (by simp) ?_
      refine cons_store rfl rfl rfl 68 (.tmp 5) (.tmp 32) rfl (w.heap.size + 1 + 1) (packOf ys l) rfl rfl 68 _ r5s (by rw [packOf_size]; exact Try.size68) (by rw [packOf_size]; rfl) (packOf_one _ _) ?_ AllReady.nil
      refine wpAny_ready (rs := [4]) (by kernel_rfl) (by simp) ?_
      refine cons_assign rfl rfl (some 6) rfl (.const (.bool true)) rfl ?_ AllReady.nil
      refine wpAny_done (by kernel_rfl) ?_ _
      go_wp2
      refine bodyPost_ret (v := .tuple #[.agg #[.int .i64 p', .slice (some ⟨B, 0, none⟩) c' c'], .agg (packOf ys l), .bool true]) ?_ rfl HEND.out
      exact netTok_results Try.results40 _ _ (w.heap.size + 1) (w.heap.size + 1 + 1) _ _ (fOf ys l) _ rfl rfl rfl ((setRow_other _ _ _ _ (by omega)).trans (setRow_same (w := V.drew) r4 _)) (setRow_same r5s _)
  · have hg' : (netOk p n L && goodB p ys) = false := by simpa using hg
    have HBR := hide (below_setRow (below_setRow HBV.out (w.heap.size + 1) (by omega) #[.int .i64 0, .slice none 0 0]) (w.heap.size + 1 + 1) (by omega) #[.int .u8 0, .int .u8 0, .int .u8 0, .int .u8 0, .int .u8 0, .int .u8 0, .int .u8 0, .int .u8 0, .int .u8 0, .int .u8 0, .int .u8 0, .int .u8 0, .int .u8 0, .int .u8 0, .int .u8 0, .int .u8 0])
    have r5n : (((w2.alloc (.cells #[.int .u8 0, .int .u8 0, .int .u8 0, .int .u8 0, .int .u8 0, .int .u8 0, .int .u8 0, .int .u8 0, .int .u8 0, .int .u8 0, .int .u8 0, .int .u8 0, .int .u8 0, .int .u8 0, .int .u8 0, .int .u8 0] 68)).setRow w2.heap.size (packOf ys l)).setRow (w.heap.size + 1) #[.int .i64 0, .slice none 0 0]).heap[w.heap.size + 1 + 1]? = some (.cells #[.int .u8 0, .int .u8 0, .int .u8 0, .int .u8 0, .int .u8 0, .int .u8 0, .int .u8 0, .int .u8 0, .int .u8 0, .int .u8 0, .int .u8 0, .int .u8 0, .int .u8 0, .int .u8 0, .int .u8 0, .int .u8 0] 68 (0, 0)) := keepR r5 (by omega) _
    have HF5 := hide (setRow_same r5n #[.int .u8 0, .int .u8 0, .int .u8 0, .int .u8 0, .int .u8 0, .int .u8 0, .int .u8 0, .int .u8 0, .int .u8 0, .int .u8 0, .int .u8 0, .int .u8 0, .int .u8 0, .int .u8 0, .int .u8 0, .int .u8 0])
    have HF4 := hide (keepR (setRow_same r4 #[.int .i64 0, .slice none 0 0]) (show w.heap.size + 1 ≠ w.heap.size + 1 + 1 by omega) #[.int .u8 0, .int .u8 0, .int .u8 0, .int .u8 0, .int .u8 0, .int .u8 0, .int .u8 0, .int .u8 0, .int .u8 0, .int .u8 0, .int .u8 0, .int .u8 0, .int .u8 0, .int .u8 0, .int .u8 0, .int .u8 0])
    have HEND : Hid (∀ W, Below w.heap.size w W → NtEnd (netOk p n L && goodB p ys) p n nm L ys w (.returned (.tuple #[.agg #[.int .i64 0, .slice none 0 0], .agg #[.int .u8 0, .int .u8 0, .int .u8 0, .int .u8 0, .int .u8 0, .int .u8 0, .int .u8 0, .int .u8 0, .int .u8 0, .int .u8 0, .int .u8 0, .int .u8 0, .int .u8 0, .int .u8 0, .int .u8 0, .int .u8 0], .bool false])) W) := by
      intro W hW; rw [hg']; exact ⟨0, none, 0, 0, 0, by rw [packOf_zero], fun h => by simp at h, hW⟩
    clear HX3 HBV hl
    cases hgn : netOk p n L
    · clear hg hg' hgn
      go_wp2_with (first
        | refine wpList_store_row rfl 68 (.tmp 9) _ rfl _ _ rfl rfl 68 _ hg0 (by rw [packOf_size]; exact Try.size68) (by rw [packOf_size]; rfl) (packOf_one _ _) ?_
        | refine wpList_store_row rfl 66 (.tmp 4) _ rfl _ #[.int .i64 0, .slice none 0 0] rfl rfl 66 _ r4 Try.size66 rfl (one2 rfl rfl) ?_
        | refine wpList_store_row rfl 68 (.tmp 5) _ rfl _ _ rfl rfl 68 _ r5n Try.size68 rfl lit_one ?_)
      refine bodyPost_ret (v := .tuple #[.agg #[.int .i64 0, .slice none 0 0], .agg #[.int .u8 0, .int .u8 0, .int .u8 0, .int .u8 0, .int .u8 0, .int .u8 0, .int .u8 0, .int .u8 0, .int .u8 0, .int .u8 0, .int .u8 0, .int .u8 0, .int .u8 0, .int .u8 0, .int .u8 0, .int .u8 0], .bool false]) ?_ rfl (HEND.out _ HBR.out)
      have hx : (#[.int .u8 0, .int .u8 0, .int .u8 0, .int .u8 0, .int .u8 0, .int .u8 0, .int .u8 0, .int .u8 0, .int .u8 0, .int .u8 0, .int .u8 0, .int .u8 0, .int .u8 0, .int .u8 0, .int .u8 0, .int .u8 0] : Array Value) = tokF (fOf ys 0) := (packOf_zero ys).symm
      have f4 := HF4.out
      have f5 := HF5.out
      rw [hx] at f4 f5 ⊢
      exact netTok_results Try.results40 _ _ (w.heap.size + 1) (w.heap.size + 1 + 1) _ _ (fOf ys 0) (.bool false) rfl rfl rfl f4 f5
    · have hgm : goodB p ys = false := by rw [hgn] at hg'; simpa using hg'
      rw [hgm]
      clear hg hg' hgn hgm
      go_wp2_with (first
        | refine wpList_store_row rfl 68 (.tmp 9) _ rfl _ _ rfl rfl 68 _ hg0 (by rw [packOf_size]; exact Try.size68) (by rw [packOf_size]; rfl) (packOf_one _ _) ?_
        | refine wpList_store_row rfl 66 (.tmp 4) _ rfl _ #[.int .i64 0, .slice none 0 0] rfl rfl 66 _ r4 Try.size66 rfl (one2 rfl rfl) ?_
        | refine wpList_store_row rfl 68 (.tmp 5) _ rfl _ _ rfl rfl 68 _ r5n Try.size68 rfl lit_one ?_)
      refine bodyPost_ret (v := .tuple #[.agg #[.int .i64 0, .slice none 0 0], .agg #[.int .u8 0, .int .u8 0, .int .u8 0, .int .u8 0, .int .u8 0, .int .u8 0, .int .u8 0, .int .u8 0, .int .u8 0, .int .u8 0, .int .u8 0, .int .u8 0, .int .u8 0, .int .u8 0, .int .u8 0, .int .u8 0], .bool false]) ?_ rfl (HEND.out _ HBR.out)
      have hx : (#[.int .u8 0, .int .u8 0, .int .u8 0, .int .u8 0, .int .u8 0, .int .u8 0, .int .u8 0, .int .u8 0, .int .u8 0, .int .u8 0, .int .u8 0, .int .u8 0, .int .u8 0, .int .u8 0, .int .u8 0, .int .u8 0] : Array Value) = tokF (fOf ys 0) := (packOf_zero ys).symm
      have f4 := HF4.out
      have f5 := HF5.out
      rw [hx] at f4 f5 ⊢
      exact netTok_results Try.results40 _ _ (w.heap.size + 1) (w.heap.size + 1 + 1) _ _ (fOf ys 0) (.bool false) rfl rfl rfl f4 f5
end Go.Proofs.Ytbobppcnmpiacaa
