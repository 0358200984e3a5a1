/- Contracts that the proof stands on, one behind the other. -/
import Derived.Test.YtajcmamapmeglaaP12
/- What netAndTokens answers, for every net and list in memory. -/
namespace Go.Proofs.Ytajcmamapmeglaa
open Go.RowKit
set_option maxRecDepth 10000

theorem cons_load_s {P : Program} {md : Region.Mode} {ops : Array Oper} {Q : Exit → Act → World → Prop} {fuel : Nat} {listed : Array Bool} {a : Act} {w : World} {i : Nat} {o : Oper} {rs : List Nat} (ho : ops[i]? = some o)
    (hgd : o.guard = none) (d : Option Tmp) (hd : o.dst = d) (ty : TypeId) (x : Operand) (hop : o.op = .load ty x)
    (g : Nat) (cells : Array Value) (hx : a.eval x = .pointer (some ⟨g, 0, none⟩))
    (t : TypeId) (fs : Array Field) (hu : P.underlying ty = some (.struct fs)) (hg : w.heap[g]? = some (.cells cells t (0, 0))) (hi : (P.info? ty).map (·.size) = some cells.size)
    (h : wpAny P md ops Q fuel (listed.setIfInBounds i true) (a.put d (.agg cells)) w)
    (hs : AllReady P md ops Q fuel listed a w rs) : AllReady P md ops Q fuel listed a w (i :: rs) := by
  refine AllReady.cons ho (fun K hK => ?_) hs
  rw [if_pos (by simp [Region.wanted, hgd])]
  refine wp_load_row ty x hop g hx t cells (0, 0) _ hg hu rfl hi (hK _ _ ?_)
  rw [hd]
  exact h

theorem Try.size59 : (Try.prog.info? 59).map (·.size) = some 2 := by kernel_rfl

theorem netTok_results {fn : Func} (hr : fn.results = #[.cell 4 59, .cell 5 74, .tmp 6]) (tmps : Array Value) (W : World) (b4 b5 : Nat) (x y : Value) (g : Nat → Int) (v : Value)
    (h4 : tmps.getD 4 undef = .pointer (some ⟨b4, 0, none⟩)) (h5 : tmps.getD 5 undef = .pointer (some ⟨b5, 0, none⟩)) (h6 : tmps.getD 6 undef = v)
    (q4 : W.heap[b4]? = some (.cells #[x, y] 59 (0, 0))) (q5 : W.heap[b5]? = some (.cells (tokF g) 74 (0, 0))) :
    (results fn tmps).run Try.prog W = .ok (.tuple #[.agg #[x, y], .agg (tokF g), v]) W := by
  refine (results_cells_tmp hr _ _ _).trans ?_
  rw [h4, h5, h6]
  show ((loadVar 59 ⟨b4, 0, none⟩).run Try.prog W).andThen _ = _
  rw [run_loadVar_row _ _ 59 59 #[x, y] (0, 0) _ q4 Try.underlying59 rfl Try.size59]
  show ((loadVar 74 ⟨b5, 0, none⟩).run Try.prog W).andThen _ = _
  rw [run_loadVar_row _ _ 74 74 (tokF g) (0, 0) _ q5 Try.underlying74 rfl (by rw [tokF_size]; exact Try.size74)]
  rfl

theorem one2 {x y : Value} (hx : x.oneCell' = true) (hy : y.oneCell' = true) : (#[x, y] : Array Value).all (·.oneCell') = true := by simp [hx, hy]

/-- How netAndTokens ends. -/
def NtEnd (g : Bool) (p : Int) (n nm : Nat) (L : List (List Int)) (ys : List Int) (w : World) (e : Ending) (w' : World) : Prop :=
  ∃ p' a m c l, e = .returned (.tuple #[.agg #[.int .i64 p', .slice a m c], .agg (packOf ys l), .bool g]) ∧ Hid (g = true → p' = p ∧ m = n ∧ c = n ∧ l = nm ∧ ∃ B, a = some ⟨B, 0, none⟩ ∧ w.heap.size ≤ B ∧ PartS w' B (3 * n) (3 * n) L) ∧ Below w.heap.size w w'

theorem PartS.setRow {w : World} {B n k g : Nat} {L : List (List Int)} (h : PartS w B n k L) (hg : B ≠ g) (D : Array Value) : PartS (w.setRow g D) B n k L := by
  obtain ⟨C, h1, h2, h3⟩ := h
  exact ⟨C, (setRow_other _ _ _ _ hg).trans h1, h2, h3⟩

theorem keepR {v : World} {b g : Nat} {C : Array Value} {t : TypeId} (h : v.heap[b]? = some (.cells C t (0, 0))) (hb : b ≠ g) (D : Array Value) : (v.setRow g D).heap[b]? = some (.cells C t (0, 0)) :=
  (setRow_other _ _ _ _ hb).trans h

set_option maxHeartbeats 4000000 in
theorem netTok_any (p : Int) (a am : Option Addr) (n c nm cm : Nat) (L : List (List Int)) (ys : List Int) (w : World) (h : Lists w a (3 * n) L) (rm : Row w am nm ys) (hs : sizeN n L ≤ 1048576) (hnm : nm ≤ 1048576) :
    Calls Try.prog 62 #[.agg #[.int .i64 p, .slice a n c], .slice am nm cm] w fun e w' => NtEnd (netOk p n L && goodB p ys) p n nm L ys w e w' := by
  have hAl := ((below_al w (.cells #[.int .i64 p, .slice a n c] 26)).alloc (by simp) (.cells #[.int .i64 0, .slice none 0 0] 59)).alloc (by simp; omega) (.cells #[.int .u8 0, .int .u8 0, .int .u8 0, .int .u8 0, .int .u8 0, .int .u8 0, .int .u8 0, .int .u8 0, .int .u8 0, .int .u8 0, .int .u8 0, .int .u8 0, .int .u8 0, .int .u8 0, .int .u8 0, .int .u8 0] 74)
  have HL := hide (h.below hAl)
  have RM := hide (rm.below hAl)
  have P0 : ((((w.alloc (.cells #[.int .i64 p, .slice a n c] 26)).alloc (.cells #[.int .i64 0, .slice none 0 0] 59)).alloc (.cells #[.int .u8 0, .int .u8 0, .int .u8 0, .int .u8 0, .int .u8 0, .int .u8 0, .int .u8 0, .int .u8 0, .int .u8 0, .int .u8 0, .int .u8 0, .int .u8 0, .int .u8 0, .int .u8 0, .int .u8 0, .int .u8 0] 74))).heap[w.heap.size]? = some (.cells #[.int .i64 p, .slice a n c] 26 (0, 0)) := by
    rw [heap_al_old _ _ _ (by simp; omega), heap_al_old _ _ _ (by simp)]; exact heap_alloc_new _ _
  have P1 : ((((w.alloc (.cells #[.int .i64 p, .slice a n c] 26)).alloc (.cells #[.int .i64 0, .slice none 0 0] 59)).alloc (.cells #[.int .u8 0, .int .u8 0, .int .u8 0, .int .u8 0, .int .u8 0, .int .u8 0, .int .u8 0, .int .u8 0, .int .u8 0, .int .u8 0, .int .u8 0, .int .u8 0, .int .u8 0, .int .u8 0, .int .u8 0, .int .u8 0] 74))).heap[w.heap.size + 1]? = some (.cells #[.int .i64 0, .slice none 0 0] 59 (0, 0)) := by
    rw [heap_al_old _ _ _ (by simp)]
    have := heap_alloc_new (w.alloc (.cells #[.int .i64 p, .slice a n c] 26)) (.cells #[.int .i64 0, .slice none 0 0] 59)
    simpa using this
  have P2 : ((((w.alloc (.cells #[.int .i64 p, .slice a n c] 26)).alloc (.cells #[.int .i64 0, .slice none 0 0] 59)).alloc (.cells #[.int .u8 0, .int .u8 0, .int .u8 0, .int .u8 0, .int .u8 0, .int .u8 0, .int .u8 0, .int .u8 0, .int .u8 0, .int .u8 0, .int .u8 0, .int .u8 0, .int .u8 0, .int .u8 0, .int .u8 0, .int .u8 0] 74))).heap[w.heap.size + 1 + 1]? = some (.cells #[.int .u8 0, .int .u8 0, .int .u8 0, .int .u8 0, .int .u8 0, .int .u8 0, .int .u8 0, .int .u8 0, .int .u8 0, .int .u8 0, .int .u8 0, .int .u8 0, .int .u8 0, .int .u8 0, .int .u8 0, .int .u8 0] 74 (0, 0)) := by
    have := heap_alloc_new ((w.alloc (.cells #[.int .i64 p, .slice a n c] 26)).alloc (.cells #[.int .i64 0, .slice none 0 0] 59)) (.cells #[.int .u8 0, .int .u8 0, .int .u8 0, .int .u8 0, .int .u8 0, .int .u8 0, .int .u8 0, .int .u8 0, .int .u8 0, .int .u8 0, .int .u8 0, .int .u8 0, .int .u8 0, .int .u8 0, .int .u8 0, .int .u8 0] 74)
    simpa using this
  have HP := hide (And.intro P0 (And.intro P1 P2))
  have HB0 := hide hAl
  clear h rm hAl P0 P1 P2
  go_enter Try.func62, Try.ntmps62
  go_wp2_with fail
  generalize ((w.alloc (.cells #[.int .i64 p, .slice a n c] 26)).alloc (.cells #[.int .i64 0, .slice none 0 0] 59)).alloc (.cells #[.int .u8 0, .int .u8 0, .int .u8 0, .int .u8 0, .int .u8 0, .int .u8 0, .int .u8 0, .int .u8 0, .int .u8 0, .int .u8 0, .int .u8 0, .int .u8 0, .int .u8 0, .int .u8 0, .int .u8 0, .int .u8 0] 74) = v at *
  have hvs := row_lt HP.out.2.2
  refine (netSteps_any p a n c L v HL.out hs).mono ?_
  rintro e w1 ⟨p', a', m', c', rfl, hx, hb⟩
  have hA1 := below_al w1 (.cells #[.int .i64 p', .slice a' m' c'] 59)
  have hb1 := hb.trans (hA1.mono hb.size)
  have RM1 := hide (RM.out.below hb1)
  have HP1 := hide (And.intro (keep HP.out.1 hb1) (And.intro (keep HP.out.2.1 hb1) (keep HP.out.2.2 hb1)))
  have HB1 := hide (HB0.out.trans (hb1.mono HB0.out.size))
  have HV1 := hide (heap_alloc_new w1 (.cells #[.int .i64 p', .slice a' m' c'] 59))
  have HX1 : Hid (netOk p n L = true → p' = p ∧ m' = n ∧ c' = n ∧ ∃ B, a' = some ⟨B, 0, none⟩ ∧ w.heap.size ≤ B ∧ w.heap.size + 1 + 1 < B ∧ B < w1.heap.size ∧ PartS (w1.alloc (.cells #[.int .i64 p', .slice a' m' c'] 59)) B (3 * n) (3 * n) L) := by
    intro hg
    obtain ⟨e1, e2, e3, B, e4, e5, e6⟩ := hx.out hg
    refine ⟨e1, e2, e3, B, e4, by omega, by omega, ?_, e6.grow hA1⟩
    obtain ⟨C, q1, _⟩ := e6
    exact (Array.getElem?_eq_some_iff.mp q1).1
  have hv1s : w.heap.size + 1 + 1 < w1.heap.size := by have := hb.size; omega
  clear hb hA1 hb1 HL RM HP HB0 hx hvs
  obtain ⟨hc0, hc1⟩ := cells2 HP1.out.1
  have hlt0 := row_lt HP1.out.1
  go_wp2_with fail
  have hW : (w1.alloc (.cells #[.int .i64 p', .slice a' m' c'] 59)).heap.size = w1.heap.size + 1 := by simp
  generalize w1.alloc (.cells #[.int .i64 p', .slice a' m' c'] 59) = W at *
  generalize w1.heap.size = B7 at *
  clear w1 v
  refine (tokens_any p am nm cm ys W RM1.out hnm).mono ?_
  rintro e w2 ⟨l, rfl, hl, hb2⟩
  have hz2 := hb2.size
  have HP2 := hide (And.intro (keep HP1.out.1 hb2) (And.intro (keep HP1.out.2.1 hb2) (keep HP1.out.2.2 hb2)))
  have HV2 := hide (keep HV1.out hb2)
  have HB2 := hide (HB1.out.trans (hb2.mono HB1.out.size))
  have HX2 : Hid (netOk p n L = true → p' = p ∧ m' = n ∧ c' = n ∧ ∃ B, a' = some ⟨B, 0, none⟩ ∧ w.heap.size ≤ B ∧ w.heap.size + 1 + 1 < B ∧ B < w2.heap.size ∧ PartS w2 B (3 * n) (3 * n) L) := by
    intro hg
    obtain ⟨e1, e2, e3, B, e4, e5, e6, e7, e8⟩ := HX1.out hg
    exact ⟨e1, e2, e3, B, e4, e5, e6, by omega, e8.grow hb2⟩
  clear hb2 HP1 HV1 HB1 HX1 RM1 hc0 hc1
  have hA2 := below_al w2 (.cells #[.int .u8 0, .int .u8 0, .int .u8 0, .int .u8 0, .int .u8 0, .int .u8 0, .int .u8 0, .int .u8 0, .int .u8 0, .int .u8 0, .int .u8 0, .int .u8 0, .int .u8 0, .int .u8 0, .int .u8 0, .int .u8 0] 74)
  have hg0 := heap_alloc_new w2 (.cells #[.int .u8 0, .int .u8 0, .int .u8 0, .int .u8 0, .int .u8 0, .int .u8 0, .int .u8 0, .int .u8 0, .int .u8 0, .int .u8 0, .int .u8 0, .int .u8 0, .int .u8 0, .int .u8 0, .int .u8 0, .int .u8 0] 74)
  have h9 := setRow_same hg0 (packOf ys l)
  have r4 := keepR (keep HP2.out.2.1 hA2) (show w.heap.size + 1 ≠ w2.heap.size by omega) (packOf ys l)
  have r5 := keepR (keep HP2.out.2.2 hA2) (show w.heap.size + 1 + 1 ≠ w2.heap.size by omega) (packOf ys l)
  have r7 := keepR (keep HV2.out hA2) (show B7 ≠ w2.heap.size by omega) (packOf ys l)
  have hbV := below_setRow (HB2.out.trans (hA2.mono HB2.out.size)) w2.heap.size (by omega) (packOf ys l)
  have HX3 : Hid (netOk p n L = true → p' = p ∧ m' = n ∧ c' = n ∧ ∃ B, a' = some ⟨B, 0, none⟩ ∧ w.heap.size ≤ B ∧ w.heap.size + 1 + 1 < B ∧ B ≠ w2.heap.size ∧ PartS ((w2.alloc (.cells #[.int .u8 0, .int .u8 0, .int .u8 0, .int .u8 0, .int .u8 0, .int .u8 0, .int .u8 0, .int .u8 0, .int .u8 0, .int .u8 0, .int .u8 0, .int .u8 0, .int .u8 0, .int .u8 0, .int .u8 0, .int .u8 0] 74)).setRow w2.heap.size (packOf ys l)) B (3 * n) (3 * n) L) := by
    intro hg
    obtain ⟨e1, e2, e3, B, e4, e5, e6, e7, e8⟩ := HX2.out hg
    exact ⟨e1, e2, e3, B, e4, e5, e6, by omega, (e8.grow hA2).setRow (by omega) _⟩
  have HBV := hide hbV
  clear HX2 hA2 hbV HP2 HV2 HB2
  by_cases hg : (netOk p n L && goodB p ys) = true
  · have hgg := hg
    rw [Bool.and_eq_true] at hgg
    obtain ⟨e1, e2, e3, B, e4, e5, e6, e7, e8⟩ := HX3.out hgg.1
    have hln := hl.out hgg.2
    subst e1 e2 e3 e4 hln
    rw [hgg.1, hgg.2]
    have HG := hide hg
    have HPS := hide e8
    clear hg hgg HX3 e8 hl
    go_wp2_with (refine wpList_store_row rfl 74 (.tmp 9) _ rfl _ _ rfl rfl 74 _ hg0 (by rw [packOf_size]; exact Try.size74) (by rw [packOf_size]; rfl) (packOf_one _ _) ?_)
    clear hg0
    generalize (w2.alloc (.cells #[.int .u8 0, .int .u8 0, .int .u8 0, .int .u8 0, .int .u8 0, .int .u8 0, .int .u8 0, .int .u8 0, .int .u8 0, .int .u8 0, .int .u8 0, .int .u8 0, .int .u8 0, .int .u8 0, .int .u8 0, .int .u8 0] 74)).setRow w2.heap.size (packOf ys l) = V at *
    generalize w2.heap.size = B9 at *
    clear w2
    have r5s : (V.setRow (w.heap.size + 1) #[.int .i64 p', .slice (some ⟨B, 0, none⟩) c' c']).heap[w.heap.size + 1 + 1]? = some (.cells #[.int .u8 0, .int .u8 0, .int .u8 0, .int .u8 0, .int .u8 0, .int .u8 0, .int .u8 0, .int .u8 0, .int .u8 0, .int .u8 0, .int .u8 0, .int .u8 0, .int .u8 0, .int .u8 0, .int .u8 0, .int .u8 0] 74 (0, 0)) := keepR r5 (by omega) _
    have r9s : (V.setRow (w.heap.size + 1) #[.int .i64 p', .slice (some ⟨B, 0, none⟩) c' c']).heap[B9]? = some (.cells (packOf ys l) 74 (0, 0)) := keepR h9 (by omega) _
    have HEND : Hid (NtEnd (netOk p' c' L && goodB p' ys) p' c' l L ys w (.returned (.tuple #[.agg #[.int .i64 p', .slice (some ⟨B, 0, none⟩) c' c'], .agg (packOf ys l), .bool true])) ((V.drew.setRow (w.heap.size + 1) #[.int .i64 p', .slice (some ⟨B, 0, none⟩) c' c']).setRow (w.heap.size + 1 + 1) (packOf ys l))) :=
      ⟨p', _, c', c', l, by rw [HG.out], fun _ => ⟨rfl, rfl, rfl, rfl, B, rfl, e5, ((show PartS V.drew B (3 * c') (3 * c') L from HPS.out).setRow (by omega) _).setRow (by omega) _⟩, below_rows HBV.out _ _ (by omega) (by omega) _ _⟩
    refine wp_region_any (by kernel_rfl) ?_
    refine wpAny_ready (rs := [0, 1]) (by kernel_rfl) (by simp) ?_
    refine cons_load_s rfl rfl (some 31) rfl 59 (.tmp 7) rfl B7 #[.int .i64 p', .slice (some ⟨B, 0, none⟩) c' c'] rfl 59 _ Try.underlying59 r7 Try.size59 ?_ (cons_load rfl rfl (some 32) rfl 74 (.tmp 9) rfl B9 (packOf ys l) rfl 74 _ _ Try.underlying74 h9 (by rw [packOf_size]; exact Try.size74) ?_ AllReady.nil)
    · refine wpAny_ready (rs := [1, 2]) (by kernel_rfl) (by simp) ?_
      refine cons_load rfl rfl (some 32) rfl 74 (.tmp 9) rfl B9 (packOf ys l) rfl 74 _ _ Try.underlying74 h9 (by rw [packOf_size]; exact Try.size74) ?_ (cons_store rfl rfl rfl 59 (.tmp 4) (.tmp 31) rfl (w.heap.size + 1) #[.int .i64 p', .slice (some ⟨B, 0, none⟩) c' c'] rfl rfl 59 _ r4 Try.size59 rfl (one2 rfl rfl) ?_ AllReady.nil)
      · refine wpAny_ready (rs := [2]) (by kernel_rfl) (by simp) ?_
        refine cons_store rfl rfl rfl 59 (.tmp 4) (.tmp 31) rfl (w.heap.size + 1) #[.int .i64 p', .slice (some ⟨B, 0, none⟩) c' c'] rfl rfl 59 _ r4 Try.size59 rfl (one2 rfl rfl) ?_ AllReady.nil
        refine wpAny_ready (rs := [3]) (by kernel_rfl) (by simp) ?_
        refine cons_store rfl rfl rfl 74 (.tmp 5) (.tmp 32) rfl (w.heap.size + 1 + 1) (packOf ys l) rfl rfl 74 _ r5s (by rw [packOf_size]; exact Try.size74) (by rw [packOf_size]; rfl) (packOf_one _ _) ?_ AllReady.nil
        refine wpAny_ready (rs := [4]) (by kernel_rfl) (by simp) ?_
        refine cons_assign rfl rfl (some 6) rfl (.const (.bool true)) rfl ?_ AllReady.nil
        refine wpAny_done (by kernel_rfl) ?_ _
        go_wp2
        refine bodyPost_ret (v := .tuple #[.agg #[.int .i64 p', .slice (some ⟨B, 0, none⟩) c' c'], .agg (packOf ys l), .bool true]) ?_ rfl HEND.out
        exact netTok_results Try.results62 _ _ (w.heap.size + 1) (w.heap.size + 1 + 1) _ _ (fOf ys l) _ rfl rfl rfl ((setRow_other _ _ _ _ (by omega)).trans (setRow_same (w := V.drew) r4 _)) (setRow_same r5s _)
      · refine wpAny_ready (rs := [1]) (by kernel_rfl) (by simp) ?_
        refine cons_load rfl rfl (some 32) rfl 74 (.tmp 9) rfl B9 (packOf ys l) rfl 74 _ _ Try.underlying74 r9s (by rw [packOf_size]; exact Try.size74) ?_ AllReady.nil
        refine wpAny_ready (rs := [3]) (by kernel_rfl) (by simp) ?_
        refine cons_store rfl rfl rfl 74 (.tmp 5) (.tmp 32) rfl (w.heap.size + 1 + 1) (packOf ys l) rfl rfl 74 _ r5s (by rw [packOf_size]; exact Try.size74) (by rw [packOf_size]; rfl) (packOf_one _ _) ?_ AllReady.nil
        refine wpAny_ready (rs := [4]) (by kernel_rfl) (by simp) ?_
        refine cons_assign rfl rfl (some 6) rfl (.const (.bool true)) rfl ?_ AllReady.nil
        refine wpAny_done (by kernel_rfl) ?_ _
        go_wp2
        refine bodyPost_ret (v := .tuple #[.agg #[.int .i64 p', .slice (some ⟨B, 0, none⟩) c' c'], .agg (packOf ys l), .bool true]) ?_ rfl HEND.out
        exact netTok_results Try.results62 _ _ (w.heap.size + 1) (w.heap.size + 1 + 1) _ _ (fOf ys l) _ rfl rfl rfl ((setRow_other _ _ _ _ (by omega)).trans (setRow_same (w := V.drew) r4 _)) (setRow_same r5s _)
    · refine wpAny_ready (rs := [0]) (by kernel_rfl) (by simp) ?_
      refine cons_load_s rfl rfl (some 31) rfl 59 (.tmp 7) rfl B7 #[.int .i64 p', .slice (some ⟨B, 0, none⟩) c' c'] rfl 59 _ Try.underlying59 r7 Try.size59 ?_ AllReady.nil
      refine wpAny_ready (rs := [2]) (by kernel_rfl) (by simp) ?_
      refine cons_store rfl rfl rfl 59 (.tmp 4) (.tmp 31) rfl (w.heap.size + 1) #[.int .i64 p', .slice (some ⟨B, 0, none⟩) c' c'] rfl rfl 59 _ r4 Try.size59 rfl (one2 rfl rfl) ?_ AllReady.nil
      refine wpAny_ready (rs := [3]) (by kernel_rfl) (by simp) ?_
      refine cons_store rfl rfl rfl 74 (.tmp 5) (.tmp 32) rfl (w.heap.size + 1 + 1) (packOf ys l) rfl rfl 74 _ r5s (by rw [packOf_size]; exact Try.size74) (by rw [packOf_size]; rfl) (packOf_one _ _) ?_ AllReady.nil
      refine wpAny_ready (rs := [4]) (by kernel_rfl) (by simp) ?_
      refine cons_assign rfl rfl (some 6) rfl (.const (.bool true)) rfl ?_ AllReady.nil
      refine wpAny_done (by kernel_rfl) ?_ _
      go_wp2
      refine bodyPost_ret (v := .tuple #[.agg #[.int .i64 p', .slice (some ⟨B, 0, none⟩) c' c'], .agg (packOf ys l), .bool true]) ?_ rfl HEND.out
      exact netTok_results Try.results62 _ _ (w.heap.size + 1) (w.heap.size + 1 + 1) _ _ (fOf ys l) _ rfl rfl rfl ((setRow_other _ _ _ _ (by omega)).trans (setRow_same (w := V.drew) r4 _)) (setRow_same r5s _)
  · have hg' : (netOk p n L && goodB p ys) = false := by simpa using hg
    have HBR := hide (below_setRow (below_setRow HBV.out (w.heap.size + 1) (by omega) #[.int .i64 0, .slice none 0 0]) (w.heap.size + 1 + 1) (by omega) #[.int .u8 0, .int .u8 0, .int .u8 0, .int .u8 0, .int .u8 0, .int .u8 0, .int .u8 0, .int .u8 0, .int .u8 0, .int .u8 0, .int .u8 0, .int .u8 0, .int .u8 0, .int .u8 0, .int .u8 0, .int .u8 0])
    have r5n : (((w2.alloc (.cells #[.int .u8 0, .int .u8 0, .int .u8 0, .int .u8 0, .int .u8 0, .int .u8 0, .int .u8 0, .int .u8 0, .int .u8 0, .int .u8 0, .int .u8 0, .int .u8 0, .int .u8 0, .int .u8 0, .int .u8 0, .int .u8 0] 74)).setRow w2.heap.size (packOf ys l)).setRow (w.heap.size + 1) #[.int .i64 0, .slice none 0 0]).heap[w.heap.size + 1 + 1]? = some (.cells #[.int .u8 0, .int .u8 0, .int .u8 0, .int .u8 0, .int .u8 0, .int .u8 0, .int .u8 0, .int .u8 0, .int .u8 0, .int .u8 0, .int .u8 0, .int .u8 0, .int .u8 0, .int .u8 0, .int .u8 0, .int .u8 0] 74 (0, 0)) := keepR r5 (by omega) _
    have HF5 := hide (setRow_same r5n #[.int .u8 0, .int .u8 0, .int .u8 0, .int .u8 0, .int .u8 0, .int .u8 0, .int .u8 0, .int .u8 0, .int .u8 0, .int .u8 0, .int .u8 0, .int .u8 0, .int .u8 0, .int .u8 0, .int .u8 0, .int .u8 0])
    have HF4 := hide (keepR (setRow_same r4 #[.int .i64 0, .slice none 0 0]) (show w.heap.size + 1 ≠ w.heap.size + 1 + 1 by omega) #[.int .u8 0, .int .u8 0, .int .u8 0, .int .u8 0, .int .u8 0, .int .u8 0, .int .u8 0, .int .u8 0, .int .u8 0, .int .u8 0, .int .u8 0, .int .u8 0, .int .u8 0, .int .u8 0, .int .u8 0, .int .u8 0])
    have HEND : Hid (∀ W, Below w.heap.size w W → NtEnd (netOk p n L && goodB p ys) p n nm L ys w (.returned (.tuple #[.agg #[.int .i64 0, .slice none 0 0], .agg #[.int .u8 0, .int .u8 0, .int .u8 0, .int .u8 0, .int .u8 0, .int .u8 0, .int .u8 0, .int .u8 0, .int .u8 0, .int .u8 0, .int .u8 0, .int .u8 0, .int .u8 0, .int .u8 0, .int .u8 0, .int .u8 0], .bool false])) W) := by
      intro W hW; rw [hg']; exact ⟨0, none, 0, 0, 0, by rw [packOf_zero], fun h => by simp at h, hW⟩
    clear HX3 HBV hl
    cases hgn : netOk p n L
    · clear hg hg' hgn
      go_wp2_with (first
        | refine wpList_store_row rfl 74 (.tmp 9) _ rfl _ _ rfl rfl 74 _ hg0 (by rw [packOf_size]; exact Try.size74) (by rw [packOf_size]; rfl) (packOf_one _ _) ?_
        | refine wpList_store_row rfl 59 (.tmp 4) _ rfl _ #[.int .i64 0, .slice none 0 0] rfl rfl 59 _ r4 Try.size59 rfl (one2 rfl rfl) ?_
        | refine wpList_store_row rfl 74 (.tmp 5) _ rfl _ _ rfl rfl 74 _ r5n Try.size74 rfl lit_one ?_)
      refine bodyPost_ret (v := .tuple #[.agg #[.int .i64 0, .slice none 0 0], .agg #[.int .u8 0, .int .u8 0, .int .u8 0, .int .u8 0, .int .u8 0, .int .u8 0, .int .u8 0, .int .u8 0, .int .u8 0, .int .u8 0, .int .u8 0, .int .u8 0, .int .u8 0, .int .u8 0, .int .u8 0, .int .u8 0], .bool false]) ?_ rfl (HEND.out _ HBR.out)
      have hx : (#[.int .u8 0, .int .u8 0, .int .u8 0, .int .u8 0, .int .u8 0, .int .u8 0, .int .u8 0, .int .u8 0, .int .u8 0, .int .u8 0, .int .u8 0, .int .u8 0, .int .u8 0, .int .u8 0, .int .u8 0, .int .u8 0] : Array Value) = tokF (fOf ys 0) := (packOf_zero ys).symm
      have f4 := HF4.out
      have f5 := HF5.out
      rw [hx] at f4 f5 ⊢
      exact netTok_results Try.results62 _ _ (w.heap.size + 1) (w.heap.size + 1 + 1) _ _ (fOf ys 0) (.bool false) rfl rfl rfl f4 f5
    · have hgm : goodB p ys = false := by rw [hgn] at hg'; simpa using hg'
      rw [hgm]
      clear hg hg' hgn hgm
      go_wp2_with (first
        | refine wpList_store_row rfl 74 (.tmp 9) _ rfl _ _ rfl rfl 74 _ hg0 (by rw [packOf_size]; exact Try.size74) (by rw [packOf_size]; rfl) (packOf_one _ _) ?_
        | refine wpList_store_row rfl 59 (.tmp 4) _ rfl _ #[.int .i64 0, .slice none 0 0] rfl rfl 59 _ r4 Try.size59 rfl (one2 rfl rfl) ?_
        | refine wpList_store_row rfl 74 (.tmp 5) _ rfl _ _ rfl rfl 74 _ r5n Try.size74 rfl lit_one ?_)
      refine bodyPost_ret (v := .tuple #[.agg #[.int .i64 0, .slice none 0 0], .agg #[.int .u8 0, .int .u8 0, .int .u8 0, .int .u8 0, .int .u8 0, .int .u8 0, .int .u8 0, .int .u8 0, .int .u8 0, .int .u8 0, .int .u8 0, .int .u8 0, .int .u8 0, .int .u8 0, .int .u8 0, .int .u8 0], .bool false]) ?_ rfl (HEND.out _ HBR.out)
      have hx : (#[.int .u8 0, .int .u8 0, .int .u8 0, .int .u8 0, .int .u8 0, .int .u8 0, .int .u8 0, .int .u8 0, .int .u8 0, .int .u8 0, .int .u8 0, .int .u8 0, .int .u8 0, .int .u8 0, .int .u8 0, .int .u8 0] : Array Value) = tokF (fOf ys 0) := (packOf_zero ys).symm
      have f4 := HF4.out
      have f5 := HF5.out
      rw [hx] at f4 f5 ⊢
      exact netTok_results Try.results62 _ _ (w.heap.size + 1) (w.heap.size + 1 + 1) _ _ (fOf ys 0) (.bool false) rfl rfl rfl f4 f5
end Go.Proofs.Ytajcmamapmeglaa


/- marked, enables, has and after of the program: which places have a token, and the mark behind a step. -/
namespace Go.Proofs.Ytajcmamapmeglaa
open Go.RowKit
set_option maxRecDepth 10000

/-- The places among the first k that have a token. -/
def posL (f : Nat → Int) (k : Nat) : List Int := ((List.range k).filter fun i => decide (0 < f i)).map fun (i : Nat) => (i : Int)

theorem posL_succ_yes {f : Nat → Int} {k : Nat} (h : 0 < f k) : posL f (k + 1) = posL f k ++ [(k : Int)] := by simp [posL, List.range_succ, List.filter_append, h]
theorem posL_succ_no {f : Nat → Int} {k : Nat} (h : ¬ 0 < f k) : posL f (k + 1) = posL f k := by simp [posL, List.range_succ, List.filter_append, h]

theorem posL_lt (f : Nat → Int) (k : Nat) (hk : k ≤ 16) : maskL (posL f k) < 2 ^ 16 := by
  refine maskL_lt _ fun x hx => ?_
  unfold posL at hx
  simp at hx
  obtain ⟨i, ⟨h1, h2⟩, rfl⟩ := hx
  omega

theorem posL_or {f : Nat → Int} {k : Nat} (hk : k < 16) (h : 0 < f k) : bits .or .u16 (maskL (posL f k) : Int) (IntKind.u16.wrap (2 ^ k)) = (maskL (posL f (k + 1)) : Int) := by
  have hx2 : 2 ^ k < 2 ^ 16 := Nat.pow_lt_pow_right (by decide) hk
  have hx3 : ((2 : Int) ^ k) = ((2 ^ k : Nat) : Int) := by simp
  rw [hx3, wraps_u16 _ (Int.natCast_nonneg _) (by exact_mod_cast hx2), or_u16 _ _ (posL_lt f k (by omega)) hx2, posL_succ_yes h, maskL_snoc, Int.toNat_natCast]

theorem size_u8 : (Try.prog.info? 5).map (·.size) = some 1 := by kernel_rfl

theorem run_index_t16 (f : Nat → Int) (k : Nat) (hk : k < 16) (w : World) : (Instr.index 74 (.agg (tokF f)) (.int .i64 k)).run Try.prog w = .ok (.int .u8 (f k)) w := by
  have h := tokF_at f k hk
  have h1 : (0 : Int) ≤ (k : Int) ∧ (k : Int) < 16 := by omega
  obtain ⟨i, hi, hs⟩ := Option.map_eq_some_iff.1 size_u8
  simp [Instr.index, run_underlying Try.underlying74, asIntOf, h1, part, isAgg, run_underlying Try.underlying5, sizeOf, typeInfo, hi, hs, h, go_sem]
  omega

set_option maxHeartbeats 1000000 in
theorem markedI_any (f : Nat → Int) (w : World) (hf : ∀ i, 0 ≤ f i ∧ f i ≤ 255) :
    Calls Try.prog 100 #[.agg (tokF f)] w fun e w' => e = .returned (.int .u16 (maskL (posL f 16) : Int)) ∧ w' = w.alloc (.cells (tokF f) 74) := by
  have hg0 := heap_alloc_new w (.cells (tokF f) 74)
  go_enter Try.func100, Try.ntmps100
  go_wp2_with (refine wpList_load_row rfl 74 (.tmp 1) rfl _ rfl 74 (tokF f) (0, 0) _ hg0 Try.underlying74 rfl (by rw [tokF_size]; exact Try.size74) ?_)
  clear hg0
  obtain ⟨v, hv⟩ : ∃ v, Hid (w.alloc (.cells (tokF f) 74) = v) := ⟨_, rfl⟩
  rw [hv.out]
  go_loop [3, 7] (fun s i => ∃ k : Nat, k ≤ 16 ∧ i = .int .i64 k ∧ s = .int .u16 (maskL (posL f k) : Int)) (fun _ i => 16 - (intOf i).toNat)
  case atStart => exact ⟨0, Nat.zero_le _, rfl, rfl⟩
  case round =>
    obtain ⟨k, hk, rfl, rfl⟩ := hrel
    by_cases hlt : k < 16
    rotate_left
    · have hk' : k = 16 := by omega
      subst hk'
      obtain ⟨s, hs⟩ : ∃ s : Nat, Hid (maskL (posL f 16) = s) := ⟨_, rfl⟩
      rw [hs.out]
      go_wp2_with fail
      go_ret
      exact ⟨by rw [hs.out]; rfl, hv.out.symm⟩
    have hat : ∀ w, (Instr.index 74 (.agg (tokF f)) (.int .i64 k)).run Try.prog w = .ok (.int .u8 (f k)) w := fun w => run_index_t16 f k hlt w
    have hi1 : ((k : Int)) < 16 := by omega
    have hi0 : (0 : Int) ≤ (k : Int) := by omega
    have hb := hf k
    by_cases hp : 0 < f k
    · have HM := hide (posL_or hlt hp)
      obtain ⟨x, hx⟩ : ∃ x, Hid (f k = x) := ⟨_, rfl⟩
      rw [hx.out] at hat hb hp
      obtain ⟨mm, hmm⟩ : ∃ s : Nat, Hid (maskL (posL f k) = s) := ⟨_, rfl⟩
      rw [hmm.out] at HM ⊢
      clear hf
      go_wp2_with fail
      go_round
      case rel => exact ⟨k + 1, by omega, by go_num, by rw [← HM.out]⟩
      case measure => simp [intOf]; omega
    · have HM := hide (posL_succ_no hp)
      have hx : f k = 0 := by omega
      rw [hx] at hat
      clear hp hx hb hf
      obtain ⟨mm, hmm⟩ : ∃ s : Nat, Hid (maskL (posL f k) = s) := ⟨_, rfl⟩
      rw [hmm.out]
      go_wp2_with fail
      go_round
      case rel => exact ⟨k + 1, by omega, by go_num, by rw [HM.out, hmm.out]⟩
      case measure => simp [intOf]; omega

theorem andNot_nat (a b : Nat) : bits .andNot .u16 (a : Int) (b : Int) = (((BitVec.ofNat 16 a) &&& ~~~(BitVec.ofNat 16 b)).toNat : Int) := by
  simp only [bits, BitVec.ofInt_natCast]
  refine wraps_u16 _ (Int.natCast_nonneg _) ?_
  have := ((BitVec.ofNat 16 a) &&& ~~~(BitVec.ofNat 16 b)).isLt
  exact_mod_cast this

theorem andNot_zero {a b : Nat} (h : a &&& b = a) : bits .andNot .u16 (a : Int) (b : Int) = 0 := by
  rw [andNot_nat a b]
  have : (BitVec.ofNat 16 a) &&& ~~~(BitVec.ofNat 16 b) = 0#16 := by
    apply BitVec.eq_of_getLsbD_eq
    intro i hi
    have hbit : (a &&& b).testBit i = a.testBit i := by rw [h]
    rw [Nat.testBit_and] at hbit
    rw [BitVec.getLsbD_and, BitVec.getLsbD_not, BitVec.getLsbD_ofNat, BitVec.getLsbD_ofNat]
    cases h1 : a.testBit i
    · simp
    · rw [h1] at hbit
      have : b.testBit i = true := by simpa using hbit
      simp [this, hi]
  rw [this]; rfl

theorem andNot_ne {a b : Nat} (ha : a < 2 ^ 16) (h : ¬ a &&& b = a) : ¬ bits .andNot .u16 (a : Int) (b : Int) = 0 := by
  rw [andNot_nat a b]
  intro e
  apply h
  have e' : (BitVec.ofNat 16 a) &&& ~~~(BitVec.ofNat 16 b) = 0#16 := by
    apply BitVec.eq_of_toNat_eq
    simpa using (by exact_mod_cast e : ((BitVec.ofNat 16 a) &&& ~~~(BitVec.ofNat 16 b)).toNat = 0)
  apply Nat.eq_of_testBit_eq
  intro i
  rw [Nat.testBit_and]
  by_cases hi : i < 16
  · have := congrArg (fun x => BitVec.getLsbD x i) e'
    rw [BitVec.getLsbD_and, BitVec.getLsbD_not, BitVec.getLsbD_ofNat, BitVec.getLsbD_ofNat] at this
    cases h1 : a.testBit i
    · rfl
    · rw [h1] at this
      cases h2 : b.testBit i
      · rw [h2] at this; simp [hi] at this
      · rfl
  · rw [Nat.testBit_lt_two_pow (Nat.lt_of_lt_of_le ha (Nat.pow_le_pow_right (by decide) (by omega)))]; rfl

/-- Whether all bits of one are bits of the other. -/
def subB (a b : Nat) : Bool := decide (a &&& b = a)

set_option maxHeartbeats 400000 in
theorem enables_any (s t0 t1 t2 : Nat) (w : World) (ht : t0 < 2 ^ 16) :
    Calls Try.prog 105 #[.int .u16 (s : Int), .agg #[.int .u16 (t0 : Int), .int .u16 (t1 : Int), .int .u16 (t2 : Int)]] w fun e w' => e = .returned (.bool (subB t0 s)) ∧ w' = w.alloc (.cells #[.int .u16 (t0 : Int), .int .u16 (t1 : Int), .int .u16 (t2 : Int)] 65) := by
  by_cases h : t0 &&& s = t0
  · have HB := hide (show subB t0 s = true by unfold subB; simp [h])
    have hz := andNot_zero h
    go_enter Try.func105, Try.ntmps105
    go_wp2_with fail
    go_ret
    exact ⟨ret_bool HB.out.symm, rfl⟩
  · have HB := hide (show subB t0 s = false by unfold subB; simp [h])
    have hz := andNot_ne ht h
    have hd : (bits .andNot .u16 (t0 : Int) (s : Int) == 0) = false := by simpa using hz
    clear h hz
    go_enter Try.func105, Try.ntmps105
    go_wp2_with fail
    go_ret
    exact ⟨ret_bool (by rw [HB.out]), rfl⟩

theorem bit_of (s k : Nat) (hs : s < 2 ^ 16) : (bits .and .u16 ((s : Int) / 2 ^ k) 1 == 1) = s.testBit k := by
  have h1 : ((s : Int) / 2 ^ k) = ((s / 2 ^ k : Nat) : Int) := by simp
  have h2 : s / 2 ^ k < 2 ^ 16 := Nat.lt_of_le_of_lt (Nat.div_le_self _ _) hs
  have h3 := and_u16 (s / 2 ^ k) 1 h2 (by decide)
  rw [h1]
  rw [show ((1 : Nat) : Int) = (1 : Int) from rfl] at h3
  rw [h3, Nat.and_one_is_mod, Nat.testBit_eq_decide_div_mod_eq]
  by_cases h : s / 2 ^ k % 2 = 1
  · rw [h]; rfl
  · have h4 : s / 2 ^ k % 2 = 0 := by omega
    rw [h4]; rfl

set_option maxHeartbeats 400000 in
theorem hasI_any (s k : Nat) (w : World) (hs : s < 2 ^ 16) (hk : k < 16) :
    Calls Try.prog 139 #[.int .u16 (s : Int), .int .i64 (k : Int)] w fun e w' => e = .returned (.bool (s.testBit k)) ∧ w' = w := by
  have hk0 : (0 : Int) ≤ (k : Int) := by omega
  have HB := hide (bit_of s k hs)
  go_enter Try.func139, Try.ntmps139
  go_wp2_with fail
  go_ret
  exact ⟨ret_bool HB.out, rfl⟩

/-- The number of tokens of a place behind a step. -/
def stepF (s0 s1 s2 : Nat) (f : Nat → Int) (i : Nat) : Int :=
  (if s2.testBit i then 0 else if s0.testBit i then f i - 1 else f i) + (if s1.testBit i then 1 else 0)

/-- The first k places are behind the step. -/
def partF (s0 s1 s2 : Nat) (f : Nat → Int) (k : Nat) : Nat → Int := fun i => if i < k then stepF s0 s1 s2 f i else f i

/-- .. and the place k has v. -/
def midF (s0 s1 s2 : Nat) (f : Nat → Int) (k : Nat) (v : Int) : Nat → Int := fun i => if i = k then v else partF s0 s1 s2 f k i

theorem midF_at (s0 s1 s2 : Nat) (f : Nat → Int) (k : Nat) (hk : k < 16) (v : Int) : (tokF (midF s0 s1 s2 f k v))[k]? = some (.int .u8 v) := by
  rw [tokF_at _ _ hk]; unfold midF; rw [if_pos rfl]

theorem midF_set (s0 s1 s2 : Nat) (f : Nat → Int) (k : Nat) (v v' : Int) : (tokF (midF s0 s1 s2 f k v)).setIfInBounds k (.int .u8 v') = tokF (midF s0 s1 s2 f k v') := by
  refine tokF_set _ _ k _ ?_ fun i hi => ?_
  · unfold midF; rw [if_pos rfl]
  · unfold midF; rw [if_neg hi, if_neg hi]

theorem midF_start (s0 s1 s2 : Nat) (f : Nat → Int) (k : Nat) : partF s0 s1 s2 f k = midF s0 s1 s2 f k (f k) := by
  funext i; unfold midF
  by_cases h : i = k
  · subst h; rw [if_pos rfl]; unfold partF; rw [if_neg (by omega)]
  · rw [if_neg h]

theorem midF_end (s0 s1 s2 : Nat) (f : Nat → Int) (k : Nat) : midF s0 s1 s2 f k (stepF s0 s1 s2 f k) = partF s0 s1 s2 f (k + 1) := by
  funext i; unfold midF partF
  by_cases h : i = k
  · subst h; rw [if_pos rfl, if_pos (by omega)]
  · rw [if_neg h]
    by_cases h2 : i < k
    · rw [if_pos h2, if_pos (by omega)]
    · rw [if_neg h2, if_neg (by omega)]

/-- No place has too many. -/
def capB (s0 s1 s2 : Nat) (f : Nat → Int) (k : Nat) : Bool := (List.range k).all fun i => decide (stepF s0 s1 s2 f i ≤ 50)

theorem capB_no {s0 s1 s2 : Nat} {f : Nat → Int} {k : Nat} (hk : k < 16) (h : 50 < stepF s0 s1 s2 f k) : capB s0 s1 s2 f 16 = false := by
  unfold capB; rw [List.all_eq_false]; exact ⟨k, by simpa using hk, by simpa using h⟩

/-- How after ends. -/
def AfEnd (s0 s1 s2 : Nat) (f : Nat → Int) (w : World) (e : Ending) (w' : World) : Prop :=
  ∃ h, e = .returned (.tuple #[.agg (tokF h), .bool (capB s0 s1 s2 f 16)]) ∧ Hid (capB s0 s1 s2 f 16 = true → h = partF s0 s1 s2 f 16) ∧ Below w.heap.size w w'

theorem zeros_tok : (#[.int .u8 0, .int .u8 0, .int .u8 0, .int .u8 0, .int .u8 0, .int .u8 0, .int .u8 0, .int .u8 0, .int .u8 0, .int .u8 0, .int .u8 0, .int .u8 0, .int .u8 0, .int .u8 0, .int .u8 0, .int .u8 0] : Array Value) = tokF (fun _ => 0) := rfl

theorem afEnd_no {s0 s1 s2 : Nat} {f : Nat → Int} {w w' : World} (h : capB s0 s1 s2 f 16 = false) (hb : Below w.heap.size w w') : AfEnd s0 s1 s2 f w (.returned (.tuple #[.agg #[.int .u8 0, .int .u8 0, .int .u8 0, .int .u8 0, .int .u8 0, .int .u8 0, .int .u8 0, .int .u8 0, .int .u8 0, .int .u8 0, .int .u8 0, .int .u8 0, .int .u8 0, .int .u8 0, .int .u8 0, .int .u8 0], .bool false])) w' :=
  ⟨fun _ => 0, by rw [h, zeros_tok], by rw [h]; intro e; simp at e, hb⟩

theorem afEnd_yes {s0 s1 s2 : Nat} {f : Nat → Int} {w w' : World} (h : capB s0 s1 s2 f 16 = true) (hb : Below w.heap.size w w') : AfEnd s0 s1 s2 f w (.returned (.tuple #[.agg (tokF (partF s0 s1 s2 f 16)), .bool true])) w' :=
  ⟨_, by rw [h], fun _ => rfl, hb⟩

abbrev Zs : Array Value := #[.int .u8 0, .int .u8 0, .int .u8 0, .int .u8 0, .int .u8 0, .int .u8 0, .int .u8 0, .int .u8 0, .int .u8 0, .int .u8 0, .int .u8 0, .int .u8 0, .int .u8 0, .int .u8 0, .int .u8 0, .int .u8 0]

theorem after_res {fn : Func} {q u : Tmp} (hr : fn.results = #[.cell q 74, .tmp u]) (tmps : Array Value) (W : World) (b : Nat) (C : Array Value) (v : Value) (h4 : tmps.getD q undef = .pointer (some ⟨b, 0, none⟩)) (h5 : tmps.getD u undef = v)
    (hs : C.size = 16) (q4 : W.heap[b]? = some (.cells C 74 (0, 0))) : (results fn tmps).run Try.prog W = .ok (.tuple #[.agg C, v]) W := by
  refine (results_cell_tmp hr _ _ _).trans ?_
  rw [h4, h5]
  show ((loadVar 74 ⟨b, 0, none⟩).run Try.prog _).andThen _ = _
  rw [run_loadVar_row _ _ 74 74 C (0, 0) _ q4 Try.underlying74 rfl (by rw [hs]; exact Try.size74)]
  rfl

/-- What the loop of after keeps in mind. -/
structure AfInv (w wr : World) (s0 s1 s2 : Nat) (g : Nat → Int) : Prop where
  st : wr.heap[w.heap.size]? = some (.cells #[.int .u16 (s0 : Int), .int .u16 (s1 : Int), .int .u16 (s2 : Int)] 65 (0, 0))
  tk : wr.heap[w.heap.size + 1]? = some (.cells (tokF g) 74 (0, 0))
  rs : wr.heap[w.heap.size + 1 + 1]? = some (.cells #[.int .u8 0, .int .u8 0, .int .u8 0, .int .u8 0, .int .u8 0, .int .u8 0, .int .u8 0, .int .u8 0, .int .u8 0, .int .u8 0, .int .u8 0, .int .u8 0, .int .u8 0, .int .u8 0, .int .u8 0, .int .u8 0] 74 (0, 0))
  bel : Below w.heap.size w wr

theorem AfInv.set {w wr : World} {s0 s1 s2 : Nat} {f : Nat → Int} {k : Nat} {v : Int} (h : AfInv w wr s0 s1 s2 (midF s0 s1 s2 f k v)) (v' : Int) : AfInv w (wr.setCell ⟨w.heap.size + 1, k, none⟩ (.int .u8 v')) s0 s1 s2 (midF s0 s1 s2 f k v') :=
  ⟨(Below.heap_setCell _ _ _ _ (show w.heap.size ≠ w.heap.size + 1 by omega)).trans h.st, by rw [heap_setCell_same _ _ _ _ _ _ h.tk, midF_set], (Below.heap_setCell _ _ _ _ (show w.heap.size + 1 + 1 ≠ w.heap.size + 1 by omega)).trans h.rs, h.bel.setCell (by simp) _⟩

theorem AfInv.start (w : World) (s0 s1 s2 : Nat) (f : Nat → Int) : AfInv w (((w.alloc (.cells #[.int .u16 (s0 : Int), .int .u16 (s1 : Int), .int .u16 (s2 : Int)] 65)).alloc (.cells (tokF f) 74)).alloc (.cells #[.int .u8 0, .int .u8 0, .int .u8 0, .int .u8 0, .int .u8 0, .int .u8 0, .int .u8 0, .int .u8 0, .int .u8 0, .int .u8 0, .int .u8 0, .int .u8 0, .int .u8 0, .int .u8 0, .int .u8 0, .int .u8 0] 74)) s0 s1 s2 f := by
  refine ⟨?_, ?_, ?_, ((below_al w _).alloc (by simp) _).alloc (by simp; omega) _⟩
  · rw [heap_al_old _ _ _ (by simp; omega), heap_al_old _ _ _ (by simp)]; exact heap_alloc_new _ _
  · rw [heap_al_old _ _ _ (by simp)]
    have := heap_alloc_new (w.alloc (.cells #[.int .u16 (s0 : Int), .int .u16 (s1 : Int), .int .u16 (s2 : Int)] 65)) (.cells (tokF f) 74)
    simpa using this
  · have := heap_alloc_new ((w.alloc (.cells #[.int .u16 (s0 : Int), .int .u16 (s1 : Int), .int .u16 (s2 : Int)] 65)).alloc (.cells (tokF f) 74)) (.cells #[.int .u8 0, .int .u8 0, .int .u8 0, .int .u8 0, .int .u8 0, .int .u8 0, .int .u8 0, .int .u8 0, .int .u8 0, .int .u8 0, .int .u8 0, .int .u8 0, .int .u8 0, .int .u8 0, .int .u8 0, .int .u8 0] 74)
    simpa using this

set_option maxHeartbeats 1000000 in
theorem after_any (s0 s1 s2 : Nat) (f : Nat → Int) (w : World) (h0 : s0 < 2 ^ 16) (h1 : s1 < 2 ^ 16) (h2 : s2 < 2 ^ 16) (hf : ∀ i, 0 ≤ f i ∧ f i ≤ 50) (hen : ∀ i, s0.testBit i = true → 0 < f i) :
    Calls Try.prog 120 #[.agg #[.int .u16 (s0 : Int), .int .u16 (s1 : Int), .int .u16 (s2 : Int)], .agg (tokF f)] w fun e w' => AfEnd s0 s1 s2 f w e w' := by
  have HF := hide hf
  have HEN := hide hen
  have HI := hide (AfInv.start w s0 s1 s2 f)
  clear hf hen
  go_enter Try.func120, Try.ntmps120
  go_wp2_with fail
  generalize ((w.alloc (.cells #[.int .u16 (s0 : Int), .int .u16 (s1 : Int), .int .u16 (s2 : Int)] 65)).alloc (.cells (tokF f) 74)).alloc (.cells #[.int .u8 0, .int .u8 0, .int .u8 0, .int .u8 0, .int .u8 0, .int .u8 0, .int .u8 0, .int .u8 0, .int .u8 0, .int .u8 0, .int .u8 0, .int .u8 0, .int .u8 0, .int .u8 0, .int .u8 0, .int .u8 0] 74) = V0 at *
  go_loopw [7] (fun i wr => ∃ k : Nat, k ≤ 16 ∧ i = .int .i64 k ∧ Hid (capB s0 s1 s2 f k = true) ∧ Hid (AfInv w wr s0 s1 s2 (partF s0 s1 s2 f k))) (fun i _ => 16 - (intOf i).toNat)
  case atStart => exact ⟨0, Nat.zero_le _, rfl, rfl, by rw [show partF s0 s1 s2 f 0 = f from by funext i; unfold partF; rw [if_neg (by omega)]]; exact HI⟩
  case round =>
    obtain ⟨k, hk, rfl, hu, hin⟩ := hrel
    clear HI
    by_cases hlt : k < 16
    rotate_left
    · have hk' : k = 16 := by omega
      subst hk'
      have hg1 := hin.out.tk
      have hg2 := hin.out.rs
      go_wp2_with (first
        | refine wpList_load_row rfl 74 (.tmp 3) rfl _ rfl 74 (tokF (partF s0 s1 s2 f 16)) (0, 0) _ hg1 Try.underlying74 rfl (by rw [tokF_size]; exact Try.size74) ?_
        | refine wpList_store_row rfl 74 (.tmp 4) _ rfl _ _ rfl rfl 74 _ hg2 (by rw [tokF_size]; exact Try.size74) (by rw [tokF_size]; rfl) (tokF_one _) ?_)
      refine bodyPost_ret (v := .tuple #[.agg (tokF (partF s0 s1 s2 f 16)), .bool true]) ?_ rfl (afEnd_yes hu.out (below_setRow hin.out.bel _ (by omega) _))
      exact after_res Try.results120 _ _ (w.heap.size + 1 + 1) _ (.bool true) rfl rfl (tokF_size _) (setRow_same hg2 _)
    have hx := HF.out k
    have hxe := HEN.out k
    have HST : Hid (stepF s0 s1 s2 f k = (if s2.testBit k then 0 else if s0.testBit k then f k - 1 else f k) + (if s1.testBit k then 1 else 0)) := rfl
    have HEND := hide (midF_end s0 s1 s2 f k)
    rw [midF_start] at hin
    obtain ⟨x, hxq⟩ : ∃ x, Hid (f k = x) := ⟨_, rfl⟩
    rw [hxq.out] at hx hxe HST hin
    have hi1 : ((k : Int)) < 16 := by omega
    have hi0 : (0 : Int) ≤ (k : Int) := by omega
    have hc0 := cell_of_row wr w.heap.size 0 _ _ _ hin.out.st
    have hc1 := cell_of_row wr w.heap.size 1 _ _ _ hin.out.st
    have hc2 := cell_of_row wr w.heap.size 2 _ _ _ hin.out.st
    simp at hc0 hc1 hc2
    have hct := cell_of_row wr (w.heap.size + 1) k _ _ _ hin.out.tk
    rw [midF_at s0 s1 s2 f k hlt] at hct
    have hfr := frozen_of_row wr (w.heap.size + 1) k _ _ hin.out.tk
    clear HF HEN hk
    cases hb0 : s0.testBit k <;> cases hb1 : s1.testBit k <;> cases hb2 : s2.testBit k
    all_goals rw [hb0, hb1, hb2] at HST
    all_goals rw [hb0] at hxe
    · have HY : Hid (stepF s0 s1 s2 f k = x) := by show _ = _; rw [HST.out]; simp
      have HU : Hid (capB s0 s1 s2 f (k + 1) = true) := all_range_succ (f := fun i => decide (stepF s0 s1 s2 f i ≤ 50)) hu.out (by rw [HY.out, decide_eq_true_eq]; omega)
      have HQ := hide hin.out
      rw [show midF s0 s1 s2 f k (x) = partF s0 s1 s2 f (k + 1) by rw [← HEND.out, HY.out]] at HQ
      clear hu hxe HST HEND HY hin
      obtain ⟨hx1, hx2⟩ := hx
      go_wp2_with (go_at_call 139; refine (hasI_any _ k _ (by assumption) hlt).mono ?_; rintro e w' ⟨rfl, rfl⟩)
      go_roundw
      case rel => exact ⟨k + 1, by omega, by go_num, HU, HQ⟩
      case measure => simp [intOf]; omega
    · have HY : Hid (stepF s0 s1 s2 f k = 0) := by show _ = _; rw [HST.out]; simp
      have HU : Hid (capB s0 s1 s2 f (k + 1) = true) := all_range_succ (f := fun i => decide (stepF s0 s1 s2 f i ≤ 50)) hu.out (by rw [HY.out, decide_eq_true_eq]; omega)
      have HQ := hide (hin.out.set (0))
      rw [show midF s0 s1 s2 f k (0) = partF s0 s1 s2 f (k + 1) by rw [← HEND.out, HY.out]] at HQ
      clear hu hxe HST HEND HY hin
      obtain ⟨hx1, hx2⟩ := hx
      go_wp2_with (go_at_call 139; refine (hasI_any _ k _ (by assumption) hlt).mono ?_; rintro e w' ⟨rfl, rfl⟩)
      go_roundw
      case rel => exact ⟨k + 1, by omega, by go_num, HU, HQ⟩
      case measure => simp [intOf]; omega
    · have HY : Hid (stepF s0 s1 s2 f k = x + 1) := by show _ = _; rw [HST.out]; simp
      have HQ := hide (hin.out.set (x + 1))
      by_cases h51 : 50 < x + 1
      · have HN := hide (capB_no hlt (show 50 < stepF s0 s1 s2 f k by rw [HY.out]; exact h51))
        have hg2 := HQ.out.rs
        clear hu hxe HST HEND HY hin
        obtain ⟨hx1, hx2⟩ := hx
        go_wp2_with (first
          | (go_at_call 139; refine (hasI_any _ k _ (by assumption) hlt).mono ?_; rintro e w' ⟨rfl, rfl⟩)
          | refine wpList_store_row rfl 74 (.tmp 4) _ rfl _ _ rfl rfl 74 _ hg2 Try.size74 rfl lit_one ?_)
        refine bodyPost_ret (v := .tuple #[.agg #[.int .u8 0, .int .u8 0, .int .u8 0, .int .u8 0, .int .u8 0, .int .u8 0, .int .u8 0, .int .u8 0, .int .u8 0, .int .u8 0, .int .u8 0, .int .u8 0, .int .u8 0, .int .u8 0, .int .u8 0, .int .u8 0], .bool false]) ?_ rfl (afEnd_no HN.out (below_setRow HQ.out.bel _ (by omega) _))
        exact after_res Try.results120 _ _ (w.heap.size + 1 + 1) _ (.bool false) rfl rfl rfl (setRow_same hg2 _)
      have HU : Hid (capB s0 s1 s2 f (k + 1) = true) := all_range_succ (f := fun i => decide (stepF s0 s1 s2 f i ≤ 50)) hu.out (by rw [HY.out, decide_eq_true_eq]; omega)
      rw [show midF s0 s1 s2 f k (x + 1) = partF s0 s1 s2 f (k + 1) by rw [← HEND.out, HY.out]] at HQ
      clear hu hxe HST HEND HY hin
      obtain ⟨hx1, hx2⟩ := hx
      go_wp2_with (go_at_call 139; refine (hasI_any _ k _ (by assumption) hlt).mono ?_; rintro e w' ⟨rfl, rfl⟩)
      go_roundw
      case rel => exact ⟨k + 1, by omega, by go_num, HU, HQ⟩
      case measure => simp [intOf]; omega
    · have HY : Hid (stepF s0 s1 s2 f k = 1) := by show _ = _; rw [HST.out]; simp
      have HU : Hid (capB s0 s1 s2 f (k + 1) = true) := all_range_succ (f := fun i => decide (stepF s0 s1 s2 f i ≤ 50)) hu.out (by rw [HY.out, decide_eq_true_eq]; omega)
      have HQ := hide ((hin.out.set (0)).set (1))
      rw [show midF s0 s1 s2 f k (1) = partF s0 s1 s2 f (k + 1) by rw [← HEND.out, HY.out]] at HQ
      clear hu hxe HST HEND HY hin
      obtain ⟨hx1, hx2⟩ := hx
      go_wp2_with (go_at_call 139; refine (hasI_any _ k _ (by assumption) hlt).mono ?_; rintro e w' ⟨rfl, rfl⟩)
      go_roundw
      case rel => exact ⟨k + 1, by omega, by go_num, HU, HQ⟩
      case measure => simp [intOf]; omega
    · have HY : Hid (stepF s0 s1 s2 f k = x - 1) := by show _ = _; rw [HST.out]; simp
      have hx3 : 0 < x := hxe rfl
      have HU : Hid (capB s0 s1 s2 f (k + 1) = true) := all_range_succ (f := fun i => decide (stepF s0 s1 s2 f i ≤ 50)) hu.out (by rw [HY.out, decide_eq_true_eq]; omega)
      have HQ := hide (hin.out.set (x - 1))
      rw [show midF s0 s1 s2 f k (x - 1) = partF s0 s1 s2 f (k + 1) by rw [← HEND.out, HY.out]] at HQ
      clear hu hxe HST HEND HY hin
      obtain ⟨hx1, hx2⟩ := hx
      go_wp2_with (go_at_call 139; refine (hasI_any _ k _ (by assumption) hlt).mono ?_; rintro e w' ⟨rfl, rfl⟩)
      go_roundw
      case rel => exact ⟨k + 1, by omega, by go_num, HU, HQ⟩
      case measure => simp [intOf]; omega
    · have HY : Hid (stepF s0 s1 s2 f k = 0) := by show _ = _; rw [HST.out]; simp
      have hx3 : 0 < x := hxe rfl
      have HU : Hid (capB s0 s1 s2 f (k + 1) = true) := all_range_succ (f := fun i => decide (stepF s0 s1 s2 f i ≤ 50)) hu.out (by rw [HY.out, decide_eq_true_eq]; omega)
      have HQ := hide ((hin.out.set (x - 1)).set (0))
      rw [show midF s0 s1 s2 f k (0) = partF s0 s1 s2 f (k + 1) by rw [← HEND.out, HY.out]] at HQ
      clear hu hxe HST HEND HY hin
      obtain ⟨hx1, hx2⟩ := hx
      go_wp2_with (go_at_call 139; refine (hasI_any _ k _ (by assumption) hlt).mono ?_; rintro e w' ⟨rfl, rfl⟩)
      go_roundw
      case rel => exact ⟨k + 1, by omega, by go_num, HU, HQ⟩
      case measure => simp [intOf]; omega
    · have HY : Hid (stepF s0 s1 s2 f k = x) := by show _ = _; rw [HST.out]; simp
      have hx3 : 0 < x := hxe rfl
      have HU : Hid (capB s0 s1 s2 f (k + 1) = true) := all_range_succ (f := fun i => decide (stepF s0 s1 s2 f i ≤ 50)) hu.out (by rw [HY.out, decide_eq_true_eq]; omega)
      have HQ := hide ((hin.out.set (x - 1)).set (x))
      rw [show midF s0 s1 s2 f k (x) = partF s0 s1 s2 f (k + 1) by rw [← HEND.out, HY.out]] at HQ
      clear hu hxe HST HEND HY hin
      obtain ⟨hx1, hx2⟩ := hx
      go_wp2_with (go_at_call 139; refine (hasI_any _ k _ (by assumption) hlt).mono ?_; rintro e w' ⟨rfl, rfl⟩)
      go_roundw
      case rel => exact ⟨k + 1, by omega, by go_num, HU, HQ⟩
      case measure => simp [intOf]; omega
    · have HY : Hid (stepF s0 s1 s2 f k = 1) := by show _ = _; rw [HST.out]; simp
      have hx3 : 0 < x := hxe rfl
      have HU : Hid (capB s0 s1 s2 f (k + 1) = true) := all_range_succ (f := fun i => decide (stepF s0 s1 s2 f i ≤ 50)) hu.out (by rw [HY.out, decide_eq_true_eq]; omega)
      have HQ := hide (((hin.out.set (x - 1)).set (0)).set (1))
      have hct3 := cell_of_row _ (w.heap.size + 1) k _ _ _ HQ.out.tk
      rw [midF_at s0 s1 s2 f k hlt] at hct3
      rw [show midF s0 s1 s2 f k (1) = partF s0 s1 s2 f (k + 1) by rw [← HEND.out, HY.out]] at HQ
      clear hu hxe HST HEND HY hin
      obtain ⟨hx1, hx2⟩ := hx
      go_wp2_with (go_at_call 139; refine (hasI_any _ k _ (by assumption) hlt).mono ?_; rintro e w' ⟨rfl, rfl⟩)
      go_roundw
      case rel => exact ⟨k + 1, by omega, by go_num, HU, HQ⟩
      case measure => simp [intOf]; omega
end Go.Proofs.Ytajcmamapmeglaa


/- What a step does by sets is what it does by lists. -/
namespace Go.Proofs.Ytajcmamapmeglaa
open Go.RowKit

theorem subF_iff {a b : Nat} : subB a b = true ↔ ∀ i, a.testBit i = true → b.testBit i = true := by
  unfold subB
  rw [decide_eq_true_eq]
  constructor
  · intro h i hi
    have : (a &&& b).testBit i = a.testBit i := by rw [h]
    rw [Nat.testBit_and, hi] at this
    simpa using this
  · intro h
    apply Nat.eq_of_testBit_eq
    intro i
    rw [Nat.testBit_and]
    cases h1 : a.testBit i
    · rfl
    · rw [h i h1]; rfl

theorem posL_bit (f : Nat → Int) (i : Nat) : (maskL (posL f 16)).testBit i = (decide (i < 16) && decide (0 < f i)) := by
  rw [maskL_bit _ _ (by intro x hx; unfold posL at hx; simp at hx; obtain ⟨j, _, rfl⟩ := hx; omega)]
  unfold posL
  by_cases h : i < 16 ∧ 0 < f i
  · have : ((i : Int) ∈ ((List.range 16).filter fun i => decide (0 < f i)).map fun (i : Nat) => (i : Int)) := by
      simp; exact ⟨i, h, rfl⟩
    simp [this, h.1, h.2]
  · have : ¬ ((i : Int) ∈ ((List.range 16).filter fun i => decide (0 < f i)).map fun (i : Nat) => (i : Int)) := by
      simp; intro a h1 h2 e; have : a = i := by omega
      subst this; exact h ⟨h1, h2⟩
    simp only [this, decide_false]
    cases h1 : decide (i < 16)
    · rfl
    · cases h2 : decide (0 < f i)
      · rfl
      · exact absurd ⟨by simpa using h1, by simpa using h2⟩ h

section
variable {p : Int} {nm : Nat} {x0 x1 x2 ys : List Int} (hp : 1 ≤ p ∧ p ≤ 16) (hnm : (nm : Int) = p) (hly : ys.length = nm) (hy : ∀ i, 0 ≤ ys.getD i 0 ∧ ys.getD i 0 ≤ 50)
  (h0 : riseB x0 0 (p - 1) = true) (h1 : riseB x1 0 (p - 1) = true) (h2 : riseB x2 0 (p - 1) = true)
include hp hnm hy h0 in
theorem can_sub : subB (maskL x0) (maskL (posL (fOf ys nm) 16)) = canB x0 ys := by
  have n0 := fun z hz => (riseB_mem h0 z hz)
  rw [Bool.eq_iff_iff, subF_iff]
  unfold canB
  rw [List.all_eq_true]
  constructor
  · intro h x hx
    obtain ⟨hx0, hx1⟩ := n0 x hx
    have hb := h x.toNat (by rw [maskL_bit _ _ (fun z hz => (n0 z hz).1), Int.toNat_of_nonneg hx0]; simpa using hx)
    rw [posL_bit] at hb
    simp only [Bool.and_eq_true, decide_eq_true_eq] at hb
    have hf : fOf ys nm x.toNat = ys.getD x.toNat 0 := by unfold fOf; rw [if_pos (by omega)]
    rw [hf] at hb
    simp only [Bool.not_eq_true', decide_eq_false_iff_not]
    omega
  · intro h i hi
    rw [maskL_bit _ _ (fun z hz => (n0 z hz).1)] at hi
    have hm : (i : Int) ∈ x0 := by simpa using hi
    obtain ⟨hx0, hx1⟩ := n0 _ hm
    have hc := h _ hm
    rw [Int.toNat_natCast] at hc
    simp only [Bool.not_eq_true', decide_eq_false_iff_not] at hc
    rw [posL_bit]
    have hf : fOf ys nm i = ys.getD i 0 := by unfold fOf; rw [if_pos (by omega)]
    rw [hf]
    have := hy i
    simp only [Bool.and_eq_true, decide_eq_true_eq]
    omega

include hnm hly h0 h1 h2 in
theorem step_fire (i : Nat) : stepF (maskL x0) (maskL x1) (maskL x2) (fOf ys nm) i = if i < nm then (fireL x0 x1 x2 ys).getD i 0 else 0 := by
  have n0 := fun z hz => (riseB_mem h0 z hz)
  have n1 := fun z hz => (riseB_mem h1 z hz)
  have n2 := fun z hz => (riseB_mem h2 z hz)
  unfold stepF
  rw [maskL_bit _ _ (fun z hz => (n0 z hz).1), maskL_bit _ _ (fun z hz => (n1 z hz).1), maskL_bit _ _ (fun z hz => (n2 z hz).1)]
  simp only [decide_eq_true_eq]
  by_cases hi : i < nm
  · rw [if_pos hi]
    unfold fireL
    rw [updL_at _ _ (p - 1) h1 (by rw [updL_len, updL_len]; omega), updL_at _ _ (p - 1) h2 (by rw [updL_len]; omega), updL_at _ _ (p - 1) h0 (by omega)]
    have hf : fOf ys nm i = ys.getD i 0 := by unfold fOf; rw [if_pos hi]
    rw [hf]
    (repeat' split) <;> omega
  · rw [if_neg hi]
    have m0 : ¬ (i : Int) ∈ x0 := fun h => by have := n0 _ h; omega
    have m1 : ¬ (i : Int) ∈ x1 := fun h => by have := n1 _ h; omega
    have m2 : ¬ (i : Int) ∈ x2 := fun h => by have := n2 _ h; omega
    rw [if_neg m2, if_neg m0, if_neg m1]
    unfold fOf; rw [if_neg hi]; rfl

include hp hnm hly hy h0 h1 h2 in
theorem good_cap (hc : canB x0 ys = true) : goodB p (fireL x0 x1 x2 ys) = capB (maskL x0) (maskL x1) (maskL x2) (fOf ys nm) 16 := by
  have hlen : (fireL x0 x1 x2 ys).length = nm := by unfold fireL; rw [updL_len, updL_len, updL_len]; exact hly
  have key := step_fire hnm hly h0 h1 h2
  have n0 := fun z hz => (riseB_mem h0 z hz)
  have hpos : ∀ i, 0 ≤ stepF (maskL x0) (maskL x1) (maskL x2) (fOf ys nm) i := by
    intro i
    unfold stepF
    rw [maskL_bit _ _ (fun z hz => (n0 z hz).1)]
    simp only [decide_eq_true_eq]
    have hfi : 0 ≤ fOf ys nm i := by unfold fOf; split
                                     · exact (hy i).1
                                     · exact Int.le_refl _
    have : (i : Int) ∈ x0 → 1 ≤ fOf ys nm i := by
      intro hm
      unfold canB at hc
      rw [List.all_eq_true] at hc
      have h := hc _ hm
      rw [Int.toNat_natCast] at h
      simp only [Bool.not_eq_true', decide_eq_false_iff_not] at h
      obtain ⟨_, hx1⟩ := n0 _ hm
      unfold fOf; rw [if_pos (by omega)]
      have := hy i; omega
    (repeat' split) <;> first | omega | (rename_i hm _; have := this hm; omega) | (rename_i hm; have := this hm; omega) | (rename_i _ hm _; have := this hm; omega)
  rw [Bool.eq_iff_iff]
  unfold capB
  rw [List.all_eq_true]
  constructor
  · intro hg i _
    have := (goodB_parts hg).2.2 i
    rw [decide_eq_true_eq, key i]
    split <;> omega
  · intro h
    unfold goodB
    have hin : inB p 1 16 = true := by unfold inB; simp; exact hp
    rw [hin, hlen]
    simp only [hnm, decide_true, Bool.true_and]
    unfold allB
    rw [List.all_eq_true]
    intro x hx
    obtain ⟨i, hi, rfl⟩ := List.mem_iff_getElem.mp hx
    rw [hlen] at hi
    have h1 := h i (by simp; omega)
    have h2 := hpos i
    rw [decide_eq_true_eq] at h1
    rw [key i, if_pos hi, List.getD_eq_getElem?_getD, List.getElem?_eq_getElem (by omega)] at h1 h2
    simp at h1 h2
    unfold inB; simp; exact ⟨h2, h1⟩

include hp hnm hly h0 h1 h2 in
theorem list_fire : listF (partF (maskL x0) (maskL x1) (maskL x2) (fOf ys nm) 16) nm = fireL x0 x1 x2 ys := by
  have hlen : (fireL x0 x1 x2 ys).length = nm := by unfold fireL; rw [updL_len, updL_len, updL_len]; exact hly
  apply List.ext_getElem?
  intro i
  by_cases hi : i < nm
  · have := listF_at (partF (maskL x0) (maskL x1) (maskL x2) (fOf ys nm) 16) nm i hi
    rw [List.getD_eq_getElem?_getD, List.getElem?_eq_getElem (by rw [listF_len]; exact hi)] at this
    rw [List.getElem?_eq_getElem (by rw [listF_len]; exact hi), List.getElem?_eq_getElem (by omega)]
    simp only [Option.getD_some] at this
    rw [this]
    unfold partF
    rw [if_pos (by omega), step_fire hnm hly h0 h1 h2 i, if_pos hi, List.getD_eq_getElem?_getD, List.getElem?_eq_getElem (by omega)]
    rfl
  · rw [List.getElem?_eq_none (by rw [listF_len]; omega), List.getElem?_eq_none (by omega)]
end
end Go.Proofs.Ytajcmamapmeglaa
