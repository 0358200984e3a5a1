/- Contracts that the proof stands on, one behind the other. -/
import Derived.Test.YtedbihlpggficaaP12
/- IsHome of the program. -/
namespace Go.Proofs.Ytedbihlpggficaa
open Go.RowKit
set_option maxRecDepth 10000

theorem homeC_any (l g : Nat) (m xs : List Int) (w : World) (hl : l ≤ 16) (hm : m.length = l) (hx : xs.length = l) (hg : w.heap[g]? = some (.cells (packOf xs l) 84 (0, 0))) :
    Calls Try.prog 68 #[.agg (packOf m l), .pointer (some ⟨g, 0, none⟩)] w fun e w' => e = .returned (.bool (decide (m = xs))) ∧ Below w.heap.size w w' := by
  have hAl := below_al w (.cells (packOf m l) 84)
  have hg0 := heap_alloc_new w (.cells (packOf m l) 84)
  have hg1 := keep hg hAl
  have HB := hide hAl
  have hq : ∀ w, (Op.equalIn 10000 84 (.agg (packOf m l)) (.agg (packOf xs l))).run Try.prog w = .ok (decide (m = xs)) w := fun w => by
    have h := run_equalIn_tok 9999 9998 rfl (fOf m l) (fOf xs l) w
    have e : eqF (fOf m l) (fOf xs l) (List.range 16) = decide (m = xs) := by
      rw [Bool.eq_iff_iff, decide_eq_true_eq]; exact pack_eq hl hm hx
    rw [← e]; exact h
  clear hg hAl
  generalize decide (m = xs) = b at *
  go_enter Try.func68, Try.ntmps68
  go_wp2_with (first
    | ((show wpList _ _ _ (⟨some 4, .load 84 (.tmp 2), _, _, _, _⟩ :: _) _ _); refine wpList_load_row rfl 84 (.tmp 2) rfl _ rfl 84 (packOf m l) (0, 0) _ hg0 Try.underlying84 rfl (by rw [packOf_size]; exact Try.size84) ?_)
    | ((show wpList _ _ _ (⟨some 5, .load 84 (.tmp 1), _, _, _, _⟩ :: _) _ _); refine wpList_load_row rfl 84 (.tmp 1) rfl _ rfl 84 (packOf xs l) (0, 0) _ hg1 Try.underlying84 rfl (by rw [packOf_size]; exact Try.size84) ?_))
  go_ret
  exact ⟨rfl, HB.out⟩

set_option maxHeartbeats 2000000 in
theorem homeI_any (p : Int) (a am ax : Option Addr) (n c nm cm nx cx : Nat) (L : List (List Int)) (ys xs : List Int) (bg : Int) (w : World) (h : Lists w a (3 * n) L) (rm : Row w am nm ys) (rx : Row w ax nx xs) (hs : sizeN n L ≤ 1048576) (hnm : nm ≤ 1048576) (hnx : nx ≤ 1048576) :
    Calls Try.prog 34 #[.agg #[.int .i64 p, .slice a n c], .slice am nm cm, .int .i64 bg, .slice ax nx cx] w fun e w' => IhEnd p n L ys bg xs w e w' := by
  have hAl := below_al w (.cells #[.int .i64 p, .slice a n c] 35)
  have HX := hide (spaceTok_any p a am ax n c nm cm nx cx L ys xs bg _ (h.below hAl) (rm.below hAl) (rx.below hAl) hs hnm hnx)
  have HLX := hide rx.1
  have HB0 := hide hAl
  clear h rm rx hAl
  go_enter Try.func34, Try.ntmps34
  go_wp2_with fail
  generalize w.alloc (.cells #[.int .i64 p, .slice a n c] 35) = v0 at *
  refine HX.out.mono ?_
  rintro e w1 ⟨hb1, hxx⟩
  have HB1 := hide (HB0.out.trans (hb1.mono HB0.out.size))
  clear hb1 HB0 HX
  have hA3 := (below_al w1 (.cells spZ 73)).trans ((below_al (w1.alloc (.cells spZ 73)) (.cells #[.int .u8 0, .int .u8 0, .int .u8 0, .int .u8 0, .int .u8 0, .int .u8 0, .int .u8 0, .int .u8 0, .int .u8 0, .int .u8 0, .int .u8 0, .int .u8 0, .int .u8 0, .int .u8 0, .int .u8 0, .int .u8 0] 84)).mono (by simp))
  have hg0 := keep (heap_alloc_new w1 (.cells spZ 73)) (below_al (w1.alloc (.cells spZ 73)) (.cells #[.int .u8 0, .int .u8 0, .int .u8 0, .int .u8 0, .int .u8 0, .int .u8 0, .int .u8 0, .int .u8 0, .int .u8 0, .int .u8 0, .int .u8 0, .int .u8 0, .int .u8 0, .int .u8 0, .int .u8 0, .int .u8 0] 84))
  have hg1 := heap_alloc2_new w1 (.cells spZ 73) (.cells #[.int .u8 0, .int .u8 0, .int .u8 0, .int .u8 0, .int .u8 0, .int .u8 0, .int .u8 0, .int .u8 0, .int .u8 0, .int .u8 0, .int .u8 0, .int .u8 0, .int .u8 0, .int .u8 0, .int .u8 0, .int .u8 0] 84)
  rcases hxx with ⟨hso, s, B, BS, mb, G, aa, ac, hok, hst, rfl⟩ | ⟨hso, k, rfl⟩
  rotate_left
  · have hg1s := (setRow_otherW _ (show w1.heap.size + 1 ≠ w1.heap.size by omega) spZ).trans hg1
    have HN := hide (ihEnd_no (w := w) hso (below_setRow (below_setRow (HB1.out.trans (hA3.mono HB1.out.size)) w1.heap.size HB1.out.size spZ) (w1.heap.size + 1) (by have := HB1.out.size; omega) (packOf xs k)))
    clear hso hA3
    go_wp2_with (first
      | ((show wpList _ _ _ (⟨none, .store 73 (.tmp 10) (.tmp 19), _, _, _, _⟩ :: _) _ _); refine wpList_store_row rfl 73 _ _ rfl _ _ rfl rfl 73 _ hg0 Try.size73 rfl spZ_one ?_)
      | ((show wpList _ _ _ (⟨none, .store 84 (.tmp 11) (.tmp 20), _, _, _, _⟩ :: _) _ _); refine wpList_store_row rfl 84 _ _ rfl _ _ rfl rfl 84 _ hg1s (by rw [packOf_size]; exact Try.size84) (by rw [packOf_size]; rfl) (packOf_one _ _) ?_))
    go_ret2
    exact HN.out
  obtain ⟨hcode, hgx⟩ := saOk_parts hso
  have hlx : xs.length = nx := HLX.out
  have hlp := (goodB_parts hgx).2.1
  have hnn : nx = nm := by have := hok.hl; omega
  have hg1s := (setRow_otherW _ (show w1.heap.size + 1 ≠ w1.heap.size by omega) (spV p n BS mb G s.ms.length (.slice aa s.ar.length ac))).trans hg1
  have hV := below_setRow (below_setRow hA3 w1.heap.size (Nat.le_refl _) (spV p n BS mb G s.ms.length (.slice aa s.ar.length ac))) (w1.heap.size + 1) (Nat.le_succ _) (packOf xs nx)
  have HB3 := hide (HB1.out.trans (hV.mono HB1.out.size))
  have HST := hide (hst.grow hV)
  have hz1 := setRow_same hg0 (spV p n BS mb G s.ms.length (.slice aa s.ar.length ac))
  have hz3 := (setRow_otherW _ (show w1.heap.size ≠ w1.heap.size + 1 by omega) (packOf xs nx)).trans hz1
  have HG11 := hide (setRow_same hg1s (packOf xs nx))
  have HOK := hide hok
  have hmf : ∀ (fn : Fn) (first cap : Array Value) (w : World), (Instr.makeFunc fn first cap).run Try.prog w = .ok (.func fn first cap) w := fun _ _ _ _ => rfl
  subst hnn
  have HN := hide (fun W b hx (hW : Below w.heap.size w W) => ihEnd_yes (w := w) (w' := W) (b := b) hso HOK.out hx hW)
  have hl16 := hok.l16
  clear hA3 hV hst HB1 hcode hgx hlp hok hz1 hso
  go_upto_region 4 with (first
    | ((show wpList _ _ _ (⟨none, .store 73 (.tmp 10) (.tmp 19), _, _, _, _⟩ :: _) _ _); refine wpList_store_row rfl 73 _ _ rfl _ _ rfl rfl 73 _ hg0 Try.size73 rfl (spV_one _ _ _ _ _ _ _ _ _) ?_)
    | ((show wpList _ _ _ (⟨none, .store 84 (.tmp 11) (.tmp 20), _, _, _, _⟩ :: _) _ _); refine wpList_store_row rfl 84 _ _ rfl _ _ rfl rfl 84 _ hg1s (by rw [packOf_size]; exact Try.size84) (by rw [packOf_size]; rfl) (packOf_one _ _) ?_))
  clear hg0 hg1s hg1
  generalize (((w1.alloc (.cells spZ 73)).alloc (.cells #[.int .u8 0, .int .u8 0, .int .u8 0, .int .u8 0, .int .u8 0, .int .u8 0, .int .u8 0, .int .u8 0, .int .u8 0, .int .u8 0, .int .u8 0, .int .u8 0, .int .u8 0, .int .u8 0, .int .u8 0, .int .u8 0] 84)).setRow w1.heap.size (spV p n BS mb G s.ms.length (.slice aa s.ar.length ac))).setRow (w1.heap.size + 1) (packOf xs nx) = v3 at *
  have HAT := hide (alwaysHome_any p n BS mb G s.ms.length B nx ⟨w1.heap.size + 1, 0, none⟩ aa ac s.ms (fun k => decide (s.ms.getD k [] = xs)) s.ar v3 HST.out.arcs HST.out.toks rfl HOK.out.m4 HOK.out.len (arcs_lt HOK.out)
    (fun W hW k hk => homeC_any nx (w1.heap.size + 1) _ xs W hl16 (HOK.out.goodAt hk).1 hlx (keep HG11.out hW)))
  generalize w1.heap.size = bm at *
  clear HOK
  go_wp2_with ((show wpList _ _ _ (⟨some 24, .load 73 (.tmp 10), _, _, _, _⟩ :: _) _ _); refine wpList_load_row rfl 73 (.tmp 10) rfl _ rfl 73 (spV p n BS mb G s.ms.length (.slice aa s.ar.length ac)) (0, 0) _ hz3 Try.underlying73 rfl Try.size73 ?_)
  refine HAT.out.mono ?_
  rintro e w4 ⟨b, rfl, hb, hbw⟩
  have HE := hide (HN.out w4 b (hb.trans ⟨fun h i hi => (CanTo.congr (fun i => by simp)).1 (h i hi), fun h i hi => (CanTo.congr (fun i => by simp)).1 (h i hi)⟩) (HB3.out.trans (hbw.mono HB3.out.size)))
  clear HN HAT hb hbw
  go_wp2_with fail
  go_ret2
  exact HE.out
end Go.Proofs.Ytedbihlpggficaa
