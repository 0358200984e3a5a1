/- Contracts that the proof stands on, one behind the other. -/
import Derived.Test.YtmicboobfnbclaaP12
/- FirstDead of the program. -/
namespace Go.Proofs.Ytmicboobfnbclaa
open Go.RowKit
set_option maxRecDepth 10000

set_option maxHeartbeats 400000 in
theorem indexZ_any (w : World) : Calls Try.prog 54 #[.slice none 0 0, .func (.func 55) #[.agg spZ] #[]] w fun e w' => e = .returned (.int .i64 (-1)) ∧ Below w.heap.size w w' := by
  go_enter Try.func54, Try.ntmps54
  go_wp2_with fail
  go_loopw [8] (fun i wr => i = .int .i64 0 ∧ wr = w) (fun _ _ => 0)
  case atStart => exact ⟨rfl, rfl⟩
  case round =>
    obtain ⟨rfl, rfl⟩ := hrel
    go_wp2_with fail
    go_ret
    exact ⟨rfl, Below.refl _ _⟩

theorem cell_kept {w w' : World} {a : Addr} {v : Value} (h : w.cell? a = some v) (hb : Below w.heap.size w w') : w'.cell? a = some v := by
  have hl : a.block < w.heap.size := by
    by_cases hl : a.block < w.heap.size
    · exact hl
    · simp [World.cell?, Array.getElem?_eq_none (show w.heap.size ≤ a.block by omega)] at h
  exact (hb.cell hl).trans h

set_option maxHeartbeats 1000000 in
theorem firstI_any (p : Int) (a am : Option Addr) (n c nm cm : Nat) (L : List (List Int)) (ys : List Int) (bg : Int) (w : World) (h : Lists w a (3 * n) L) (rm : Row w am nm ys) (hs : sizeN n L ≤ 1048576) (hnm : nm ≤ 1048576) :
    Calls Try.prog 27 #[.agg #[.int .i64 p, .slice a n c], .slice am nm cm, .int .i64 bg] w fun e w' => OEnd (fdOk p n L ys bg) (fdR p n L ys bg) w e w' := by
  have hAl := below_al w (.cells #[.int .i64 p, .slice a n c] 35)
  have HX := hide (spaceOf_any p a am n c nm cm L ys bg _ (h.below hAl) (rm.below hAl) hs hnm)
  have HB0 := hide hAl
  clear h rm hAl
  go_enter Try.func27, Try.ntmps27
  go_wp2_with fail
  generalize w.alloc (.cells #[.int .i64 p, .slice a n c] 35) = v0 at *
  refine HX.out.mono ?_
  rintro e w1 ⟨hb1, hxx⟩
  have HB1 := hide (HB0.out.trans (hb1.mono HB0.out.size))
  clear hb1 HB0 HX
  have hg0 := heap_alloc_new w1 (.cells spZ 65)
  have hA3 := below_al w1 (.cells spZ 65)
  rcases hxx with ⟨hcode, s, BS, mb, G, av, hok, hst, ⟨aa, ac, rfl⟩, rfl⟩ | ⟨hcode, rfl⟩
  rotate_left
  · have hz5 := setRow_same hg0 spZ
    obtain ⟨⟨hc0, hc1, hc2, hc3, hc4⟩, _⟩ := cells5 hz5
    have hBB := below_setRow (HB1.out.trans (hA3.mono HB1.out.size)) w1.heap.size HB1.out.size spZ
    have HN := hide (fun W (hW : Below ((w1.alloc (.cells spZ 65)).setRow w1.heap.size spZ).heap.size ((w1.alloc (.cells spZ 65)).setRow w1.heap.size spZ) W) => fdend_noI (w := w) (w' := W) (fdOk_code hcode) (hBB.trans (hW.mono hBB.size)))
    obtain ⟨cd, hcd⟩ : ∃ cd, Hid (spCode p n L ys bg = cd) := ⟨_, rfl⟩
    rw [hcd.out]
    clear hcode hcd hA3 hBB
    go_upto_region 2 with ((show wpList _ _ _ (⟨none, .store 65 (.tmp 8) (.tmp 16), _, _, _, _⟩ :: _) _ _); refine wpList_store_row rfl 65 _ _ rfl _ _ rfl rfl 65 _ hg0 Try.size65 rfl spZ_one ?_)
    generalize (w1.alloc (.cells spZ 65)).setRow w1.heap.size spZ = v3 at *
    clear hg0
    have HIX := hide (indexZ_any v3)
    go_wp2_with ((show wpList _ _ _ (⟨some 20, .load 65 (.tmp 8), _, _, _, _⟩ :: _) _ _); refine wpList_load_row rfl 65 (.tmp 8) rfl _ rfl 65 spZ (0, 0) _ hz5 Try.underlying65 rfl Try.size65 ?_)
    refine HIX.out.mono ?_
    rintro e w4 ⟨rfl, hb⟩
    have HE := hide (HN.out _ hb)
    clear hb
    go_wp2_with fail
    go_ret2
    exact HE.out
  have hV := below_setRow hA3 w1.heap.size (Nat.le_refl _) (spV p n BS mb G s.ms.length (.slice aa s.ar.length ac))
  have HB3 := hide (HB1.out.trans (hV.mono HB1.out.size))
  have HS3 := hide (hst.grow hV)
  have hz5 := setRow_same hg0 (spV p n BS mb G s.ms.length (.slice aa s.ar.length ac))
  have HV3 := hide hz5
  have hl16 := hok.l16
  have hm4 := hok.m4
  have hlp := hok.hl
  have HNO := hide (fun W hx (hW : Below w.heap.size w W) => fdend_noI (w' := W) (w := w) (fdOk_none hok hx) hW)
  have HYE := hide (fun W k g hx ho hg (hW : Below w.heap.size w W) => fdend_yesI (w' := W) (w := w) (k := k) (g := g) hcode hok hx ho hg hW)
  have HGO := hide (fun k (hk : k < s.ms.length) => hok.goodAt hk)
  have HIX := hide (indexT_any hok BS mb G (.slice aa s.ar.length ac) _ HS3.out.steps HS3.out.toks)
  clear hA3 hV hst HB1 hcode hok
  obtain ⟨⟨hc0, hc1, hc2, hc3, hc4⟩, _⟩ := cells5 HV3.out
  go_upto_region 2 with ((show wpList _ _ _ (⟨none, .store 65 (.tmp 8) (.tmp 16), _, _, _, _⟩ :: _) _ _); refine wpList_store_row rfl 65 _ _ rfl _ _ rfl rfl 65 _ hg0 Try.size65 rfl (spV_one _ _ _ _ _ _ _ _ _) ?_)
  clear hg0
  generalize (w1.alloc (.cells spZ 65)).setRow w1.heap.size (spV p n BS mb G s.ms.length (.slice aa s.ar.length ac)) = v3 at *
  go_wp2_with ((show wpList _ _ _ (⟨some 20, .load 65 (.tmp 8), _, _, _, _⟩ :: _) _ _); refine wpList_load_row rfl 65 (.tmp 8) rfl _ rfl 65 (spV p n BS mb G s.ms.length (.slice aa s.ar.length ac)) (0, 0) _ hz5 Try.underlying65 rfl Try.size65 ?_)
  clear hz5 hc0 hc1 hc2 hc3 hc4
  refine HIX.out.mono ?_
  rintro e w4 ⟨z, rfl, hz, hb⟩
  have HB4 := hide (HB3.out.trans (hb.mono HB3.out.size))
  have HV4 := hide (keep HV3.out hb)
  have HT4 := hide (HS3.out.toks.grow hb)
  clear HIX HV3 HS3 hb
  rcases hz.out with ⟨k, rfl, hfd⟩ | ⟨rfl, hno⟩
  rotate_left
  · have HE := hide (HNO.out _ hno HB4.out)
    clear hno
    go_wp2_with fail
    go_ret2
    exact HE.out
  have HF := hide hfd
  have hkN := hfd.1
  have HG := hide (HGO.out k hkN)
  clear hz hfd HGO HNO
  have hk0 : ¬ (k : Int) < 0 := by omega
  obtain ⟨N, hN⟩ : ∃ N, s.ms.length = N := ⟨_, rfl⟩
  rw [hN] at hkN HV4
  have hrg := HT4.out.cells k (by rw [hN]; exact hkN)
  obtain ⟨m, hm⟩ : ∃ m, Hid (s.ms.getD k [] = m) := ⟨_, rfl⟩
  rw [hm.out] at hrg HG
  have hBd := (Below.refl w4.heap.size w4).drew
  go_upto_region 5 with fail
  have HB5 := hide HB4.out.drew
  have HV5 := hide (keep HV4.out hBd)
  obtain ⟨⟨hc0, hc1, hc2, hc3, hc4⟩, _⟩ := cells5 HV5.out
  have hrg5 : w4.drew.rangeAt G (k * 16) (encQ nm m) := hrg
  refine wp_region_held_drew (S := fun W => W.cell? ⟨w1.heap.size, 0, none⟩ = some (.int .i64 p) ∧ W.cell? ⟨w1.heap.size, 3, none⟩ = some (.slice (some ⟨G, 0, none⟩) N N) ∧ W.rangeAt G (k * 16) (encQ nm m)) (by kernel_rfl) ⟨hc0, hc3, hrg5⟩ (fun hHeld => ?_)
  have HS5 := hide (show w4.drew.cell? ⟨w1.heap.size, 0, none⟩ = some (.int .i64 p) ∧ w4.drew.cell? ⟨w1.heap.size, 3, none⟩ = some (.slice (some ⟨G, 0, none⟩) N N) ∧ w4.drew.rangeAt G (k * 16) (encQ nm m) from ⟨hc0, hc3, hrg5⟩)
  have HT5 := hide (HT4.out.grow hBd)
  have hbz := row_lt HV5.out
  clear hc0 hc1 hc2 hc3 hc4 hrg hrg5 HB4 HV4 HT4 hBd
  generalize w4.drew = w5 at *
  have hkNi : (k : Int) < (N : Int) := by omega
  have hki0 : (0 : Int) ≤ (k : Int) := by omega
  have hk4 : (k : Int) ≤ 400 := by omega
  refine take_yes (i := 0) (some 25) (.pointer (some ⟨w1.heap.size, 3, none⟩)) rfl rfl (by kernel_rfl) (by kernel_rfl) (by kernel_rfl) (fun _ _ _ h => h) (by rfl) ?_ (by assumption) ?_
  · intro W' hSw
    obtain ⟨hz0, hz1, hz2⟩ := hSw
    go_simp
  simp only [Act.put, List.setIfInBounds_toArray, List.set_cons_zero, List.set_cons_succ]
  refine take_yes (i := 1) (some 26) (.slice (some ⟨G, 0, none⟩) N N) rfl rfl (by kernel_rfl) (by kernel_rfl) (by kernel_rfl) (fun _ _ _ h => h) (by rfl) ?_ (by assumption) ?_
  · intro W' hSw
    obtain ⟨hz0, hz1, hz2⟩ := hSw
    go_simp
  simp only [Act.put, List.setIfInBounds_toArray, List.set_cons_zero, List.set_cons_succ]
  refine take_yes (i := 2) (some 27) (.int .i64 (k : Int)) rfl rfl (by kernel_rfl) (by kernel_rfl) (by kernel_rfl) (fun _ _ _ h => h) (by rfl) ?_ (by assumption) ?_
  · intro W' hSw
    obtain ⟨hz0, hz1, hz2⟩ := hSw
    go_simp
  simp only [Act.put, List.setIfInBounds_toArray, List.set_cons_zero, List.set_cons_succ]
  refine take_yes (i := 3) (some 28) (.pointer (some ⟨G, k * 16, none⟩)) rfl rfl (by kernel_rfl) (by kernel_rfl) (by kernel_rfl) (fun _ _ _ h => h) (by rfl) ?_ (by assumption) ?_
  · intro W' hSw
    obtain ⟨hz0, hz1, hz2⟩ := hSw
    go_simp
  simp only [Act.put, List.setIfInBounds_toArray, List.set_cons_zero, List.set_cons_succ]
  refine take_yes (i := 4) (some 29) (.agg (packOf m nm)) rfl rfl (by kernel_rfl) (by kernel_rfl) (by kernel_rfl) (fun _ _ _ h => h) (by rfl) ?_ (by assumption) ?_
  · intro W' hSw
    obtain ⟨hz0, hz1, hz2⟩ := hSw
    exact exec_load_tokQ _ rfl G (k * 16) nm rfl m hz2
  simp only [Act.put, List.setIfInBounds_toArray, List.set_cons_zero, List.set_cons_succ]
  refine take_yes (i := 5) (some 30) (.pointer (some ⟨w1.heap.size, 0, none⟩)) rfl rfl (by kernel_rfl) (by kernel_rfl) (by kernel_rfl) (fun _ _ _ h => h) (by rfl) ?_ (by assumption) ?_
  · intro W' hSw
    obtain ⟨hz0, hz1, hz2⟩ := hSw
    go_simp
  simp only [Act.put, List.setIfInBounds_toArray, List.set_cons_zero, List.set_cons_succ]
  refine take_yes (i := 6) (some 31) (.pointer (some ⟨w1.heap.size, 0, none⟩)) rfl rfl (by kernel_rfl) (by kernel_rfl) (by kernel_rfl) (fun _ _ _ h => h) (by rfl) ?_ (by assumption) ?_
  · intro W' hSw
    obtain ⟨hz0, hz1, hz2⟩ := hSw
    go_simp
  simp only [Act.put, List.setIfInBounds_toArray, List.set_cons_zero, List.set_cons_succ]
  refine take_yes (i := 7) (some 32) (.int .i64 p) rfl rfl (by kernel_rfl) (by kernel_rfl) (by kernel_rfl) (fun _ _ _ h => h) (by rfl) ?_ (by assumption) ?_
  · intro W' hSw
    obtain ⟨hz0, hz1, hz2⟩ := hSw
    go_simp
  simp only [Act.put, List.setIfInBounds_toArray, List.set_cons_zero, List.set_cons_succ]
  subst hlp
  refine call_next (i := 8) (some 33) rfl rfl (by kernel_rfl) (by rfl) 56 _ _ _ rfl Try.func56 (by decide) rfl #[.agg (packOf m nm), .int .i64 (nm : Int)] (mapw2 _ _ _ _ _ rfl rfl) _ (list_any (fOf m nm) nm w5 hl16 (fun i => by have := HG.out.2 i; unfold fOf; split <;> omega)) ?_
  rintro e w6 ⟨rfl, rfl⟩
  have hA := (below_al w5 (.cells (tokF (fOf m nm)) 80)).trans ((below_al (w5.alloc (.cells (tokF (fOf m nm)) 80)) (.cells (cellsOf (listF (fOf m nm) nm)) 3)).mono (by simp))
  have HB6 := hide (HB5.out.trans (hA.mono HB5.out.size))
  have hnew := heap_alloc2_new w5 (.cells (tokF (fOf m nm)) 80) (.cells (cellsOf (listF (fOf m nm) nm)) 3)
  rw [listF_fOf HG.out.1] at hnew
  have HE := hide (HYE.out _ k _ HF.out (by rw [hm.out]; rw [listF_fOf HG.out.1]; exact hnew) (by have := HB5.out.size; omega) HB6.out)
  refine ⟨_, rfl, ⟨(cell_kept HS5.out.1 hA), (cell_kept HS5.out.2.1 hA), ?_⟩, fun _ => ?_⟩
  · have := (HT5.out.grow hA).cells k (by rw [hN]; exact hkN)
    rw [hm.out] at this; exact this
  simp only [Act.put, List.setIfInBounds_toArray, List.set_cons_zero, List.set_cons_succ]
  clear hA hnew HS5 HT5 hHeld
  generalize (w5.alloc (.cells (tokF (fOf m nm)) 80)).alloc (.cells (cellsOf (listF (fOf m nm) nm)) 3) = w6 at *
  refine take_yes (i := 9) (some 6) (.slice (some ⟨w5.heap.size + 1, 0, none⟩) nm nm) rfl rfl (by kernel_rfl) (by kernel_rfl) (by kernel_rfl) (fun _ _ _ h => h) (by rfl) ?_ (by assumption) ?_
  · intro W' hSw
    obtain ⟨hz0, hz1, hz2⟩ := hSw
    go_simp
  simp only [Act.put, List.setIfInBounds_toArray, List.set_cons_zero, List.set_cons_succ]
  refine take_yes (i := 10) (some 7) (.bool true) rfl rfl (by kernel_rfl) (by kernel_rfl) (by kernel_rfl) (fun _ _ _ h => h) (by rfl) ?_ (by assumption) ?_
  · intro W' hSw
    obtain ⟨hz0, hz1, hz2⟩ := hSw
    go_simp
  simp only [Act.put, List.setIfInBounds_toArray, List.set_cons_zero, List.set_cons_succ]
  refine wpAnyH_done (by kernel_rfl) ?_ _
  go_wp2_with fail
  go_ret2
  exact HE.out
end Go.Proofs.Ytmicboobfnbclaa
