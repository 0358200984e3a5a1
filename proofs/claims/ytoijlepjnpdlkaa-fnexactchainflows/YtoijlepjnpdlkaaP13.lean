/- Contracts that the proof stands on, one behind the other. -/
import Derived.Test.YtoijlepjnpdlkaaP12
/- ChainFlows of the specification: the walk. -/
namespace Go.Proofs.Ytoijlepjnpdlkaa
open Go.RowKit
set_option maxRecDepth 10000

set_option maxHeartbeats 8000000 in
theorem chainS_any (p1 s1 t1 p2 s2 t2 : Int) (aa ab : Option Addr) (c1 ca c2 cb : Nat) (La Lb : List (List Int)) (w : World) (ha : Lists w aa (3 * c1) La) (hb : Lists w ab (3 * c2) Lb) (hsa : sizeN c1 La ≤ 1048576) (hsb : sizeN c2 Lb ≤ 1048576) :
    Calls Try.prog 5 #[.agg #[.int .i64 p1, .slice aa c1 ca, .int .i64 s1, .int .i64 t1], .agg #[.int .i64 p2, .slice ab c2 cb, .int .i64 s2, .int .i64 t2]] w fun e w' => ChSp (chOk p1 s1 t1 p2 s2 t2 c1 c2 La Lb) (p1 + p2 - 1) s1 (mvP p1 t1 s2 t2) (c1 + c2) (chainL p1 t1 s2 La Lb) w e w' := by
  have HB0 := hide (below3 w (.cells #[.int .i64 p1, .slice aa c1 ca, .int .i64 s1, .int .i64 t1] 32) (.cells #[.int .i64 p2, .slice ab c2 cb, .int .i64 s2, .int .i64 t2] 32) (.cells #[.int .i64 0, .slice none 0 0, .int .i64 0, .int .i64 0] 32))
  have HPA : Hid ((((w.alloc (.cells #[.int .i64 p1, .slice aa c1 ca, .int .i64 s1, .int .i64 t1] 32)).alloc (.cells #[.int .i64 p2, .slice ab c2 cb, .int .i64 s2, .int .i64 t2] 32)).alloc (.cells #[.int .i64 0, .slice none 0 0, .int .i64 0, .int .i64 0] 32)).heap[w.heap.size]? = some (.cells #[.int .i64 p1, .slice aa c1 ca, .int .i64 s1, .int .i64 t1] 32 (0, 0))) := keep (keep (heap_alloc_new w _) (below_al _ _)) (below_al _ _)
  have HPB : Hid ((((w.alloc (.cells #[.int .i64 p1, .slice aa c1 ca, .int .i64 s1, .int .i64 t1] 32)).alloc (.cells #[.int .i64 p2, .slice ab c2 cb, .int .i64 s2, .int .i64 t2] 32)).alloc (.cells #[.int .i64 0, .slice none 0 0, .int .i64 0, .int .i64 0] 32)).heap[w.heap.size + 1]? = some (.cells #[.int .i64 p2, .slice ab c2 cb, .int .i64 s2, .int .i64 t2] 32 (0, 0))) := by
    have k2 := heap_alloc_new (w.alloc (.cells #[.int .i64 p1, .slice aa c1 ca, .int .i64 s1, .int .i64 t1] 32)) (.cells #[.int .i64 p2, .slice ab c2 cb, .int .i64 s2, .int .i64 t2] 32)
    rw [show (w.alloc (.cells #[.int .i64 p1, .slice aa c1 ca, .int .i64 s1, .int .i64 t1] 32)).heap.size = w.heap.size + 1 by simp] at k2
    exact keep k2 (below_al _ _)
  have HRS : Hid ((((w.alloc (.cells #[.int .i64 p1, .slice aa c1 ca, .int .i64 s1, .int .i64 t1] 32)).alloc (.cells #[.int .i64 p2, .slice ab c2 cb, .int .i64 s2, .int .i64 t2] 32)).alloc (.cells #[.int .i64 0, .slice none 0 0, .int .i64 0, .int .i64 0] 32)).heap[w.heap.size + 1 + 1]? = some (.cells #[.int .i64 0, .slice none 0 0, .int .i64 0, .int .i64 0] 32 (0, 0))) := by
    have k3 := heap_alloc_new ((w.alloc (.cells #[.int .i64 p1, .slice aa c1 ca, .int .i64 s1, .int .i64 t1] 32)).alloc (.cells #[.int .i64 p2, .slice ab c2 cb, .int .i64 s2, .int .i64 t2] 32)) (.cells #[.int .i64 0, .slice none 0 0, .int .i64 0, .int .i64 0] 32)
    rw [show ((w.alloc (.cells #[.int .i64 p1, .slice aa c1 ca, .int .i64 s1, .int .i64 t1] 32)).alloc (.cells #[.int .i64 p2, .slice ab c2 cb, .int .i64 s2, .int .i64 t2] 32)).heap.size = w.heap.size + 1 + 1 by simp] at k3
    exact k3
  have HFA := hide (goodFlowS_any p1 s1 t1 aa c1 ca La _ (ha.below HB0.out) hsa)
  have HLA := hide ha
  have HLB := hide hb
  clear ha hb
  go_enter Try.func5, Try.ntmps5
  go_wp2_with fail
  refine HFA.out.mono ?_
  rintro e V1 ⟨rfl, hb1⟩
  have HB1 := hide (HB0.out.trans (hb1.mono HB0.out.size))
  have HPA1 := hide (keep HPA.out hb1)
  have HPB1 := hide (keep HPB.out hb1)
  have HRS1 := hide (keep HRS.out hb1)
  clear HB0 HPA HPB HRS HFA hb1
  obtain ⟨⟨hr0, hr1, hr2, hr3⟩, hf0, hf1, hf2, hf3⟩ := cells4 HRS1.out
  obtain ⟨⟨hq0, hq1, hq2, hq3⟩, _⟩ := cells4 HPB1.out
  have hlr := row_lt HRS1.out
  by_cases hga : flowOk p1 c1 La s1 t1 = true
  rotate_left
  · have hg' : flowOk p1 c1 La s1 t1 = false := by simpa using hga
    have HN := hide (show chOk p1 s1 t1 p2 s2 t2 c1 c2 La Lb = false by unfold chOk; rw [hg']; rfl)
    rw [hg']
    clear hga hg'
    go_wp2_with fail
    refine bodyPost_ret (v := .tuple #[.agg #[.int .i64 0, .slice none 0 0, .int .i64 0, .int .i64 0], .bool false]) (by simp [results, Try.results5, go_sem, hr0, hr1, hr2, hr3]) rfl ?_
    rw [HN.out]
    exact chSp_no (below_set4 HB1.out (by omega) _ _ _ _)
  have HGA := hide hga
  have HFB := hide (goodFlowS_any p2 s2 t2 ab c2 cb Lb _ (HLB.out.below HB1.out) hsb)
  rw [hga]
  clear hga
  go_wp2_with fail
  refine HFB.out.mono ?_
  rintro e V ⟨rfl, hb2⟩
  have HB := hide (HB1.out.trans (hb2.mono HB1.out.size))
  have HPA2 := hide (keep HPA1.out hb2)
  have HPB2 := hide (keep HPB1.out hb2)
  have HRS2 := hide (keep HRS1.out hb2)
  clear HB1 HPA1 HPB1 HRS1 HFB hb2 hr0 hr1 hr2 hr3 hf0 hf1 hf2 hf3 hq0 hq1 hq2 hq3 hlr
  obtain ⟨⟨hr0, hr1, hr2, hr3⟩, hf0, hf1, hf2, hf3⟩ := cells4 HRS2.out
  have hlr := row_lt HRS2.out
  by_cases hgb : flowOk p2 c2 Lb s2 t2 = true
  rotate_left
  · have hg' : flowOk p2 c2 Lb s2 t2 = false := by simpa using hgb
    have HN := hide (show chOk p1 s1 t1 p2 s2 t2 c1 c2 La Lb = false by unfold chOk; rw [hg']; simp)
    rw [hg']
    clear hgb hg'
    go_wp2_with fail
    refine bodyPost_ret (v := .tuple #[.agg #[.int .i64 0, .slice none 0 0, .int .i64 0, .int .i64 0], .bool false]) (by simp [results, Try.results5, go_sem, hr0, hr1, hr2, hr3]) rfl ?_
    rw [HN.out]
    exact chSp_no (below_set4 HB.out (by omega) _ _ _ _)
  have HGB := hide hgb
  have hn24 := (flow_num HGA.out).2.1
  rw [hgb]
  clear hgb hr0 hr1 hr2 hr3 hf0 hf1 hf2 hf3
  go_wp2_with fail
  have hdr := (Below.refl V.heap.size V).drew
  have HB3 := hide (HB.out.trans (hdr.mono HB.out.size))
  have HPA3 := hide (keep HPA2.out hdr)
  have HPB3 := hide (keep HPB2.out hdr)
  have HRS3 := hide (keep HRS2.out hdr)
  have hlr3 := row_lt HRS3.out
  clear hdr HPA2 HPB2 HRS2 HB
  refine wp_via (fun a0 a' W => ∃ X av cv, Hid (SpInv w W X p1 s1 t1 p2 s2 t2 aa ab c1 ca c2 cb p1 0 (.slice av c1 cv) c1 La) ∧ a' = (((((((a0.put (some 20) (.pointer (some ⟨w.heap.size, 0, none⟩))).put (some 21) (.agg #[.int .i64 p1, .slice aa c1 ca])).put (some 23) (.pointer (some ⟨w.heap.size, 2, none⟩))).put (some 24) (.int .i64 s1)).put (some 22) (.agg #[.int .i64 p1, .slice av c1 cv])).put (some 25) (.agg #[.int .i64 p1, .slice av c1 cv, .int .i64 s1, .int .i64 0])).put (some 6) (.pointer (some ⟨X, 0, none⟩)))) ?_ ?_
  · refine wp_region_held_drew (S := fun W => W.cell? ⟨w.heap.size, 0, none⟩ = some (.int .i64 p1) ∧ W.cell? ⟨w.heap.size, 1, none⟩ = some (.slice aa c1 ca) ∧ W.cell? ⟨w.heap.size, 2, none⟩ = some (.int .i64 s1) ∧ W.cell? ⟨w.heap.size, 3, none⟩ = some (.int .i64 t1)) (by kernel_rfl) ?_ (fun hHeld => ?_)
    · exact (cells4 HPA3.out).1
    refine take_yes (i := 0) (some 20) (.pointer (some ⟨w.heap.size, 0, none⟩)) rfl rfl (by kernel_rfl) (by kernel_rfl) (by kernel_rfl) (fun _ _ _ h => by cases h.1) (by rfl) ?_ (by assumption) ?_
    · intro W' hSw
      obtain ⟨ha0, ha1, ha2, ha3⟩ := hSw
      go_simp
    simp only [Act.put, List.setIfInBounds_toArray, List.set_cons_zero, List.set_cons_succ]
    refine take_yes (i := 1) (some 21) (.agg #[.int .i64 p1, .slice aa c1 ca]) rfl rfl (by kernel_rfl) (by kernel_rfl) (by kernel_rfl) (fun _ _ _ h => by cases h.1) (by rfl) ?_ (by assumption) ?_
    · intro W' hSw
      obtain ⟨ha0, ha1, ha2, ha3⟩ := hSw
      go_simp
    simp only [Act.put, List.setIfInBounds_toArray, List.set_cons_zero, List.set_cons_succ]
    refine take_yes (i := 3) (some 23) (.pointer (some ⟨w.heap.size, 2, none⟩)) rfl rfl (by kernel_rfl) (by kernel_rfl) (by kernel_rfl) (fun _ _ _ h => by cases h.1) (by rfl) ?_ (by assumption) ?_
    · intro W' hSw
      obtain ⟨ha0, ha1, ha2, ha3⟩ := hSw
      go_simp
    simp only [Act.put, List.setIfInBounds_toArray, List.set_cons_zero, List.set_cons_succ]
    refine take_yes (i := 4) (some 24) (.int .i64 s1) rfl rfl (by kernel_rfl) (by kernel_rfl) (by kernel_rfl) (fun _ _ _ h => by cases h.1) (by rfl) ?_ (by assumption) ?_
    · intro W' hSw
      obtain ⟨ha0, ha1, ha2, ha3⟩ := hSw
      go_simp
    simp only [Act.put, List.setIfInBounds_toArray, List.set_cons_zero, List.set_cons_succ]
    refine wpAnyH_ready (rs := [2, 6]) (by kernel_rfl) (by simp) (AllReadyH.cons rfl (fun K hK => ?_) (AllReadyH.cons rfl (fun K hK => ?_) AllReadyH.nil))
    · refine step_callWd (some 22) rfl (by rfl) 13 _ _ _ rfl Try.func13 (by decide) rfl #[.agg #[.int .i64 p1, .slice aa c1 ca]] (mapw1 _ _ _ rfl) _ (own3S_any p1 aa c1 ca La _ (HLA.out.below HB3.out) hsa (by omega)) ?_
      rintro e v1 ⟨v, rfl, htri, hc1⟩
      obtain ⟨av, cv, rfl, _⟩ := htri.lists hsa
      refine ⟨_, rfl, hK.out _ _ ?_ (fun hHeld => ?_)⟩
      · exact (cells4 (keep HPA3.out hc1)).1
      simp only [Act.put, List.setIfInBounds_toArray, List.set_cons_zero, List.set_cons_succ]
      refine take_yes (i := 5) (some 25) (.agg #[.int .i64 p1, .slice av c1 cv, .int .i64 s1, .int .i64 0]) rfl rfl (by kernel_rfl) (by kernel_rfl) (by kernel_rfl) (fun _ _ _ h => by cases h.1) (by rfl) ?_ (by assumption) ?_
      · intro W' hSw
        obtain ⟨ha0, ha1, ha2, ha3⟩ := hSw
        go_simp
      simp only [Act.put, List.setIfInBounds_toArray, List.set_cons_zero, List.set_cons_succ]
      have hcA := below_al v1 (.cells #[.int .i64 0, .slice none 0 0, .int .i64 0, .int .i64 0] 32)
      refine wpAnyH_ready (rs := [6]) (by kernel_rfl) (by simp) (AllReadyH.cons rfl (fun K hK => ?_) AllReadyH.nil)
      refine step_valW (w' := v1.alloc (.cells #[.int .i64 0, .slice none 0 0, .int .i64 0, .int .i64 0] 32)) (by rfl) (some 6) rfl (.pointer (some ⟨v1.heap.size, 0, none⟩)) (by go_simp) (hK.out _ _ ?_ (fun hHeld => ?_))
      · exact (cells4 (keep (keep HPA3.out hc1) hcA)).1
      simp only [Act.put, List.setIfInBounds_toArray, List.set_cons_zero, List.set_cons_succ]
      have hs1 := hc1.size
      have HX := hide (heap_alloc_new v1 (.cells #[.int .i64 0, .slice none 0 0, .int .i64 0, .int .i64 0] 32))
      have hne : v1.heap.size ≠ w.heap.size := by omega
      refine store_next (i := 7) rfl rfl (by kernel_rfl) (by rfl) 32 _ _ rfl (v1.heap.size) #[.int .i64 p1, .slice av c1 cv, .int .i64 s1, .int .i64 0] rfl rfl 32 _ HX.out Try.size32 rfl (by simp [Value.oneCell']) ?_ (fun hHeld => ?_)
      · exact (cells4 ((setRow_otherW _ (by omega) _).trans (keep (keep HPA3.out hc1) hcA))).1
      refine wpAnyH_done (by kernel_rfl) ?_ _
      refine ⟨rfl, v1.heap.size, av, cv, ⟨(setRow_otherW _ (by omega) _).trans (keep (keep HPA3.out hc1) hcA), (setRow_otherW _ (by omega) _).trans (keep (keep HPB3.out hc1) hcA), (setRow_otherW _ (by omega) _).trans (keep (keep HRS3.out hc1) hcA), setRow_sameW HX.out _, ((htri.grow hcA).otherRow HX.out (by decide) (by decide) _).lower (by omega), by omega, below_setRow (HB3.out.trans ((hc1.trans (hcA.mono hc1.size)).mono HB3.out.size)) _ (by omega) _⟩, rfl⟩
    · have hcA := below_al V.drew (.cells #[.int .i64 0, .slice none 0 0, .int .i64 0, .int .i64 0] 32)
      have hsD : V.drew.heap.size = V.heap.size := rfl
      refine step_valW (w' := V.drew.alloc (.cells #[.int .i64 0, .slice none 0 0, .int .i64 0, .int .i64 0] 32)) (by rfl) (some 6) rfl (.pointer (some ⟨V.drew.heap.size, 0, none⟩)) (by go_simp) (hK.out _ _ ?_ (fun hHeld => ?_))
      · exact (cells4 (keep HPA3.out hcA)).1
      simp only [Act.put, List.setIfInBounds_toArray, List.set_cons_zero, List.set_cons_succ]
      refine wpAnyH_ready (rs := [2]) (by kernel_rfl) (by simp) (AllReadyH.cons rfl (fun K hK => ?_) AllReadyH.nil)
      refine step_callWd (some 22) rfl (by rfl) 13 _ _ _ rfl Try.func13 (by decide) rfl #[.agg #[.int .i64 p1, .slice aa c1 ca]] (mapw1 _ _ _ rfl) _ (own3S_any p1 aa c1 ca La _ ((HLA.out.below HB3.out).below hcA) hsa (by omega)) ?_
      rintro e v1 ⟨v, rfl, htri, hc1⟩
      obtain ⟨av, cv, rfl, _⟩ := htri.lists hsa
      refine ⟨_, rfl, hK.out _ _ ?_ (fun hHeld => ?_)⟩
      · exact (cells4 (keep (keep HPA3.out hcA) hc1)).1
      simp only [Act.put, List.setIfInBounds_toArray, List.set_cons_zero, List.set_cons_succ]
      refine take_yes (i := 5) (some 25) (.agg #[.int .i64 p1, .slice av c1 cv, .int .i64 s1, .int .i64 0]) rfl rfl (by kernel_rfl) (by kernel_rfl) (by kernel_rfl) (fun _ _ _ h => by cases h.1) (by rfl) ?_ (by assumption) ?_
      · intro W' hSw
        obtain ⟨ha0, ha1, ha2, ha3⟩ := hSw
        go_simp
      simp only [Act.put, List.setIfInBounds_toArray, List.set_cons_zero, List.set_cons_succ]
      have HX := hide (keep (heap_alloc_new V.drew (.cells #[.int .i64 0, .slice none 0 0, .int .i64 0, .int .i64 0] 32)) hc1)
      have hne : V.drew.heap.size ≠ w.heap.size := by omega
      refine store_next (i := 7) rfl rfl (by kernel_rfl) (by rfl) 32 _ _ rfl (V.drew.heap.size) #[.int .i64 p1, .slice av c1 cv, .int .i64 s1, .int .i64 0] rfl rfl 32 _ HX.out Try.size32 rfl (by simp [Value.oneCell']) ?_ (fun hHeld => ?_)
      · exact (cells4 ((setRow_otherW _ (by omega) _).trans (keep (keep HPA3.out hcA) hc1))).1
      refine wpAnyH_done (by kernel_rfl) ?_ _
      refine ⟨rfl, V.drew.heap.size, av, cv, ⟨(setRow_otherW _ (by omega) _).trans (keep (keep HPA3.out hcA) hc1), (setRow_otherW _ (by omega) _).trans (keep (keep HPB3.out hcA) hc1), (setRow_otherW _ (by omega) _).trans (keep (keep HRS3.out hcA) hc1), setRow_sameW HX.out _, (htri.otherRow HX.out (by decide) (by decide) _).lower (by simp; omega), by omega, below_setRow (HB3.out.trans ((hcA.trans (hc1.mono hcA.size)).mono HB3.out.size)) _ (by omega) _⟩, rfl⟩
  clear HB3 HPA3 HPB3 HRS3 hlr3 hlr
  rintro a' W ⟨X, av, cv, HI, rfl⟩
  simp only [Act.put, List.setIfInBounds_toArray, List.set_cons_zero, List.set_cons_succ]
  obtain ⟨hp1, hn1, hs1r, ht1r⟩ := flow_num HGA.out
  obtain ⟨hp2, hn2, hs2r, ht2r⟩ := flow_num HGB.out
  obtain ⟨pn, hpn⟩ : ∃ pn : Nat, p2 = (pn : Int) := ⟨p2.toNat, by omega⟩
  subst hpn
  have hmk := run_make_row' (P := Try.prog) 42 3 (.int .i64 0) 8 Try.underlying42 Try.info3 rfl .i64 .i64 pn (by omega) (by omega)
  obtain ⟨⟨hb0, hb1, hb2, hb3⟩, _⟩ := cells4 HI.out.pb
  have HAT : Hid (AtInv w W (W.alloc (.cells (madeCells #[.int .i64 0] pn) 3)) X W.heap.size pn 0 p1 s1 t1 (pn : Int) s2 t2 aa ab c1 ca c2 cb (.slice av c1 cv) La) :=
    ⟨⟨W, rfl, by rw [plN_zero hs2r.1]; exact HI.out, below_al _ _⟩, by rw [made_zeroY]; exact heap_alloc_new _ _, Nat.le_refl _⟩
  go_wp2_with fail
  obtain ⟨U, hU⟩ : ∃ U, Hid (W.alloc (.cells (madeCells #[.int .i64 0] pn) 3) = U) := ⟨_, rfl⟩
  obtain ⟨G, hG⟩ : ∃ G, Hid (W.heap.size = G) := ⟨_, rfl⟩
  rw [hU.out] at HAT ⊢
  rw [hG.out] at HAT ⊢
  clear hU hG hmk hb0 hb1 hb2 hb3 HI
  go_loopw [32] (fun i wr => ∃ k, k ≤ pn ∧ i = .int .i64 (k : Nat) ∧ Hid (AtInv w W wr X G pn k p1 s1 t1 (pn : Int) s2 t2 aa ab c1 ca c2 cb (.slice av c1 cv) La)) (fun i _ => pn - (intOf i).toNat)
  case atStart => exact ⟨0, Nat.zero_le _, rfl, HAT⟩
  case round =>
    obtain ⟨k, hk, rfl, hin⟩ := hrel
    clear HAT
    by_cases hlt : k < pn
    · obtain ⟨⟨ha0, ha1, ha2, ha3⟩, _⟩ := cells4 hin.out.sp.pa
      obtain ⟨⟨hb0, hb1, hb2, hb3⟩, _⟩ := cells4 hin.out.sp.pb
      obtain ⟨⟨ho0, ho1, ho2, ho3⟩, hf0, hf1, hf2, hf3⟩ := cells4 hin.out.sp.out
      have hc : wr.cell? ⟨G, k, none⟩ = some (.int .i64 0) := by
        rw [cell_of_row _ _ _ _ _ _ hin.out.row, atRow _ hlt]
        simp [cellsOf, atL_len]
      have hfG : wr.frozen? ⟨G, k, none⟩ = false := frozen_of_row wr _ k _ _ hin.out.row
      have hki : (k : Int) < (pn : Int) := by omega
      have hXl := hin.out.ltX
      have hGh := hin.out.high
      have hXf := hin.out.sp.far
      have hGX : ¬ G = X := by omega
      have hXG : ¬ X = G := by omega
      have hGa : ¬ G = w.heap.size := by omega
      have haG : ¬ w.heap.size = G := by omega
      have hGb : ¬ G = w.heap.size + 1 := by omega
      have hbG : ¬ w.heap.size + 1 = G := by omega
      by_cases hs : (k : Int) = s2
      · have HI3 := hide (hin.out.meet hlt hs)
        clear hin
        have hs' := hs.symm
        subst hs'
        go_wp2_with fail
        go_roundw
        case rel => exact ⟨k + 1, by omega, by go_num, HI3⟩
        case measure => simp [intOf]; omega
      · have HI3 := hide (hin.out.more hlt hs)
        have hPB := plN_small (sb := s2) hp1 (show k ≤ 16 by omega)
        generalize plN p1 s2 k = PP at *
        clear hin
        go_wp2_with fail
        go_roundw
        case rel => exact ⟨k + 1, by omega, by go_num, HI3⟩
        case measure => simp [intOf]; omega
    have hk' : pn = k := by omega
    subst hk'
    have HS0 := hide (hin.out.start (Lb := Lb) HLA.out.1)
    obtain ⟨⟨hb0, hb1, hb2, hb3⟩, _⟩ := cells4 hin.out.sp.pb
    clear hin
    go_wp2_with fail
    have hgn := (wayOk_parts (flowOk_parts HGB.out).1).1
    have HGN := hide hgn
    obtain ⟨i1, hi1, hz0, hz1, hz2⟩ := info_split2 Try.info44
    clear hgn hb0 hb1 hb2 hb3
    go_loopw [61] (fun i wr => ∃ k v, k ≤ c2 ∧ i = .int .i64 (k : Nat) ∧ Hid (Sp2 w wr X G pn p1 s1 t1 (pn : Int) s2 t2 aa ab c1 ca c2 cb v k La Lb)) (fun i _ => c2 - (intOf i).toNat)
    case atStart => exact ⟨0, _, Nat.zero_le _, rfl, HS0⟩
    case round =>
      obtain ⟨k, v, hk, rfl, hin⟩ := hrel
      clear HS0
      by_cases hlt : k < c2
      rotate_left
      · have hk' : c2 = k := by omega
        subst hk'
        obtain ⟨tn, htn⟩ : ∃ tn : Nat, t2 = (tn : Int) := ⟨t2.toNat, by omega⟩
        subst htn
        have hti : (tn : Int) < (pn : Int) := ht2r.2
        have htk : tn < pn := by omega
        have hcell : wr.cell? ⟨G, tn, none⟩ = some (.int .i64 (mvP p1 t1 s2 (tn : Int))) := by
          rw [cell_of_row _ _ _ _ _ _ hin.out.row]
          simp [cellsOf, atL, htk]
        have hK : (chainW p1 t1 s2 La Lb).take (3 * (c1 + c2)) = chainW p1 t1 s2 La Lb := List.take_of_length_le (by rw [chainW_len HLA.out.1 HLB.out.1]; omega)
        have HSP := hide (hin.out.sp.goal (mvP p1 t1 s2 (tn : Int)))
        rw [hK, plN_all (show s2 < ((pn : Nat) : Int) from hs2r.2)] at HSP
        have HSZ := hide (chainW_size (pa := p1) (ta := t1) (sb := s2) (netSizeX (wayOk_parts (flowOk_parts HGA.out).1).1 HLA.out.1) HLB.out.1 hn2)
        obtain ⟨av2, cv2, hev, hli⟩ := HSP.out.tri.lists HSZ.out
        subst hev
        have hspo := hin.out.sp.out
        rw [plN_all (show s2 < ((pn : Nat) : Int) from hs2r.2)] at hspo
        obtain ⟨⟨ho0, ho1, ho2, ho3⟩, hf0, hf1, hf2, hf3⟩ := cells4 hspo
        obtain ⟨⟨hb0, hb1, hb2, hb3⟩, _⟩ := cells4 hin.out.sp.pb
        have HGF := hide (goodFlowS_any (p1 + (pn : Int) - 1) s1 (mvP p1 t1 s2 (tn : Int)) av2 (c1 + c2) cv2 _ _ hli HSZ.out)
        generalize hPP : mvP p1 t1 s2 (tn : Int) = PP at *
        clear hli hin hspo
        go_wp2_with fail
        refine HGF.out.mono ?_
        rintro e W4 ⟨rfl, hbl⟩
        have HS4 := hide (HSP.out.grow hbl)
        clear hbl ho0 ho1 ho2 ho3 hf0 hf1 hf2 hf3 hb0 hb1 hb2 hb3 HSP HGF hcell
        obtain ⟨⟨ho0, ho1, ho2, ho3⟩, _⟩ := cells4 HS4.out.out
        obtain ⟨⟨hr0, hr1, hr2, hr3⟩, hf0, hf1, hf2, hf3⟩ := cells4 HS4.out.res
        have hXf := HS4.out.far
        by_cases hfit : p1 + (pn : Int) - 1 ≤ 16 ∧ c1 + c2 ≤ 24
        · have HC : Hid (Chn p1 (pn : Int) s1 t1 s2 (tn : Int) c1 c2 La Lb) := ⟨HGA.out, HGB.out, HLA.out.1, HLB.out.1, hfit.1, hfit.2⟩
          have hgd : flowOk (p1 + (pn : Int) - 1) (c1 + c2) (chainW p1 t1 s2 La Lb) s1 PP = true := by rw [chainW_same HC.out, ← hPP]; exact HC.out.good
          have HK := hide (show chOk p1 s1 t1 (pn : Int) s2 (tn : Int) c1 c2 La Lb = true by unfold chOk; rw [HGA.out, HGB.out]; simp; omega)
          rw [hgd]
          clear hgd
          go_wp2_with fail
          refine bodyPost_ret (v := .tuple #[.agg #[.int .i64 (p1 + (pn : Int) - 1), .slice av2 (c1 + c2) cv2, .int .i64 s1, .int .i64 PP], .bool true]) (by simp [results, Try.results5, go_sem, hr0, hr1, hr2, hr3]) rfl ?_
          rw [HK.out]
          refine ⟨av2, cv2, by simp [hPP], fun _ => ?_, below_set4 HS4.out.bel (by omega) _ _ _ _⟩
          rw [← chainW_same HC.out]
          exact ((((HS4.out.tri.low (by omega) 0 _).low (by omega) 1 _).low (by omega) 2 _).low (by omega) 3 _).lower (by omega)
        · have hgd : flowOk (p1 + (pn : Int) - 1) (c1 + c2) (chainW p1 t1 s2 La Lb) s1 PP = false := flow_big (by omega)
          have HK := hide (show chOk p1 s1 t1 (pn : Int) s2 (tn : Int) c1 c2 La Lb = false by unfold chOk; rw [HGA.out, HGB.out]; simp; omega)
          rw [hgd]
          clear hgd
          go_wp2_with fail
          refine bodyPost_ret (v := .tuple #[.agg #[.int .i64 0, .slice none 0 0, .int .i64 0, .int .i64 0], .bool false]) (by simp [results, Try.results5, go_sem, hr0, hr1, hr2, hr3]) rfl ?_
          rw [HK.out]
          exact chSp_no (below_set4 HS4.out.bel (by omega) _ _ _ _)
      obtain ⟨b, off, a0, l0, q0, a1, l1, q1, a2, l2, q2, rfl, hb, hr, m0, m1, m2, r0, r1, r2⟩ := (HLB.out.below hin.out.sp.bel).tri hlt
      obtain ⟨hx0, hx1, hx2⟩ := rangeAt_cells3 hr
      obtain ⟨mm0, mm1, mm2⟩ := netOk_mem HGN.out hlt
      have hm0 : l0 ≤ 1000 := by have := r0.1; have := getLen16X HGN.out (3 * k) (by omega); omega
      have hm1 : l1 ≤ 1000 := by have := r1.1; have := getLen16X HGN.out (3 * k + 1) (by omega); omega
      have hm2 : l2 ≤ 1000 := by have := r2.1; have := getLen16X HGN.out (3 * k + 2) (by omega); omega
      have HM0 := hide (fun W r t => moved_chainW (xs := Lb.getD (3 * k) []) a0 l0 q0 G W (rfl : (pn : Int) = pn) ht1r hs2r (by omega) mm0 r t hm0)
      have HM1 := hide (fun W r t => moved_chainW (xs := Lb.getD (3 * k + 1) []) a1 l1 q1 G W (rfl : (pn : Int) = pn) ht1r hs2r (by omega) mm1 r t hm1)
      have HM2 := hide (fun W r t => moved_chainW (xs := Lb.getD (3 * k + 2) []) a2 l2 q2 G W (rfl : (pn : Int) = pn) ht1r hs2r (by omega) mm2 r t hm2)
      obtain ⟨Z0, hZ0⟩ : ∃ Z, Hid (mvW p1 t1 s2 (Lb.getD (3 * k) []) = Z) := ⟨_, rfl⟩
      obtain ⟨Z1, hZ1⟩ : ∃ Z, Hid (mvW p1 t1 s2 (Lb.getD (3 * k + 1) []) = Z) := ⟨_, rfl⟩
      obtain ⟨Z2, hZ2⟩ : ∃ Z, Hid (mvW p1 t1 s2 (Lb.getD (3 * k + 2) []) = Z) := ⟨_, rfl⟩
      simp only [hZ0.out] at HM0
      simp only [hZ1.out] at HM1
      simp only [hZ2.out] at HM2
      have hA1 := below_al wr (.cells #[.slice a0 l0 q0, .slice a1 l1 q1, .slice a2 l2 q2] 44)
      have hI1 := hin.out.grow hA1
      have HXq := hide (heap_alloc_new wr (.cells #[.slice a0 l0 q0, .slice a1 l1 q1, .slice a2 l2 q2] 44))
      have HXN : Hid (some wr.heap.size = v.ownBlock → False) := fun e => by
        obtain ⟨cells, A, f, cap, hts⟩ := hin.out.sp.tri
        have := (hts.own.lt _ e.symm).2; omega
      have HXV := hide (show wr.heap.size ≠ X by have := row_lt hin.out.sp.out; omega)
      have HQ0 := hide (r0.below hA1)
      have HQ1 := hide (r1.below hA1)
      have HQ2 := hide (r2.below hA1)
      clear hin hr r0 r1 r2 m0 m1 m2 mm0 mm1 mm2
      go_wp2_with fail
      clear hx0 hx1 hx2
      obtain ⟨U, hU⟩ : ∃ U, Hid (wr.alloc (.cells #[.slice a0 l0 q0, .slice a1 l1 q1, .slice a2 l2 q2] 44) = U) := ⟨_, rfl⟩
      obtain ⟨Y, hY⟩ : ∃ Y, Hid (wr.heap.size = Y) := ⟨_, rfl⟩
      rw [hU.out] at hI1 HXq HQ0 HQ1 HQ2 ⊢
      rw [hY.out] at HXq HXN HXV ⊢
      have hdr := (Below.refl U.heap.size U).drew
      have HI2 := hide (hI1.grow hdr)
      have HX2 := hide (keep HXq.out hdr)
      have HR0 := hide (HQ0.out.below hdr)
      have HR1 := hide (HQ1.out.below hdr)
      have HR2 := hide (HQ2.out.below hdr)
      clear hA1 hI1 HXq hdr hU hY HQ0 HQ1 HQ2
      refine wp_region_held_drew (S := fun W => W.cell? ⟨Y, 0, none⟩ = some (.slice a0 l0 q0) ∧ W.cell? ⟨Y, 1, none⟩ = some (.slice a1 l1 q1) ∧ W.cell? ⟨Y, 2, none⟩ = some (.slice a2 l2 q2)) (by kernel_rfl) ?_ (fun hHeld => ?_)
      · exact cells3W HX2.out
      refine take_yes (i := 0) (some 65) (.pointer (some ⟨X, 0, none⟩)) rfl rfl (by kernel_rfl) (by kernel_rfl) (by kernel_rfl) (fun _ _ _ h => h) (by rfl) ?_ (by assumption) ?_
      · intro W' hSw
        obtain ⟨hy0, hy1, hy2⟩ := hSw
        go_simp
      simp only [Act.put, List.setIfInBounds_toArray, List.set_cons_zero, List.set_cons_succ]
      refine take_yes (i := 1) (some 66) (.pointer (some ⟨X, 1, none⟩)) rfl rfl (by kernel_rfl) (by kernel_rfl) (by kernel_rfl) (fun _ _ _ h => h) (by rfl) ?_ (by assumption) ?_
      · intro W' hSw
        obtain ⟨hy0, hy1, hy2⟩ := hSw
        go_simp
      simp only [Act.put, List.setIfInBounds_toArray, List.set_cons_zero, List.set_cons_succ]
      refine take_yes (i := 3) (some 68) (.pointer (some ⟨Y, 0, none⟩)) rfl rfl (by kernel_rfl) (by kernel_rfl) (by kernel_rfl) (fun _ _ _ h => h) (by rfl) ?_ (by assumption) ?_
      · intro W' hSw
        obtain ⟨hy0, hy1, hy2⟩ := hSw
        go_simp
      simp only [Act.put, List.setIfInBounds_toArray, List.set_cons_zero, List.set_cons_succ]
      refine take_yes (i := 4) (some 69) (.slice a0 l0 q0) rfl rfl (by kernel_rfl) (by kernel_rfl) (by kernel_rfl) (fun _ _ _ h => h) (by rfl) ?_ (by assumption) ?_
      · intro W' hSw
        obtain ⟨hy0, hy1, hy2⟩ := hSw
        go_simp
      simp only [Act.put, List.setIfInBounds_toArray, List.set_cons_zero, List.set_cons_succ]
      refine take_yes (i := 5) (some 70) (.slice (some ⟨G, 0, none⟩) pn pn) rfl rfl (by kernel_rfl) (by kernel_rfl) (by kernel_rfl) (fun _ _ _ h => h) (by rfl) ?_ (by assumption) ?_
      · intro W' hSw
        obtain ⟨hy0, hy1, hy2⟩ := hSw
        go_simp
      simp only [Act.put, List.setIfInBounds_toArray, List.set_cons_zero, List.set_cons_succ]
      refine take_yes (i := 7) (some 72) (.pointer (some ⟨Y, 1, none⟩)) rfl rfl (by kernel_rfl) (by kernel_rfl) (by kernel_rfl) (fun _ _ _ h => h) (by rfl) ?_ (by assumption) ?_
      · intro W' hSw
        obtain ⟨hy0, hy1, hy2⟩ := hSw
        go_simp
      simp only [Act.put, List.setIfInBounds_toArray, List.set_cons_zero, List.set_cons_succ]
      refine take_yes (i := 8) (some 73) (.slice a1 l1 q1) rfl rfl (by kernel_rfl) (by kernel_rfl) (by kernel_rfl) (fun _ _ _ h => h) (by rfl) ?_ (by assumption) ?_
      · intro W' hSw
        obtain ⟨hy0, hy1, hy2⟩ := hSw
        go_simp
      simp only [Act.put, List.setIfInBounds_toArray, List.set_cons_zero, List.set_cons_succ]
      refine take_yes (i := 9) (some 74) (.slice (some ⟨G, 0, none⟩) pn pn) rfl rfl (by kernel_rfl) (by kernel_rfl) (by kernel_rfl) (fun _ _ _ h => h) (by rfl) ?_ (by assumption) ?_
      · intro W' hSw
        obtain ⟨hy0, hy1, hy2⟩ := hSw
        go_simp
      simp only [Act.put, List.setIfInBounds_toArray, List.set_cons_zero, List.set_cons_succ]
      refine take_yes (i := 11) (some 76) (.pointer (some ⟨Y, 2, none⟩)) rfl rfl (by kernel_rfl) (by kernel_rfl) (by kernel_rfl) (fun _ _ _ h => h) (by rfl) ?_ (by assumption) ?_
      · intro W' hSw
        obtain ⟨hy0, hy1, hy2⟩ := hSw
        go_simp
      simp only [Act.put, List.setIfInBounds_toArray, List.set_cons_zero, List.set_cons_succ]
      refine take_yes (i := 12) (some 77) (.slice a2 l2 q2) rfl rfl (by kernel_rfl) (by kernel_rfl) (by kernel_rfl) (fun _ _ _ h => h) (by rfl) ?_ (by assumption) ?_
      · intro W' hSw
        obtain ⟨hy0, hy1, hy2⟩ := hSw
        go_simp
      simp only [Act.put, List.setIfInBounds_toArray, List.set_cons_zero, List.set_cons_succ]
      refine take_yes (i := 13) (some 78) (.slice (some ⟨G, 0, none⟩) pn pn) rfl rfl (by kernel_rfl) (by kernel_rfl) (by kernel_rfl) (fun _ _ _ h => h) (by rfl) ?_ (by assumption) ?_
      · intro W' hSw
        obtain ⟨hy0, hy1, hy2⟩ := hSw
        go_simp
      simp only [Act.put, List.setIfInBounds_toArray, List.set_cons_zero, List.set_cons_succ]
      refine wpAnyH_ready (rs := [2, 6]) (by kernel_rfl) (by simp) (AllReadyH.cons rfl (fun K hK => ?_) (AllReadyH.cons rfl (fun K hK => ?_) AllReadyH.nil))
      · refine step_valW (w' := U.drew) (by rfl) (some 67) rfl v (by have hv := (cells4 HI2.out.sp.out).1.2.1; go_simp) (hK.out _ _ ?_ (fun hHeld => ?_))
        · exact cells3W HX2.out
        simp only [Act.put, List.setIfInBounds_toArray, List.set_cons_zero, List.set_cons_succ]
        refine wpAnyH_ready (rs := [6]) (by kernel_rfl) (by simp) (AllReadyH.cons rfl (fun K hK => ?_) AllReadyH.nil)
        refine step_callWd (some 71) rfl (by rfl) 14 _ _ _ rfl Try.func14 (by decide) rfl #[.slice a0 l0 q0, .slice (some ⟨G, 0, none⟩) pn pn] (mapw2 _ _ _ _ _ rfl rfl) _ (HM0.out _ HR0.out HI2.out.tab) ?_
        rintro e v1 ⟨e0, g0, d0, rfl, hg0, ho0, hc1⟩
        refine ⟨_, rfl, hK.out _ _ ?_ (fun hHeld => ?_)⟩
        · exact cells3W (keep HX2.out hc1)
        simp only [Act.put, List.setIfInBounds_toArray, List.set_cons_zero, List.set_cons_succ]
        refine wpAnyH_ready (rs := [10]) (by kernel_rfl) (by simp) (AllReadyH.cons rfl (fun K hK => ?_) AllReadyH.nil)
        refine step_callWd (some 75) rfl (by rfl) 14 _ _ _ rfl Try.func14 (by decide) rfl #[.slice a1 l1 q1, .slice (some ⟨G, 0, none⟩) pn pn] (mapw2 _ _ _ _ _ rfl rfl) _ (HM1.out _ (HR1.out.below hc1) (HI2.out.grow hc1).tab) ?_
        rintro e v2 ⟨e1, g1, d1, rfl, hg1, ho1, hc2⟩
        refine ⟨_, rfl, hK.out _ _ ?_ (fun hHeld => ?_)⟩
        · exact cells3W (keep (keep HX2.out hc1) hc2)
        simp only [Act.put, List.setIfInBounds_toArray, List.set_cons_zero, List.set_cons_succ]
        refine wpAnyH_ready (rs := [14]) (by kernel_rfl) (by simp) (AllReadyH.cons rfl (fun K hK => ?_) AllReadyH.nil)
        refine step_callWd (some 79) rfl (by rfl) 14 _ _ _ rfl Try.func14 (by decide) rfl #[.slice a2 l2 q2, .slice (some ⟨G, 0, none⟩) pn pn] (mapw2 _ _ _ _ _ rfl rfl) _ (HM2.out _ ((HR2.out.below hc1).below hc2) ((HI2.out.grow hc1).grow hc2).tab) ?_
        rintro e v3 ⟨e2, g2, d2, rfl, hg2, ho2, hc3⟩
        refine ⟨_, rfl, hK.out _ _ ?_ (fun hHeld => ?_)⟩
        · exact cells3W (keep (keep (keep HX2.out hc1) hc2) hc3)
        simp only [Act.put, List.setIfInBounds_toArray, List.set_cons_zero, List.set_cons_succ]
        refine take_yes (i := 15) (some 80) (.agg #[.slice e0 Z0.length d0, .slice e1 Z1.length d1, .slice e2 Z2.length d2]) rfl rfl (by kernel_rfl) (by kernel_rfl) (by kernel_rfl) (fun _ _ _ h => h) (by rfl) ?_ (by assumption) ?_
        · intro W' hSw
          obtain ⟨hy0, hy1, hy2⟩ := hSw
          go_simp
        simp only [Act.put, List.setIfInBounds_toArray, List.set_cons_zero, List.set_cons_succ]
        refine wpAnyH_ready (rs := [16]) (by kernel_rfl) (by simp) (AllReadyH.cons rfl (fun K hK => ?_) AllReadyH.nil)
        have hcA := below_al v3 (.cells #[.slice e0 Z0.length d0, .slice e1 Z1.length d1, .slice e2 Z2.length d2] 44)
        refine step_valW (w' := v3.alloc (.cells #[.slice e0 Z0.length d0, .slice e1 Z1.length d1, .slice e2 Z2.length d2] 44)) (by rfl) (some 81) rfl (.slice (some ⟨v3.heap.size, 0, none⟩) 1 1) (by go_simp) (hK.out _ _ ?_ (fun hHeld => ?_))
        · exact cells3W (keep (keep (keep (keep HX2.out hc1) hc2) hc3) hcA)
        simp only [Act.put, List.setIfInBounds_toArray, List.set_cons_zero, List.set_cons_succ]
        have hHI := HI2.out
        obtain ⟨cells, A, f, cap, hts⟩ := hHI.sp.tri
        have HT4 := hide ((((hts.grow hc1).grow hc2).grow hc3).grow hcA)
        have HTS := hide hts
        have HNW := hide (news3X v3 (.slice e0 Z0.length d0) (.slice e1 Z1.length d1) (.slice e2 Z2.length d2))
        have hy1 := hc1.size
        have hy2 := hc2.size
        have hy3 := hc3.size
        have hlD := row_lt HI2.out.sp.res
        have hlX := row_lt HI2.out.sp.out
        have hX4 := keep (keep (keep (keep HX2.out hc1) hc2) hc3) hcA
        have hI4 := (((HI2.out.grow hc1).grow hc2).grow hc3).grow hcA
        refine wpAnyH_ready (rs := [17]) (by kernel_rfl) (by simp) (AllReadyH.cons rfl (fun K hK => ?_) AllReadyH.nil)
        refine step_appWd (some 82) rfl (by rfl) (.tmp 67) (.tmp 81) 28 (by rfl) (w.heap.size + 1 + 1 + 1) 44 i1 _ 3 72 Try.underlying28 hi1 hz0 hz1 hz2 (by rfl) (by decide) v (c1 + k) cells (by rfl) HT4.out.own ⟨v3.heap.size, 0, none⟩ 1 1 [.slice e0 Z0.length d0, .slice e1 Z1.length d1, .slice e2 Z2.length d2] (by rfl) (by rfl) HNW.out (by simp [Value.oneCell']) (by decide) (by unfold maxLen; omega) (by omega) (by simp; omega) (v3.heap.size + 1) (by simp) ?_
        intro gg cp W2 hown hgr hlies hglt
        have hXW := (hgr.block Y (row_lt hX4) (fun e => HXN.out e)).trans hX4
        have hVW := (hgr.block X (row_lt hI4.sp.out) (tri_own hI4.sp.tri hI4.sp.out (by decide))).trans hI4.sp.out
        have hbel := hc1.trans ((hc2.trans ((hc3.trans (hcA.mono hc3.size)).mono hc2.size)).mono hc1.size)
        have hpush := HTS.out.push (c0 := d0) (c1 := d1) (c2 := d2) hbel (by omega) (((ho0.grow hc2).grow hc3).grow hcA) ((ho1.grow hc3).grow hcA) (ho2.grow hcA) (fun _ => hg0) (fun _ => by omega) (fun _ => by omega) (fun hx _ => by have := ho0.ltX hx; omega) (fun hx _ => by have := ho0.ltX hx; omega) (fun hx _ => by have := ho1.ltX hx; omega) hown hgr (by simpa using hlies)
        rw [← hZ0.out, ← hZ1.out, ← hZ2.out] at hpush
        have HI5 := hide (HI2.out.push HLA.out.1 HLB.out.1 hlt hbel hgr hpush)
        refine hK.out _ _ ?_ (fun hHeld => ?_)
        · exact cells3W hXW
        simp only [Act.put, List.setIfInBounds_toArray, List.set_cons_zero, List.set_cons_succ]
        refine take_yes (i := 18) (some 83) (.pointer (some ⟨X, 0, none⟩)) rfl rfl (by kernel_rfl) (by kernel_rfl) (by kernel_rfl) (fun _ _ _ h => h) (by rfl) ?_ (by assumption) ?_
        · intro W' hSw
          obtain ⟨hy0, hy1, hy2⟩ := hSw
          go_simp
        simp only [Act.put, List.setIfInBounds_toArray, List.set_cons_zero, List.set_cons_succ]
        refine take_yes (i := 19) (some 84) (.pointer (some ⟨X, 1, none⟩)) rfl rfl (by kernel_rfl) (by kernel_rfl) (by kernel_rfl) (fun _ _ _ h => h) (by rfl) ?_ (by assumption) ?_
        · intro W' hSw
          obtain ⟨hy0, hy1, hy2⟩ := hSw
          go_simp
        simp only [Act.put, List.setIfInBounds_toArray, List.set_cons_zero, List.set_cons_succ]
        refine store_one_next (i := 20) rfl rfl (by kernel_rfl) (by rfl) 28 _ _ rfl X 1 (some ⟨gg, 0, none⟩) (c1 + k + 1) cp rfl rfl _ 32 hVW (by simp) Try.size28 ?_ (fun hHeld => ?_)
        · exact cells3W ((Below.heap_setCell _ _ _ _ HXV.out).trans hXW)
        refine wpAnyH_done (by kernel_rfl) ?_ _
        clear hown hgr hlies hglt hpush hXW hVW hX4 hI4 ho0 ho1 ho2 hg0 hg1 hg2 hc1 hc2 hc3 hcA hHeld HT4 HTS HNW hy1 hy2 hy3 hlD hlX hHI hts hbel
        go_wp2_with fail
        go_roundw
        case rel => exact ⟨k + 1, _, by omega, by go_num, HI5⟩
        case measure => simp [intOf]; omega
      · refine step_callWd (some 71) rfl (by rfl) 14 _ _ _ rfl Try.func14 (by decide) rfl #[.slice a0 l0 q0, .slice (some ⟨G, 0, none⟩) pn pn] (mapw2 _ _ _ _ _ rfl rfl) _ (HM0.out _ HR0.out HI2.out.tab) ?_
        rintro e v1 ⟨e0, g0, d0, rfl, hg0, ho0, hc1⟩
        refine ⟨_, rfl, hK.out _ _ ?_ (fun hHeld => ?_)⟩
        · exact cells3W (keep HX2.out hc1)
        simp only [Act.put, List.setIfInBounds_toArray, List.set_cons_zero, List.set_cons_succ]
        refine wpAnyH_ready (rs := [2, 10]) (by kernel_rfl) (by simp) (AllReadyH.cons rfl (fun K hK => ?_) (AllReadyH.cons rfl (fun K hK => ?_) AllReadyH.nil))
        · refine step_valW (w' := v1) (by rfl) (some 67) rfl v (by have hv := (cells4 (keep HI2.out.sp.out hc1)).1.2.1; go_simp) (hK.out _ _ ?_ (fun hHeld => ?_))
          · exact cells3W (keep HX2.out hc1)
          simp only [Act.put, List.setIfInBounds_toArray, List.set_cons_zero, List.set_cons_succ]
          refine wpAnyH_ready (rs := [10]) (by kernel_rfl) (by simp) (AllReadyH.cons rfl (fun K hK => ?_) AllReadyH.nil)
          refine step_callWd (some 75) rfl (by rfl) 14 _ _ _ rfl Try.func14 (by decide) rfl #[.slice a1 l1 q1, .slice (some ⟨G, 0, none⟩) pn pn] (mapw2 _ _ _ _ _ rfl rfl) _ (HM1.out _ (HR1.out.below hc1) (HI2.out.grow hc1).tab) ?_
          rintro e v2 ⟨e1, g1, d1, rfl, hg1, ho1, hc2⟩
          refine ⟨_, rfl, hK.out _ _ ?_ (fun hHeld => ?_)⟩
          · exact cells3W (keep (keep HX2.out hc1) hc2)
          simp only [Act.put, List.setIfInBounds_toArray, List.set_cons_zero, List.set_cons_succ]
          refine wpAnyH_ready (rs := [14]) (by kernel_rfl) (by simp) (AllReadyH.cons rfl (fun K hK => ?_) AllReadyH.nil)
          refine step_callWd (some 79) rfl (by rfl) 14 _ _ _ rfl Try.func14 (by decide) rfl #[.slice a2 l2 q2, .slice (some ⟨G, 0, none⟩) pn pn] (mapw2 _ _ _ _ _ rfl rfl) _ (HM2.out _ ((HR2.out.below hc1).below hc2) ((HI2.out.grow hc1).grow hc2).tab) ?_
          rintro e v3 ⟨e2, g2, d2, rfl, hg2, ho2, hc3⟩
          refine ⟨_, rfl, hK.out _ _ ?_ (fun hHeld => ?_)⟩
          · exact cells3W (keep (keep (keep HX2.out hc1) hc2) hc3)
          simp only [Act.put, List.setIfInBounds_toArray, List.set_cons_zero, List.set_cons_succ]
          refine take_yes (i := 15) (some 80) (.agg #[.slice e0 Z0.length d0, .slice e1 Z1.length d1, .slice e2 Z2.length d2]) rfl rfl (by kernel_rfl) (by kernel_rfl) (by kernel_rfl) (fun _ _ _ h => h) (by rfl) ?_ (by assumption) ?_
          · intro W' hSw
            obtain ⟨hy0, hy1, hy2⟩ := hSw
            go_simp
          simp only [Act.put, List.setIfInBounds_toArray, List.set_cons_zero, List.set_cons_succ]
          refine wpAnyH_ready (rs := [16]) (by kernel_rfl) (by simp) (AllReadyH.cons rfl (fun K hK => ?_) AllReadyH.nil)
          have hcA := below_al v3 (.cells #[.slice e0 Z0.length d0, .slice e1 Z1.length d1, .slice e2 Z2.length d2] 44)
          refine step_valW (w' := v3.alloc (.cells #[.slice e0 Z0.length d0, .slice e1 Z1.length d1, .slice e2 Z2.length d2] 44)) (by rfl) (some 81) rfl (.slice (some ⟨v3.heap.size, 0, none⟩) 1 1) (by go_simp) (hK.out _ _ ?_ (fun hHeld => ?_))
          · exact cells3W (keep (keep (keep (keep HX2.out hc1) hc2) hc3) hcA)
          simp only [Act.put, List.setIfInBounds_toArray, List.set_cons_zero, List.set_cons_succ]
          have hHI := HI2.out
          obtain ⟨cells, A, f, cap, hts⟩ := hHI.sp.tri
          have HT4 := hide ((((hts.grow hc1).grow hc2).grow hc3).grow hcA)
          have HTS := hide hts
          have HNW := hide (news3X v3 (.slice e0 Z0.length d0) (.slice e1 Z1.length d1) (.slice e2 Z2.length d2))
          have hy1 := hc1.size
          have hy2 := hc2.size
          have hy3 := hc3.size
          have hlD := row_lt HI2.out.sp.res
          have hlX := row_lt HI2.out.sp.out
          have hX4 := keep (keep (keep (keep HX2.out hc1) hc2) hc3) hcA
          have hI4 := (((HI2.out.grow hc1).grow hc2).grow hc3).grow hcA
          refine wpAnyH_ready (rs := [17]) (by kernel_rfl) (by simp) (AllReadyH.cons rfl (fun K hK => ?_) AllReadyH.nil)
          refine step_appWd (some 82) rfl (by rfl) (.tmp 67) (.tmp 81) 28 (by rfl) (w.heap.size + 1 + 1 + 1) 44 i1 _ 3 72 Try.underlying28 hi1 hz0 hz1 hz2 (by rfl) (by decide) v (c1 + k) cells (by rfl) HT4.out.own ⟨v3.heap.size, 0, none⟩ 1 1 [.slice e0 Z0.length d0, .slice e1 Z1.length d1, .slice e2 Z2.length d2] (by rfl) (by rfl) HNW.out (by simp [Value.oneCell']) (by decide) (by unfold maxLen; omega) (by omega) (by simp; omega) (v3.heap.size + 1) (by simp) ?_
          intro gg cp W2 hown hgr hlies hglt
          have hXW := (hgr.block Y (row_lt hX4) (fun e => HXN.out e)).trans hX4
          have hVW := (hgr.block X (row_lt hI4.sp.out) (tri_own hI4.sp.tri hI4.sp.out (by decide))).trans hI4.sp.out
          have hbel := hc1.trans ((hc2.trans ((hc3.trans (hcA.mono hc3.size)).mono hc2.size)).mono hc1.size)
          have hpush := HTS.out.push (c0 := d0) (c1 := d1) (c2 := d2) hbel (by omega) (((ho0.grow hc2).grow hc3).grow hcA) ((ho1.grow hc3).grow hcA) (ho2.grow hcA) (fun _ => hg0) (fun _ => by omega) (fun _ => by omega) (fun hx _ => by have := ho0.ltX hx; omega) (fun hx _ => by have := ho0.ltX hx; omega) (fun hx _ => by have := ho1.ltX hx; omega) hown hgr (by simpa using hlies)
          rw [← hZ0.out, ← hZ1.out, ← hZ2.out] at hpush
          have HI5 := hide (HI2.out.push HLA.out.1 HLB.out.1 hlt hbel hgr hpush)
          refine hK.out _ _ ?_ (fun hHeld => ?_)
          · exact cells3W hXW
          simp only [Act.put, List.setIfInBounds_toArray, List.set_cons_zero, List.set_cons_succ]
          refine take_yes (i := 18) (some 83) (.pointer (some ⟨X, 0, none⟩)) rfl rfl (by kernel_rfl) (by kernel_rfl) (by kernel_rfl) (fun _ _ _ h => h) (by rfl) ?_ (by assumption) ?_
          · intro W' hSw
            obtain ⟨hy0, hy1, hy2⟩ := hSw
            go_simp
          simp only [Act.put, List.setIfInBounds_toArray, List.set_cons_zero, List.set_cons_succ]
          refine take_yes (i := 19) (some 84) (.pointer (some ⟨X, 1, none⟩)) rfl rfl (by kernel_rfl) (by kernel_rfl) (by kernel_rfl) (fun _ _ _ h => h) (by rfl) ?_ (by assumption) ?_
          · intro W' hSw
            obtain ⟨hy0, hy1, hy2⟩ := hSw
            go_simp
          simp only [Act.put, List.setIfInBounds_toArray, List.set_cons_zero, List.set_cons_succ]
          refine store_one_next (i := 20) rfl rfl (by kernel_rfl) (by rfl) 28 _ _ rfl X 1 (some ⟨gg, 0, none⟩) (c1 + k + 1) cp rfl rfl _ 32 hVW (by simp) Try.size28 ?_ (fun hHeld => ?_)
          · exact cells3W ((Below.heap_setCell _ _ _ _ HXV.out).trans hXW)
          refine wpAnyH_done (by kernel_rfl) ?_ _
          clear hown hgr hlies hglt hpush hXW hVW hX4 hI4 ho0 ho1 ho2 hg0 hg1 hg2 hc1 hc2 hc3 hcA hHeld HT4 HTS HNW hy1 hy2 hy3 hlD hlX hHI hts hbel
          go_wp2_with fail
          go_roundw
          case rel => exact ⟨k + 1, _, by omega, by go_num, HI5⟩
          case measure => simp [intOf]; omega
        · refine step_callWd (some 75) rfl (by rfl) 14 _ _ _ rfl Try.func14 (by decide) rfl #[.slice a1 l1 q1, .slice (some ⟨G, 0, none⟩) pn pn] (mapw2 _ _ _ _ _ rfl rfl) _ (HM1.out _ (HR1.out.below hc1) (HI2.out.grow hc1).tab) ?_
          rintro e v2 ⟨e1, g1, d1, rfl, hg1, ho1, hc2⟩
          refine ⟨_, rfl, hK.out _ _ ?_ (fun hHeld => ?_)⟩
          · exact cells3W (keep (keep HX2.out hc1) hc2)
          simp only [Act.put, List.setIfInBounds_toArray, List.set_cons_zero, List.set_cons_succ]
          refine wpAnyH_ready (rs := [2, 14]) (by kernel_rfl) (by simp) (AllReadyH.cons rfl (fun K hK => ?_) (AllReadyH.cons rfl (fun K hK => ?_) AllReadyH.nil))
          · refine step_valW (w' := v2) (by rfl) (some 67) rfl v (by have hv := (cells4 (keep (keep HI2.out.sp.out hc1) hc2)).1.2.1; go_simp) (hK.out _ _ ?_ (fun hHeld => ?_))
            · exact cells3W (keep (keep HX2.out hc1) hc2)
            simp only [Act.put, List.setIfInBounds_toArray, List.set_cons_zero, List.set_cons_succ]
            refine wpAnyH_ready (rs := [14]) (by kernel_rfl) (by simp) (AllReadyH.cons rfl (fun K hK => ?_) AllReadyH.nil)
            refine step_callWd (some 79) rfl (by rfl) 14 _ _ _ rfl Try.func14 (by decide) rfl #[.slice a2 l2 q2, .slice (some ⟨G, 0, none⟩) pn pn] (mapw2 _ _ _ _ _ rfl rfl) _ (HM2.out _ ((HR2.out.below hc1).below hc2) ((HI2.out.grow hc1).grow hc2).tab) ?_
            rintro e v3 ⟨e2, g2, d2, rfl, hg2, ho2, hc3⟩
            refine ⟨_, rfl, hK.out _ _ ?_ (fun hHeld => ?_)⟩
            · exact cells3W (keep (keep (keep HX2.out hc1) hc2) hc3)
            simp only [Act.put, List.setIfInBounds_toArray, List.set_cons_zero, List.set_cons_succ]
            refine take_yes (i := 15) (some 80) (.agg #[.slice e0 Z0.length d0, .slice e1 Z1.length d1, .slice e2 Z2.length d2]) rfl rfl (by kernel_rfl) (by kernel_rfl) (by kernel_rfl) (fun _ _ _ h => h) (by rfl) ?_ (by assumption) ?_
            · intro W' hSw
              obtain ⟨hy0, hy1, hy2⟩ := hSw
              go_simp
            simp only [Act.put, List.setIfInBounds_toArray, List.set_cons_zero, List.set_cons_succ]
            refine wpAnyH_ready (rs := [16]) (by kernel_rfl) (by simp) (AllReadyH.cons rfl (fun K hK => ?_) AllReadyH.nil)
            have hcA := below_al v3 (.cells #[.slice e0 Z0.length d0, .slice e1 Z1.length d1, .slice e2 Z2.length d2] 44)
            refine step_valW (w' := v3.alloc (.cells #[.slice e0 Z0.length d0, .slice e1 Z1.length d1, .slice e2 Z2.length d2] 44)) (by rfl) (some 81) rfl (.slice (some ⟨v3.heap.size, 0, none⟩) 1 1) (by go_simp) (hK.out _ _ ?_ (fun hHeld => ?_))
            · exact cells3W (keep (keep (keep (keep HX2.out hc1) hc2) hc3) hcA)
            simp only [Act.put, List.setIfInBounds_toArray, List.set_cons_zero, List.set_cons_succ]
            have hHI := HI2.out
            obtain ⟨cells, A, f, cap, hts⟩ := hHI.sp.tri
            have HT4 := hide ((((hts.grow hc1).grow hc2).grow hc3).grow hcA)
            have HTS := hide hts
            have HNW := hide (news3X v3 (.slice e0 Z0.length d0) (.slice e1 Z1.length d1) (.slice e2 Z2.length d2))
            have hy1 := hc1.size
            have hy2 := hc2.size
            have hy3 := hc3.size
            have hlD := row_lt HI2.out.sp.res
            have hlX := row_lt HI2.out.sp.out
            have hX4 := keep (keep (keep (keep HX2.out hc1) hc2) hc3) hcA
            have hI4 := (((HI2.out.grow hc1).grow hc2).grow hc3).grow hcA
            refine wpAnyH_ready (rs := [17]) (by kernel_rfl) (by simp) (AllReadyH.cons rfl (fun K hK => ?_) AllReadyH.nil)
            refine step_appWd (some 82) rfl (by rfl) (.tmp 67) (.tmp 81) 28 (by rfl) (w.heap.size + 1 + 1 + 1) 44 i1 _ 3 72 Try.underlying28 hi1 hz0 hz1 hz2 (by rfl) (by decide) v (c1 + k) cells (by rfl) HT4.out.own ⟨v3.heap.size, 0, none⟩ 1 1 [.slice e0 Z0.length d0, .slice e1 Z1.length d1, .slice e2 Z2.length d2] (by rfl) (by rfl) HNW.out (by simp [Value.oneCell']) (by decide) (by unfold maxLen; omega) (by omega) (by simp; omega) (v3.heap.size + 1) (by simp) ?_
            intro gg cp W2 hown hgr hlies hglt
            have hXW := (hgr.block Y (row_lt hX4) (fun e => HXN.out e)).trans hX4
            have hVW := (hgr.block X (row_lt hI4.sp.out) (tri_own hI4.sp.tri hI4.sp.out (by decide))).trans hI4.sp.out
            have hbel := hc1.trans ((hc2.trans ((hc3.trans (hcA.mono hc3.size)).mono hc2.size)).mono hc1.size)
            have hpush := HTS.out.push (c0 := d0) (c1 := d1) (c2 := d2) hbel (by omega) (((ho0.grow hc2).grow hc3).grow hcA) ((ho1.grow hc3).grow hcA) (ho2.grow hcA) (fun _ => hg0) (fun _ => by omega) (fun _ => by omega) (fun hx _ => by have := ho0.ltX hx; omega) (fun hx _ => by have := ho0.ltX hx; omega) (fun hx _ => by have := ho1.ltX hx; omega) hown hgr (by simpa using hlies)
            rw [← hZ0.out, ← hZ1.out, ← hZ2.out] at hpush
            have HI5 := hide (HI2.out.push HLA.out.1 HLB.out.1 hlt hbel hgr hpush)
            refine hK.out _ _ ?_ (fun hHeld => ?_)
            · exact cells3W hXW
            simp only [Act.put, List.setIfInBounds_toArray, List.set_cons_zero, List.set_cons_succ]
            refine take_yes (i := 18) (some 83) (.pointer (some ⟨X, 0, none⟩)) rfl rfl (by kernel_rfl) (by kernel_rfl) (by kernel_rfl) (fun _ _ _ h => h) (by rfl) ?_ (by assumption) ?_
            · intro W' hSw
              obtain ⟨hy0, hy1, hy2⟩ := hSw
              go_simp
            simp only [Act.put, List.setIfInBounds_toArray, List.set_cons_zero, List.set_cons_succ]
            refine take_yes (i := 19) (some 84) (.pointer (some ⟨X, 1, none⟩)) rfl rfl (by kernel_rfl) (by kernel_rfl) (by kernel_rfl) (fun _ _ _ h => h) (by rfl) ?_ (by assumption) ?_
            · intro W' hSw
              obtain ⟨hy0, hy1, hy2⟩ := hSw
              go_simp
            simp only [Act.put, List.setIfInBounds_toArray, List.set_cons_zero, List.set_cons_succ]
            refine store_one_next (i := 20) rfl rfl (by kernel_rfl) (by rfl) 28 _ _ rfl X 1 (some ⟨gg, 0, none⟩) (c1 + k + 1) cp rfl rfl _ 32 hVW (by simp) Try.size28 ?_ (fun hHeld => ?_)
            · exact cells3W ((Below.heap_setCell _ _ _ _ HXV.out).trans hXW)
            refine wpAnyH_done (by kernel_rfl) ?_ _
            clear hown hgr hlies hglt hpush hXW hVW hX4 hI4 ho0 ho1 ho2 hg0 hg1 hg2 hc1 hc2 hc3 hcA hHeld HT4 HTS HNW hy1 hy2 hy3 hlD hlX hHI hts hbel
            go_wp2_with fail
            go_roundw
            case rel => exact ⟨k + 1, _, by omega, by go_num, HI5⟩
            case measure => simp [intOf]; omega
          · refine step_callWd (some 79) rfl (by rfl) 14 _ _ _ rfl Try.func14 (by decide) rfl #[.slice a2 l2 q2, .slice (some ⟨G, 0, none⟩) pn pn] (mapw2 _ _ _ _ _ rfl rfl) _ (HM2.out _ ((HR2.out.below hc1).below hc2) ((HI2.out.grow hc1).grow hc2).tab) ?_
            rintro e v3 ⟨e2, g2, d2, rfl, hg2, ho2, hc3⟩
            refine ⟨_, rfl, hK.out _ _ ?_ (fun hHeld => ?_)⟩
            · exact cells3W (keep (keep (keep HX2.out hc1) hc2) hc3)
            simp only [Act.put, List.setIfInBounds_toArray, List.set_cons_zero, List.set_cons_succ]
            refine take_yes (i := 15) (some 80) (.agg #[.slice e0 Z0.length d0, .slice e1 Z1.length d1, .slice e2 Z2.length d2]) rfl rfl (by kernel_rfl) (by kernel_rfl) (by kernel_rfl) (fun _ _ _ h => h) (by rfl) ?_ (by assumption) ?_
            · intro W' hSw
              obtain ⟨hy0, hy1, hy2⟩ := hSw
              go_simp
            simp only [Act.put, List.setIfInBounds_toArray, List.set_cons_zero, List.set_cons_succ]
            refine wpAnyH_ready (rs := [2, 16]) (by kernel_rfl) (by simp) (AllReadyH.cons rfl (fun K hK => ?_) (AllReadyH.cons rfl (fun K hK => ?_) AllReadyH.nil))
            · refine step_valW (w' := v3) (by rfl) (some 67) rfl v (by have hv := (cells4 (keep (keep (keep HI2.out.sp.out hc1) hc2) hc3)).1.2.1; go_simp) (hK.out _ _ ?_ (fun hHeld => ?_))
              · exact cells3W (keep (keep (keep HX2.out hc1) hc2) hc3)
              simp only [Act.put, List.setIfInBounds_toArray, List.set_cons_zero, List.set_cons_succ]
              refine wpAnyH_ready (rs := [16]) (by kernel_rfl) (by simp) (AllReadyH.cons rfl (fun K hK => ?_) AllReadyH.nil)
              have hcA := below_al v3 (.cells #[.slice e0 Z0.length d0, .slice e1 Z1.length d1, .slice e2 Z2.length d2] 44)
              refine step_valW (w' := v3.alloc (.cells #[.slice e0 Z0.length d0, .slice e1 Z1.length d1, .slice e2 Z2.length d2] 44)) (by rfl) (some 81) rfl (.slice (some ⟨v3.heap.size, 0, none⟩) 1 1) (by go_simp) (hK.out _ _ ?_ (fun hHeld => ?_))
              · exact cells3W (keep (keep (keep (keep HX2.out hc1) hc2) hc3) hcA)
              simp only [Act.put, List.setIfInBounds_toArray, List.set_cons_zero, List.set_cons_succ]
              have hHI := HI2.out
              obtain ⟨cells, A, f, cap, hts⟩ := hHI.sp.tri
              have HT4 := hide ((((hts.grow hc1).grow hc2).grow hc3).grow hcA)
              have HTS := hide hts
              have HNW := hide (news3X v3 (.slice e0 Z0.length d0) (.slice e1 Z1.length d1) (.slice e2 Z2.length d2))
              have hy1 := hc1.size
              have hy2 := hc2.size
              have hy3 := hc3.size
              have hlD := row_lt HI2.out.sp.res
              have hlX := row_lt HI2.out.sp.out
              have hX4 := keep (keep (keep (keep HX2.out hc1) hc2) hc3) hcA
              have hI4 := (((HI2.out.grow hc1).grow hc2).grow hc3).grow hcA
              refine wpAnyH_ready (rs := [17]) (by kernel_rfl) (by simp) (AllReadyH.cons rfl (fun K hK => ?_) AllReadyH.nil)
              refine step_appWd (some 82) rfl (by rfl) (.tmp 67) (.tmp 81) 28 (by rfl) (w.heap.size + 1 + 1 + 1) 44 i1 _ 3 72 Try.underlying28 hi1 hz0 hz1 hz2 (by rfl) (by decide) v (c1 + k) cells (by rfl) HT4.out.own ⟨v3.heap.size, 0, none⟩ 1 1 [.slice e0 Z0.length d0, .slice e1 Z1.length d1, .slice e2 Z2.length d2] (by rfl) (by rfl) HNW.out (by simp [Value.oneCell']) (by decide) (by unfold maxLen; omega) (by omega) (by simp; omega) (v3.heap.size + 1) (by simp) ?_
              intro gg cp W2 hown hgr hlies hglt
              have hXW := (hgr.block Y (row_lt hX4) (fun e => HXN.out e)).trans hX4
              have hVW := (hgr.block X (row_lt hI4.sp.out) (tri_own hI4.sp.tri hI4.sp.out (by decide))).trans hI4.sp.out
              have hbel := hc1.trans ((hc2.trans ((hc3.trans (hcA.mono hc3.size)).mono hc2.size)).mono hc1.size)
              have hpush := HTS.out.push (c0 := d0) (c1 := d1) (c2 := d2) hbel (by omega) (((ho0.grow hc2).grow hc3).grow hcA) ((ho1.grow hc3).grow hcA) (ho2.grow hcA) (fun _ => hg0) (fun _ => by omega) (fun _ => by omega) (fun hx _ => by have := ho0.ltX hx; omega) (fun hx _ => by have := ho0.ltX hx; omega) (fun hx _ => by have := ho1.ltX hx; omega) hown hgr (by simpa using hlies)
              rw [← hZ0.out, ← hZ1.out, ← hZ2.out] at hpush
              have HI5 := hide (HI2.out.push HLA.out.1 HLB.out.1 hlt hbel hgr hpush)
              refine hK.out _ _ ?_ (fun hHeld => ?_)
              · exact cells3W hXW
              simp only [Act.put, List.setIfInBounds_toArray, List.set_cons_zero, List.set_cons_succ]
              refine take_yes (i := 18) (some 83) (.pointer (some ⟨X, 0, none⟩)) rfl rfl (by kernel_rfl) (by kernel_rfl) (by kernel_rfl) (fun _ _ _ h => h) (by rfl) ?_ (by assumption) ?_
              · intro W' hSw
                obtain ⟨hy0, hy1, hy2⟩ := hSw
                go_simp
              simp only [Act.put, List.setIfInBounds_toArray, List.set_cons_zero, List.set_cons_succ]
              refine take_yes (i := 19) (some 84) (.pointer (some ⟨X, 1, none⟩)) rfl rfl (by kernel_rfl) (by kernel_rfl) (by kernel_rfl) (fun _ _ _ h => h) (by rfl) ?_ (by assumption) ?_
              · intro W' hSw
                obtain ⟨hy0, hy1, hy2⟩ := hSw
                go_simp
              simp only [Act.put, List.setIfInBounds_toArray, List.set_cons_zero, List.set_cons_succ]
              refine store_one_next (i := 20) rfl rfl (by kernel_rfl) (by rfl) 28 _ _ rfl X 1 (some ⟨gg, 0, none⟩) (c1 + k + 1) cp rfl rfl _ 32 hVW (by simp) Try.size28 ?_ (fun hHeld => ?_)
              · exact cells3W ((Below.heap_setCell _ _ _ _ HXV.out).trans hXW)
              refine wpAnyH_done (by kernel_rfl) ?_ _
              clear hown hgr hlies hglt hpush hXW hVW hX4 hI4 ho0 ho1 ho2 hg0 hg1 hg2 hc1 hc2 hc3 hcA hHeld HT4 HTS HNW hy1 hy2 hy3 hlD hlX hHI hts hbel
              go_wp2_with fail
              go_roundw
              case rel => exact ⟨k + 1, _, by omega, by go_num, HI5⟩
              case measure => simp [intOf]; omega
            · have hcA := below_al v3 (.cells #[.slice e0 Z0.length d0, .slice e1 Z1.length d1, .slice e2 Z2.length d2] 44)
              refine step_valW (w' := v3.alloc (.cells #[.slice e0 Z0.length d0, .slice e1 Z1.length d1, .slice e2 Z2.length d2] 44)) (by rfl) (some 81) rfl (.slice (some ⟨v3.heap.size, 0, none⟩) 1 1) (by go_simp) (hK.out _ _ ?_ (fun hHeld => ?_))
              · exact cells3W (keep (keep (keep (keep HX2.out hc1) hc2) hc3) hcA)
              simp only [Act.put, List.setIfInBounds_toArray, List.set_cons_zero, List.set_cons_succ]
              refine wpAnyH_ready (rs := [2]) (by kernel_rfl) (by simp) (AllReadyH.cons rfl (fun K hK => ?_) AllReadyH.nil)
              refine step_valW (w' := v3.alloc (.cells #[.slice e0 Z0.length d0, .slice e1 Z1.length d1, .slice e2 Z2.length d2] 44)) (by rfl) (some 67) rfl v (by have hv := (cells4 (keep (keep (keep (keep HI2.out.sp.out hc1) hc2) hc3) hcA)).1.2.1; generalize v3.alloc (.cells #[.slice e0 Z0.length d0, .slice e1 Z1.length d1, .slice e2 Z2.length d2] 44) = Z at hv ⊢; go_simp) (hK.out _ _ ?_ (fun hHeld => ?_))
              · exact cells3W (keep (keep (keep (keep HX2.out hc1) hc2) hc3) hcA)
              simp only [Act.put, List.setIfInBounds_toArray, List.set_cons_zero, List.set_cons_succ]
              have hHI := HI2.out
              obtain ⟨cells, A, f, cap, hts⟩ := hHI.sp.tri
              have HT4 := hide ((((hts.grow hc1).grow hc2).grow hc3).grow hcA)
              have HTS := hide hts
              have HNW := hide (news3X v3 (.slice e0 Z0.length d0) (.slice e1 Z1.length d1) (.slice e2 Z2.length d2))
              have hy1 := hc1.size
              have hy2 := hc2.size
              have hy3 := hc3.size
              have hlD := row_lt HI2.out.sp.res
              have hlX := row_lt HI2.out.sp.out
              have hX4 := keep (keep (keep (keep HX2.out hc1) hc2) hc3) hcA
              have hI4 := (((HI2.out.grow hc1).grow hc2).grow hc3).grow hcA
              refine wpAnyH_ready (rs := [17]) (by kernel_rfl) (by simp) (AllReadyH.cons rfl (fun K hK => ?_) AllReadyH.nil)
              refine step_appWd (some 82) rfl (by rfl) (.tmp 67) (.tmp 81) 28 (by rfl) (w.heap.size + 1 + 1 + 1) 44 i1 _ 3 72 Try.underlying28 hi1 hz0 hz1 hz2 (by rfl) (by decide) v (c1 + k) cells (by rfl) HT4.out.own ⟨v3.heap.size, 0, none⟩ 1 1 [.slice e0 Z0.length d0, .slice e1 Z1.length d1, .slice e2 Z2.length d2] (by rfl) (by rfl) HNW.out (by simp [Value.oneCell']) (by decide) (by unfold maxLen; omega) (by omega) (by simp; omega) (v3.heap.size + 1) (by simp) ?_
              intro gg cp W2 hown hgr hlies hglt
              have hXW := (hgr.block Y (row_lt hX4) (fun e => HXN.out e)).trans hX4
              have hVW := (hgr.block X (row_lt hI4.sp.out) (tri_own hI4.sp.tri hI4.sp.out (by decide))).trans hI4.sp.out
              have hbel := hc1.trans ((hc2.trans ((hc3.trans (hcA.mono hc3.size)).mono hc2.size)).mono hc1.size)
              have hpush := HTS.out.push (c0 := d0) (c1 := d1) (c2 := d2) hbel (by omega) (((ho0.grow hc2).grow hc3).grow hcA) ((ho1.grow hc3).grow hcA) (ho2.grow hcA) (fun _ => hg0) (fun _ => by omega) (fun _ => by omega) (fun hx _ => by have := ho0.ltX hx; omega) (fun hx _ => by have := ho0.ltX hx; omega) (fun hx _ => by have := ho1.ltX hx; omega) hown hgr (by simpa using hlies)
              rw [← hZ0.out, ← hZ1.out, ← hZ2.out] at hpush
              have HI5 := hide (HI2.out.push HLA.out.1 HLB.out.1 hlt hbel hgr hpush)
              refine hK.out _ _ ?_ (fun hHeld => ?_)
              · exact cells3W hXW
              simp only [Act.put, List.setIfInBounds_toArray, List.set_cons_zero, List.set_cons_succ]
              refine take_yes (i := 18) (some 83) (.pointer (some ⟨X, 0, none⟩)) rfl rfl (by kernel_rfl) (by kernel_rfl) (by kernel_rfl) (fun _ _ _ h => h) (by rfl) ?_ (by assumption) ?_
              · intro W' hSw
                obtain ⟨hy0, hy1, hy2⟩ := hSw
                go_simp
              simp only [Act.put, List.setIfInBounds_toArray, List.set_cons_zero, List.set_cons_succ]
              refine take_yes (i := 19) (some 84) (.pointer (some ⟨X, 1, none⟩)) rfl rfl (by kernel_rfl) (by kernel_rfl) (by kernel_rfl) (fun _ _ _ h => h) (by rfl) ?_ (by assumption) ?_
              · intro W' hSw
                obtain ⟨hy0, hy1, hy2⟩ := hSw
                go_simp
              simp only [Act.put, List.setIfInBounds_toArray, List.set_cons_zero, List.set_cons_succ]
              refine store_one_next (i := 20) rfl rfl (by kernel_rfl) (by rfl) 28 _ _ rfl X 1 (some ⟨gg, 0, none⟩) (c1 + k + 1) cp rfl rfl _ 32 hVW (by simp) Try.size28 ?_ (fun hHeld => ?_)
              · exact cells3W ((Below.heap_setCell _ _ _ _ HXV.out).trans hXW)
              refine wpAnyH_done (by kernel_rfl) ?_ _
              clear hown hgr hlies hglt hpush hXW hVW hX4 hI4 ho0 ho1 ho2 hg0 hg1 hg2 hc1 hc2 hc3 hcA hHeld HT4 HTS HNW hy1 hy2 hy3 hlD hlX hHI hts hbel
              go_wp2_with fail
              go_roundw
              case rel => exact ⟨k + 1, _, by omega, by go_num, HI5⟩
              case measure => simp [intOf]; omega
end Go.Proofs.Ytoijlepjnpdlkaa
