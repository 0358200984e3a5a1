/- Contracts that the proof stands on, one behind the other. -/
import Derived.Test.YtbhhpfiolombcaaP11
import Derived.BigFrame
/- flowSteps of the program. -/
namespace Go.Proofs.Ytbhhpfiolombcaa
open Go.RowKit
set_option maxRecDepth 10000

/-- How flowSteps ends. -/
def FlowEnd (g : Bool) (p : Int) (n : Nat) (L : List (List Int)) (s t : Int) (w : World) (e : Ending) (w' : World) : Prop :=
  ∃ p' a m c s' t', e = .returned (.tuple #[.agg #[.int .i64 p', .slice a m c, .int .i64 s', .int .i64 t'], .bool g]) ∧
    Hid (g = true → p' = p ∧ m = n ∧ c = n ∧ s' = s ∧ t' = t ∧ ∃ B, a = some ⟨B, 0, none⟩ ∧ w.heap.size ≤ B ∧ PartS w' B (3 * n) (3 * n) L) ∧ Below w.heap.size w w'

theorem flowEnd_no {p : Int} {n : Nat} {L : List (List Int)} {s t : Int} {w w' : World} (h : flowOk p n L s t = false) (hb : Below w.heap.size w w') :
    FlowEnd (flowOk p n L s t) p n L s t w (.returned (.tuple #[.agg #[.int .i64 0, .slice none 0 0, .int .i64 0, .int .i64 0], .bool false])) w' :=
  ⟨0, none, 0, 0, 0, 0, by rw [h], by rw [h]; intro e; simp at e, hb⟩

theorem flow_no1 {p : Int} {n : Nat} {L : List (List Int)} {s t : Int} (h : wayOk p n L s t = false) : flowOk p n L s t = false := by unfold flowOk; rw [h]; rfl
theorem flow_no2 {p : Int} {n : Nat} {L : List (List Int)} {s t : Int} (h : s = t) : flowOk p n L s t = false := by unfold flowOk; simp [h]
theorem flow_no3 {p : Int} {n : Nat} {L : List (List Int)} {s t : Int} (h : ¬ ((wayP p n L s t).length : Int) = p) : flowOk p n L s t = false := by unfold flowOk; simp [h]
theorem flow_no4 {p : Int} {n : Nat} {L : List (List Int)} {s t : Int} (h : ¬ (wayT p n L s t).length = n) : flowOk p n L s t = false := by unfold flowOk; simp [h]
theorem flow_no5 {p : Int} {n : Nat} {L : List (List Int)} {s t : Int} (h : anyK (spoilL L s t) n = true) : flowOk p n L s t = false := by unfold flowOk; simp [h]
theorem flow_yes {p : Int} {n : Nat} {L : List (List Int)} {s t : Int} (h1 : wayOk p n L s t = true) (h2 : ¬ s = t) (h3 : ((wayP p n L s t).length : Int) = p) (h4 : (wayT p n L s t).length = n) (h5 : anyK (spoilL L s t) n = false) : flowOk p n L s t = true := by
  unfold flowOk; simp [h1, h2, h3, h4, h5]

set_option maxHeartbeats 4000000 in
theorem flowSteps_any (p s t : Int) (a : Option Addr) (n c : Nat) (L : List (List Int)) (w : World) (h : Lists w a (3 * n) L) (hs : sizeN n L ≤ 1048576) :
    Calls Try.prog 21 #[.agg #[.int .i64 p, .slice a n c, .int .i64 s, .int .i64 t]] w fun e w' => FlowEnd (flowOk p n L s t) p n L s t w e w' := by
  have HA := hide (below_two w (.cells #[.int .i64 p, .slice a n c, .int .i64 s, .int .i64 t] 28) (.cells #[.int .i64 0, .slice none 0 0, .int .i64 0, .int .i64 0] 47))
  have HT := hide (waysOf_any p s t a n c L _ (h.below HA.out) hs)
  have HP0 : Hid (((w.alloc (.cells #[.int .i64 p, .slice a n c, .int .i64 s, .int .i64 t] 28)).alloc (.cells #[.int .i64 0, .slice none 0 0, .int .i64 0, .int .i64 0] 47)).heap[w.heap.size]? = some (.cells #[.int .i64 p, .slice a n c, .int .i64 s, .int .i64 t] 28 (0, 0))) :=
    keep (heap_alloc_new _ _) (below_al _ _)
  have HR0 : Hid (((w.alloc (.cells #[.int .i64 p, .slice a n c, .int .i64 s, .int .i64 t] 28)).alloc (.cells #[.int .i64 0, .slice none 0 0, .int .i64 0, .int .i64 0] 47)).heap[w.heap.size + 1]? = some (.cells #[.int .i64 0, .slice none 0 0, .int .i64 0, .int .i64 0] 47 (0, 0))) := by
    have := heap_alloc_new (w.alloc (.cells #[.int .i64 p, .slice a n c, .int .i64 s, .int .i64 t] 28)) (.cells #[.int .i64 0, .slice none 0 0, .int .i64 0, .int .i64 0] 47)
    rw [show (w.alloc (.cells #[.int .i64 p, .slice a n c, .int .i64 s, .int .i64 t] 28)).heap.size = w.heap.size + 1 by simp] at this
    exact this
  clear h
  go_enter Try.func21, Try.ntmps21
  go_wp2_with fail
  refine HT.out.mono ?_
  rintro e w2 ⟨p', a', m, c', F, K, rfl, hx, hb⟩
  have HB2 := hide (HA.out.trans (hb.mono HA.out.size))
  have HP2 := hide (keep HP0.out hb)
  have HR2 := hide (keep HR0.out hb)
  have hlr : w.heap.size + 1 < w2.heap.size := (Array.getElem?_eq_some_iff.mp HR2.out).1
  have hlp : w.heap.size < w2.heap.size := by omega
  obtain ⟨⟨hr0, hr1, hr2, hr3⟩, hf0, hf1, hf2, hf3⟩ := cells4 HR2.out
  obtain ⟨⟨hp0, hp1, hp2, hp3⟩, _⟩ := cells4 HP2.out
  clear hb HT HA HP0 HR0
  by_cases hg : wayOk p n L s t = true
  rotate_left
  · have hg' : wayOk p n L s t = false := by simpa using hg
    have HN := hide (flow_no1 hg')
    rw [hg']
    clear hg hg' hx
    go_wp2_with fail
    refine bodyPost_ret (v := .tuple #[.agg #[.int .i64 0, .slice none 0 0, .int .i64 0, .int .i64 0], .bool false]) (by simp [results, Try.results21, go_sem, hr0, hr1, hr2, hr3, hlr]) rfl ?_
    exact flowEnd_no HN.out ((below_set4 HB2.out (by simp) _ _ _ _).alloc (by have := HB2.out.size; simp [World.setCell]; omega) _)
  obtain ⟨e1, e2, e3, e4, e5, B, rfl, hBs, hps⟩ := hx.out hg
  subst e1 e2 e3
  have HG := hide hg
  rw [hg]
  by_cases hst : s = t
  · have HN := hide (flow_no2 (p := p') (n := c') (L := L) hst)
    subst hst
    clear hx hps hg
    have hdd : (s == s) = true := by simp
    go_wp2_with fail
    refine bodyPost_ret (v := .tuple #[.agg #[.int .i64 0, .slice none 0 0, .int .i64 0, .int .i64 0], .bool false]) (by simp [results, Try.results21, go_sem, hr0, hr1, hr2, hr3, hlr]) rfl ?_
    exact flowEnd_no HN.out ((below_set4 HB2.out (by simp) _ _ _ _).alloc (by have := HB2.out.size; simp [World.setCell]; omega) _)
  have hdd : (s == t) = false := by simpa using hst
  have HST := hide hst
  obtain ⟨hgn, hsr, htr⟩ := wayOk_parts hg
  obtain ⟨⟨hq1, hq2⟩, hn24, _⟩ := netOk_parts hgn
  have HF := hide (fthM_lt c' L s)
  have HK := hide (bckM_lt c' L t)
  rw [← e4] at HF
  rw [← e5] at HK
  obtain ⟨P, rfl⟩ : ∃ P : Nat, p' = (P : Int) := ⟨p'.toNat, by omega⟩
  have HPA := hide (pl_all hg)
  have HTA := hide (tr_all hg)
  have HSA := hide (spoil_eq hg)
  rw [← e4, ← e5] at HPA HTA
  have hA1 := below_al w2 (.cells #[.int .i64 (P : Int), .slice (some ⟨B, 0, none⟩) c' c', .int .u16 (F : Int), .int .u16 (K : Int)] 61)
  have hA2 := below_al (w2.alloc (.cells #[.int .i64 (P : Int), .slice (some ⟨B, 0, none⟩) c' c', .int .u16 (F : Int), .int .u16 (K : Int)] 61)) (.cells #[.int .i64 (P : Int), .slice (some ⟨B, 0, none⟩) c' c', .int .i64 s, .int .i64 t] 47)
  have HX := hide (keep (heap_alloc_new w2 (.cells #[.int .i64 (P : Int), .slice (some ⟨B, 0, none⟩) c' c', .int .u16 (F : Int), .int .u16 (K : Int)] 61)) hA2)
  have hy := heap_alloc_new (w2.alloc (.cells #[.int .i64 (P : Int), .slice (some ⟨B, 0, none⟩) c' c', .int .u16 (F : Int), .int .u16 (K : Int)] 61)) (.cells #[.int .i64 (P : Int), .slice (some ⟨B, 0, none⟩) c' c', .int .i64 s, .int .i64 t] 47)
  rw [show (w2.alloc (.cells #[.int .i64 (P : Int), .slice (some ⟨B, 0, none⟩) c' c', .int .u16 (F : Int), .int .u16 (K : Int)] 61)).heap.size = w2.heap.size + 1 by simp] at hy
  have HY := hide hy
  have HAA := hide (hA1.trans (hA2.mono hA1.size))
  have HPS := hide (hps.grow HAA.out)
  have HBs := hide (show w.heap.size + 1 + 1 ≤ B by simpa using hBs)
  have HE4 := hide e4
  have HE5 := hide e5
  clear hx hst hps hA1 hA2 hy hg e4 e5 hBs
  go_wp2_with fail
  clear hr0 hr1 hr2 hr3 hf0 hf1 hf2 hf3 hp0 hp1 hp2 hp3
  obtain ⟨V, hV⟩ : ∃ V, Hid ((w2.alloc (.cells #[.int .i64 (P : Int), .slice (some ⟨B, 0, none⟩) c' c', .int .u16 (F : Int), .int .u16 (K : Int)] 61)).alloc (.cells #[.int .i64 (P : Int), .slice (some ⟨B, 0, none⟩) c' c', .int .i64 s, .int .i64 t] 47) = V) := ⟨_, rfl⟩
  have HBV := hide (HB2.out.trans (HAA.out.mono HB2.out.size))
  have HRV := hide (keep HR2.out HAA.out)
  rw [hV.out] at HX HY HPS HBV HRV ⊢
  obtain ⟨X, hX⟩ : ∃ X, Hid (w2.heap.size = X) := ⟨_, rfl⟩
  rw [hX.out] at HX HY hlr hlp ⊢
  clear HAA HB2 HR2 hV hX
  obtain ⟨U, hU⟩ : ∃ U : Nat, Hid ((2 ^ P - 1 : Nat) = U) := ⟨2 ^ P - 1, rfl⟩
  have HAL := hide (fun W => all_any P (some ⟨B, 0, none⟩) c' c' W (by omega) (by omega))
  rw [hU.out] at HPA HAL
  have HPL := hide (fun W => wplaces_any (P : Int) (some ⟨B, 0, none⟩) c' c' F K W HF.out HK.out)
  by_cases hpl : F &&& K = U
  rotate_left
  · have HN := hide (flow_no3 (fun e => hpl (HPA.out.mpr e)))
    obtain ⟨M, hM⟩ : ∃ M, Hid (F &&& K = M) := ⟨_, rfl⟩
    rw [hM.out] at HPL hpl
    have hne : (((M : Nat) : Int) != ((U : Nat) : Int)) = true := by simp; omega
    obtain ⟨⟨hx0, hx1, hx2, hx3⟩, _⟩ := cells4 HX.out
    clear HPA HTA HSA hpl
    refine wp_region_held_drew (S := fun W => W.cell? ⟨X, 0, none⟩ = some (.int .i64 (P : Int)) ∧ W.cell? ⟨X, 1, none⟩ = some (.slice (some ⟨B, 0, none⟩) c' c') ∧ W.cell? ⟨X, 2, none⟩ = some (.int .u16 (F : Int)) ∧ W.cell? ⟨X, 3, none⟩ = some (.int .u16 (K : Int))) (by kernel_rfl) ?_ (fun hHeld => ?_)
    · exact (cells4 (keep HX.out (Below.refl _ V).drew)).1
    refine take_yes (i := 0) (some 34) (.agg #[.int .i64 (P : Int), .slice (some ⟨B, 0, none⟩) c' c', .int .u16 (F : Int), .int .u16 (K : Int)]) rfl rfl (by kernel_rfl) (by kernel_rfl) (by kernel_rfl) (fun _ _ _ h => h) (by rfl) ?_ (by assumption) ?_
    · intro W hSw
      obtain ⟨hz0, hz1, hz2, hz3⟩ := hSw
      go_simp
    simp only [Act.put, List.setIfInBounds_toArray, List.set_cons_zero, List.set_cons_succ]
    refine take_yes (i := 2) (some 36) (.pointer (some ⟨X, 0, none⟩)) rfl rfl (by kernel_rfl) (by kernel_rfl) (by kernel_rfl) (fun _ _ _ h => h) (by rfl) ?_ (by assumption) ?_
    · intro W hSw
      obtain ⟨hz0, hz1, hz2, hz3⟩ := hSw
      go_simp
    simp only [Act.put, List.setIfInBounds_toArray, List.set_cons_zero, List.set_cons_succ]
    refine take_yes (i := 3) (some 37) (.agg #[.int .i64 (P : Int), .slice (some ⟨B, 0, none⟩) c' c']) rfl rfl (by kernel_rfl) (by kernel_rfl) (by kernel_rfl) (fun _ _ _ h => h) (by rfl) ?_ (by assumption) ?_
    · intro W hSw
      obtain ⟨hz0, hz1, hz2, hz3⟩ := hSw
      go_simp
    simp only [Act.put, List.setIfInBounds_toArray, List.set_cons_zero, List.set_cons_succ]
    refine call_next (i := 1) (some 35) rfl rfl (by kernel_rfl) (by rfl) 30 _ _ _ rfl Try.func30 (by decide) rfl #[.agg #[.int .i64 (P : Int), .slice (some ⟨B, 0, none⟩) c' c', .int .u16 (F : Int), .int .u16 (K : Int)]] (mapw1 _ _ _ rfl) _ (HPL.out _) ?_
    rintro e v1 ⟨rfl, hb1⟩
    refine ⟨_, rfl, ?_, fun hHeld => ?_⟩
    · exact (cells4 (keep (keep HX.out (Below.refl _ V).drew) hb1)).1
    simp only [Act.put, List.setIfInBounds_toArray, List.set_cons_zero, List.set_cons_succ]
    refine call_next (i := 4) (some 38) rfl rfl (by kernel_rfl) (by rfl) 45 _ _ _ rfl Try.func45 (by decide) rfl #[.agg #[.int .i64 (P : Int), .slice (some ⟨B, 0, none⟩) c' c']] (mapw1 _ _ _ rfl) _ (HAL.out _) ?_
    rintro e v2 ⟨rfl, hb2⟩
    refine ⟨_, rfl, ?_, fun hHeld => ?_⟩
    · exact (cells4 (keep (keep (keep HX.out (Below.refl _ V).drew) hb1) hb2)).1
    simp only [Act.put, List.setIfInBounds_toArray, List.set_cons_zero, List.set_cons_succ]
    refine take_yes (i := 5) (some 39) (.bool true) rfl rfl (by kernel_rfl) (by kernel_rfl) (by kernel_rfl) (fun _ _ _ h => h) (by rfl) ?_ (by assumption) ?_
    · intro W hSw
      obtain ⟨hz0, hz1, hz2, hz3⟩ := hSw
      go_simp
    simp only [Act.put, List.setIfInBounds_toArray, List.set_cons_zero, List.set_cons_succ]
    refine take_yes (i := 6) (some 40) (.bool true) rfl rfl (by kernel_rfl) (by kernel_rfl) (by kernel_rfl) (fun _ _ _ h => h) (by rfl) ?_ (by assumption) ?_
    · intro W hSw
      obtain ⟨hz0, hz1, hz2, hz3⟩ := hSw
      go_simp
    simp only [Act.put, List.setIfInBounds_toArray, List.set_cons_zero, List.set_cons_succ]
    refine take_no (i := 7) (some 41) rfl rfl (by kernel_rfl) (by kernel_rfl) (by kernel_rfl) (fun _ _ _ h => h) (by rfl) (by assumption) ?_
    simp only [Act.put, List.setIfInBounds_toArray, List.set_cons_zero, List.set_cons_succ]
    refine take_no (i := 8) (some 42) rfl rfl (by kernel_rfl) (by kernel_rfl) (by kernel_rfl) (fun _ _ _ h => h) (by rfl) (by assumption) ?_
    simp only [Act.put, List.setIfInBounds_toArray, List.set_cons_zero, List.set_cons_succ]
    refine take_no (i := 9) (some 43) rfl rfl (by kernel_rfl) (by kernel_rfl) (by kernel_rfl) (fun _ _ _ h => h) (by rfl) (by assumption) ?_
    simp only [Act.put, List.setIfInBounds_toArray, List.set_cons_zero, List.set_cons_succ]
    refine take_no (i := 10) (some 44) rfl rfl (by kernel_rfl) (by kernel_rfl) (by kernel_rfl) (fun _ _ _ h => h) (by rfl) (by assumption) ?_
    simp only [Act.put, List.setIfInBounds_toArray, List.set_cons_zero, List.set_cons_succ]
    refine take_no (i := 11) (some 45) rfl rfl (by kernel_rfl) (by kernel_rfl) (by kernel_rfl) (fun _ _ _ h => h) (by rfl) (by assumption) ?_
    simp only [Act.put, List.setIfInBounds_toArray, List.set_cons_zero, List.set_cons_succ]
    refine take_no (i := 12) (some 46) rfl rfl (by kernel_rfl) (by kernel_rfl) (by kernel_rfl) (fun _ _ _ h => h) (by rfl) (by assumption) ?_
    simp only [Act.put, List.setIfInBounds_toArray, List.set_cons_zero, List.set_cons_succ]
    refine take_yes (i := 13) (some 47) (.bool true) rfl rfl (by kernel_rfl) (by kernel_rfl) (by kernel_rfl) (fun _ _ _ h => h) (by rfl) ?_ (by assumption) ?_
    · intro W hSw
      obtain ⟨hz0, hz1, hz2, hz3⟩ := hSw
      go_simp
    simp only [Act.put, List.setIfInBounds_toArray, List.set_cons_zero, List.set_cons_succ]
    refine wpAnyH_done (by kernel_rfl) ?_ _
    obtain ⟨⟨hr0, hr1, hr2, hr3⟩, hf0, hf1, hf2, hf3⟩ := cells4 (keep (keep (keep HRV.out (Below.refl _ V).drew) hb1) hb2)
    have HBX := hide (HBV.out.drew.trans ((hb1.trans (hb2.mono hb1.size)).mono HBV.out.drew.size))
    clear hb1 hb2 hHeld
    go_wp2_with fail
    refine bodyPost_ret (v := .tuple #[.agg #[.int .i64 0, .slice none 0 0, .int .i64 0, .int .i64 0], .bool false]) (by simp [results, Try.results21, go_sem, hr0, hr1, hr2, hr3]) rfl ?_
    exact flowEnd_no HN.out (below_set4 HBX.out (by simp) _ _ _ _)
  have heq : (((U : Nat) : Int) != ((U : Nat) : Int)) = false := by simp
  have HPA2 := hide (HPA.out.mp hpl)
  rw [hpl] at HPL
  have HCM := hide (fun W (hW : PartS W B (3 * c') (3 * c') L) => containsM_any (P : Int) (F : Int) (K : Int) (some ⟨B, 0, none⟩) c' c' _ B c' L W hW hn24 (fun W' k hk => misses_any (P : Int) (some ⟨B, 0, none⟩) c' c' F K _ _ _ W' (maskL_lt _ fun x hx => by have := (netOk_mem hgn hk).1 x hx; omega) (maskL_lt _ fun x hx => by have := (netOk_mem hgn hk).2.1 x hx; omega) HF.out HK.out))
  rw [HTA.out] at HCM
  obtain ⟨q, hq⟩ : ∃ q, Hid (decide ((wayT (P : Int) c' L s t).length = c') = q) := ⟨_, rfl⟩
  rw [hq.out] at HCM
  clear HPA hpl
  refine wp_region_held_drew (S := fun W => W.cell? ⟨X, 0, none⟩ = some (.int .i64 (P : Int)) ∧ W.cell? ⟨X, 1, none⟩ = some (.slice (some ⟨B, 0, none⟩) c' c') ∧ W.cell? ⟨X, 2, none⟩ = some (.int .u16 (F : Int)) ∧ W.cell? ⟨X, 3, none⟩ = some (.int .u16 (K : Int))) (by kernel_rfl) ?_ (fun hHeld => ?_)
  · exact (cells4 (keep HX.out (Below.refl _ V).drew)).1
  refine take_yes (i := 0) (some 34) (.agg #[.int .i64 (P : Int), .slice (some ⟨B, 0, none⟩) c' c', .int .u16 (F : Int), .int .u16 (K : Int)]) rfl rfl (by kernel_rfl) (by kernel_rfl) (by kernel_rfl) (fun _ _ _ h => h) (by rfl) ?_ (by assumption) ?_
  · intro W hSw
    obtain ⟨hz0, hz1, hz2, hz3⟩ := hSw
    go_simp
  simp only [Act.put, List.setIfInBounds_toArray, List.set_cons_zero, List.set_cons_succ]
  refine take_yes (i := 2) (some 36) (.pointer (some ⟨X, 0, none⟩)) rfl rfl (by kernel_rfl) (by kernel_rfl) (by kernel_rfl) (fun _ _ _ h => h) (by rfl) ?_ (by assumption) ?_
  · intro W hSw
    obtain ⟨hz0, hz1, hz2, hz3⟩ := hSw
    go_simp
  simp only [Act.put, List.setIfInBounds_toArray, List.set_cons_zero, List.set_cons_succ]
  refine take_yes (i := 3) (some 37) (.agg #[.int .i64 (P : Int), .slice (some ⟨B, 0, none⟩) c' c']) rfl rfl (by kernel_rfl) (by kernel_rfl) (by kernel_rfl) (fun _ _ _ h => h) (by rfl) ?_ (by assumption) ?_
  · intro W hSw
    obtain ⟨hz0, hz1, hz2, hz3⟩ := hSw
    go_simp
  simp only [Act.put, List.setIfInBounds_toArray, List.set_cons_zero, List.set_cons_succ]
  refine call_next (i := 1) (some 35) rfl rfl (by kernel_rfl) (by rfl) 30 _ _ _ rfl Try.func30 (by decide) rfl #[.agg #[.int .i64 (P : Int), .slice (some ⟨B, 0, none⟩) c' c', .int .u16 (F : Int), .int .u16 (K : Int)]] (mapw1 _ _ _ rfl) _ (HPL.out _) ?_
  rintro e v1 ⟨rfl, hb1⟩
  refine ⟨_, rfl, ?_, fun hHeld => ?_⟩
  · exact (cells4 (keep (keep HX.out (Below.refl _ V).drew) hb1)).1
  simp only [Act.put, List.setIfInBounds_toArray, List.set_cons_zero, List.set_cons_succ]
  refine call_next (i := 4) (some 38) rfl rfl (by kernel_rfl) (by rfl) 45 _ _ _ rfl Try.func45 (by decide) rfl #[.agg #[.int .i64 (P : Int), .slice (some ⟨B, 0, none⟩) c' c']] (mapw1 _ _ _ rfl) _ (HAL.out _) ?_
  rintro e v2 ⟨rfl, hb2⟩
  refine ⟨_, rfl, ?_, fun hHeld => ?_⟩
  · exact (cells4 (keep (keep (keep HX.out (Below.refl _ V).drew) hb1) hb2)).1
  simp only [Act.put, List.setIfInBounds_toArray, List.set_cons_zero, List.set_cons_succ]
  refine take_yes (i := 5) (some 39) (.bool false) rfl rfl (by kernel_rfl) (by kernel_rfl) (by kernel_rfl) (fun _ _ _ h => h) (by rfl) ?_ (by assumption) ?_
  · intro W hSw
    obtain ⟨hz0, hz1, hz2, hz3⟩ := hSw
    go_simp
  simp only [Act.put, List.setIfInBounds_toArray, List.set_cons_zero, List.set_cons_succ]
  refine take_yes (i := 6) (some 40) (.bool false) rfl rfl (by kernel_rfl) (by kernel_rfl) (by kernel_rfl) (fun _ _ _ h => h) (by rfl) ?_ (by assumption) ?_
  · intro W hSw
    obtain ⟨hz0, hz1, hz2, hz3⟩ := hSw
    go_simp
  simp only [Act.put, List.setIfInBounds_toArray, List.set_cons_zero, List.set_cons_succ]
  refine take_yes (i := 7) (some 41) (.pointer (some ⟨X, 0, none⟩)) rfl rfl (by kernel_rfl) (by kernel_rfl) (by kernel_rfl) (fun _ _ _ h => h) (by rfl) ?_ (by assumption) ?_
  · intro W hSw
    obtain ⟨hz0, hz1, hz2, hz3⟩ := hSw
    go_simp
  simp only [Act.put, List.setIfInBounds_toArray, List.set_cons_zero, List.set_cons_succ]
  refine take_yes (i := 8) (some 42) (.pointer (some ⟨X, 1, none⟩)) rfl rfl (by kernel_rfl) (by kernel_rfl) (by kernel_rfl) (fun _ _ _ h => h) (by rfl) ?_ (by assumption) ?_
  · intro W hSw
    obtain ⟨hz0, hz1, hz2, hz3⟩ := hSw
    go_simp
  simp only [Act.put, List.setIfInBounds_toArray, List.set_cons_zero, List.set_cons_succ]
  refine take_yes (i := 9) (some 43) (.slice (some ⟨B, 0, none⟩) c' c') rfl rfl (by kernel_rfl) (by kernel_rfl) (by kernel_rfl) (fun _ _ _ h => h) (by rfl) ?_ (by assumption) ?_
  · intro W hSw
    obtain ⟨hz0, hz1, hz2, hz3⟩ := hSw
    go_simp
  simp only [Act.put, List.setIfInBounds_toArray, List.set_cons_zero, List.set_cons_succ]
  refine take_yes (i := 10) (some 44) (.agg #[.int .i64 (P : Int), .slice (some ⟨B, 0, none⟩) c' c', .int .u16 (F : Int), .int .u16 (K : Int)]) rfl rfl (by kernel_rfl) (by kernel_rfl) (by kernel_rfl) (fun _ _ _ h => h) (by rfl) ?_ (by assumption) ?_
  · intro W hSw
    obtain ⟨hz0, hz1, hz2, hz3⟩ := hSw
    go_simp
  simp only [Act.put, List.setIfInBounds_toArray, List.set_cons_zero, List.set_cons_succ]
  refine take_yes (i := 11) (some 45) (.func (.func 47) #[.agg #[.int .i64 (P : Int), .slice (some ⟨B, 0, none⟩) c' c', .int .u16 (F : Int), .int .u16 (K : Int)]] #[]) rfl rfl (by kernel_rfl) (by kernel_rfl) (by kernel_rfl) (fun _ _ _ h => h) (by rfl) ?_ (by assumption) ?_
  · intro W hSw
    obtain ⟨hz0, hz1, hz2, hz3⟩ := hSw
    go_simp
  simp only [Act.put, List.setIfInBounds_toArray, List.set_cons_zero, List.set_cons_succ]
  refine call_next (i := 12) (some 46) rfl rfl (by kernel_rfl) (by rfl) 46 _ _ _ rfl Try.func46 (by decide) rfl #[.slice (some ⟨B, 0, none⟩) c' c', .func (.func 47) #[.agg #[.int .i64 (P : Int), .slice (some ⟨B, 0, none⟩) c' c', .int .u16 (F : Int), .int .u16 (K : Int)]] #[]] (mapw2 _ _ _ _ _ rfl rfl) _ (HCM.out _ (((HPS.out.grow (Below.refl _ V).drew).grow hb1).grow hb2)) ?_
  rintro e v3 ⟨rfl, hb3⟩
  refine ⟨_, rfl, ?_, fun hHeld => ?_⟩
  · exact (cells4 (keep (keep (keep (keep HX.out (Below.refl _ V).drew) hb1) hb2) hb3)).1
  simp only [Act.put, List.setIfInBounds_toArray, List.set_cons_zero, List.set_cons_succ]
  refine take_yes (i := 13) (some 47) (.bool (!q)) rfl rfl (by kernel_rfl) (by kernel_rfl) (by kernel_rfl) (fun _ _ _ h => h) (by rfl) ?_ (by assumption) ?_
  · intro W hSw
    obtain ⟨hz0, hz1, hz2, hz3⟩ := hSw
    go_simp
  simp only [Act.put, List.setIfInBounds_toArray, List.set_cons_zero, List.set_cons_succ]
  refine wpAnyH_done (by kernel_rfl) ?_ _
  have HBX := hide (HBV.out.drew.trans ((hb1.trans ((hb2.trans (hb3.mono hb2.size)).mono hb1.size)).mono HBV.out.drew.size))
  have HX3 := hide (keep (keep (keep (keep HX.out (Below.refl _ V).drew) hb1) hb2) hb3)
  have HY3 := hide (keep (keep (keep (keep HY.out (Below.refl _ V).drew) hb1) hb2) hb3)
  have HR3 := hide (keep (keep (keep (keep HRV.out (Below.refl _ V).drew) hb1) hb2) hb3)
  have HPS3 := hide ((((HPS.out.grow (Below.refl _ V).drew).grow hb1).grow hb2).grow hb3)
  obtain ⟨⟨hr0, hr1, hr2, hr3⟩, hf0, hf1, hf2, hf3⟩ := cells4 HR3.out
  obtain ⟨⟨hx0, hx1, hx2, hx3⟩, _⟩ := cells4 HX3.out
  obtain ⟨⟨hy0, hy1, hy2, hy3⟩, _⟩ := cells4 HY3.out
  clear hb1 hb2 hb3 hHeld HX HY HRV HPS HBV HCM HAL HPL
  cases q
  · have HN := hide (flow_no4 (p := (P : Int)) (s := s) (t := t) (of_decide_eq_false hq.out))
    go_wp2_with fail
    refine bodyPost_ret (v := .tuple #[.agg #[.int .i64 0, .slice none 0 0, .int .i64 0, .int .i64 0], .bool false]) (by simp [results, Try.results21, go_sem, hr0, hr1, hr2, hr3]) rfl ?_
    exact flowEnd_no HN.out (below_set4 HBX.out (by simp) _ _ _ _)
  have HCS := hide (containsS_any (P : Int) s t (some ⟨B, 0, none⟩) c' c' _ B c' L v3 HPS3.out hn24 (fun W' k hk => by
    have h := spoiled_any (P : Int) (some ⟨B, 0, none⟩) c' c' s.toNat t.toNat _ _ _ W' (maskL_lt (L.getD (3 * k) []) fun x hx => by have := (netOk_mem hgn hk).1 x hx; omega) (maskL_lt (L.getD (3 * k + 1) []) fun x hx => by have := (netOk_mem hgn hk).2.1 x hx; omega) (maskL_lt (L.getD (3 * k + 2) []) fun x hx => by have := (netOk_mem hgn hk).2.2 x hx; omega) (by omega) (by omega)
    rw [show ((s.toNat : Nat) : Int) = s by omega, show ((t.toNat : Nat) : Int) = t by omega] at h
    exact h))
  rw [HSA.out] at HCS
  obtain ⟨r, hr⟩ : ∃ r, Hid (anyK (spoilL L s t) c' = r) := ⟨_, rfl⟩
  rw [hr.out] at HCS
  go_wp2_with fail
  refine HCS.out.mono ?_
  rintro e v4 ⟨rfl, hb4⟩
  have HBY := hide (HBX.out.trans (hb4.mono HBX.out.size))
  have HPS4 := hide (HPS3.out.grow hb4)
  obtain ⟨⟨hr0, hr1, hr2, hr3⟩, hf0, hf1, hf2, hf3⟩ := cells4 (keep HR3.out hb4)
  obtain ⟨⟨hy0, hy1, hy2, hy3⟩, _⟩ := cells4 (keep HY3.out hb4)
  clear hb4 HCS hx0 hx1 hx2 hx3
  cases r
  rotate_left
  · have HN := hide (flow_no5 (p := (P : Int)) (n := c') (L := L) (s := s) (t := t) hr.out)
    go_wp2_with fail
    refine bodyPost_ret (v := .tuple #[.agg #[.int .i64 0, .slice none 0 0, .int .i64 0, .int .i64 0], .bool false]) (by simp [results, Try.results21, go_sem, hr0, hr1, hr2, hr3]) rfl ?_
    exact flowEnd_no HN.out (below_set4 HBY.out (by simp) _ _ _ _)
  have HOK := hide (flow_yes HG.out HST.out HPA2.out (of_decide_eq_true hq.out) hr.out)
  go_wp2_with fail
  refine bodyPost_ret (v := .tuple #[.agg #[.int .i64 (P : Int), .slice (some ⟨B, 0, none⟩) c' c', .int .i64 s, .int .i64 t], .bool true]) (by simp [results, Try.results21, go_sem, hr0, hr1, hr2, hr3]) rfl ?_
  exact ⟨_, _, _, _, s, t, by rw [HOK.out], fun _ => ⟨rfl, rfl, rfl, rfl, rfl, B, rfl, by have := HBs.out; omega, HPS4.out.set4 (by have := HBs.out; omega) _ _ _ _⟩, below_set4 HBY.out (by simp) _ _ _ _⟩
end Go.Proofs.Ytbhhpfiolombcaa


/- GoodFlow: the specification's and the program's. -/
namespace Go.Proofs.Ytbhhpfiolombcaa
open Go.RowKit
set_option maxRecDepth 10000

set_option maxHeartbeats 1000000 in
theorem goodFlowI_any (p s t : Int) (a : Option Addr) (n c : Nat) (L : List (List Int)) (w : World) (h : Lists w a (3 * n) L) (hs : sizeN n L ≤ 1048576) :
    Calls Try.prog 6 #[.agg #[.int .i64 p, .slice a n c, .int .i64 s, .int .i64 t]] w fun e w' => e = .returned (.bool (flowOk p n L s t)) ∧ Below w.heap.size w w' := by
  have HA := hide (below_al w (.cells #[.int .i64 p, .slice a n c, .int .i64 s, .int .i64 t] 28))
  have HF := hide (flowSteps_any p s t a n c L _ (h.below HA.out) hs)
  clear h
  go_enter Try.func6, Try.ntmps6
  go_wp2_with fail
  refine HF.out.mono ?_
  rintro e w1 ⟨p', a', m, c', s', t', rfl, hx, hb⟩
  have HB := hide (HA.out.trans (hb.mono HA.out.size))
  obtain ⟨r, hr⟩ : ∃ r, Hid (flowOk p n L s t = r) := ⟨_, rfl⟩
  rw [hr.out]
  clear hx hb HF
  go_wp2_with fail
  go_ret
  exact ⟨ret_b hr.out.symm, HB.out.alloc HB.out.size _⟩

theorem spoil_step {L : List (List Int)} {s t : Int} {k : Nat} (h : anyK (spoilL L s t) k = false) (h0 : hasB (outL L k) s = false) (h1 : hasB (inL L k) t = false) (h2 : hasB (L.getD (3 * k + 2) []) s = false) (h3 : hasB (L.getD (3 * k + 2) []) t = false) : anyK (spoilL L s t) (k + 1) = false :=
  anyK_step h (by unfold spoilL; rw [h0, h1, h2, h3]; rfl)

set_option maxHeartbeats 4000000 in
theorem goodFlowS_any (p s t : Int) (a : Option Addr) (n c : Nat) (L : List (List Int)) (w : World) (h : Lists w a (3 * n) L) (hs : sizeN n L ≤ 1048576) :
    Calls Try.prog 13 #[.agg #[.int .i64 p, .slice a n c, .int .i64 s, .int .i64 t]] w fun e w' => e = .returned (.bool (flowOk p n L s t)) ∧ Below w.heap.size w w' := by
  have HA := hide (below_al w (.cells #[.int .i64 p, .slice a n c, .int .i64 s, .int .i64 t] 28))
  have PAR := hide (heap_alloc_new w (.cells #[.int .i64 p, .slice a n c, .int .i64 s, .int .i64 t] 28))
  have HF := hide (onWayS_any p s t a n c L _ (h.below HA.out) hs)
  have HL := hide h
  have hs' : n + sizeL L ≤ 1048576 := hs
  clear h
  go_enter Try.func13, Try.ntmps13
  go_wp2_with fail
  refine HF.out.mono ?_
  rintro e w1 ⟨a1, n1, c1, a2, n2, c2, rfl, hr1, hr2, hb⟩
  have HB1 := hide (HA.out.trans (hb.mono HA.out.size))
  have PAR1 := hide (keep PAR.out hb)
  have hl1 := hr1.1
  have hl2 := hr2.1
  obtain ⟨⟨hc0, hc1, hc2, hc3⟩, _⟩ := cells4 PAR1.out
  clear hb HF HA PAR hr1 hr2
  by_cases hg : wayOk p n L s t = true
  rotate_left
  · have hg' : wayOk p n L s t = false := by simpa using hg
    have HN := hide (flow_no1 hg')
    rw [hg']
    clear hg hg' hl1 hl2
    go_wp2_with fail
    go_ret
    exact ⟨ret_b HN.out.symm, HB1.out⟩
  have HG := hide hg
  have hn24 := (netOk_parts (wayOk_parts hg).1).2.1
  rw [hg]
  clear hg
  by_cases hst : s = t
  · have HN := hide (flow_no2 (p := p) (n := n) (L := L) hst)
    subst hst
    have hdd : (s == s) = true := by simp
    clear hl1 hl2
    go_wp2_with fail
    go_ret
    exact ⟨ret_b HN.out.symm, HB1.out⟩
  have hdd : (s == t) = false := by simpa using hst
  have HST := hide hst
  clear hst
  by_cases h1 : ((n1 : Nat) : Int) = p
  rotate_left
  · have HN := hide (flow_no3 (p := p) (n := n) (L := L) (s := s) (t := t) (by rw [hl1]; exact h1))
    have hd1 : (((n1 : Nat) : Int) != p) = true := by simpa using h1
    clear hl1 hl2 h1
    go_wp2_with fail
    go_ret
    exact ⟨ret_b HN.out.symm, HB1.out⟩
  have hd1 : (((n1 : Nat) : Int) != p) = false := by simpa using h1
  by_cases h2 : n2 = n
  rotate_left
  · have HN := hide (flow_no4 (p := p) (n := n) (L := L) (s := s) (t := t) (by rw [hl2]; exact h2))
    have hd2 : (((n2 : Nat) : Int) != ((n : Nat) : Int)) = true := by simp; omega
    clear hl1 hl2 h1 h2
    go_wp2_with fail
    go_ret
    exact ⟨ret_b HN.out.symm, HB1.out⟩
  have hd2 : (((n : Nat) : Int) != ((n : Nat) : Int)) = false := by simp
  have HY := hide (fun h5 => flow_yes HG.out HST.out (by rw [hl1]; exact h1) (by rw [hl2]; exact h2) h5)
  subst h2
  clear hl1 hl2 h1
  go_wp2_with fail
  clear hc0 hc1 hc2 hc3
  go_loopw [49] (fun i wr => ∃ k : Nat, k ≤ n2 ∧ i = .int .i64 k ∧ Hid (anyK (spoilL L s t) k = false) ∧ Hid (Below w.heap.size w wr) ∧ Hid (wr.heap[w.heap.size]? = some (.cells #[.int .i64 p, .slice a n2 c, .int .i64 s, .int .i64 t] 28 (0, 0)))) (fun i _ => n2 - (intOf i).toNat)
  case atStart => exact ⟨0, Nat.zero_le _, rfl, rfl, HB1, PAR1⟩
  case round =>
    clear HB1 PAR1
    obtain ⟨k, hk, rfl, hu, hbw, par⟩ := hrel
    by_cases hlt : k < n2
    rotate_left
    · have hk' : k = n2 := by omega
      subst hk'
      have HE := hide (HY.out hu.out)
      go_wp2_with fail
      go_ret
      exact ⟨ret_b HE.out.symm, hbw.out⟩
    obtain ⟨b, off, a0, m0, c0, a3, m3, c3, a4, m4, c4, rfl, hb, hr, q0, q1, q2, r0, r1, r2⟩ := (HL.out.below hbw.out).tri hlt
    obtain ⟨hd0, hd3, hd4⟩ := rangeAt_cells3 hr
    have l0 := len_le L (3 * k)
    have l1 := len_le L (3 * k + 1)
    have l2 := len_le L (3 * k + 2)
    have z0 : m0 ≤ 1048576 := by have := r0.1; omega
    have z1 : m3 ≤ 1048576 := by have := r1.1; omega
    have z2 : m4 ≤ 1048576 := by have := r2.1; omega
    have hA1 := below_al wr (.cells #[.slice a0 m0 c0, .slice a3 m3 c3, .slice a4 m4 c4] 52)
    have R0 := hide (r0.below hA1)
    have R1 := hide (r1.below hA1)
    have R2 := hide (r2.below hA1)
    have HB2 := hide (hbw.out.trans (hA1.mono hbw.out.size))
    have PAR2 := hide (keep par.out hA1)
    have hlw : w.heap.size < wr.heap.size := row_lt par.out
    have HT := hide (heap_alloc_new wr (.cells #[.slice a0 m0 c0, .slice a3 m3 c3, .slice a4 m4 c4] 52))
    obtain ⟨⟨hc0, hc1, hc2, hc3⟩, _⟩ := cells4 par.out
    clear hr r0 r1 r2 q0 q1 q2 hA1 l0 l1 l2
    have H1 := hide (has_any a3 m3 c3 (outL L k) s _ R1.out z1)
    have H2 := hide (has_any a0 m0 c0 (inL L k) t _ R0.out z0)
    have H3 := hide (has_any a4 m4 c4 (L.getD (3 * k + 2) []) s _ R2.out z2)
    have H4 := hide (has_any a4 m4 c4 (L.getD (3 * k + 2) []) t _ R2.out z2)
    have HNO := hide (fun (h : spoilL L s t k = true) => flow_no5 (p := p) (anyK_yes hlt h))
    obtain ⟨x1, e1⟩ : ∃ x, Hid (hasB (outL L k) s = x) := ⟨_, rfl⟩
    obtain ⟨x2, e2⟩ : ∃ x, Hid (hasB (inL L k) t = x) := ⟨_, rfl⟩
    obtain ⟨x3, e3⟩ : ∃ x, Hid (hasB (L.getD (3 * k + 2) []) s = x) := ⟨_, rfl⟩
    obtain ⟨x4, e4⟩ : ∃ x, Hid (hasB (L.getD (3 * k + 2) []) t = x) := ⟨_, rfl⟩
    rw [e1.out] at H1
    rw [e2.out] at H2
    rw [e3.out] at H3
    rw [e4.out] at H4
    clear R0 R1 R2
    go_wp2_with fail
    refine H1.out.mono ?_
    rintro e w3 ⟨rfl, hw3⟩
    obtain rfl := hw3
    cases x1
    rotate_left
    · have HN := hide (HNO.out (by unfold spoilL; rw [e1.out]; rfl))
      go_wp2_with fail
      go_ret
      exact ⟨ret_b HN.out.symm, HB2.out⟩
    go_wp2_with fail
    refine H2.out.mono ?_
    rintro e w3 ⟨rfl, hw3⟩
    obtain rfl := hw3
    cases x2
    rotate_left
    · have HN := hide (HNO.out (by unfold spoilL; rw [e1.out, e2.out]; rfl))
      go_wp2_with fail
      go_ret
      exact ⟨ret_b HN.out.symm, HB2.out⟩
    go_wp2_with fail
    refine H3.out.mono ?_
    rintro e w3 ⟨rfl, hw3⟩
    obtain rfl := hw3
    cases x3
    rotate_left
    · have HN := hide (HNO.out (by unfold spoilL; rw [e1.out, e2.out, e3.out]; rfl))
      go_wp2_with fail
      go_ret
      exact ⟨ret_b HN.out.symm, HB2.out⟩
    go_wp2_with fail
    refine H4.out.mono ?_
    rintro e w3 ⟨rfl, hw3⟩
    obtain rfl := hw3
    cases x4
    rotate_left
    · have HN := hide (HNO.out (by unfold spoilL; rw [e1.out, e2.out, e3.out, e4.out]; rfl))
      go_wp2_with fail
      go_ret
      exact ⟨ret_b HN.out.symm, HB2.out⟩
    have HU := hide (spoil_step hu.out e1.out e2.out e3.out e4.out)
    go_wp2_with fail
    go_roundw
    case rel => exact ⟨k + 1, by omega, by go_num, HU, HB2, PAR2⟩
    case measure => simp [intOf]; omega
end Go.Proofs.Ytbhhpfiolombcaa


/- StartOf and EndOf, the program's and the specification's. -/
namespace Go.Proofs.Ytbhhpfiolombcaa
open Go.RowKit
set_option maxRecDepth 10000

/-- The mark with one token. -/
def oneF (s : Nat) (i : Nat) : Int := if i = s then 1 else 0
def oneL (p s : Nat) : List Int := listF (oneF s) p

/-- How a function of the program that answers a list and true ends. -/
def OEndW (g : Bool) (r : List Int) (w : World) (e : Ending) (w' : World) : Prop :=
  ∃ a b n c, e = .returned (.tuple #[.slice a n c, .bool g]) ∧ Ob w' a b n r ∧ w.heap.size ≤ b ∧ Below w.heap.size w w'

/-- How one of the specification ends. -/
def WEndW (g : Bool) (r : List Int) (w : World) (e : Ending) (w' : World) : Prop :=
  ∃ a n c, e = .returned (.tuple #[.slice a n c, .bool g]) ∧ Row w' a n r ∧ Below w.heap.size w w'

theorem blk_ob {w : World} {a : Option Addr} {b n : Nat} {xs : List Int} (h : Blk w a b n xs) : Ob w a b n xs := by
  refine ⟨h.1, ?_⟩
  rcases h.2 with h0 | ⟨e, hh⟩
  · exact .inl h0
  · refine .inr ⟨e, _, hh, ?_, fun i hi => ?_⟩
    · have := h.1; unfold cellsOf; simp; omega
    · have := h.1; unfold cellsOf; simp [show i < xs.length by omega]

/-- A whole array loaded, where the operation is wanted. -/
theorem wpList_load_wantW {P : Program} {ops : Array Oper} {rest : List Oper} {o : Oper} {a : Act} {w : World} {Q : Exit → Act → World → Prop} (hw : Region.wanted o (yielded ops a.tmps) = true) (ty : TypeId) (x : Operand) (ho : o.op = .load ty x)
    (g : Nat) (hx : a.eval x = .pointer (some ⟨g, 0, none⟩)) (t : TypeId) (cells : Array Value) (n : Nat) (e : TypeId) (hg : w.heap[g]? = some (.cells cells t (0, 0))) (hu : P.underlying ty = some (.array n e)) (hi : (P.info? ty).map (·.size) = some cells.size)
    (h : wpList P ops Q rest (a.put o.dst (.agg cells)) w) : wpList P ops Q (o :: rest) a w :=
  BigFrame.wpList_want hw fun _ hK => wp_load_row ty x ho g hx t cells (0, 0) _ hg hu rfl hi (hK _ _ h)

theorem zerosW : (#[.int .u8 0, .int .u8 0, .int .u8 0, .int .u8 0, .int .u8 0, .int .u8 0, .int .u8 0, .int .u8 0, .int .u8 0, .int .u8 0, .int .u8 0, .int .u8 0, .int .u8 0, .int .u8 0, .int .u8 0, .int .u8 0] : Array Value) = tokF (fun _ => 0) := rfl

theorem Try.sizeW69 : (Try.prog.info? 69).map (·.size) = some 16 := by kernel_rfl

theorem calls_tok {P : Program} {f : FuncId} {y : Value} {w : World} {R : Ending → World → Prop} {X : Array Value} {F : Nat → Int} (h : X = tokF F) (hc : Calls P f #[.agg (tokF F), y] w R) : Calls P f #[.agg X, y] w R := by rw [h]; exact hc

set_option maxHeartbeats 1000000 in
theorem oneOn_any (P s m c : Nat) (f t : Int) (a : Option Addr) (w : World) (hP : P ≤ 16) (hs : s < 16) :
    Calls Try.prog 26 #[.agg #[.int .i64 (P : Int), .slice a m c, .int .i64 f, .int .i64 t], .int .i64 (s : Int)] w fun e w' => ∃ b, e = .returned (.slice (some ⟨b, 0, none⟩) P P) ∧ w.heap.size ≤ b ∧ Ob w' (some ⟨b, 0, none⟩) b P (oneL P s) ∧ Below w.heap.size w w' := by
  have hat : (#[.int .u8 0, .int .u8 0, .int .u8 0, .int .u8 0, .int .u8 0, .int .u8 0, .int .u8 0, .int .u8 0, .int .u8 0, .int .u8 0, .int .u8 0, .int .u8 0, .int .u8 0, .int .u8 0, .int .u8 0, .int .u8 0] : Array Value)[s]? = some (.int .u8 0) := by
    rw [zerosW]; exact tokF_at _ _ hs
  have hs0 : (0 : Int) ≤ (s : Int) := by omega
  have hs1 : (s : Int) < 16 := by omega
  have key : ∀ V, Below w.heap.size w V → Calls Try.prog 36 #[.agg (tokF (oneF s)), .int .i64 (P : Int)] V fun e w' => ∃ b, e = .returned (.slice (some ⟨b, 0, none⟩) P P) ∧ Hid (w.heap.size ≤ b) ∧ Hid (Ob w' (some ⟨b, 0, none⟩) b P (oneL P s)) ∧ Hid (Below w.heap.size w w') := by
    intro V hV
    refine (list_any (oneF s) P V hP (fun i => by unfold oneF; split <;> omega)).mono ?_
    rintro e w' ⟨rfl, rfl⟩
    have h := blk_new' (V.alloc (.cells (tokF (oneF s)) 69)) (listF (oneF s) P) P (listF_len _ _)
    rw [show (V.alloc (.cells (tokF (oneF s)) 69)).heap.size = V.heap.size + 1 by simp] at h
    exact ⟨_, rfl, (show _ ≤ _ by have := hV.size; omega), blk_ob h, hV.trans ((below_two V _ _).mono hV.size)⟩
  have KEY := hide key
  clear key
  go_enter Try.func26, Try.ntmps26
  go_wp2_with fail
  refine calls_tok (F := oneF s) ?_ ?_
  · clear hat hs0 hs1 KEY
    have : s = 0 ∨ s = 1 ∨ s = 2 ∨ s = 3 ∨ s = 4 ∨ s = 5 ∨ s = 6 ∨ s = 7 ∨ s = 8 ∨ s = 9 ∨ s = 10 ∨ s = 11 ∨ s = 12 ∨ s = 13 ∨ s = 14 ∨ s = 15 := by omega
    rcases this with h | h | h | h | h | h | h | h | h | h | h | h | h | h | h | h <;> (subst h; rfl)
  refine (KEY.out _ (below_two w _ _)).mono ?_
  rintro e w' ⟨b, rfl, h1, h2, h3⟩
  clear KEY hat
  go_wp2_with fail
  go_ret
  exact ⟨_, rfl, h1.out, h2.out, h3.out⟩

/-- What StartOf and EndOf answer. -/
noncomputable def oneR (p : Int) (n : Nat) (L : List (List Int)) (s t q : Int) : List Int := if flowOk p n L s t then oneL p.toNat q.toNat else []

theorem oneR_len (p : Int) (n : Nat) (L : List (List Int)) (s t q : Int) (hp : flowOk p n L s t = true → p ≤ 16) : (oneR p n L s t q).length ≤ 16 := by
  unfold oneR; split
  · rename_i h
    unfold oneL; rw [listF_len]; have := hp h; omega
  · exact Nat.zero_le _

theorem flowOk_parts {p : Int} {n : Nat} {L : List (List Int)} {s t : Int} (h : flowOk p n L s t = true) : wayOk p n L s t = true ∧ ¬ s = t ∧ ((wayP p n L s t).length : Int) = p ∧ (wayT p n L s t).length = n ∧ anyK (spoilL L s t) n = false := by
  unfold flowOk at h
  simp only [Bool.and_eq_true, Bool.not_eq_true', decide_eq_true_iff, decide_eq_false_iff_not] at h
  exact ⟨h.1.1.1.1, h.1.1.1.2, h.1.1.2, h.1.2, h.2⟩

theorem flow_num {p : Int} {n : Nat} {L : List (List Int)} {s t : Int} (h : flowOk p n L s t = true) : (1 ≤ p ∧ p ≤ 16) ∧ n ≤ 24 ∧ (0 ≤ s ∧ s < p) ∧ (0 ≤ t ∧ t < p) := by
  obtain ⟨h1, _⟩ := flowOk_parts h
  obtain ⟨hg, hs, ht⟩ := wayOk_parts h1
  obtain ⟨hp, hn, _⟩ := netOk_parts hg
  exact ⟨hp, hn, hs, ht⟩

set_option maxHeartbeats 1000000 in
theorem startI_any (p s t : Int) (a : Option Addr) (n c : Nat) (L : List (List Int)) (w : World) (h : Lists w a (3 * n) L) (hs : sizeN n L ≤ 1048576) :
    Calls Try.prog 9 #[.agg #[.int .i64 p, .slice a n c, .int .i64 s, .int .i64 t]] w fun e w' => OEndW (flowOk p n L s t) (oneR p n L s t s) w e w' := by
  have HA := hide (below_al w (.cells #[.int .i64 p, .slice a n c, .int .i64 s, .int .i64 t] 28))
  have HF := hide (flowSteps_any p s t a n c L _ (h.below HA.out) hs)
  clear h
  go_enter Try.func9, Try.ntmps9
  go_wp2_with fail
  refine HF.out.mono ?_
  rintro e w1 ⟨p', a', m, c', s', t', rfl, hx, hb⟩
  have hA2 := below_al w1 (.cells #[.int .i64 p', .slice a' m c', .int .i64 s', .int .i64 t'] 47)
  have HB := hide ((HA.out.trans (hb.mono HA.out.size)).trans (hA2.mono (HA.out.trans (hb.mono HA.out.size)).size))
  clear hb HF hA2
  by_cases hg : flowOk p n L s t = true
  rotate_left
  · have hg' : flowOk p n L s t = false := by simpa using hg
    have HN : Hid (OEndW (flowOk p n L s t) (oneR p n L s t s) w (.returned (.tuple #[.slice none 0 0, .bool false])) (w1.alloc (.cells #[.int .i64 p', .slice a' m c', .int .i64 s', .int .i64 t'] 47))) :=
      ⟨none, w.heap.size, 0, 0, by rw [hg'], ⟨by unfold oneR; rw [hg']; rfl, .inl rfl⟩, Nat.le_refl _, HB.out⟩
    rw [hg']
    clear hx hg hg'
    go_wp2_with fail
    go_ret2
    exact HN.out
  obtain ⟨e1, e2, e3, e4, e5, B, rfl, hBs, hps⟩ := hx.out hg
  obtain ⟨⟨hp1, hp2⟩, hn24, hs1, ht1⟩ := flow_num hg
  subst e1 e2 e3 e4 e5
  obtain ⟨P, rfl⟩ : ∃ P : Nat, p' = (P : Int) := ⟨p'.toNat, by omega⟩
  obtain ⟨Q, hQ⟩ : ∃ Q : Nat, s' = (Q : Int) := ⟨s'.toNat, by omega⟩
  have HG := hide hg
  rw [hg]
  subst hQ
  have HO := hide (fun W => oneOn_any P Q c' c' (Q : Int) t' (some ⟨B, 0, none⟩) W (by omega) (by omega))
  have HZ := hide HB.out.size
  clear hx hps hg hBs
  go_wp2_with fail
  refine (HO.out _).mono ?_
  rintro e w2 ⟨b, rfl, hbs, hob, hb2⟩
  have HE : Hid (OEndW (flowOk (P : Int) c' L (Q : Int) t') (oneR (P : Int) c' L (Q : Int) t' (Q : Int)) w (.returned (.tuple #[.slice (some ⟨b, 0, none⟩) P P, .bool true])) w2) :=
    ⟨_, b, P, P, by rw [HG.out], by unfold oneR; rw [HG.out]; simpa using hob, by have := HZ.out; omega, HB.out.trans (hb2.mono HB.out.size)⟩
  clear hbs hob hb2 HO
  go_wp2_with fail
  go_ret2
  exact HE.out

set_option maxHeartbeats 1000000 in
theorem endI_any (p s t : Int) (a : Option Addr) (n c : Nat) (L : List (List Int)) (w : World) (h : Lists w a (3 * n) L) (hs : sizeN n L ≤ 1048576) :
    Calls Try.prog 11 #[.agg #[.int .i64 p, .slice a n c, .int .i64 s, .int .i64 t]] w fun e w' => OEndW (flowOk p n L s t) (oneR p n L s t t) w e w' := by
  have HA := hide (below_al w (.cells #[.int .i64 p, .slice a n c, .int .i64 s, .int .i64 t] 28))
  have HF := hide (flowSteps_any p s t a n c L _ (h.below HA.out) hs)
  clear h
  go_enter Try.func11, Try.ntmps11
  go_wp2_with fail
  refine HF.out.mono ?_
  rintro e w1 ⟨p', a', m, c', s', t', rfl, hx, hb⟩
  have hA2 := below_al w1 (.cells #[.int .i64 p', .slice a' m c', .int .i64 s', .int .i64 t'] 47)
  have HB := hide ((HA.out.trans (hb.mono HA.out.size)).trans (hA2.mono (HA.out.trans (hb.mono HA.out.size)).size))
  clear hb HF hA2
  by_cases hg : flowOk p n L s t = true
  rotate_left
  · have hg' : flowOk p n L s t = false := by simpa using hg
    have HN : Hid (OEndW (flowOk p n L s t) (oneR p n L s t t) w (.returned (.tuple #[.slice none 0 0, .bool false])) (w1.alloc (.cells #[.int .i64 p', .slice a' m c', .int .i64 s', .int .i64 t'] 47))) :=
      ⟨none, w.heap.size, 0, 0, by rw [hg'], ⟨by unfold oneR; rw [hg']; rfl, .inl rfl⟩, Nat.le_refl _, HB.out⟩
    rw [hg']
    clear hx hg hg'
    go_wp2_with fail
    go_ret2
    exact HN.out
  obtain ⟨e1, e2, e3, e4, e5, B, rfl, hBs, hps⟩ := hx.out hg
  obtain ⟨⟨hp1, hp2⟩, hn24, hs1, ht1⟩ := flow_num hg
  subst e1 e2 e3 e4 e5
  obtain ⟨P, rfl⟩ : ∃ P : Nat, p' = (P : Int) := ⟨p'.toNat, by omega⟩
  obtain ⟨Q, hQ⟩ : ∃ Q : Nat, t' = (Q : Int) := ⟨t'.toNat, by omega⟩
  have HG := hide hg
  rw [hg]
  subst hQ
  have HO := hide (fun W => oneOn_any P Q c' c' s' (Q : Int) (some ⟨B, 0, none⟩) W (by omega) (by omega))
  have HZ := hide HB.out.size
  clear hx hps hg hBs
  go_wp2_with fail
  refine (HO.out _).mono ?_
  rintro e w2 ⟨b, rfl, hbs, hob, hb2⟩
  have HE : Hid (OEndW (flowOk (P : Int) c' L s' (Q : Int)) (oneR (P : Int) c' L s' (Q : Int) (Q : Int)) w (.returned (.tuple #[.slice (some ⟨b, 0, none⟩) P P, .bool true])) w2) :=
    ⟨_, b, P, P, by rw [HG.out], by unfold oneR; rw [HG.out]; simpa using hob, by have := HZ.out; omega, HB.out.trans (hb2.mono HB.out.size)⟩
  clear hbs hob hb2 HO
  go_wp2_with fail
  go_ret2
  exact HE.out


set_option maxHeartbeats 1000000 in
theorem one3_any (P s : Nat) (w : World) (hP : P ≤ 16) (hs : s < P) :
    Calls Try.prog 27 #[.int .i64 (P : Int), .int .i64 (s : Int)] w fun e w' => ∃ a c, e = .returned (.slice a P c) ∧ Row w' a P (oneL P s) ∧ Below w.heap.size w w' := by
  have hmk := run_make_row' (P := Try.prog) 33 3 (.int .i64 0) 8 Try.underlying33 Try.info3 rfl .i64 .i64 P (by omega) (by omega)
  have hat : (madeCells #[.int .i64 0] P)[s]? = some (.int .i64 0) := by simp [madeCells, hs, Nat.mod_one]
  have hst : (madeCells #[.int .i64 0] P).setIfInBounds s (.int .i64 1) = cellsOf (oneL P s) := by
    apply Array.ext_getElem?
    intro i
    rw [Array.getElem?_setIfInBounds]
    by_cases hi : i < P
    · have h2 : (cellsOf (oneL P s))[i]? = some (.int .i64 (oneF s i)) := by unfold cellsOf oneL listF; simp [hi]
      rw [h2]
      by_cases e : s = i
      · subst e; simp [size_madeCells, hs, oneF]
      · rw [if_neg e]; simp [madeCells, hi, Nat.mod_one, oneF, show ¬ i = s by omega]
    · rw [Array.getElem?_eq_none (xs := cellsOf (oneL P s)) (by unfold cellsOf oneL; simp [listF_len]; omega), if_neg (by omega), Array.getElem?_eq_none (by rw [size_madeCells]; omega)]
  have HST := hide hst
  have hs1 : (s : Int) < (P : Int) := by omega
  clear hst
  go_enter Try.func27, Try.ntmps27
  go_wp2_with fail
  go_ret
  rw [HST.out]
  exact ⟨_, _, rfl, row_new w (oneL P s) P w.heap.size (by unfold oneL; exact listF_len _ _) rfl, below_al _ _⟩

set_option maxHeartbeats 1000000 in
theorem startS_any (p s t : Int) (a : Option Addr) (n c : Nat) (L : List (List Int)) (w : World) (h : Lists w a (3 * n) L) (hs : sizeN n L ≤ 1048576) :
    Calls Try.prog 10 #[.agg #[.int .i64 p, .slice a n c, .int .i64 s, .int .i64 t]] w fun e w' => WEndW (flowOk p n L s t) (oneR p n L s t s) w e w' := by
  have HA := hide (below_al w (.cells #[.int .i64 p, .slice a n c, .int .i64 s, .int .i64 t] 28))
  have PAR := hide (heap_alloc_new w (.cells #[.int .i64 p, .slice a n c, .int .i64 s, .int .i64 t] 28))
  have HF := hide (goodFlowS_any p s t a n c L _ (h.below HA.out) hs)
  clear h
  go_enter Try.func10, Try.ntmps10
  go_wp2_with fail
  refine HF.out.mono ?_
  rintro e w1 ⟨rfl, hb⟩
  have HB := hide (HA.out.trans (hb.mono HA.out.size))
  obtain ⟨⟨hc0, hc1, hc2, hc3⟩, _⟩ := cells4 (keep PAR.out hb)
  clear hb HF PAR
  by_cases hg : flowOk p n L s t = true
  rotate_left
  · have hg' : flowOk p n L s t = false := by simpa using hg
    have HN : Hid (WEndW (flowOk p n L s t) (oneR p n L s t s) w (.returned (.tuple #[.slice none 0 0, .bool false])) w1) :=
      ⟨none, 0, 0, by rw [hg'], ⟨by unfold oneR; rw [hg']; rfl, .inl rfl⟩, HB.out⟩
    rw [hg']
    clear hg hg'
    go_wp2_with fail
    go_ret2
    exact HN.out
  obtain ⟨⟨hp1, hp2⟩, hn24, hs1, ht1⟩ := flow_num hg
  obtain ⟨P, rfl⟩ : ∃ P : Nat, p = (P : Int) := ⟨p.toNat, by omega⟩
  obtain ⟨Q, hQ⟩ : ∃ Q : Nat, s = (Q : Int) := ⟨s.toNat, by omega⟩
  have HG := hide hg
  rw [hg]
  subst hQ
  have HO := hide (fun W => one3_any P Q W (by omega) (by omega))
  clear hg
  go_wp2_with fail
  refine (HO.out _).mono ?_
  rintro e w2 ⟨a2, c2, rfl, hrow, hb2⟩
  have HE : Hid (WEndW (flowOk (P : Int) n L (Q : Int) t) (oneR (P : Int) n L (Q : Int) t (Q : Int)) w (.returned (.tuple #[.slice a2 P c2, .bool true])) w2) :=
    ⟨_, P, _, by rw [HG.out], by unfold oneR; rw [HG.out]; simpa using hrow, HB.out.trans (hb2.mono HB.out.size)⟩
  clear hrow hb2 HO
  go_wp2_with fail
  go_ret2
  exact HE.out

set_option maxHeartbeats 1000000 in
theorem endS_any (p s t : Int) (a : Option Addr) (n c : Nat) (L : List (List Int)) (w : World) (h : Lists w a (3 * n) L) (hs : sizeN n L ≤ 1048576) :
    Calls Try.prog 12 #[.agg #[.int .i64 p, .slice a n c, .int .i64 s, .int .i64 t]] w fun e w' => WEndW (flowOk p n L s t) (oneR p n L s t t) w e w' := by
  have HA := hide (below_al w (.cells #[.int .i64 p, .slice a n c, .int .i64 s, .int .i64 t] 28))
  have PAR := hide (heap_alloc_new w (.cells #[.int .i64 p, .slice a n c, .int .i64 s, .int .i64 t] 28))
  have HF := hide (goodFlowS_any p s t a n c L _ (h.below HA.out) hs)
  clear h
  go_enter Try.func12, Try.ntmps12
  go_wp2_with fail
  refine HF.out.mono ?_
  rintro e w1 ⟨rfl, hb⟩
  have HB := hide (HA.out.trans (hb.mono HA.out.size))
  obtain ⟨⟨hc0, hc1, hc2, hc3⟩, _⟩ := cells4 (keep PAR.out hb)
  clear hb HF PAR
  by_cases hg : flowOk p n L s t = true
  rotate_left
  · have hg' : flowOk p n L s t = false := by simpa using hg
    have HN : Hid (WEndW (flowOk p n L s t) (oneR p n L s t t) w (.returned (.tuple #[.slice none 0 0, .bool false])) w1) :=
      ⟨none, 0, 0, by rw [hg'], ⟨by unfold oneR; rw [hg']; rfl, .inl rfl⟩, HB.out⟩
    rw [hg']
    clear hg hg'
    go_wp2_with fail
    go_ret2
    exact HN.out
  obtain ⟨⟨hp1, hp2⟩, hn24, hs1, ht1⟩ := flow_num hg
  obtain ⟨P, rfl⟩ : ∃ P : Nat, p = (P : Int) := ⟨p.toNat, by omega⟩
  obtain ⟨Q, hQ⟩ : ∃ Q : Nat, t = (Q : Int) := ⟨t.toNat, by omega⟩
  have HG := hide hg
  rw [hg]
  subst hQ
  have HO := hide (fun W => one3_any P Q W (by omega) (by omega))
  clear hg
  go_wp2_with fail
  refine (HO.out _).mono ?_
  rintro e w2 ⟨a2, c2, rfl, hrow, hb2⟩
  have HE : Hid (WEndW (flowOk (P : Int) n L s (Q : Int)) (oneR (P : Int) n L s (Q : Int) (Q : Int)) w (.returned (.tuple #[.slice a2 P c2, .bool true])) w2) :=
    ⟨_, P, _, by rw [HG.out], by unfold oneR; rw [HG.out]; simpa using hrow, HB.out.trans (hb2.mono HB.out.size)⟩
  clear hrow hb2 HO
  go_wp2_with fail
  go_ret2
  exact HE.out


end Go.Proofs.Ytbhhpfiolombcaa
