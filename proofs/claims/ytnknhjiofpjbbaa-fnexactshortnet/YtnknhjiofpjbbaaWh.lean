/- flowSteps of the program. -/
import Derived.Test.YtnknhjiofpjbbaaWg
import Derived.Test.YtnknhjiofpjbbaaWr
namespace Go.Proofs.Ytnknhjiofpjbbaa
open Go.RowKit
set_option maxRecDepth 10000

/-- How flowSteps ends. -/
def FlowEnd (g : Bool) (p : Int) (n : Nat) (L : List (List Int)) (s t : Int) (w : World) (e : Ending) (w' : World) : Prop :=
  ∃ p' a m c s' t', e = .returned (.tuple #[.agg #[.int .i64 p', .slice a m c, .int .i64 s', .int .i64 t'], .bool g]) ∧
    Hid (g = true → p' = p ∧ m = n ∧ c = n ∧ s' = s ∧ t' = t ∧ ∃ B, a = some ⟨B, 0, none⟩ ∧ w.heap.size ≤ B ∧ PartS w' B (3 * n) (3 * n) L) ∧ Below w.heap.size w w'

theorem flowEnd_no {p : Int} {n : Nat} {L : List (List Int)} {s t : Int} {w w' : World} (h : flowOk p n L s t = false) (hb : Below w.heap.size w w') :
    FlowEnd (flowOk p n L s t) p n L s t w (.returned (.tuple #[.agg #[.int .i64 0, .slice none 0 0, .int .i64 0, .int .i64 0], .bool false])) w' :=
  ⟨0, none, 0, 0, 0, 0, by rw [h], by rw [h]; intro e; simp at e, hb⟩

theorem flow_no1 {p : Int} {n : Nat} {L : List (List Int)} {s t : Int} (h : wayOk p n L s t = false) : flowOk p n L s t = false := by unfold flowOk; rw [h]; rfl
theorem flow_no2 {p : Int} {n : Nat} {L : List (List Int)} {s t : Int} (h : s = t) : flowOk p n L s t = false := by unfold flowOk; simp [h]
theorem flow_no3 {p : Int} {n : Nat} {L : List (List Int)} {s t : Int} (h : ¬ ((wayP p n L s t).length : Int) = p) : flowOk p n L s t = false := by unfold flowOk; simp [h]
theorem flow_no4 {p : Int} {n : Nat} {L : List (List Int)} {s t : Int} (h : ¬ (wayT p n L s t).length = n) : flowOk p n L s t = false := by unfold flowOk; simp [h]
theorem flow_no5 {p : Int} {n : Nat} {L : List (List Int)} {s t : Int} (h : anyK (spoilL L s t) n = true) : flowOk p n L s t = false := by unfold flowOk; simp [h]
theorem flow_yes {p : Int} {n : Nat} {L : List (List Int)} {s t : Int} (h1 : wayOk p n L s t = true) (h2 : ¬ s = t) (h3 : ((wayP p n L s t).length : Int) = p) (h4 : (wayT p n L s t).length = n) (h5 : anyK (spoilL L s t) n = false) : flowOk p n L s t = true := by
  unfold flowOk; simp [h1, h2, h3, h4, h5]

set_option maxHeartbeats 4000000 in
theorem flowSteps_any (p s t : Int) (a : Option Addr) (n c : Nat) (L : List (List Int)) (w : World) (h : Lists w a (3 * n) L) (hs : sizeN n L ≤ 1048576) :
    Calls Try.prog 35 #[.agg #[.int .i64 p, .slice a n c, .int .i64 s, .int .i64 t]] w fun e w' => FlowEnd (flowOk p n L s t) p n L s t w e w' := by
  have HA := hide (below_two w (.cells #[.int .i64 p, .slice a n c, .int .i64 s, .int .i64 t] 33) (.cells #[.int .i64 0, .slice none 0 0, .int .i64 0, .int .i64 0] 62))
  have HT := hide (waysOf_any p s t a n c L _ (h.below HA.out) hs)
  have HP0 : Hid (((w.alloc (.cells #[.int .i64 p, .slice a n c, .int .i64 s, .int .i64 t] 33)).alloc (.cells #[.int .i64 0, .slice none 0 0, .int .i64 0, .int .i64 0] 62)).heap[w.heap.size]? = some (.cells #[.int .i64 p, .slice a n c, .int .i64 s, .int .i64 t] 33 (0, 0))) :=
    keep (heap_alloc_new _ _) (below_al _ _)
  have HR0 : Hid (((w.alloc (.cells #[.int .i64 p, .slice a n c, .int .i64 s, .int .i64 t] 33)).alloc (.cells #[.int .i64 0, .slice none 0 0, .int .i64 0, .int .i64 0] 62)).heap[w.heap.size + 1]? = some (.cells #[.int .i64 0, .slice none 0 0, .int .i64 0, .int .i64 0] 62 (0, 0))) := by
    have := heap_alloc_new (w.alloc (.cells #[.int .i64 p, .slice a n c, .int .i64 s, .int .i64 t] 33)) (.cells #[.int .i64 0, .slice none 0 0, .int .i64 0, .int .i64 0] 62)
    rw [show (w.alloc (.cells #[.int .i64 p, .slice a n c, .int .i64 s, .int .i64 t] 33)).heap.size = w.heap.size + 1 by simp] at this
    exact this
  clear h
  go_enter Try.func35, Try.ntmps35
  go_wp2_with fail
  refine HT.out.mono ?_
  rintro e w2 ⟨p', a', m, c', F, K, rfl, hx, hb⟩
  have HB2 := hide (HA.out.trans (hb.mono HA.out.size))
  have HP2 := hide (keep HP0.out hb)
  have HR2 := hide (keep HR0.out hb)
  have hlr : w.heap.size + 1 < w2.heap.size := (Array.getElem?_eq_some_iff.mp HR2.out).1
  have hlp : w.heap.size < w2.heap.size := by omega
  obtain ⟨⟨hr0, hr1, hr2, hr3⟩, hf0, hf1, hf2, hf3⟩ := cells4 HR2.out
  obtain ⟨⟨hp0, hp1, hp2, hp3⟩, _⟩ := cells4 HP2.out
  clear hb HT HA HP0 HR0
  by_cases hg : wayOk p n L s t = true
  rotate_left
  · have hg' : wayOk p n L s t = false := by simpa using hg
    have HN := hide (flow_no1 hg')
    rw [hg']
    clear hg hg' hx
    go_wp2_with fail
    refine bodyPost_ret (v := .tuple #[.agg #[.int .i64 0, .slice none 0 0, .int .i64 0, .int .i64 0], .bool false]) (by simp [results, Try.results35, go_sem, hr0, hr1, hr2, hr3, hlr]) rfl ?_
    exact flowEnd_no HN.out ((below_set4 HB2.out (by simp) _ _ _ _).alloc (by have := HB2.out.size; simp [World.setCell]; omega) _)
  obtain ⟨e1, e2, e3, e4, e5, B, rfl, hBs, hps⟩ := hx.out hg
  subst e1 e2 e3
  have HG := hide hg
  rw [hg]
  by_cases hst : s = t
  · have HN := hide (flow_no2 (p := p') (n := c') (L := L) hst)
    subst hst
    clear hx hps hg
    have hdd : (s == s) = true := by simp
    go_wp2_with fail
    refine bodyPost_ret (v := .tuple #[.agg #[.int .i64 0, .slice none 0 0, .int .i64 0, .int .i64 0], .bool false]) (by simp [results, Try.results35, go_sem, hr0, hr1, hr2, hr3, hlr]) rfl ?_
    exact flowEnd_no HN.out ((below_set4 HB2.out (by simp) _ _ _ _).alloc (by have := HB2.out.size; simp [World.setCell]; omega) _)
  have hdd : (s == t) = false := by simpa using hst
  have HST := hide hst
  obtain ⟨hgn, hsr, htr⟩ := wayOk_parts hg
  obtain ⟨⟨hq1, hq2⟩, hn24, _⟩ := netOk_parts hgn
  have HF := hide (fthM_lt c' L s)
  have HK := hide (bckM_lt c' L t)
  rw [← e4] at HF
  rw [← e5] at HK
  obtain ⟨P, rfl⟩ : ∃ P : Nat, p' = (P : Int) := ⟨p'.toNat, by omega⟩
  have HPA := hide (pl_all hg)
  have HTA := hide (tr_all hg)
  have HSA := hide (spoil_eq hg)
  rw [← e4, ← e5] at HPA HTA
  have hA1 := below_al w2 (.cells #[.int .i64 (P : Int), .slice (some ⟨B, 0, none⟩) c' c', .int .u16 (F : Int), .int .u16 (K : Int)] 76)
  have hA2 := below_al (w2.alloc (.cells #[.int .i64 (P : Int), .slice (some ⟨B, 0, none⟩) c' c', .int .u16 (F : Int), .int .u16 (K : Int)] 76)) (.cells #[.int .i64 (P : Int), .slice (some ⟨B, 0, none⟩) c' c', .int .i64 s, .int .i64 t] 62)
  have HX := hide (keep (heap_alloc_new w2 (.cells #[.int .i64 (P : Int), .slice (some ⟨B, 0, none⟩) c' c', .int .u16 (F : Int), .int .u16 (K : Int)] 76)) hA2)
  have hy := heap_alloc_new (w2.alloc (.cells #[.int .i64 (P : Int), .slice (some ⟨B, 0, none⟩) c' c', .int .u16 (F : Int), .int .u16 (K : Int)] 76)) (.cells #[.int .i64 (P : Int), .slice (some ⟨B, 0, none⟩) c' c', .int .i64 s, .int .i64 t] 62)
  rw [show (w2.alloc (.cells #[.int .i64 (P : Int), .slice (some ⟨B, 0, none⟩) c' c', .int .u16 (F : Int), .int .u16 (K : Int)] 76)).heap.size = w2.heap.size + 1 by simp] at hy
  have HY := hide hy
  have HAA := hide (hA1.trans (hA2.mono hA1.size))
  have HPS := hide (hps.grow HAA.out)
  have HBs := hide (show w.heap.size + 1 + 1 ≤ B by simpa using hBs)
  have HE4 := hide e4
  have HE5 := hide e5
  clear hx hst hps hA1 hA2 hy hg e4 e5 hBs
  go_wp2_with fail
  clear hr0 hr1 hr2 hr3 hf0 hf1 hf2 hf3 hp0 hp1 hp2 hp3
  obtain ⟨V, hV⟩ : ∃ V, Hid ((w2.alloc (.cells #[.int .i64 (P : Int), .slice (some ⟨B, 0, none⟩) c' c', .int .u16 (F : Int), .int .u16 (K : Int)] 76)).alloc (.cells #[.int .i64 (P : Int), .slice (some ⟨B, 0, none⟩) c' c', .int .i64 s, .int .i64 t] 62) = V) := ⟨_, rfl⟩
  have HBV := hide (HB2.out.trans (HAA.out.mono HB2.out.size))
  have HRV := hide (keep HR2.out HAA.out)
  rw [hV.out] at HX HY HPS HBV HRV ⊢
  obtain ⟨X, hX⟩ : ∃ X, Hid (w2.heap.size = X) := ⟨_, rfl⟩
  rw [hX.out] at HX HY hlr hlp ⊢
  clear HAA HB2 HR2 hV hX
  obtain ⟨U, hU⟩ : ∃ U : Nat, Hid ((2 ^ P - 1 : Nat) = U) := ⟨2 ^ P - 1, rfl⟩
  have HAL := hide (fun W => all_any P (some ⟨B, 0, none⟩) c' c' W (by omega) (by omega))
  rw [hU.out] at HPA HAL
  have HPL := hide (fun W => wplaces_any (P : Int) (some ⟨B, 0, none⟩) c' c' F K W HF.out HK.out)
  by_cases hpl : F &&& K = U
  rotate_left
  · have HN := hide (flow_no3 (fun e => hpl (HPA.out.mpr e)))
    obtain ⟨M, hM⟩ : ∃ M, Hid (F &&& K = M) := ⟨_, rfl⟩
    rw [hM.out] at HPL hpl
    have hne : (((M : Nat) : Int) != ((U : Nat) : Int)) = true := by simp; omega
    obtain ⟨⟨hx0, hx1, hx2, hx3⟩, _⟩ := cells4 HX.out
    clear HPA HTA HSA hpl
    refine wp_region_held_drew (S := fun W => W.cell? ⟨X, 0, none⟩ = some (.int .i64 (P : Int)) ∧ W.cell? ⟨X, 1, none⟩ = some (.slice (some ⟨B, 0, none⟩) c' c') ∧ W.cell? ⟨X, 2, none⟩ = some (.int .u16 (F : Int)) ∧ W.cell? ⟨X, 3, none⟩ = some (.int .u16 (K : Int))) (by kernel_rfl) ?_ (fun hHeld => ?_)
    · exact (cells4 (keep HX.out (Below.refl _ V).drew)).1
    refine take_yes (i := 0) (some 34) (.agg #[.int .i64 (P : Int), .slice (some ⟨B, 0, none⟩) c' c', .int .u16 (F : Int), .int .u16 (K : Int)]) rfl rfl (by kernel_rfl) (by kernel_rfl) (by kernel_rfl) (fun _ _ _ h => h) (by rfl) ?_ (by assumption) ?_
    · intro W hSw
      obtain ⟨hz0, hz1, hz2, hz3⟩ := hSw
      go_simp
    simp only [Act.put, List.setIfInBounds_toArray, List.set_cons_zero, List.set_cons_succ]
    refine take_yes (i := 2) (some 36) (.pointer (some ⟨X, 0, none⟩)) rfl rfl (by kernel_rfl) (by kernel_rfl) (by kernel_rfl) (fun _ _ _ h => h) (by rfl) ?_ (by assumption) ?_
    · intro W hSw
      obtain ⟨hz0, hz1, hz2, hz3⟩ := hSw
      go_simp
    simp only [Act.put, List.setIfInBounds_toArray, List.set_cons_zero, List.set_cons_succ]
    refine take_yes (i := 3) (some 37) (.agg #[.int .i64 (P : Int), .slice (some ⟨B, 0, none⟩) c' c']) rfl rfl (by kernel_rfl) (by kernel_rfl) (by kernel_rfl) (fun _ _ _ h => h) (by rfl) ?_ (by assumption) ?_
    · intro W hSw
      obtain ⟨hz0, hz1, hz2, hz3⟩ := hSw
      go_simp
    simp only [Act.put, List.setIfInBounds_toArray, List.set_cons_zero, List.set_cons_succ]
    refine call_next (i := 1) (some 35) rfl rfl (by kernel_rfl) (by rfl) 44 _ _ _ rfl Try.func44 (by decide) rfl #[.agg #[.int .i64 (P : Int), .slice (some ⟨B, 0, none⟩) c' c', .int .u16 (F : Int), .int .u16 (K : Int)]] (mapw1 _ _ _ rfl) _ (HPL.out _) ?_
    rintro e v1 ⟨rfl, hb1⟩
    refine ⟨_, rfl, ?_, fun hHeld => ?_⟩
    · exact (cells4 (keep (keep HX.out (Below.refl _ V).drew) hb1)).1
    simp only [Act.put, List.setIfInBounds_toArray, List.set_cons_zero, List.set_cons_succ]
    refine call_next (i := 4) (some 38) rfl rfl (by kernel_rfl) (by rfl) 60 _ _ _ rfl Try.func60 (by decide) rfl #[.agg #[.int .i64 (P : Int), .slice (some ⟨B, 0, none⟩) c' c']] (mapw1 _ _ _ rfl) _ (HAL.out _) ?_
    rintro e v2 ⟨rfl, hb2⟩
    refine ⟨_, rfl, ?_, fun hHeld => ?_⟩
    · exact (cells4 (keep (keep (keep HX.out (Below.refl _ V).drew) hb1) hb2)).1
    simp only [Act.put, List.setIfInBounds_toArray, List.set_cons_zero, List.set_cons_succ]
    refine take_yes (i := 5) (some 39) (.bool true) rfl rfl (by kernel_rfl) (by kernel_rfl) (by kernel_rfl) (fun _ _ _ h => h) (by rfl) ?_ (by assumption) ?_
    · intro W hSw
      obtain ⟨hz0, hz1, hz2, hz3⟩ := hSw
      go_simp
    simp only [Act.put, List.setIfInBounds_toArray, List.set_cons_zero, List.set_cons_succ]
    refine take_yes (i := 6) (some 40) (.bool true) rfl rfl (by kernel_rfl) (by kernel_rfl) (by kernel_rfl) (fun _ _ _ h => h) (by rfl) ?_ (by assumption) ?_
    · intro W hSw
      obtain ⟨hz0, hz1, hz2, hz3⟩ := hSw
      go_simp
    simp only [Act.put, List.setIfInBounds_toArray, List.set_cons_zero, List.set_cons_succ]
    refine take_no (i := 7) (some 41) rfl rfl (by kernel_rfl) (by kernel_rfl) (by kernel_rfl) (fun _ _ _ h => h) (by rfl) (by assumption) ?_
    simp only [Act.put, List.setIfInBounds_toArray, List.set_cons_zero, List.set_cons_succ]
    refine take_no (i := 8) (some 42) rfl rfl (by kernel_rfl) (by kernel_rfl) (by kernel_rfl) (fun _ _ _ h => h) (by rfl) (by assumption) ?_
    simp only [Act.put, List.setIfInBounds_toArray, List.set_cons_zero, List.set_cons_succ]
    refine take_no (i := 9) (some 43) rfl rfl (by kernel_rfl) (by kernel_rfl) (by kernel_rfl) (fun _ _ _ h => h) (by rfl) (by assumption) ?_
    simp only [Act.put, List.setIfInBounds_toArray, List.set_cons_zero, List.set_cons_succ]
    refine take_no (i := 10) (some 44) rfl rfl (by kernel_rfl) (by kernel_rfl) (by kernel_rfl) (fun _ _ _ h => h) (by rfl) (by assumption) ?_
    simp only [Act.put, List.setIfInBounds_toArray, List.set_cons_zero, List.set_cons_succ]
    refine take_no (i := 11) (some 45) rfl rfl (by kernel_rfl) (by kernel_rfl) (by kernel_rfl) (fun _ _ _ h => h) (by rfl) (by assumption) ?_
    simp only [Act.put, List.setIfInBounds_toArray, List.set_cons_zero, List.set_cons_succ]
    refine take_no (i := 12) (some 46) rfl rfl (by kernel_rfl) (by kernel_rfl) (by kernel_rfl) (fun _ _ _ h => h) (by rfl) (by assumption) ?_
    simp only [Act.put, List.setIfInBounds_toArray, List.set_cons_zero, List.set_cons_succ]
    refine take_yes (i := 13) (some 47) (.bool true) rfl rfl (by kernel_rfl) (by kernel_rfl) (by kernel_rfl) (fun _ _ _ h => h) (by rfl) ?_ (by assumption) ?_
    · intro W hSw
      obtain ⟨hz0, hz1, hz2, hz3⟩ := hSw
      go_simp
    simp only [Act.put, List.setIfInBounds_toArray, List.set_cons_zero, List.set_cons_succ]
    refine wpAnyH_done (by kernel_rfl) ?_ _
    obtain ⟨⟨hr0, hr1, hr2, hr3⟩, hf0, hf1, hf2, hf3⟩ := cells4 (keep (keep (keep HRV.out (Below.refl _ V).drew) hb1) hb2)
    have HBX := hide (HBV.out.drew.trans ((hb1.trans (hb2.mono hb1.size)).mono HBV.out.drew.size))
    clear hb1 hb2 hHeld
    go_wp2_with fail
    refine bodyPost_ret (v := .tuple #[.agg #[.int .i64 0, .slice none 0 0, .int .i64 0, .int .i64 0], .bool false]) (by simp [results, Try.results35, go_sem, hr0, hr1, hr2, hr3]) rfl ?_
    exact flowEnd_no HN.out (below_set4 HBX.out (by simp) _ _ _ _)
  have heq : (((U : Nat) : Int) != ((U : Nat) : Int)) = false := by simp
  have HPA2 := hide (HPA.out.mp hpl)
  rw [hpl] at HPL
  have HCM := hide (fun W (hW : PartS W B (3 * c') (3 * c') L) => containsM_any (P : Int) (F : Int) (K : Int) (some ⟨B, 0, none⟩) c' c' _ B c' L W hW hn24 (fun W' k hk => misses_any (P : Int) (some ⟨B, 0, none⟩) c' c' F K _ _ _ W' (maskL_lt _ fun x hx => by have := (netOk_mem hgn hk).1 x hx; omega) (maskL_lt _ fun x hx => by have := (netOk_mem hgn hk).2.1 x hx; omega) HF.out HK.out))
  rw [HTA.out] at HCM
  obtain ⟨q, hq⟩ : ∃ q, Hid (decide ((wayT (P : Int) c' L s t).length = c') = q) := ⟨_, rfl⟩
  rw [hq.out] at HCM
  clear HPA hpl
  refine wp_region_held_drew (S := fun W => W.cell? ⟨X, 0, none⟩ = some (.int .i64 (P : Int)) ∧ W.cell? ⟨X, 1, none⟩ = some (.slice (some ⟨B, 0, none⟩) c' c') ∧ W.cell? ⟨X, 2, none⟩ = some (.int .u16 (F : Int)) ∧ W.cell? ⟨X, 3, none⟩ = some (.int .u16 (K : Int))) (by kernel_rfl) ?_ (fun hHeld => ?_)
  · exact (cells4 (keep HX.out (Below.refl _ V).drew)).1
  refine take_yes (i := 0) (some 34) (.agg #[.int .i64 (P : Int), .slice (some ⟨B, 0, none⟩) c' c', .int .u16 (F : Int), .int .u16 (K : Int)]) rfl rfl (by kernel_rfl) (by kernel_rfl) (by kernel_rfl) (fun _ _ _ h => h) (by rfl) ?_ (by assumption) ?_
  · intro W hSw
    obtain ⟨hz0, hz1, hz2, hz3⟩ := hSw
    go_simp
  simp only [Act.put, List.setIfInBounds_toArray, List.set_cons_zero, List.set_cons_succ]
  refine take_yes (i := 2) (some 36) (.pointer (some ⟨X, 0, none⟩)) rfl rfl (by kernel_rfl) (by kernel_rfl) (by kernel_rfl) (fun _ _ _ h => h) (by rfl) ?_ (by assumption) ?_
  · intro W hSw
    obtain ⟨hz0, hz1, hz2, hz3⟩ := hSw
    go_simp
  simp only [Act.put, List.setIfInBounds_toArray, List.set_cons_zero, List.set_cons_succ]
  refine take_yes (i := 3) (some 37) (.agg #[.int .i64 (P : Int), .slice (some ⟨B, 0, none⟩) c' c']) rfl rfl (by kernel_rfl) (by kernel_rfl) (by kernel_rfl) (fun _ _ _ h => h) (by rfl) ?_ (by assumption) ?_
  · intro W hSw
    obtain ⟨hz0, hz1, hz2, hz3⟩ := hSw
    go_simp
  simp only [Act.put, List.setIfInBounds_toArray, List.set_cons_zero, List.set_cons_succ]
  refine call_next (i := 1) (some 35) rfl rfl (by kernel_rfl) (by rfl) 44 _ _ _ rfl Try.func44 (by decide) rfl #[.agg #[.int .i64 (P : Int), .slice (some ⟨B, 0, none⟩) c' c', .int .u16 (F : Int), .int .u16 (K : Int)]] (mapw1 _ _ _ rfl) _ (HPL.out _) ?_
  rintro e v1 ⟨rfl, hb1⟩
  refine ⟨_, rfl, ?_, fun hHeld => ?_⟩
  · exact (cells4 (keep (keep HX.out (Below.refl _ V).drew) hb1)).1
  simp only [Act.put, List.setIfInBounds_toArray, List.set_cons_zero, List.set_cons_succ]
  refine call_next (i := 4) (some 38) rfl rfl (by kernel_rfl) (by rfl) 60 _ _ _ rfl Try.func60 (by decide) rfl #[.agg #[.int .i64 (P : Int), .slice (some ⟨B, 0, none⟩) c' c']] (mapw1 _ _ _ rfl) _ (HAL.out _) ?_
  rintro e v2 ⟨rfl, hb2⟩
  refine ⟨_, rfl, ?_, fun hHeld => ?_⟩
  · exact (cells4 (keep (keep (keep HX.out (Below.refl _ V).drew) hb1) hb2)).1
  simp only [Act.put, List.setIfInBounds_toArray, List.set_cons_zero, List.set_cons_succ]
  refine take_yes (i := 5) (some 39) (.bool false) rfl rfl (by kernel_rfl) (by kernel_rfl) (by kernel_rfl) (fun _ _ _ h => h) (by rfl) ?_ (by assumption) ?_
  · intro W hSw
    obtain ⟨hz0, hz1, hz2, hz3⟩ := hSw
    go_simp
  simp only [Act.put, List.setIfInBounds_toArray, List.set_cons_zero, List.set_cons_succ]
  refine take_yes (i := 6) (some 40) (.bool false) rfl rfl (by kernel_rfl) (by kernel_rfl) (by kernel_rfl) (fun _ _ _ h => h) (by rfl) ?_ (by assumption) ?_
  · intro W hSw
    obtain ⟨hz0, hz1, hz2, hz3⟩ := hSw
    go_simp
  simp only [Act.put, List.setIfInBounds_toArray, List.set_cons_zero, List.set_cons_succ]
  refine take_yes (i := 7) (some 41) (.pointer (some ⟨X, 0, none⟩)) rfl rfl (by kernel_rfl) (by kernel_rfl) (by kernel_rfl) (fun _ _ _ h => h) (by rfl) ?_ (by assumption) ?_
  · intro W hSw
    obtain ⟨hz0, hz1, hz2, hz3⟩ := hSw
    go_simp
  simp only [Act.put, List.setIfInBounds_toArray, List.set_cons_zero, List.set_cons_succ]
  refine take_yes (i := 8) (some 42) (.pointer (some ⟨X, 1, none⟩)) rfl rfl (by kernel_rfl) (by kernel_rfl) (by kernel_rfl) (fun _ _ _ h => h) (by rfl) ?_ (by assumption) ?_
  · intro W hSw
    obtain ⟨hz0, hz1, hz2, hz3⟩ := hSw
    go_simp
  simp only [Act.put, List.setIfInBounds_toArray, List.set_cons_zero, List.set_cons_succ]
  refine take_yes (i := 9) (some 43) (.slice (some ⟨B, 0, none⟩) c' c') rfl rfl (by kernel_rfl) (by kernel_rfl) (by kernel_rfl) (fun _ _ _ h => h) (by rfl) ?_ (by assumption) ?_
  · intro W hSw
    obtain ⟨hz0, hz1, hz2, hz3⟩ := hSw
    go_simp
  simp only [Act.put, List.setIfInBounds_toArray, List.set_cons_zero, List.set_cons_succ]
  refine take_yes (i := 10) (some 44) (.agg #[.int .i64 (P : Int), .slice (some ⟨B, 0, none⟩) c' c', .int .u16 (F : Int), .int .u16 (K : Int)]) rfl rfl (by kernel_rfl) (by kernel_rfl) (by kernel_rfl) (fun _ _ _ h => h) (by rfl) ?_ (by assumption) ?_
  · intro W hSw
    obtain ⟨hz0, hz1, hz2, hz3⟩ := hSw
    go_simp
  simp only [Act.put, List.setIfInBounds_toArray, List.set_cons_zero, List.set_cons_succ]
  refine take_yes (i := 11) (some 45) (.func (.func 62) #[.agg #[.int .i64 (P : Int), .slice (some ⟨B, 0, none⟩) c' c', .int .u16 (F : Int), .int .u16 (K : Int)]] #[]) rfl rfl (by kernel_rfl) (by kernel_rfl) (by kernel_rfl) (fun _ _ _ h => h) (by rfl) ?_ (by assumption) ?_
  · intro W hSw
    obtain ⟨hz0, hz1, hz2, hz3⟩ := hSw
    go_simp
  simp only [Act.put, List.setIfInBounds_toArray, List.set_cons_zero, List.set_cons_succ]
  refine call_next (i := 12) (some 46) rfl rfl (by kernel_rfl) (by rfl) 61 _ _ _ rfl Try.func61 (by decide) rfl #[.slice (some ⟨B, 0, none⟩) c' c', .func (.func 62) #[.agg #[.int .i64 (P : Int), .slice (some ⟨B, 0, none⟩) c' c', .int .u16 (F : Int), .int .u16 (K : Int)]] #[]] (mapw2 _ _ _ _ _ rfl rfl) _ (HCM.out _ (((HPS.out.grow (Below.refl _ V).drew).grow hb1).grow hb2)) ?_
  rintro e v3 ⟨rfl, hb3⟩
  refine ⟨_, rfl, ?_, fun hHeld => ?_⟩
  · exact (cells4 (keep (keep (keep (keep HX.out (Below.refl _ V).drew) hb1) hb2) hb3)).1
  simp only [Act.put, List.setIfInBounds_toArray, List.set_cons_zero, List.set_cons_succ]
  refine take_yes (i := 13) (some 47) (.bool (!q)) rfl rfl (by kernel_rfl) (by kernel_rfl) (by kernel_rfl) (fun _ _ _ h => h) (by rfl) ?_ (by assumption) ?_
  · intro W hSw
    obtain ⟨hz0, hz1, hz2, hz3⟩ := hSw
    go_simp
  simp only [Act.put, List.setIfInBounds_toArray, List.set_cons_zero, List.set_cons_succ]
  refine wpAnyH_done (by kernel_rfl) ?_ _
  have HBX := hide (HBV.out.drew.trans ((hb1.trans ((hb2.trans (hb3.mono hb2.size)).mono hb1.size)).mono HBV.out.drew.size))
  have HX3 := hide (keep (keep (keep (keep HX.out (Below.refl _ V).drew) hb1) hb2) hb3)
  have HY3 := hide (keep (keep (keep (keep HY.out (Below.refl _ V).drew) hb1) hb2) hb3)
  have HR3 := hide (keep (keep (keep (keep HRV.out (Below.refl _ V).drew) hb1) hb2) hb3)
  have HPS3 := hide ((((HPS.out.grow (Below.refl _ V).drew).grow hb1).grow hb2).grow hb3)
  obtain ⟨⟨hr0, hr1, hr2, hr3⟩, hf0, hf1, hf2, hf3⟩ := cells4 HR3.out
  obtain ⟨⟨hx0, hx1, hx2, hx3⟩, _⟩ := cells4 HX3.out
  obtain ⟨⟨hy0, hy1, hy2, hy3⟩, _⟩ := cells4 HY3.out
  clear hb1 hb2 hb3 hHeld HX HY HRV HPS HBV HCM HAL HPL
  cases q
  · have HN := hide (flow_no4 (p := (P : Int)) (s := s) (t := t) (of_decide_eq_false hq.out))
    go_wp2_with fail
    refine bodyPost_ret (v := .tuple #[.agg #[.int .i64 0, .slice none 0 0, .int .i64 0, .int .i64 0], .bool false]) (by simp [results, Try.results35, go_sem, hr0, hr1, hr2, hr3]) rfl ?_
    exact flowEnd_no HN.out (below_set4 HBX.out (by simp) _ _ _ _)
  have HCS := hide (containsS_any (P : Int) s t (some ⟨B, 0, none⟩) c' c' _ B c' L v3 HPS3.out hn24 (fun W' k hk => by
    have h := spoiled_any (P : Int) (some ⟨B, 0, none⟩) c' c' s.toNat t.toNat _ _ _ W' (maskL_lt (L.getD (3 * k) []) fun x hx => by have := (netOk_mem hgn hk).1 x hx; omega) (maskL_lt (L.getD (3 * k + 1) []) fun x hx => by have := (netOk_mem hgn hk).2.1 x hx; omega) (maskL_lt (L.getD (3 * k + 2) []) fun x hx => by have := (netOk_mem hgn hk).2.2 x hx; omega) (by omega) (by omega)
    rw [show ((s.toNat : Nat) : Int) = s by omega, show ((t.toNat : Nat) : Int) = t by omega] at h
    exact h))
  rw [HSA.out] at HCS
  obtain ⟨r, hr⟩ : ∃ r, Hid (anyK (spoilL L s t) c' = r) := ⟨_, rfl⟩
  rw [hr.out] at HCS
  go_wp2_with fail
  refine HCS.out.mono ?_
  rintro e v4 ⟨rfl, hb4⟩
  have HBY := hide (HBX.out.trans (hb4.mono HBX.out.size))
  have HPS4 := hide (HPS3.out.grow hb4)
  obtain ⟨⟨hr0, hr1, hr2, hr3⟩, hf0, hf1, hf2, hf3⟩ := cells4 (keep HR3.out hb4)
  obtain ⟨⟨hy0, hy1, hy2, hy3⟩, _⟩ := cells4 (keep HY3.out hb4)
  clear hb4 HCS hx0 hx1 hx2 hx3
  cases r
  rotate_left
  · have HN := hide (flow_no5 (p := (P : Int)) (n := c') (L := L) (s := s) (t := t) hr.out)
    go_wp2_with fail
    refine bodyPost_ret (v := .tuple #[.agg #[.int .i64 0, .slice none 0 0, .int .i64 0, .int .i64 0], .bool false]) (by simp [results, Try.results35, go_sem, hr0, hr1, hr2, hr3]) rfl ?_
    exact flowEnd_no HN.out (below_set4 HBY.out (by simp) _ _ _ _)
  have HOK := hide (flow_yes HG.out HST.out HPA2.out (of_decide_eq_true hq.out) hr.out)
  go_wp2_with fail
  refine bodyPost_ret (v := .tuple #[.agg #[.int .i64 (P : Int), .slice (some ⟨B, 0, none⟩) c' c', .int .i64 s, .int .i64 t], .bool true]) (by simp [results, Try.results35, go_sem, hr0, hr1, hr2, hr3]) rfl ?_
  exact ⟨_, _, _, _, s, t, by rw [HOK.out], fun _ => ⟨rfl, rfl, rfl, rfl, rfl, B, rfl, by have := HBs.out; omega, HPS4.out.set4 (by have := HBs.out; omega) _ _ _ _⟩, below_set4 HBY.out (by simp) _ _ _ _⟩
end Go.Proofs.Ytnknhjiofpjbbaa
