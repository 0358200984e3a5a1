/- Contracts that the proof stands on, one behind the other. -/
import Derived.Test.YtoijlepjnpdlkaaP10
/- ChainFlows of the program: the walk. -/
namespace Go.Proofs.Ytoijlepjnpdlkaa
open Go.RowKit
set_option maxRecDepth 10000

theorem chS {W : World} {x1 x2 X : Nat} {a0 a1 a2 a3 b0 b1 b2 b3 z0 z1 z2 : Value} {T1 T2 T3 : TypeId} (h1 : W.heap[x1]? = some (.cells #[a0, a1, a2, a3] T1 (0, 0))) (h2 : W.heap[x2]? = some (.cells #[b0, b1, b2, b3] T2 (0, 0))) (h3 : W.heap[X]? = some (.cells #[z0, z1, z2] T3 (0, 0))) :
    (W.cell? ⟨x1, 0, none⟩ = some a0 ∧ W.cell? ⟨x1, 1, none⟩ = some a1 ∧ W.cell? ⟨x1, 2, none⟩ = some a2 ∧ W.cell? ⟨x1, 3, none⟩ = some a3) ∧ (W.cell? ⟨x2, 0, none⟩ = some b0 ∧ W.cell? ⟨x2, 1, none⟩ = some b1 ∧ W.cell? ⟨x2, 2, none⟩ = some b2 ∧ W.cell? ⟨x2, 3, none⟩ = some b3) ∧ (W.cell? ⟨X, 0, none⟩ = some z0 ∧ W.cell? ⟨X, 1, none⟩ = some z1 ∧ W.cell? ⟨X, 2, none⟩ = some z2) :=
  ⟨(cells4 h1).1, (cells4 h2).1, cells3W h3⟩

theorem newsS (w : World) (x y z : Value) : ∀ j u, ([x, y, z] : List Value)[j]? = some u → (w.alloc (.cells #[x, y, z] 58)).cell? ((⟨w.heap.size, 0, none⟩ : Addr).add j) = some u := by
  intro j u hu
  rw [Addr.add_mid, cell_of_row _ w.heap.size (0 + j) #[x, y, z] _ _ (heap_alloc_new _ _), Nat.zero_add]
  simpa using hu

theorem chPos {p s t : Int} {n : Nat} {L : List (List Int)} (h : flowOk p n L s t = true) : 0 < n := by
  have hc := flow_num h
  have hr := (flow_places h (q := t) hc.2.2.2).1
  cases hr with
  | base => exact absurd rfl (flowOk_parts h).2.1
  | step _ hk _ _ => omega

theorem Try.size32 : (Try.prog.info? 32).map (·.size) = some 4 := by kernel_rfl

theorem Try.size47 : (Try.prog.info? 47).map (·.size) = some 1 := by kernel_rfl

set_option maxHeartbeats 8000000 in
theorem chainI_any (pa sa ta pb sb tb : Int) (aa ab : Option Addr) (na ca nb cb : Nat) (La Lb : List (List Int)) (w : World) (ha : Lists w aa (3 * na) La) (hb : Lists w ab (3 * nb) Lb) (hsa : sizeN na La ≤ 1048576) (hsb : sizeN nb Lb ≤ 1048576) :
    Calls Try.prog 7 #[.agg #[.int .i64 pa, .slice aa na ca, .int .i64 sa, .int .i64 ta], .agg #[.int .i64 pb, .slice ab nb cb, .int .i64 sb, .int .i64 tb]] w fun e w' => ChEnd (chOk pa sa ta pb sb tb na nb La Lb) (pa + pb - 1) sa (mvP pa ta sb tb) (na + nb) (chainL pa ta sb La Lb) w e w' := by
  have y1 : (w.alloc (.cells #[.int .i64 pa, .slice aa na ca, .int .i64 sa, .int .i64 ta] 32)).heap.size = w.heap.size + 1 := by simp
  have y2 : ((w.alloc (.cells #[.int .i64 pa, .slice aa na ca, .int .i64 sa, .int .i64 ta] 32)).alloc (.cells #[.int .i64 pb, .slice ab nb cb, .int .i64 sb, .int .i64 tb] 32)).heap.size = w.heap.size + 1 + 1 := by simp
  have y3 : (((w.alloc (.cells #[.int .i64 pa, .slice aa na ca, .int .i64 sa, .int .i64 ta] 32)).alloc (.cells #[.int .i64 pb, .slice ab nb cb, .int .i64 sb, .int .i64 tb] 32)).alloc (.cells #[.int .i64 0, .slice none 0 0, .int .i64 0, .int .i64 0] 32)).heap.size = w.heap.size + 1 + 1 + 1 := by simp
  have k2 := heap_alloc_new (w.alloc (.cells #[.int .i64 pa, .slice aa na ca, .int .i64 sa, .int .i64 ta] 32)) (.cells #[.int .i64 pb, .slice ab nb cb, .int .i64 sb, .int .i64 tb] 32)
  have k3 := heap_alloc_new ((w.alloc (.cells #[.int .i64 pa, .slice aa na ca, .int .i64 sa, .int .i64 ta] 32)).alloc (.cells #[.int .i64 pb, .slice ab nb cb, .int .i64 sb, .int .i64 tb] 32)) (.cells #[.int .i64 0, .slice none 0 0, .int .i64 0, .int .i64 0] 32)
  rw [y1] at k2
  rw [y2] at k3
  have HPB := hide (keep k2 (below_al _ (.cells #[.int .i64 0, .slice none 0 0, .int .i64 0, .int .i64 0] 32)))
  have HRS := hide k3
  have HB0 := hide ((below_two w (.cells #[.int .i64 pa, .slice aa na ca, .int .i64 sa, .int .i64 ta] 32) (.cells #[.int .i64 pb, .slice ab nb cb, .int .i64 sb, .int .i64 tb] 32)).alloc (by rw [y2]; omega) (.cells #[.int .i64 0, .slice none 0 0, .int .i64 0, .int .i64 0] 32))
  have HFA := hide (flowSteps_any pa sa ta aa na ca La _ (ha.below HB0.out) hsa)
  have HLB := hide hb
  have HLA := hide ha.1
  have HLb := hide hb.1
  obtain ⟨i1, hi1, hz0, hz1, hz2⟩ := info_split2 Try.info58
  clear ha hb k2 k3 y1 y2
  go_enter Try.func7, Try.ntmps7
  go_wp2_with fail
  refine HFA.out.mono ?_
  rintro e w1 ⟨p1, a1, m1, c1, s1, t1, rfl, hx1, hb1⟩
  have hA1 := below_al w1 (.cells #[.int .i64 p1, .slice a1 m1 c1, .int .i64 s1, .int .i64 t1] 51)
  have hbb1 := hb1.trans (hA1.mono hb1.size)
  have HB1 := hide (HB0.out.trans (hbb1.mono HB0.out.size))
  have HPB1 := hide (keep HPB.out hbb1)
  have HRS1 := hide (keep HRS.out hbb1)
  have HV1 := hide (heap_alloc_new w1 (.cells #[.int .i64 p1, .slice a1 m1 c1, .int .i64 s1, .int .i64 t1] 51))
  have HW1 := hide (show w.heap.size + 1 + 1 < w1.heap.size from row_lt (keep HRS.out hb1))
  have HFB := hide (flowSteps_any pb sb tb ab nb cb Lb _ (HLB.out.below HB1.out) hsb)
  have HX1 : Hid (flowOk pa na La sa ta = true → p1 = pa ∧ m1 = na ∧ c1 = na ∧ s1 = sa ∧ t1 = ta ∧ ∃ B, a1 = some ⟨B, 0, none⟩ ∧ w.heap.size + 1 + 1 + 1 ≤ B ∧ B < w1.heap.size ∧ PartS (w1.alloc (.cells #[.int .i64 p1, .slice a1 m1 c1, .int .i64 s1, .int .i64 t1] 51)) B (3 * na) (3 * na) La) := fun h => by
    obtain ⟨e1, e2, e3, e4, e5, B, e6, e7, e8⟩ := hx1.out h
    exact ⟨e1, e2, e3, e4, e5, B, e6, by rw [y3] at e7; exact e7, row_lt e8.choose_spec.1, e8.grow hA1⟩
  obtain ⟨⟨hq0, hq1, hq2, hq3⟩, _⟩ := cells4 (keep HPB.out hb1)
  have hlq := row_lt (keep HPB.out hb1)
  clear hx1 hb1 hA1 hbb1 HFA HB0 HPB HRS HLB y3
  go_wp2_with fail
  refine HFB.out.mono ?_
  rintro e w2 ⟨p2, a2, m2, c2, s2, t2, rfl, hx2, hb2⟩
  have hA2 := below_al w2 (.cells #[.int .i64 p2, .slice a2 m2 c2, .int .i64 s2, .int .i64 t2] 51)
  have hbb2 := hb2.trans (hA2.mono hb2.size)
  have HB2 := hide (HB1.out.trans (hbb2.mono HB1.out.size))
  have HRS2 := hide (keep HRS1.out hbb2)
  have HV1b := hide (keep HV1.out hbb2)
  have HV2 := hide (heap_alloc_new w2 (.cells #[.int .i64 p2, .slice a2 m2 c2, .int .i64 s2, .int .i64 t2] 51))
  have HW2 := hide (show w1.heap.size < w2.heap.size from row_lt (keep HV1.out hb2))
  have HX2 : Hid (flowOk pb nb Lb sb tb = true → p2 = pb ∧ m2 = nb ∧ c2 = nb ∧ s2 = sb ∧ t2 = tb ∧ ∃ B, a2 = some ⟨B, 0, none⟩ ∧ w1.heap.size < B ∧ B < w2.heap.size ∧ PartS (w2.alloc (.cells #[.int .i64 p2, .slice a2 m2 c2, .int .i64 s2, .int .i64 t2] 51)) B (3 * nb) (3 * nb) Lb) := fun h => by
    obtain ⟨e1, e2, e3, e4, e5, B, e6, e7, e8⟩ := hx2.out h
    exact ⟨e1, e2, e3, e4, e5, B, e6, by simp at e7; omega, row_lt e8.choose_spec.1, e8.grow hA2⟩
  have HX1b : Hid (flowOk pa na La sa ta = true → p1 = pa ∧ m1 = na ∧ c1 = na ∧ s1 = sa ∧ t1 = ta ∧ ∃ B, a1 = some ⟨B, 0, none⟩ ∧ w.heap.size + 1 + 1 + 1 ≤ B ∧ B < w1.heap.size ∧ PartS (w2.alloc (.cells #[.int .i64 p2, .slice a2 m2 c2, .int .i64 s2, .int .i64 t2] 51)) B (3 * na) (3 * na) La) := fun h => by
    obtain ⟨e1, e2, e3, e4, e5, B, e6, e7, e9, e8⟩ := HX1.out h
    exact ⟨e1, e2, e3, e4, e5, B, e6, e7, e9, e8.grow hbb2⟩
  obtain ⟨⟨hr0, hr1, hr2, hr3⟩, hf0, hf1, hf2, hf3⟩ := cells4 (keep HRS1.out hb2)
  have hlr := row_lt (keep HRS1.out hb2)
  obtain ⟨⟨hu0, hu1, hu2, hu3⟩, _⟩ := cells4 (keep HV1.out hb2)
  have hlu : w1.heap.size < w2.heap.size := HW2.out
  have HBw2 := hide (HB1.out.trans (hb2.mono HB1.out.size))
  clear hx2 hb2 hA2 hbb2 HFB HB1 HPB1 HRS1 HV1 HX1 hq0 hq1 hq2 hq3 hlq
  by_cases hga : flowOk pa na La sa ta = true
  rotate_left
  · have hg' : flowOk pa na La sa ta = false := by simpa using hga
    have HN := hide (show chOk pa sa ta pb sb tb na nb La Lb = false by unfold chOk; rw [hg']; rfl)
    rw [hg']
    clear hga hg'
    generalize flowOk pb nb Lb sb tb = gb
    go_wp2_with fail
    refine bodyPost_ret (v := .tuple #[.agg #[.int .i64 0, .slice none 0 0, .int .i64 0, .int .i64 0], .bool false]) (by simp [results, Try.results7, go_sem, hr0, hr1, hr2, hr3, hlr]) rfl ?_
    rw [HN.out]
    exact chEnd_no ((below_set4 HBw2.out (by omega) _ _ _ _).alloc (by have := HBw2.out.size; simp [World.setCell]; omega) _)
  by_cases hgb : flowOk pb nb Lb sb tb = true
  rotate_left
  · have hg' : flowOk pb nb Lb sb tb = false := by simpa using hgb
    have HN := hide (show chOk pa sa ta pb sb tb na nb La Lb = false by unfold chOk; rw [hg']; simp)
    rw [hg', hga]
    clear hgb hg' hga
    go_wp2_with fail
    refine bodyPost_ret (v := .tuple #[.agg #[.int .i64 0, .slice none 0 0, .int .i64 0, .int .i64 0], .bool false]) (by simp [results, Try.results7, go_sem, hr0, hr1, hr2, hr3, hlr]) rfl ?_
    rw [HN.out]
    exact chEnd_no ((below_set4 HBw2.out (by omega) _ _ _ _).alloc (by have := HBw2.out.size; simp [World.setCell]; omega) _)
  obtain ⟨e1, e2, e3, e4, e5, B1, rfl, hB1, hB1', hps1⟩ := HX1b.out hga
  obtain ⟨f1, f2, f3, f4, f5, B2, rfl, hB2, hB2', hps2⟩ := HX2.out hgb
  subst e1 e2 e3 e4 e5 f1 f2 f3 f4 f5
  obtain ⟨hpa, hna, hsa1, hta1⟩ := flow_num hga
  obtain ⟨hpb, hnb, hsb1, htb1⟩ := flow_num hgb
  have HGA := hide hga
  have HGB := hide hgb
  rw [hga, hgb]
  have hA3 := below_al (w2.alloc (.cells #[.int .i64 p2, .slice (some ⟨B2, 0, none⟩) c2 c2, .int .i64 s2, .int .i64 t2] 51)) (.cells #[.int .i64 (p1 + p2 - 1), .slice (some ⟨B1, 0, none⟩) c1 c1] 49)
  have hv3 := heap_alloc_new (w2.alloc (.cells #[.int .i64 p2, .slice (some ⟨B2, 0, none⟩) c2 c2, .int .i64 s2, .int .i64 t2] 51)) (.cells #[.int .i64 (p1 + p2 - 1), .slice (some ⟨B1, 0, none⟩) c1 c1] 49)
  rw [show (w2.alloc (.cells #[.int .i64 p2, .slice (some ⟨B2, 0, none⟩) c2 c2, .int .i64 s2, .int .i64 t2] 51)).heap.size = w2.heap.size + 1 by simp] at hv3
  have HI0 : Hid (ChInv w ((w2.alloc (.cells #[.int .i64 p2, .slice (some ⟨B2, 0, none⟩) c2 c2, .int .i64 s2, .int .i64 t2] 51)).alloc (.cells #[.int .i64 (p1 + p2 - 1), .slice (some ⟨B1, 0, none⟩) c1 c1] 49)) w1.heap.size w2.heap.size p1 s1 t1 p2 s2 t2 B1 B2 c1 c2 (.slice (some ⟨B1, 0, none⟩) c1 c1) 0 La Lb) := by
    refine ⟨keep HV1b.out hA3, keep HV2.out hA3, keep HRS2.out hA3, hv3, ?_, fun q hq => .inl (by simp [Value.ownBlock] at hq; omega), (hps2.grow hA3).toX, HB2.out.trans (hA3.mono HB2.out.size)⟩
    have := own_steps (hps1.grow hA3) hB1 hna
    rw [← stC_congr (K := chainL p1 t1 s2 La Lb) (fun j hj => chain_a HLA.out hj)] at this
    exact this
  clear hga hgb HX1b HX2 HRS2 HV1b HV2 HB2 hps1 hps2 hA3 hv3 hr0 hr1 hr2 hr3 hf0 hf1 hf2 hf3
  go_wp2_with fail
  obtain ⟨V, hV⟩ : ∃ V, Hid ((w2.alloc (.cells #[.int .i64 p2, .slice (some ⟨B2, 0, none⟩) c2 c2, .int .i64 s2, .int .i64 t2] 51)).alloc (.cells #[.int .i64 (p1 + p2 - 1), .slice (some ⟨B1, 0, none⟩) c1 c1] 49) = V) := ⟨_, rfl⟩
  rw [hV.out] at HI0 ⊢
  refine (goodPlaces_any _ _).mono ?_
  rintro e w' ⟨rfl, hw'⟩
  have hw2 := hw'.symm
  subst hw2
  clear hV hw' hu0 hu1 hu2 hu3
  obtain ⟨⟨hu0, hu1, hu2, hu3⟩, _⟩ := cells4 HI0.out.fst
  obtain ⟨⟨hn0, hn1, hn2, hn3⟩, _⟩ := cells4 HI0.out.nxt
  obtain ⟨⟨hr0, hr1, hr2, hr3⟩, hf0, hf1, hf2, hf3⟩ := cells4 HI0.out.res
  have hlr' := row_lt HI0.out.res
  by_cases hfit : p1 + p2 - 1 ≤ 16 ∧ c1 + c2 ≤ 24
  rotate_left
  · have HN := hide (show chOk p1 s1 t1 p2 s2 t2 c1 c2 La Lb = false by unfold chOk; rw [HGA.out, HGB.out]; simp; omega)
    by_cases hp : p1 + p2 - 1 ≤ 16
    · rw [show inB (p1 + p2 - 1) 1 16 = true by unfold inB; simp; omega]
      have hgt : 24 < c1 + c2 := by omega
      go_wp2_with fail
      refine bodyPost_ret (v := .tuple #[.agg #[.int .i64 0, .slice none 0 0, .int .i64 0, .int .i64 0], .bool false]) (by simp [results, Try.results7, go_sem, hr0, hr1, hr2, hr3]) rfl ?_
      rw [HN.out]
      exact chEnd_no (below_set4 HI0.out.bel (by omega) _ _ _ _)
    · rw [show inB (p1 + p2 - 1) 1 16 = false by unfold inB; simp; omega]
      go_wp2_with fail
      refine bodyPost_ret (v := .tuple #[.agg #[.int .i64 0, .slice none 0 0, .int .i64 0, .int .i64 0], .bool false]) (by simp [results, Try.results7, go_sem, hr0, hr1, hr2, hr3]) rfl ?_
      rw [HN.out]
      exact chEnd_no (below_set4 HI0.out.bel (by omega) _ _ _ _)
  obtain ⟨hp16, hn24⟩ := hfit
  have HC : Hid (Chn p1 p2 s1 t1 s2 t2 c1 c2 La Lb) := ⟨HGA.out, HGB.out, HLA.out, HLb.out, hp16, hn24⟩
  have HK := hide (show chOk p1 s1 t1 p2 s2 t2 c1 c2 La Lb = true by unfold chOk; rw [HGA.out, HGB.out]; simp; omega)
  rw [show inB (p1 + p2 - 1) 1 16 = true by unfold inB; simp; omega]
  go_wp2_with fail
  have HC0 := hide (show 0 < c2 from chPos HGB.out)
  have HY0 := hide (show w.heap.size + 1 + 1 < w1.heap.size from HW1.out)
  have HY1 := hide (show w1.heap.size < w2.heap.size from HW2.out)
  have HB2 := hide hB2
  have HB2b := hide hB2'
  obtain ⟨Y1, hY1⟩ : ∃ Y1, Hid (w1.heap.size = Y1) := ⟨_, rfl⟩
  obtain ⟨Y2, hY2⟩ : ∃ Y2, Hid (w2.heap.size = Y2) := ⟨_, rfl⟩
  rw [hY1.out] at HI0 HY0 HY1 HB2 ⊢
  rw [hY2.out] at HI0 HY1 HB2b ⊢
  go_loopw [63] (fun i wr => ∃ k v, k ≤ c2 ∧ i = .int .i64 (k : Nat) ∧ Hid (ChInv w wr Y1 Y2 p1 s1 t1 p2 s2 t2 B1 B2 c1 c2 v k La Lb)) (fun i _ => c2 - (intOf i).toNat)
  case atStart => exact ⟨0, _, Nat.zero_le _, rfl, HI0⟩
  case round =>
    obtain ⟨k, v, hk, rfl, hin⟩ := hrel
    clear HI0
    by_cases hlt : k < c2
    rotate_left
    · have hk' : k = c2 := by omega
      subst hk'
      obtain ⟨g, cq, rfl, hpx⟩ := PartX.of_own hin.out.own (by have := HC0.out; omega)
      have hdr := (Below.refl wr.heap.size wr).drew
      have HI2 := hide (hin.out.grow hdr)
      have HP2 := hide (hpx.grow hdr)
      clear hpx hin hdr
      go_wp2_with fail
      refine wp_region_held_drew (S := fun W => (W.cell? ⟨Y1, 0, none⟩ = some (.int .i64 p1) ∧ W.cell? ⟨Y1, 1, none⟩ = some (.slice (some ⟨B1, 0, none⟩) c1 c1) ∧ W.cell? ⟨Y1, 2, none⟩ = some (.int .i64 s1) ∧ W.cell? ⟨Y1, 3, none⟩ = some (.int .i64 t1)) ∧ (W.cell? ⟨Y2, 0, none⟩ = some (.int .i64 p2) ∧ W.cell? ⟨Y2, 1, none⟩ = some (.slice (some ⟨B2, 0, none⟩) k k) ∧ W.cell? ⟨Y2, 2, none⟩ = some (.int .i64 s2) ∧ W.cell? ⟨Y2, 3, none⟩ = some (.int .i64 t2)) ∧ (W.cell? ⟨Y2 + 1, 0, none⟩ = some (.int .i64 (p1 + p2 - 1)) ∧ W.cell? ⟨Y2 + 1, 1, none⟩ = some (.slice (some ⟨g, 0, none⟩) (c1 + k) cq))) (by kernel_rfl) ?_ (fun hHeld => ?_)
      · exact ⟨(cells4 HI2.out.fst).1, (cells4 HI2.out.nxt).1, cells2 HI2.out.var⟩
      refine take_yes (i := 0) (some 77) (.agg #[.int .i64 (p1 + p2 - 1), .slice (some ⟨g, 0, none⟩) (c1 + k) cq]) rfl rfl (by kernel_rfl) (by kernel_rfl) (by kernel_rfl) (fun _ _ _ h => h) (by rfl) ?_ (by assumption) ?_
      · intro W' hSw
        obtain ⟨⟨ha0, ha1, ha2, ha3⟩, ⟨hb0, hb1, hb2, hb3⟩, hy0, hy1⟩ := hSw
        go_simp
      simp only [Act.put, List.setIfInBounds_toArray, List.set_cons_zero, List.set_cons_succ]
      refine take_yes (i := 2) (some 79) (.pointer (some ⟨Y1, 2, none⟩)) rfl rfl (by kernel_rfl) (by kernel_rfl) (by kernel_rfl) (fun _ _ _ h => h) (by rfl) ?_ (by assumption) ?_
      · intro W' hSw
        obtain ⟨⟨ha0, ha1, ha2, ha3⟩, ⟨hb0, hb1, hb2, hb3⟩, hy0, hy1⟩ := hSw
        go_simp
      simp only [Act.put, List.setIfInBounds_toArray, List.set_cons_zero, List.set_cons_succ]
      refine take_yes (i := 3) (some 80) (.int .i64 s1) rfl rfl (by kernel_rfl) (by kernel_rfl) (by kernel_rfl) (fun _ _ _ h => h) (by rfl) ?_ (by assumption) ?_
      · intro W' hSw
        obtain ⟨⟨ha0, ha1, ha2, ha3⟩, ⟨hb0, hb1, hb2, hb3⟩, hy0, hy1⟩ := hSw
        go_simp
      simp only [Act.put, List.setIfInBounds_toArray, List.set_cons_zero, List.set_cons_succ]
      refine take_yes (i := 4) (some 81) (.agg #[.int .i64 p1, .slice (some ⟨B1, 0, none⟩) c1 c1, .int .i64 s1, .int .i64 t1]) rfl rfl (by kernel_rfl) (by kernel_rfl) (by kernel_rfl) (fun _ _ _ h => h) (by rfl) ?_ (by assumption) ?_
      · intro W' hSw
        obtain ⟨⟨ha0, ha1, ha2, ha3⟩, ⟨hb0, hb1, hb2, hb3⟩, hy0, hy1⟩ := hSw
        go_simp
      simp only [Act.put, List.setIfInBounds_toArray, List.set_cons_zero, List.set_cons_succ]
      refine take_yes (i := 5) (some 82) (.agg #[.int .i64 p2, .slice (some ⟨B2, 0, none⟩) k k, .int .i64 s2, .int .i64 t2]) rfl rfl (by kernel_rfl) (by kernel_rfl) (by kernel_rfl) (fun _ _ _ h => h) (by rfl) ?_ (by assumption) ?_
      · intro W' hSw
        obtain ⟨⟨ha0, ha1, ha2, ha3⟩, ⟨hb0, hb1, hb2, hb3⟩, hy0, hy1⟩ := hSw
        go_simp
      simp only [Act.put, List.setIfInBounds_toArray, List.set_cons_zero, List.set_cons_succ]
      refine take_yes (i := 6) (some 83) (.pointer (some ⟨Y2, 3, none⟩)) rfl rfl (by kernel_rfl) (by kernel_rfl) (by kernel_rfl) (fun _ _ _ h => h) (by rfl) ?_ (by assumption) ?_
      · intro W' hSw
        obtain ⟨⟨ha0, ha1, ha2, ha3⟩, ⟨hb0, hb1, hb2, hb3⟩, hy0, hy1⟩ := hSw
        go_simp
      simp only [Act.put, List.setIfInBounds_toArray, List.set_cons_zero, List.set_cons_succ]
      refine take_yes (i := 7) (some 84) (.int .i64 t2) rfl rfl (by kernel_rfl) (by kernel_rfl) (by kernel_rfl) (fun _ _ _ h => h) (by rfl) ?_ (by assumption) ?_
      · intro W' hSw
        obtain ⟨⟨ha0, ha1, ha2, ha3⟩, ⟨hb0, hb1, hb2, hb3⟩, hy0, hy1⟩ := hSw
        go_simp
      simp only [Act.put, List.setIfInBounds_toArray, List.set_cons_zero, List.set_cons_succ]
      refine call_next (i := 1) (some 78) rfl rfl (by kernel_rfl) (by rfl) 19 _ _ _ rfl Try.func19 (by decide) rfl #[.agg #[.int .i64 (p1 + p2 - 1), .slice (some ⟨g, 0, none⟩) (c1 + k) cq]] (mapw1 _ _ _ rfl) _ (netLists_any (p1 + p2 - 1) g (c1 + k) cq (chainL p1 t1 s2 La Lb) _ HP2.out HC.out.net (chain_len HC.out.la HC.out.lb)) ?_
      rintro e v1 ⟨M, rfl, htri, hc1⟩
      refine ⟨_, rfl, ?_, fun hHeld => ?_⟩
      · exact ⟨(cells4 (keep HI2.out.fst hc1)).1, (cells4 (keep HI2.out.nxt hc1)).1, cells2 (keep HI2.out.var hc1)⟩
      simp only [Act.put, List.setIfInBounds_toArray, List.set_cons_zero, List.set_cons_succ]
      refine call_next (i := 8) (some 85) rfl rfl (by kernel_rfl) (by rfl) 20 _ _ _ rfl Try.func20 (by decide) rfl #[.agg #[.int .i64 p1, .slice (some ⟨B1, 0, none⟩) c1 c1, .int .i64 s1, .int .i64 t1], .agg #[.int .i64 p2, .slice (some ⟨B2, 0, none⟩) k k, .int .i64 s2, .int .i64 t2], .int .i64 t2] (mapw3 _ _ _ _ _ _ _ rfl rfl rfl) _ (placeBehind_any p1 s1 t1 p2 s2 t2 _ _ c1 c1 k k t2 _ (by omega) (by omega)) ?_
      rintro e v2 ⟨rfl, hc2⟩
      refine ⟨_, rfl, ?_, fun hHeld => ?_⟩
      · exact ⟨(cells4 (keep (keep HI2.out.fst hc1) hc2)).1, (cells4 (keep (keep HI2.out.nxt hc1) hc2)).1, cells2 (keep (keep HI2.out.var hc1) hc2)⟩
      simp only [Act.put, List.setIfInBounds_toArray, List.set_cons_zero, List.set_cons_succ]
      refine take_yes (i := 9) (some 86) (.agg #[.int .i64 (p1 + p2 - 1), .slice (some ⟨M, 0, none⟩) (c1 + k) (c1 + k), .int .i64 s1, .int .i64 (mvP p1 t1 s2 t2)]) rfl rfl (by kernel_rfl) (by kernel_rfl) (by kernel_rfl) (fun _ _ _ h => h) (by rfl) ?_ (by assumption) ?_
      · intro W' hSw
        obtain ⟨⟨ha0, ha1, ha2, ha3⟩, ⟨hb0, hb1, hb2, hb3⟩, hy0, hy1⟩ := hSw
        go_simp
      simp only [Act.put, List.setIfInBounds_toArray, List.set_cons_zero, List.set_cons_succ]
      have hI4 := (HI2.out.grow hc1).grow hc2
      refine store_next (i := 10) rfl rfl (by kernel_rfl) (by rfl) 32 _ _ rfl (w.heap.size + 1 + 1) #[.int .i64 (p1 + p2 - 1), .slice (some ⟨M, 0, none⟩) (c1 + k) (c1 + k), .int .i64 s1, .int .i64 (mvP p1 t1 s2 t2)] rfl rfl 32 _ hI4.res Try.size32 rfl (by simp [Value.oneCell']) ?_ (fun hHeld => ?_)
      · exact ⟨(cells4 ((setRow_otherW _ (by have := HY0.out; omega) _).trans hI4.fst)).1, (cells4 ((setRow_otherW _ (by have := HY0.out; have := HY1.out; omega) _).trans hI4.nxt)).1, cells2 ((setRow_otherW _ (by have := HY0.out; have := HY1.out; omega) _).trans hI4.var)⟩
      refine take_yes (i := 11) (some 5) (.bool true) rfl rfl (by kernel_rfl) (by kernel_rfl) (by kernel_rfl) (fun _ _ _ h => h) (by rfl) ?_ (by assumption) ?_
      · intro W' hSw
        obtain ⟨⟨ha0, ha1, ha2, ha3⟩, ⟨hb0, hb1, hb2, hb3⟩, hy0, hy1⟩ := hSw
        go_simp
      simp only [Act.put, List.setIfInBounds_toArray, List.set_cons_zero, List.set_cons_succ]
      refine wpAnyH_done (by kernel_rfl) ?_ _
      obtain ⟨⟨hr0, hr1, hr2, hr3⟩, _⟩ := cells4 (setRow_sameW hI4.res #[.int .i64 (p1 + p2 - 1), .slice (some ⟨M, 0, none⟩) (c1 + k) (c1 + k), .int .i64 s1, .int .i64 (mvP p1 t1 s2 t2)])
      have HBX := hide (below_setRow hI4.bel (w.heap.size + 1 + 1) (by omega) #[.int .i64 (p1 + p2 - 1), .slice (some ⟨M, 0, none⟩) (c1 + k) (c1 + k), .int .i64 s1, .int .i64 (mvP p1 t1 s2 t2)])
      have hlw := row_lt HI2.out.res
      have HTX := hide (((htri.grow hc2).high (w' := v2.setRow (w.heap.size + 1 + 1) #[.int .i64 (p1 + p2 - 1), .slice (some ⟨M, 0, none⟩) (c1 + k) (c1 + k), .int .i64 s1, .int .i64 (mvP p1 t1 s2 t2)]) (fun q hq _ => setRow_otherW _ (by omega) _) (by simp [World.setRow])).lower (lo' := w.heap.size) (by omega))
      clear htri hc1 hc2 hI4 hHeld HI2 HP2 hlw
      go_wp2_with fail
      refine bodyPost_ret (v := .tuple #[.agg #[.int .i64 (p1 + p2 - 1), .slice (some ⟨M, 0, none⟩) (c1 + k) (c1 + k), .int .i64 s1, .int .i64 (mvP p1 t1 s2 t2)], .bool true]) (by simp [results, Try.results7, go_sem, hr0, hr1, hr2, hr3]) rfl ?_
      rw [HK.out]
      exact ⟨_, _, rfl, fun _ => HTX.out, HBX.out⟩
    have hxx := hin.out.prt.at3X hlt
    have HSB := hide (fun W => chStep HC.out hlt B1 B2 W)
    obtain ⟨m0, hm0⟩ : ∃ m, Hid (maskL (Lb.getD (3 * k) []) = m) := ⟨_, rfl⟩
    obtain ⟨m1, hm1⟩ : ∃ m, Hid (maskL (Lb.getD (3 * k + 1) []) = m) := ⟨_, rfl⟩
    obtain ⟨m2, hm2⟩ : ∃ m, Hid (maskL (Lb.getD (3 * k + 2) []) = m) := ⟨_, rfl⟩
    rw [hm0.out, hm1.out, hm2.out] at hxx
    simp only [hm0.out, hm1.out, hm2.out] at HSB
    clear hm0 hm1 hm2
    obtain ⟨hx0, hx1, hx2⟩ := hxx
    have hlB := hin.out.prt.lt
    have hA1 := below_al wr (.cells #[.int .u16 (m0 : Int), .int .u16 (m1 : Int), .int .u16 (m2 : Int)] 58)
    have hI1 := hin.out.grow hA1
    have HXq := hide (heap_alloc_new wr (.cells #[.int .u16 (m0 : Int), .int .u16 (m1 : Int), .int .u16 (m2 : Int)] 58))
    have HXN : Hid (some wr.heap.size = v.ownBlock → False) := fun e => by have := (hin.out.own.lt _ e.symm).2; omega
    have HXV := hide (show wr.heap.size ≠ Y2 + 1 by have := row_lt hin.out.var; omega)
    clear hin
    go_wp2_with fail
    clear hx0 hx1 hx2 hlB
    obtain ⟨U, hU⟩ : ∃ U, Hid (wr.alloc (.cells #[.int .u16 (m0 : Int), .int .u16 (m1 : Int), .int .u16 (m2 : Int)] 58) = U) := ⟨_, rfl⟩
    obtain ⟨X, hX⟩ : ∃ X, Hid (wr.heap.size = X) := ⟨_, rfl⟩
    rw [hU.out] at hI1 HXq ⊢
    rw [hX.out] at HXq HXN HXV ⊢
    have hdr := (Below.refl U.heap.size U).drew
    have HI2 := hide (hI1.grow hdr)
    have HX2 := hide (keep HXq.out hdr)
    clear hA1 hI1 HXq hdr hU hX
    refine wp_region_held_drew (S := fun W => (W.cell? ⟨Y1, 0, none⟩ = some (.int .i64 p1) ∧ W.cell? ⟨Y1, 1, none⟩ = some (.slice (some ⟨B1, 0, none⟩) c1 c1) ∧ W.cell? ⟨Y1, 2, none⟩ = some (.int .i64 s1) ∧ W.cell? ⟨Y1, 3, none⟩ = some (.int .i64 t1)) ∧ (W.cell? ⟨Y2, 0, none⟩ = some (.int .i64 p2) ∧ W.cell? ⟨Y2, 1, none⟩ = some (.slice (some ⟨B2, 0, none⟩) c2 c2) ∧ W.cell? ⟨Y2, 2, none⟩ = some (.int .i64 s2) ∧ W.cell? ⟨Y2, 3, none⟩ = some (.int .i64 t2)) ∧ (W.cell? ⟨X, 0, none⟩ = some (.int .u16 (m0 : Int)) ∧ W.cell? ⟨X, 1, none⟩ = some (.int .u16 (m1 : Int)) ∧ W.cell? ⟨X, 2, none⟩ = some (.int .u16 (m2 : Int)))) (by kernel_rfl) ?_ (fun hHeld => ?_)
    · exact chS HI2.out.fst HI2.out.nxt HX2.out
    refine take_yes (i := 0) (some 67) (.pointer (some ⟨Y2 + 1, 1, none⟩)) rfl rfl (by kernel_rfl) (by kernel_rfl) (by kernel_rfl) (fun _ _ _ h => h) (by rfl) ?_ (by assumption) ?_
    · intro W' hSw
      obtain ⟨⟨ha0, ha1, ha2, ha3⟩, ⟨hb0, hb1, hb2, hb3⟩, hy0, hy1, hy2⟩ := hSw
      go_simp
    simp only [Act.put, List.setIfInBounds_toArray, List.set_cons_zero, List.set_cons_succ]
    refine take_yes (i := 2) (some 69) (.agg #[.int .i64 p1, .slice (some ⟨B1, 0, none⟩) c1 c1, .int .i64 s1, .int .i64 t1]) rfl rfl (by kernel_rfl) (by kernel_rfl) (by kernel_rfl) (fun _ _ _ h => h) (by rfl) ?_ (by assumption) ?_
    · intro W' hSw
      obtain ⟨⟨ha0, ha1, ha2, ha3⟩, ⟨hb0, hb1, hb2, hb3⟩, hy0, hy1, hy2⟩ := hSw
      go_simp
    simp only [Act.put, List.setIfInBounds_toArray, List.set_cons_zero, List.set_cons_succ]
    refine take_yes (i := 3) (some 70) (.agg #[.int .i64 p2, .slice (some ⟨B2, 0, none⟩) c2 c2, .int .i64 s2, .int .i64 t2]) rfl rfl (by kernel_rfl) (by kernel_rfl) (by kernel_rfl) (fun _ _ _ h => h) (by rfl) ?_ (by assumption) ?_
    · intro W' hSw
      obtain ⟨⟨ha0, ha1, ha2, ha3⟩, ⟨hb0, hb1, hb2, hb3⟩, hy0, hy1, hy2⟩ := hSw
      go_simp
    simp only [Act.put, List.setIfInBounds_toArray, List.set_cons_zero, List.set_cons_succ]
    refine take_yes (i := 4) (some 71) (.agg #[.int .u16 (m0 : Int), .int .u16 (m1 : Int), .int .u16 (m2 : Int)]) rfl rfl (by kernel_rfl) (by kernel_rfl) (by kernel_rfl) (fun _ _ _ h => h) (by rfl) ?_ (by assumption) ?_
    · intro W' hSw
      obtain ⟨⟨ha0, ha1, ha2, ha3⟩, ⟨hb0, hb1, hb2, hb3⟩, hy0, hy1, hy2⟩ := hSw
      go_simp
    simp only [Act.put, List.setIfInBounds_toArray, List.set_cons_zero, List.set_cons_succ]
    refine wpAnyH_ready (rs := [1, 5]) (by kernel_rfl) (by simp) (AllReadyH.cons rfl (fun K hK => ?_) (AllReadyH.cons rfl (fun K hK => ?_) AllReadyH.nil))
    · refine step_valW (w' := U.drew) (by rfl) (some 68) rfl v (by have hv := (cells2 HI2.out.var).2; go_simp) (hK.out _ _ ?_ (fun hHeld => ?_))
      · exact chS HI2.out.fst HI2.out.nxt HX2.out
      simp only [Act.put, List.setIfInBounds_toArray, List.set_cons_zero, List.set_cons_succ]
      refine wpAnyH_ready (rs := [5]) (by kernel_rfl) (by simp) (AllReadyH.cons rfl (fun K hK => ?_) AllReadyH.nil)
      refine step_callWd (some 72) rfl (by rfl) 18 _ _ _ rfl Try.func18 (by decide) rfl #[.agg #[.int .i64 p1, .slice (some ⟨B1, 0, none⟩) c1 c1, .int .i64 s1, .int .i64 t1], .agg #[.int .i64 p2, .slice (some ⟨B2, 0, none⟩) c2 c2, .int .i64 s2, .int .i64 t2], .agg #[.int .u16 (m0 : Int), .int .u16 (m1 : Int), .int .u16 (m2 : Int)]] (mapw3 _ _ _ _ _ _ _ rfl rfl rfl) _ (HSB.out _) ?_
      rintro e v1 ⟨rfl, hc1⟩
      refine ⟨_, rfl, hK.out _ _ ?_ (fun hHeld => ?_)⟩
      · exact chS (keep HI2.out.fst hc1) (keep HI2.out.nxt hc1) (keep HX2.out hc1)
      simp only [Act.put, List.setIfInBounds_toArray, List.set_cons_zero, List.set_cons_succ]
      refine wpAnyH_ready (rs := [6]) (by kernel_rfl) (by simp) (AllReadyH.cons rfl (fun K hK => ?_) AllReadyH.nil)
      have hcA := below_al v1 (.cells #[.int .u16 (maskL ((chainL p1 t1 s2 La Lb).getD (3 * (c1 + k)) []) : Int), .int .u16 (maskL ((chainL p1 t1 s2 La Lb).getD (3 * (c1 + k) + 1) []) : Int), .int .u16 (maskL ((chainL p1 t1 s2 La Lb).getD (3 * (c1 + k) + 2) []) : Int)] 58)
      refine step_valW (w' := v1.alloc (.cells #[.int .u16 (maskL ((chainL p1 t1 s2 La Lb).getD (3 * (c1 + k)) []) : Int), .int .u16 (maskL ((chainL p1 t1 s2 La Lb).getD (3 * (c1 + k) + 1) []) : Int), .int .u16 (maskL ((chainL p1 t1 s2 La Lb).getD (3 * (c1 + k) + 2) []) : Int)] 58)) (by rfl) (some 73) rfl (.slice (some ⟨v1.heap.size, 0, none⟩) 1 1) (by go_simp) (hK.out _ _ ?_ (fun hHeld => ?_))
      · exact chS (keep (keep HI2.out.fst hc1) hcA) (keep (keep HI2.out.nxt hc1) hcA) (keep (keep HX2.out hc1) hcA)
      simp only [Act.put, List.setIfInBounds_toArray, List.set_cons_zero, List.set_cons_succ]
      have hI4 := (HI2.out.grow hc1).grow hcA
      have HNW := hide (newsS v1 (.int .u16 (maskL ((chainL p1 t1 s2 La Lb).getD (3 * (c1 + k)) []) : Int)) (.int .u16 (maskL ((chainL p1 t1 s2 La Lb).getD (3 * (c1 + k) + 1) []) : Int)) (.int .u16 (maskL ((chainL p1 t1 s2 La Lb).getD (3 * (c1 + k) + 2) []) : Int)))
      have HI4 := hide hI4
      have hX4 := keep (keep HX2.out hc1) hcA
      refine wpAnyH_ready (rs := [7]) (by kernel_rfl) (by simp) (AllReadyH.cons rfl (fun K hK => ?_) AllReadyH.nil)
      refine step_appWd (some 74) rfl (by rfl) (.tmp 68) (.tmp 73) 47 (by rfl) (w.heap.size + 1 + 1 + 1) 58 i1 _ 3 6 Try.underlying47 hi1 hz0 hz1 hz2 (by rfl) (by decide) v (c1 + k) (stC (chainL p1 t1 s2 La Lb) (c1 + k)) (by rfl) HI4.out.own ⟨v1.heap.size, 0, none⟩ 1 1 [.int .u16 (maskL ((chainL p1 t1 s2 La Lb).getD (3 * (c1 + k)) []) : Int), .int .u16 (maskL ((chainL p1 t1 s2 La Lb).getD (3 * (c1 + k) + 1) []) : Int), .int .u16 (maskL ((chainL p1 t1 s2 La Lb).getD (3 * (c1 + k) + 2) []) : Int)] (by rfl) (by rfl) HNW.out (by simp [Value.oneCell']) (by decide) (by unfold maxLen; omega) (by omega) (by have := row_lt HI4.out.fst; have := HY0.out; omega) (v1.heap.size + 1) (by simp) ?_
      intro gg cp W hown hgr hlies hglt
      have hXW := (hgr.block X (row_lt hX4) (fun e => HXN.out e)).trans hX4
      have hl1 := row_lt hI4.var
      have hFW := (hI4.same hgr (b := Y1) (by have := HY1.out; omega) (by have := HY1.out; omega)).trans hI4.fst
      have hGW := (hI4.same hgr (b := Y2) (by omega) (by have := HY1.out; omega)).trans hI4.nxt
      have hVW := (hI4.same hgr (b := Y2 + 1) (by omega) (by have := HY1.out; omega)).trans hI4.var
      have HI5 := hide (hI4.push HY0.out HY1.out HB2.out HB2b.out hown hgr (by simpa using hlies))
      refine hK.out _ _ ?_ (fun hHeld => ?_)
      · exact chS hFW hGW hXW
      simp only [Act.put, List.setIfInBounds_toArray, List.set_cons_zero, List.set_cons_succ]
      refine take_yes (i := 8) (some 75) (.pointer (some ⟨Y2 + 1, 1, none⟩)) rfl rfl (by kernel_rfl) (by kernel_rfl) (by kernel_rfl) (fun _ _ _ h => h) (by rfl) ?_ (by assumption) ?_
      · intro W' hSw
        obtain ⟨⟨ha0, ha1, ha2, ha3⟩, ⟨hb0, hb1, hb2, hb3⟩, hy0, hy1, hy2⟩ := hSw
        go_simp
      simp only [Act.put, List.setIfInBounds_toArray, List.set_cons_zero, List.set_cons_succ]
      refine store_one_next (i := 9) rfl rfl (by kernel_rfl) (by rfl) 47 _ _ rfl (Y2 + 1) 1 (some ⟨gg, 0, none⟩) (c1 + k + 1) cp rfl rfl #[.int .i64 (p1 + p2 - 1), v] 49 hVW (by simp) Try.size47 ?_ (fun hHeld => ?_)
      · exact chS HI5.out.fst HI5.out.nxt ((Below.heap_setCell _ _ _ _ HXV.out).trans hXW)
      refine wpAnyH_done (by kernel_rfl) ?_ _
      clear hown hgr hlies hglt hXW hVW hFW hGW hX4 hI4 hc1 hcA hHeld HNW HI4 hl1
      go_wp2_with fail
      go_roundw
      case rel => exact ⟨k + 1, _, by omega, by go_num, HI5⟩
      case measure => simp [intOf]; omega
    · refine step_callWd (some 72) rfl (by rfl) 18 _ _ _ rfl Try.func18 (by decide) rfl #[.agg #[.int .i64 p1, .slice (some ⟨B1, 0, none⟩) c1 c1, .int .i64 s1, .int .i64 t1], .agg #[.int .i64 p2, .slice (some ⟨B2, 0, none⟩) c2 c2, .int .i64 s2, .int .i64 t2], .agg #[.int .u16 (m0 : Int), .int .u16 (m1 : Int), .int .u16 (m2 : Int)]] (mapw3 _ _ _ _ _ _ _ rfl rfl rfl) _ (HSB.out _) ?_
      rintro e v1 ⟨rfl, hc1⟩
      refine ⟨_, rfl, hK.out _ _ ?_ (fun hHeld => ?_)⟩
      · exact chS (keep HI2.out.fst hc1) (keep HI2.out.nxt hc1) (keep HX2.out hc1)
      simp only [Act.put, List.setIfInBounds_toArray, List.set_cons_zero, List.set_cons_succ]
      refine wpAnyH_ready (rs := [1, 6]) (by kernel_rfl) (by simp) (AllReadyH.cons rfl (fun K hK => ?_) (AllReadyH.cons rfl (fun K hK => ?_) AllReadyH.nil))
      · refine step_valW (w' := v1) (by rfl) (some 68) rfl v (by have hv := (cells2 (keep HI2.out.var hc1)).2; go_simp) (hK.out _ _ ?_ (fun hHeld => ?_))
        · exact chS (keep HI2.out.fst hc1) (keep HI2.out.nxt hc1) (keep HX2.out hc1)
        simp only [Act.put, List.setIfInBounds_toArray, List.set_cons_zero, List.set_cons_succ]
        refine wpAnyH_ready (rs := [6]) (by kernel_rfl) (by simp) (AllReadyH.cons rfl (fun K hK => ?_) AllReadyH.nil)
        have hcA := below_al v1 (.cells #[.int .u16 (maskL ((chainL p1 t1 s2 La Lb).getD (3 * (c1 + k)) []) : Int), .int .u16 (maskL ((chainL p1 t1 s2 La Lb).getD (3 * (c1 + k) + 1) []) : Int), .int .u16 (maskL ((chainL p1 t1 s2 La Lb).getD (3 * (c1 + k) + 2) []) : Int)] 58)
        refine step_valW (w' := v1.alloc (.cells #[.int .u16 (maskL ((chainL p1 t1 s2 La Lb).getD (3 * (c1 + k)) []) : Int), .int .u16 (maskL ((chainL p1 t1 s2 La Lb).getD (3 * (c1 + k) + 1) []) : Int), .int .u16 (maskL ((chainL p1 t1 s2 La Lb).getD (3 * (c1 + k) + 2) []) : Int)] 58)) (by rfl) (some 73) rfl (.slice (some ⟨v1.heap.size, 0, none⟩) 1 1) (by go_simp) (hK.out _ _ ?_ (fun hHeld => ?_))
        · exact chS (keep (keep HI2.out.fst hc1) hcA) (keep (keep HI2.out.nxt hc1) hcA) (keep (keep HX2.out hc1) hcA)
        simp only [Act.put, List.setIfInBounds_toArray, List.set_cons_zero, List.set_cons_succ]
        have hI4 := (HI2.out.grow hc1).grow hcA
        have HNW := hide (newsS v1 (.int .u16 (maskL ((chainL p1 t1 s2 La Lb).getD (3 * (c1 + k)) []) : Int)) (.int .u16 (maskL ((chainL p1 t1 s2 La Lb).getD (3 * (c1 + k) + 1) []) : Int)) (.int .u16 (maskL ((chainL p1 t1 s2 La Lb).getD (3 * (c1 + k) + 2) []) : Int)))
        have HI4 := hide hI4
        have hX4 := keep (keep HX2.out hc1) hcA
        refine wpAnyH_ready (rs := [7]) (by kernel_rfl) (by simp) (AllReadyH.cons rfl (fun K hK => ?_) AllReadyH.nil)
        refine step_appWd (some 74) rfl (by rfl) (.tmp 68) (.tmp 73) 47 (by rfl) (w.heap.size + 1 + 1 + 1) 58 i1 _ 3 6 Try.underlying47 hi1 hz0 hz1 hz2 (by rfl) (by decide) v (c1 + k) (stC (chainL p1 t1 s2 La Lb) (c1 + k)) (by rfl) HI4.out.own ⟨v1.heap.size, 0, none⟩ 1 1 [.int .u16 (maskL ((chainL p1 t1 s2 La Lb).getD (3 * (c1 + k)) []) : Int), .int .u16 (maskL ((chainL p1 t1 s2 La Lb).getD (3 * (c1 + k) + 1) []) : Int), .int .u16 (maskL ((chainL p1 t1 s2 La Lb).getD (3 * (c1 + k) + 2) []) : Int)] (by rfl) (by rfl) HNW.out (by simp [Value.oneCell']) (by decide) (by unfold maxLen; omega) (by omega) (by have := row_lt HI4.out.fst; have := HY0.out; omega) (v1.heap.size + 1) (by simp) ?_
        intro gg cp W hown hgr hlies hglt
        have hXW := (hgr.block X (row_lt hX4) (fun e => HXN.out e)).trans hX4
        have hl1 := row_lt hI4.var
        have hFW := (hI4.same hgr (b := Y1) (by have := HY1.out; omega) (by have := HY1.out; omega)).trans hI4.fst
        have hGW := (hI4.same hgr (b := Y2) (by omega) (by have := HY1.out; omega)).trans hI4.nxt
        have hVW := (hI4.same hgr (b := Y2 + 1) (by omega) (by have := HY1.out; omega)).trans hI4.var
        have HI5 := hide (hI4.push HY0.out HY1.out HB2.out HB2b.out hown hgr (by simpa using hlies))
        refine hK.out _ _ ?_ (fun hHeld => ?_)
        · exact chS hFW hGW hXW
        simp only [Act.put, List.setIfInBounds_toArray, List.set_cons_zero, List.set_cons_succ]
        refine take_yes (i := 8) (some 75) (.pointer (some ⟨Y2 + 1, 1, none⟩)) rfl rfl (by kernel_rfl) (by kernel_rfl) (by kernel_rfl) (fun _ _ _ h => h) (by rfl) ?_ (by assumption) ?_
        · intro W' hSw
          obtain ⟨⟨ha0, ha1, ha2, ha3⟩, ⟨hb0, hb1, hb2, hb3⟩, hy0, hy1, hy2⟩ := hSw
          go_simp
        simp only [Act.put, List.setIfInBounds_toArray, List.set_cons_zero, List.set_cons_succ]
        refine store_one_next (i := 9) rfl rfl (by kernel_rfl) (by rfl) 47 _ _ rfl (Y2 + 1) 1 (some ⟨gg, 0, none⟩) (c1 + k + 1) cp rfl rfl #[.int .i64 (p1 + p2 - 1), v] 49 hVW (by simp) Try.size47 ?_ (fun hHeld => ?_)
        · exact chS HI5.out.fst HI5.out.nxt ((Below.heap_setCell _ _ _ _ HXV.out).trans hXW)
        refine wpAnyH_done (by kernel_rfl) ?_ _
        clear hown hgr hlies hglt hXW hVW hFW hGW hX4 hI4 hc1 hcA hHeld HNW HI4 hl1
        go_wp2_with fail
        go_roundw
        case rel => exact ⟨k + 1, _, by omega, by go_num, HI5⟩
        case measure => simp [intOf]; omega
      · have hcA := below_al v1 (.cells #[.int .u16 (maskL ((chainL p1 t1 s2 La Lb).getD (3 * (c1 + k)) []) : Int), .int .u16 (maskL ((chainL p1 t1 s2 La Lb).getD (3 * (c1 + k) + 1) []) : Int), .int .u16 (maskL ((chainL p1 t1 s2 La Lb).getD (3 * (c1 + k) + 2) []) : Int)] 58)
        refine step_valW (w' := v1.alloc (.cells #[.int .u16 (maskL ((chainL p1 t1 s2 La Lb).getD (3 * (c1 + k)) []) : Int), .int .u16 (maskL ((chainL p1 t1 s2 La Lb).getD (3 * (c1 + k) + 1) []) : Int), .int .u16 (maskL ((chainL p1 t1 s2 La Lb).getD (3 * (c1 + k) + 2) []) : Int)] 58)) (by rfl) (some 73) rfl (.slice (some ⟨v1.heap.size, 0, none⟩) 1 1) (by go_simp) (hK.out _ _ ?_ (fun hHeld => ?_))
        · exact chS (keep (keep HI2.out.fst hc1) hcA) (keep (keep HI2.out.nxt hc1) hcA) (keep (keep HX2.out hc1) hcA)
        simp only [Act.put, List.setIfInBounds_toArray, List.set_cons_zero, List.set_cons_succ]
        refine wpAnyH_ready (rs := [1]) (by kernel_rfl) (by simp) (AllReadyH.cons rfl (fun K hK => ?_) AllReadyH.nil)
        refine step_valW (w' := v1.alloc (.cells #[.int .u16 (maskL ((chainL p1 t1 s2 La Lb).getD (3 * (c1 + k)) []) : Int), .int .u16 (maskL ((chainL p1 t1 s2 La Lb).getD (3 * (c1 + k) + 1) []) : Int), .int .u16 (maskL ((chainL p1 t1 s2 La Lb).getD (3 * (c1 + k) + 2) []) : Int)] 58)) (by rfl) (some 68) rfl v (by have hv := (cells2 (keep (keep HI2.out.var hc1) hcA)).2; generalize v1.alloc (.cells #[.int .u16 (maskL ((chainL p1 t1 s2 La Lb).getD (3 * (c1 + k)) []) : Int), .int .u16 (maskL ((chainL p1 t1 s2 La Lb).getD (3 * (c1 + k) + 1) []) : Int), .int .u16 (maskL ((chainL p1 t1 s2 La Lb).getD (3 * (c1 + k) + 2) []) : Int)] 58) = Z at hv ⊢; go_simp) (hK.out _ _ ?_ (fun hHeld => ?_))
        · exact chS (keep (keep HI2.out.fst hc1) hcA) (keep (keep HI2.out.nxt hc1) hcA) (keep (keep HX2.out hc1) hcA)
        simp only [Act.put, List.setIfInBounds_toArray, List.set_cons_zero, List.set_cons_succ]
        have hI4 := (HI2.out.grow hc1).grow hcA
        have HNW := hide (newsS v1 (.int .u16 (maskL ((chainL p1 t1 s2 La Lb).getD (3 * (c1 + k)) []) : Int)) (.int .u16 (maskL ((chainL p1 t1 s2 La Lb).getD (3 * (c1 + k) + 1) []) : Int)) (.int .u16 (maskL ((chainL p1 t1 s2 La Lb).getD (3 * (c1 + k) + 2) []) : Int)))
        have HI4 := hide hI4
        have hX4 := keep (keep HX2.out hc1) hcA
        refine wpAnyH_ready (rs := [7]) (by kernel_rfl) (by simp) (AllReadyH.cons rfl (fun K hK => ?_) AllReadyH.nil)
        refine step_appWd (some 74) rfl (by rfl) (.tmp 68) (.tmp 73) 47 (by rfl) (w.heap.size + 1 + 1 + 1) 58 i1 _ 3 6 Try.underlying47 hi1 hz0 hz1 hz2 (by rfl) (by decide) v (c1 + k) (stC (chainL p1 t1 s2 La Lb) (c1 + k)) (by rfl) HI4.out.own ⟨v1.heap.size, 0, none⟩ 1 1 [.int .u16 (maskL ((chainL p1 t1 s2 La Lb).getD (3 * (c1 + k)) []) : Int), .int .u16 (maskL ((chainL p1 t1 s2 La Lb).getD (3 * (c1 + k) + 1) []) : Int), .int .u16 (maskL ((chainL p1 t1 s2 La Lb).getD (3 * (c1 + k) + 2) []) : Int)] (by rfl) (by rfl) HNW.out (by simp [Value.oneCell']) (by decide) (by unfold maxLen; omega) (by omega) (by have := row_lt HI4.out.fst; have := HY0.out; omega) (v1.heap.size + 1) (by simp) ?_
        intro gg cp W hown hgr hlies hglt
        have hXW := (hgr.block X (row_lt hX4) (fun e => HXN.out e)).trans hX4
        have hl1 := row_lt hI4.var
        have hFW := (hI4.same hgr (b := Y1) (by have := HY1.out; omega) (by have := HY1.out; omega)).trans hI4.fst
        have hGW := (hI4.same hgr (b := Y2) (by omega) (by have := HY1.out; omega)).trans hI4.nxt
        have hVW := (hI4.same hgr (b := Y2 + 1) (by omega) (by have := HY1.out; omega)).trans hI4.var
        have HI5 := hide (hI4.push HY0.out HY1.out HB2.out HB2b.out hown hgr (by simpa using hlies))
        refine hK.out _ _ ?_ (fun hHeld => ?_)
        · exact chS hFW hGW hXW
        simp only [Act.put, List.setIfInBounds_toArray, List.set_cons_zero, List.set_cons_succ]
        refine take_yes (i := 8) (some 75) (.pointer (some ⟨Y2 + 1, 1, none⟩)) rfl rfl (by kernel_rfl) (by kernel_rfl) (by kernel_rfl) (fun _ _ _ h => h) (by rfl) ?_ (by assumption) ?_
        · intro W' hSw
          obtain ⟨⟨ha0, ha1, ha2, ha3⟩, ⟨hb0, hb1, hb2, hb3⟩, hy0, hy1, hy2⟩ := hSw
          go_simp
        simp only [Act.put, List.setIfInBounds_toArray, List.set_cons_zero, List.set_cons_succ]
        refine store_one_next (i := 9) rfl rfl (by kernel_rfl) (by rfl) 47 _ _ rfl (Y2 + 1) 1 (some ⟨gg, 0, none⟩) (c1 + k + 1) cp rfl rfl #[.int .i64 (p1 + p2 - 1), v] 49 hVW (by simp) Try.size47 ?_ (fun hHeld => ?_)
        · exact chS HI5.out.fst HI5.out.nxt ((Below.heap_setCell _ _ _ _ HXV.out).trans hXW)
        refine wpAnyH_done (by kernel_rfl) ?_ _
        clear hown hgr hlies hglt hXW hVW hFW hGW hX4 hI4 hc1 hcA hHeld HNW HI4 hl1
        go_wp2_with fail
        go_roundw
        case rel => exact ⟨k + 1, _, by omega, by go_num, HI5⟩
        case measure => simp [intOf]; omega
end Go.Proofs.Ytoijlepjnpdlkaa


/- ChainFlows of the specification: what it keeps in mind. -/
namespace Go.Proofs.Ytoijlepjnpdlkaa
open Go.RowKit
set_option maxRecDepth 10000

/-- A piece of code, by what holds behind it. -/
theorem wp_via {P : Program} {c : Code} {Q : Exit → Act → World → Prop} {a : Act} {w : World} (R : Act → Act → World → Prop) (h1 : c.wp P (fun e a' w' => e = .normal ∧ R a a' w') a w) (h2 : ∀ a' w', R a a' w' → Q .normal a' w') : c.wp P Q a w :=
  Code.wp_mono (fun e a' w' h => by obtain ⟨rfl, h⟩ := h; exact h2 a' w' h) h1

theorem below3 (w : World) (o1 o2 o3 : Obj) : Below w.heap.size w (((w.alloc o1).alloc o2).alloc o3) :=
  (below_two w o1 o2).alloc (by simp; omega) o3

/-- What the specification's ChainFlows keeps in mind: out, in block X, has P places, T to, and the transitions v. -/
structure SpInv (w W : World) (X : Nat) (p1 s1 t1 p2 s2 t2 : Int) (aa ab : Option Addr) (c1 ca c2 cb : Nat) (P T : Int) (v : Value) (k : Nat) (K : List (List Int)) : Prop where
  pa : W.heap[w.heap.size]? = some (.cells #[.int .i64 p1, .slice aa c1 ca, .int .i64 s1, .int .i64 t1] 32 (0, 0))
  pb : W.heap[w.heap.size + 1]? = some (.cells #[.int .i64 p2, .slice ab c2 cb, .int .i64 s2, .int .i64 t2] 32 (0, 0))
  res : W.heap[w.heap.size + 1 + 1]? = some (.cells #[.int .i64 0, .slice none 0 0, .int .i64 0, .int .i64 0] 32 (0, 0))
  out : W.heap[X]? = some (.cells #[.int .i64 P, v, .int .i64 s1, .int .i64 T] 32 (0, 0))
  tri : TriX W (w.heap.size + 1 + 1 + 1) v k K
  far : w.heap.size + 1 + 1 < X
  bel : Below w.heap.size w W

/-- A block of another kind is written. -/
theorem TriX.otherRow {w : World} {lo : Nat} {v : Value} {k : Nat} {K : List (List Int)} (h : TriX w lo v k K) {b : Nat} {D : Array Value} {T : TypeId} (hb : w.heap[b]? = some (.cells D T (0, 0))) (h1 : T ≠ 3) (h2 : T ≠ 44) (E : Array Value) : TriX (w.setRow b E) lo v k K := by
  have key : ∀ (q : Nat) (C : Array Value) (T' : TypeId), w.heap[q]? = some (Obj.cells C T' (0, 0)) → T' ≠ T → (w.setRow b E).heap[q]? = w.heap[q]? := by
    intro q C T' hq hT
    by_cases e : q = b
    · subst e
      rw [hb] at hq
      simp at hq
      exact absurd hq.2.symm hT
    · exact setRow_otherW _ e _
  obtain ⟨cells, A, f, cap, q1, q2, q3, q4⟩ := h
  refine ⟨cells, A, f, cap, q1, ⟨q2.1, ?_⟩, fun j hj => ?_, q4⟩
  · rcases q2.2 with hn | ⟨g, cp, cur, e, hg, hq, r⟩
    · exact .inl hn
    · exact .inr ⟨g, cp, cur, e, hg, (key g _ _ hq (fun e => h2 e.symm)).trans hq, r⟩
  · obtain ⟨r1, r2, r3⟩ := q3 j hj
    refine ⟨r1, ?_, fun hx => ⟨(r3 hx).1, by have := (r3 hx).2.1; simpa [World.setRow] using this, (r3 hx).2.2⟩⟩
    rcases r2 with ⟨s1, h0 | ⟨e, cur, t1, t2, t3⟩⟩
    · exact ⟨s1, .inl h0⟩
    · exact ⟨s1, .inr ⟨e, cur, (key _ _ _ t1 (fun e => h1 e.symm)).trans t1, t2, t3⟩⟩

/-- How the specification's ChainFlows ends: it can be read. -/
def ChSp (g : Bool) (P S T : Int) (N : Nat) (K : List (List Int)) (w : World) (e : Ending) (w' : World) : Prop :=
  ∃ (a : Option Addr) (c : Nat), e = .returned (.tuple #[.agg #[.int .i64 (if g then P else 0), .slice a (if g then N else 0) c, .int .i64 (if g then S else 0), .int .i64 (if g then T else 0)], .bool g]) ∧ (g = true → TriX w' w.heap.size (.slice a N c) N K) ∧ Below w.heap.size w w'

theorem chSp_no {P S T : Int} {N : Nat} {K : List (List Int)} {w w' : World} (hb : Below w.heap.size w w') : ChSp false P S T N K w (.returned (.tuple #[.agg #[.int .i64 0, .slice none 0 0, .int .i64 0, .int .i64 0], .bool false])) w' :=
  ⟨none, 0, rfl, fun h => by simp at h, hb⟩

section
variable {w W W' : World} {X : Nat} {p1 s1 t1 p2 s2 t2 : Int} {aa ab : Option Addr} {c1 ca c2 cb : Nat} {P T : Int} {v : Value} {k : Nat} {K : List (List Int)}

theorem SpInv.grow (h : SpInv w W X p1 s1 t1 p2 s2 t2 aa ab c1 ca c2 cb P T v k K) (hb : Below W.heap.size W W') : SpInv w W' X p1 s1 t1 p2 s2 t2 aa ab c1 ca c2 cb P T v k K :=
  ⟨keep h.pa hb, keep h.pb hb, keep h.res hb, keep h.out hb, h.tri.grow hb, h.far, h.bel.trans (hb.mono h.bel.size)⟩

theorem SpInv.places (h : SpInv w W X p1 s1 t1 p2 s2 t2 aa ab c1 ca c2 cb P T v k K) (P' : Int) : SpInv w (W.setCell ⟨X, 0, none⟩ (.int .i64 P')) X p1 s1 t1 p2 s2 t2 aa ab c1 ca c2 cb P' T v k K := by
  have hf := h.far
  refine ⟨(Below.heap_setCell _ _ _ _ (show w.heap.size ≠ X by omega)).trans h.pa, (Below.heap_setCell _ _ _ _ (show w.heap.size + 1 ≠ X by omega)).trans h.pb, (Below.heap_setCell _ _ _ _ (show w.heap.size + 1 + 1 ≠ X by omega)).trans h.res, ?_, h.tri.other h.out (by decide) (by decide) 0 _, hf, h.bel.setCell (by show _ ≤ X; omega) _⟩
  rw [heap_setCell_same _ _ _ _ _ _ h.out]; rfl

theorem SpInv.goal (h : SpInv w W X p1 s1 t1 p2 s2 t2 aa ab c1 ca c2 cb P T v k K) (T' : Int) : SpInv w (W.setCell ⟨X, 3, none⟩ (.int .i64 T')) X p1 s1 t1 p2 s2 t2 aa ab c1 ca c2 cb P T' v k K := by
  have hf := h.far
  refine ⟨(Below.heap_setCell _ _ _ _ (show w.heap.size ≠ X by omega)).trans h.pa, (Below.heap_setCell _ _ _ _ (show w.heap.size + 1 ≠ X by omega)).trans h.pb, (Below.heap_setCell _ _ _ _ (show w.heap.size + 1 + 1 ≠ X by omega)).trans h.res, ?_, h.tri.other h.out (by decide) (by decide) 3 _, hf, h.bel.setCell (by show _ ≤ X; omega) _⟩
  rw [heap_setCell_same _ _ _ _ _ _ h.out]; rfl
end

theorem below_both {B X : Nat} {W wr : World} {C : Array Value} {t : TypeId} (h : Below B W wr) (hX : W.heap[X]? = some (.cells C t (0, 0))) (hB : X < B) (o : Nat) (u : Value) : Below B (W.setCell ⟨X, o, none⟩ u) (wr.setCell ⟨X, o, none⟩ u) := by
  refine ⟨h.os, h.tape, h.output, by simp [World.setCell]; exact h.size, fun b hb => ?_⟩
  by_cases e : b = X
  · subst e
    rw [heap_setCell_same _ _ _ _ _ _ hX, heap_setCell_same _ _ _ _ _ _ ((h.block b hb).trans hX)]
  · rw [Below.heap_setCell _ _ _ _ e, Below.heap_setCell _ _ _ _ e]
    exact h.block b hb

theorem made_zeroY (p : Nat) : madeCells #[.int .i64 0] p = cellsOf (List.replicate p 0) := by
  apply Array.ext_getElem?
  intro i
  by_cases h : i < p
  · simp [madeCells, cellsOf, h, Nat.mod_one]
  · rw [Array.getElem?_eq_none (by rw [size_madeCells]; omega), Array.getElem?_eq_none (by simp [cellsOf]; omega)]

theorem plN_small {pa sb : Int} {n : Nat} (h : 1 ≤ pa ∧ pa ≤ 16) (hn : n ≤ 16) : 0 ≤ plN pa sb n ∧ plN pa sb n ≤ 100 := by
  unfold plN
  split <;> omega

theorem cells_put {A : List Int} {k : Nat} (hA : A.length = k) (x y : Int) (zs : List Int) : (cellsOf (A ++ y :: zs)).setIfInBounds k (.int .i64 x) = cellsOf (A ++ x :: zs) := by
  subst hA
  unfold cellsOf
  rw [List.setIfInBounds_toArray, List.map_append, List.map_append, List.set_append_right _ _ (by simp)]
  simp

/-- What the specification's ChainFlows has come to while it fills its table of new places, in block G; W is the world ahead of it. -/
structure AtInv (w W wr : World) (X G pn k : Nat) (p1 s1 t1 p2 s2 t2 : Int) (aa ab : Option Addr) (c1 ca c2 cb : Nat) (v : Value) (La : List (List Int)) : Prop where
  base : ∃ W', W'.heap.size = W.heap.size ∧ SpInv w W' X p1 s1 t1 p2 s2 t2 aa ab c1 ca c2 cb (plN p1 s2 k) 0 v c1 La ∧ Below W.heap.size W' wr
  row : wr.heap[G]? = some (.cells (cellsOf (atL p1 t1 s2 k ++ List.replicate (pn - k) 0)) 3 (0, 0))
  high : W.heap.size ≤ G

section
variable {w W wr : World} {X G pn k : Nat} {p1 s1 t1 p2 s2 t2 : Int} {aa ab : Option Addr} {c1 ca c2 cb : Nat} {v : Value} {La : List (List Int)}

theorem AtInv.sp (h : AtInv w W wr X G pn k p1 s1 t1 p2 s2 t2 aa ab c1 ca c2 cb v La) : SpInv w wr X p1 s1 t1 p2 s2 t2 aa ab c1 ca c2 cb (plN p1 s2 k) 0 v c1 La := by
  obtain ⟨W', h1, h2, h3⟩ := h.base
  exact h2.grow (by rw [h1]; exact h3)

theorem AtInv.ltX (h : AtInv w W wr X G pn k p1 s1 t1 p2 s2 t2 aa ab c1 ca c2 cb v La) : X < W.heap.size := by
  obtain ⟨W', h1, h2, h3⟩ := h.base
  have := row_lt h2.out
  omega

theorem atRow {k pn : Nat} (A : List Int) (hk : k < pn) : A ++ List.replicate (pn - k) (0 : Int) = A ++ 0 :: List.replicate (pn - (k + 1)) 0 := by
  rw [show pn - k = (pn - (k + 1)) + 1 by omega, List.replicate_succ]

/-- One place of the next flow gets its number: it is the one where the flows meet. -/
theorem AtInv.meet (h : AtInv w W wr X G pn k p1 s1 t1 p2 s2 t2 aa ab c1 ca c2 cb v La) (hk : k < pn) (hs : (k : Int) = s2) : AtInv w W (wr.setCell ⟨G, k, none⟩ (.int .i64 t1)) X G pn (k + 1) p1 s1 t1 p2 s2 t2 aa ab c1 ca c2 cb v La := by
  have hg := h.high
  obtain ⟨W', h1, h2, h3⟩ := h.base
  refine ⟨⟨W', h1, by rw [plN_same hs]; exact h2, h3.setCell hg _⟩, ?_, hg⟩
  rw [heap_setCell_same _ _ _ _ _ _ h.row, atRow _ hk, cells_put (atL_len _ _ _ _), atL_succ, List.append_assoc]
  rw [show mvP p1 t1 s2 (k : Int) = t1 by rw [hs]; exact mvP_sb _ _ _]
  rfl

/-- Or it is a new one. -/
theorem AtInv.more (h : AtInv w W wr X G pn k p1 s1 t1 p2 s2 t2 aa ab c1 ca c2 cb v La) (hk : k < pn) (hs : (k : Int) ≠ s2) : AtInv w W (((wr.setCell ⟨G, k, none⟩ (.int .i64 t1)).setCell ⟨G, k, none⟩ (.int .i64 (plN p1 s2 k))).setCell ⟨X, 0, none⟩ (.int .i64 (plN p1 s2 k + 1))) X G pn (k + 1) p1 s1 t1 p2 s2 t2 aa ab c1 ca c2 cb v La := by
  have hg := h.high
  have hx := h.ltX
  obtain ⟨W', h1, h2, h3⟩ := h.base
  refine ⟨⟨W'.setCell ⟨X, 0, none⟩ (.int .i64 (plN p1 s2 k + 1)), by simp [World.setCell, h1], by rw [plN_more hs]; exact h2.places _, below_both ((h3.setCell hg _).setCell hg _) h2.out hx _ _⟩, ?_, hg⟩
  rw [Below.heap_setCell _ _ _ _ (show G ≠ X by omega)]
  have r1 : (wr.setCell ⟨G, k, none⟩ (.int .i64 t1)).heap[G]? = some (.cells (cellsOf (atL p1 t1 s2 k ++ t1 :: List.replicate (pn - (k + 1)) 0)) 3 (0, 0)) := by
    rw [heap_setCell_same _ _ _ _ _ _ h.row, atRow _ hk, cells_put (atL_len _ _ _ _)]
  rw [heap_setCell_same _ _ _ _ _ _ r1, cells_put (atL_len _ _ _ _), atL_succ, List.append_assoc, plN_here hs]
  rfl
end
end Go.Proofs.Ytoijlepjnpdlkaa
