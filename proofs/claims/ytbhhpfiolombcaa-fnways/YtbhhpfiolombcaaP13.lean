/- Contracts that the proof stands on, one behind the other. -/
import Derived.Test.YtbhhpfiolombcaaP12
/- ShortNet of the program. -/
namespace Go.Proofs.Ytbhhpfiolombcaa
open Go.RowKit
set_option maxRecDepth 10000

/-- The lists of the net with one transition more behind, from To to From. -/
def shortL (L : List (List Int)) (s t : Int) : List (List Int) := L ++ [[t], [s], []]

theorem shortL_len {n : Nat} {L : List (List Int)} {s t : Int} (h : L.length = 3 * n) : (shortL L s t).length = 3 * (n + 1) := by
  unfold shortL; rw [List.length_append, h]; simp; omega

noncomputable def shortOk (p : Int) (n : Nat) (L : List (List Int)) (s t : Int) : Bool := flowOk p n L s t && netOk p (n + 1) (shortL L s t)

theorem sizeL_app (K N : List (List Int)) : sizeL (K ++ N) = sizeL K + sizeL N := by unfold sizeL; rw [List.map_append, List.sum_append]

theorem getLen16X {p : Int} {n : Nat} {L : List (List Int)} (h : netOk p n L = true) (j : Nat) (hj : j < 3 * n) : (L.getD j []).length ≤ 16 := by
  obtain ⟨hp, _, h3⟩ := netOk_parts h
  obtain ⟨r0, r1, r2⟩ := tri3_rise (h3 (j / 3) (by omega))
  have hm : ∀ xs : List Int, riseB xs 0 (p - 1) = true → xs.length ≤ 16 := by
    intro xs hx
    have h1 := nums2_mask hp.2 hx
    rw [← h1]
    unfold nums2
    have := List.length_filter_le (maskL xs).testBit (List.range 16)
    simpa using this
  have : j % 3 = 0 ∨ j % 3 = 1 ∨ j % 3 = 2 := by omega
  rcases this with e | e | e
  · rw [show j = 3 * (j / 3) by omega]; exact hm _ r0
  · rw [show j = 3 * (j / 3) + 1 by omega]; exact hm _ r1
  · rw [show j = 3 * (j / 3) + 2 by omega]; exact hm _ r2

theorem sum16X (l : List Nat) (h : ∀ x ∈ l, x ≤ 16) : l.sum ≤ 16 * l.length := by
  induction l with
  | nil => simp
  | cons x r ih =>
    have h1 := h x (by simp)
    have h2 := ih fun y hy => h y (by simp [hy])
    simp; omega

theorem netSizeX {p : Int} {n : Nat} {L : List (List Int)} (h : netOk p n L = true) (hl : L.length = 3 * n) : sizeN n L ≤ 2000 := by
  have hn := (netOk_parts h).2.1
  have : sizeL L ≤ 16 * (3 * n) := by
    unfold sizeL
    have h1 := sum16X (L.map List.length) (by
      intro x hx
      rw [List.mem_map] at hx
      obtain ⟨y, hy, rfl⟩ := hx
      obtain ⟨j, hj, rfl⟩ := List.getElem_of_mem hy
      have := getLen16X h j (by omega)
      rw [List.getD_eq_getElem?_getD, List.getElem?_eq_getElem hj] at this
      exact this)
    rw [List.length_map, hl] at h1
    exact h1
  unfold sizeN; omega

theorem shortSize {p : Int} {n : Nat} {L : List (List Int)} {s t : Int} (h : netOk p n L = true) (hl : L.length = 3 * n) : sizeN (n + 1) (shortL L s t) ≤ 1048576 := by
  have := netSizeX h hl
  unfold sizeN at *
  unfold shortL
  rw [sizeL_app]
  have : sizeL [[t], [s], []] = 2 := rfl
  omega

/-- How the program's ShortNet ends. -/
def ShEnd (g : Bool) (p : Int) (n : Nat) (K : List (List Int)) (w : World) (e : Ending) (w' : World) : Prop :=
  ∃ (a : Option Addr) (c : Nat), e = .returned (.tuple #[.agg #[.int .i64 (if g then p else 0), .slice a (if g then n else 0) c], .bool g]) ∧ (g = true → TriX w' w.heap.size (.slice a n c) n K) ∧ Below w.heap.size w w'

theorem shEnd_no {p : Int} {n : Nat} {K : List (List Int)} {w w' : World} (hb : Below w.heap.size w w') : ShEnd false p n K w (.returned (.tuple #[.agg #[.int .i64 0, .slice none 0 0], .bool false])) w' :=
  ⟨none, 0, rfl, fun h => by simp at h, hb⟩

theorem news3X (w : World) (x y z : Value) : ∀ j u, ([x, y, z] : List Value)[j]? = some u → (w.alloc (.cells #[x, y, z] 52)).cell? ((⟨w.heap.size, 0, none⟩ : Addr).add j) = some u := by
  intro j u hu
  rw [Addr.add_mid, cell_of_row _ w.heap.size (0 + j) #[x, y, z] _ _ (heap_alloc_new _ _), Nat.zero_add]
  simpa using hu

theorem obOne (w : World) (x : Int) : Ob (w.alloc (.cells #[.int .i64 x] 3)) (some ⟨w.heap.size, 0, none⟩) w.heap.size 1 [x] :=
  ⟨rfl, .inr ⟨rfl, _, heap_alloc_new _ _, by simp, fun i hi => by rw [show i = 0 by omega]; rfl⟩⟩

set_option maxHeartbeats 4000000 in
theorem shortI_any (p s t : Int) (a : Option Addr) (n c : Nat) (L : List (List Int)) (w : World) (h : Lists w a (3 * n) L) (hs : sizeN n L ≤ 1048576) :
    Calls Try.prog 7 #[.agg #[.int .i64 p, .slice a n c, .int .i64 s, .int .i64 t]] w fun e w' => ShEnd (shortOk p n L s t) p (n + 1) (shortL L s t) w e w' := by
  have HA := hide (below_two w (.cells #[.int .i64 p, .slice a n c, .int .i64 s, .int .i64 t] 28) (.cells #[.int .i64 0, .slice none 0 0] 26))
  have HF := hide (flowSteps_any p s t a n c L _ (h.below HA.out) hs)
  have HL := hide h.1
  have HR0 : Hid (((w.alloc (.cells #[.int .i64 p, .slice a n c, .int .i64 s, .int .i64 t] 28)).alloc (.cells #[.int .i64 0, .slice none 0 0] 26)).heap[w.heap.size + 1]? = some (.cells #[.int .i64 0, .slice none 0 0] 26 (0, 0))) := by
    have := heap_alloc_new (w.alloc (.cells #[.int .i64 p, .slice a n c, .int .i64 s, .int .i64 t] 28)) (.cells #[.int .i64 0, .slice none 0 0] 26)
    rw [show (w.alloc (.cells #[.int .i64 p, .slice a n c, .int .i64 s, .int .i64 t] 28)).heap.size = w.heap.size + 1 by simp] at this
    exact this
  obtain ⟨i1, hi1, hz0, hz1, hz2⟩ := info_split2 Try.info52
  clear h
  go_enter Try.func7, Try.ntmps7
  go_wp2_with fail
  refine HF.out.mono ?_
  rintro e w1 ⟨p', a', m, c', s', t', rfl, hx, hb⟩
  have hA2 := below_al w1 (.cells #[.int .i64 p', .slice a' m c', .int .i64 s', .int .i64 t'] 47)
  have HB1 := hide (HA.out.trans (hb.mono HA.out.size))
  have HB := hide (HA.out.trans ((hb.trans (hA2.mono hb.size)).mono HA.out.size))
  have HR1 := hide (keep (keep HR0.out hb) hA2)
  have HFV := hide (heap_alloc_new w1 (.cells #[.int .i64 p', .slice a' m c', .int .i64 s', .int .i64 t'] 47))
  have HW1 := hide (show w.heap.size + 1 < w1.heap.size from row_lt (keep HR0.out hb))
  have hlr : w.heap.size + 1 < w1.heap.size := HW1.out
  obtain ⟨hr0, hr1⟩ := cells2 (keep HR0.out hb)
  have hf0 : w1.frozen? ⟨w.heap.size + 1, 0, none⟩ = false := frozen_of_row w1 _ 0 _ _ (keep HR0.out hb)
  have hf1 : w1.frozen? ⟨w.heap.size + 1, 1, none⟩ = false := frozen_of_row w1 _ 1 _ _ (keep HR0.out hb)
  clear hb HF HA HR0
  by_cases hg : flowOk p n L s t = true
  rotate_left
  · have hg' : flowOk p n L s t = false := by simpa using hg
    have HN := hide (show shortOk p n L s t = false by unfold shortOk; rw [hg']; rfl)
    rw [hg']
    clear hx hg hg' hA2
    go_wp2_with fail
    refine bodyPost_ret (v := .tuple #[.agg #[.int .i64 0, .slice none 0 0], .bool false]) (by simp [results, Try.results7, go_sem, hr0, hr1, hlr]) rfl ?_
    rw [HN.out]
    exact shEnd_no (((HB1.out.setCell (by simp) _).setCell (by simp) _).alloc (by have := HB1.out.size; simp [World.setCell]; omega) _)
  obtain ⟨e1, e2, e3, e4, e5, B, rfl, hBs, hps⟩ := hx.out hg
  have hgn := (wayOk_parts (flowOk_parts hg).1).1
  have hn24 := (netOk_parts hgn).2.1
  subst e1 e2 e3 e4 e5
  have HG := hide hg
  have HGN := hide hgn
  have HPS := hide (hps.grow hA2)
  have HSZ := hide (shortSize (s := s') (t := t') hgn HL.out)
  rw [hg]
  obtain ⟨V, hV⟩ : ∃ V, Hid (w1.alloc (.cells #[.int .i64 p', .slice (some ⟨B, 0, none⟩) c' c', .int .i64 s', .int .i64 t'] 47) = V) := ⟨_, rfl⟩
  obtain ⟨X, hX⟩ : ∃ X, Hid (w1.heap.size = X) := ⟨_, rfl⟩
  clear hx hps hA2 hg hBs hgn hr0 hr1 hf0 hf1
  go_wp2_with fail
  rw [hV.out] at HB HR1 HFV HPS ⊢
  rw [hX.out] at HFV HW1 hlr
  refine (netLists_any p' B c' c' L V HPS.out.toX HGN.out HL.out).mono ?_
  rintro e w2 ⟨M, rfl, htri, hb⟩
  have hA3 := below_al w2 (.cells #[.int .i64 p', .slice (some ⟨M, 0, none⟩) c' c'] 26)
  have hb2 := hb.trans (hA3.mono hb.size)
  have HB2 := hide (HB.out.trans (hb2.mono HB.out.size))
  have HR2 := hide (keep HR1.out hb2)
  have HF2 := hide (keep HFV.out hb2)
  have HT0 := hide htri
  have HT2 := hide (htri.grow hA3)
  have HN2 := hide (heap_alloc_new w2 (.cells #[.int .i64 p', .slice (some ⟨M, 0, none⟩) c' c'] 26))
  have HVS := hide (show X < V.heap.size from row_lt HFV.out)
  have HVW := hide (show V.heap.size ≤ w2.heap.size from hb.size)
  rw [hX.out]
  obtain ⟨⟨hq0, hq1, hq2, hq3⟩, _⟩ := cells4 HF2.out
  have hXw : X < w2.heap.size := by have := HVS.out; have := HVW.out; omega
  have hqa := (cells4 (keep HFV.out hb)).1
  obtain ⟨hqa0, hqa1, hqa2, hqa3⟩ := hqa
  clear hb hb2 htri hA3 HFV HR1 HPS
  -- the new transition
  obtain ⟨cells, A, f, cap, hts⟩ := HT2.out
  have z0 : (w2.alloc (.cells #[.int .i64 p', .slice (some ⟨M, 0, none⟩) c' c'] 26)).heap.size = w2.heap.size + 1 := by simp
  have z1 : ((w2.alloc (.cells #[.int .i64 p', .slice (some ⟨M, 0, none⟩) c' c'] 26)).alloc (.cells #[.int .i64 t'] 3)).heap.size = w2.heap.size + 1 + 1 := by simp
  have z2 : (((w2.alloc (.cells #[.int .i64 p', .slice (some ⟨M, 0, none⟩) c' c'] 26)).alloc (.cells #[.int .i64 t'] 3)).alloc (.cells #[.int .i64 s'] 3)).heap.size = w2.heap.size + 1 + 1 + 1 := by simp
  have z3 : ((((w2.alloc (.cells #[.int .i64 p', .slice (some ⟨M, 0, none⟩) c' c'] 26)).alloc (.cells #[.int .i64 t'] 3)).alloc (.cells #[.int .i64 s'] 3)).alloc (.cells #[.slice (some ⟨w2.heap.size + 1, 0, none⟩) 1 1, .slice (some ⟨w2.heap.size + 1 + 1, 0, none⟩) 1 1, .slice none 0 0] 52)).heap.size = w2.heap.size + 1 + 1 + 1 + 1 := by simp
  have hk1 := below_al (w2.alloc (.cells #[.int .i64 p', .slice (some ⟨M, 0, none⟩) c' c'] 26)) (.cells #[.int .i64 t'] 3)
  have hk2 := below_al ((w2.alloc (.cells #[.int .i64 p', .slice (some ⟨M, 0, none⟩) c' c'] 26)).alloc (.cells #[.int .i64 t'] 3)) (.cells #[.int .i64 s'] 3)
  have hk3 := below_al (((w2.alloc (.cells #[.int .i64 p', .slice (some ⟨M, 0, none⟩) c' c'] 26)).alloc (.cells #[.int .i64 t'] 3)).alloc (.cells #[.int .i64 s'] 3)) (.cells #[.slice (some ⟨w2.heap.size + 1, 0, none⟩) 1 1, .slice (some ⟨w2.heap.size + 1 + 1, 0, none⟩) 1 1, .slice none 0 0] 52)
  have hk13 := hk1.trans ((hk2.trans (hk3.mono hk2.size)).mono hk1.size)
  have HTS := hide (hts.grow hk13)
  have HTS0 := hide hts
  have HK13 := hide hk13
  have ho1 := obOne (w2.alloc (.cells #[.int .i64 p', .slice (some ⟨M, 0, none⟩) c' c'] 26)) t'
  have ho2 := obOne ((w2.alloc (.cells #[.int .i64 p', .slice (some ⟨M, 0, none⟩) c' c'] 26)).alloc (.cells #[.int .i64 t'] 3)) s'
  rw [z0] at ho1
  rw [z1] at ho2
  have HO1 := hide ((ho1.grow hk2).grow hk3)
  have HO2 := hide (ho2.grow hk3)
  have hnw := news3X (((w2.alloc (.cells #[.int .i64 p', .slice (some ⟨M, 0, none⟩) c' c'] 26)).alloc (.cells #[.int .i64 t'] 3)).alloc (.cells #[.int .i64 s'] 3)) (.slice (some ⟨w2.heap.size + 1, 0, none⟩) 1 1) (.slice (some ⟨w2.heap.size + 1 + 1, 0, none⟩) 1 1) (.slice none 0 0)
  rw [z2] at hnw
  have HNW := hide hnw
  have HN3 := hide (keep HN2.out hk13)
  have HR3 := hide (keep HR2.out hk13)
  have HB3 := hide (HB2.out.trans (hk13.mono HB2.out.size))
  have HZ3 := hide z3
  have HZ0 := hide z0
  have HML := hide (show ∀ q, (Value.slice (some ⟨M, 0, none⟩) c' c').ownBlock = some q → V.heap.size ≤ q ∧ q < w2.heap.size from fun q hq => by
    have := hts.own.lt q hq
    rw [z0] at this
    refine ⟨this.1, ?_⟩
    have hqM : q = M := by simpa [Value.ownBlock] using hq.symm
    subst hqM
    rcases HT0.out with ⟨cells0, A0, f0, cap0, ht0⟩
    exact (ht0.own.lt q rfl).2)
  clear hk1 hk2 hk3 hk13 hts ho1 ho2 hnw z0 z1 z2 z3 HN2 HR2 HB2 HF2
  go_wp2_with (refine wpList_append_lies _ rfl (.tmp 19) (.tmp 27) 24 rfl V.heap.size 52 i1 _ 3 72 Try.underlying24 hi1 hz0 hz1 hz2 rfl (by decide) (.slice (some ⟨M, 0, none⟩) c' c') c' cells rfl HTS.out.own ⟨w2.heap.size + 1 + 1 + 1, 0, none⟩ 1 1 [.slice (some ⟨w2.heap.size + 1, 0, none⟩) 1 1, .slice (some ⟨w2.heap.size + 1 + 1, 0, none⟩) 1 1, .slice none 0 0] rfl rfl HNW.out (by simp [Value.oneCell']) (by decide) (by unfold maxLen; omega) (by omega) (by rw [HZ3.out]; have := HVW.out; omega) (w2.heap.size + 1 + 1 + 1 + 1) HZ3.out ?_; intro g cp W hown hgr hlies hglt; have hWN := (hgr.block w2.heap.size (by rw [HZ3.out]; omega) (fun e => by have := (HML.out _ e.symm).2; omega)).trans HN3.out; obtain ⟨hn0, hn1⟩ := cells2 hWN; have hn2 : W.frozen? ⟨w2.heap.size, 1, none⟩ = false := frozen_of_row W w2.heap.size 1 _ _ hWN)
  have htx := HTS0.out.push (c0 := 1) (c1 := 1) (c2 := 0) (a2 := none) (b2 := 0) (m2 := 0) (X2 := []) HK13.out (by rw [HZ0.out]; have := HVW.out; omega) HO1.out HO2.out ⟨rfl, .inl rfl⟩ (fun _ => by rw [HZ0.out]; omega) (fun _ => by rw [HZ0.out]; omega) (fun h => absurd rfl h) (fun _ _ => by omega) (fun _ h => absurd rfl h) (fun _ h => absurd rfl h) hown hgr (by rw [HZ3.out]; exact hlies)
  have hn3 : (W.setCell ⟨w2.heap.size, 1, none⟩ (.slice (some ⟨g, 0, none⟩) (c' + 1) cp)).heap[w2.heap.size]? = some (.cells #[.int .i64 p', .slice (some ⟨g, 0, none⟩) (c' + 1) cp] 26 (0, 0)) := by
    rw [heap_setCell_same _ _ _ _ _ _ hWN]; rfl
  have HTX := hide (htx.other hWN (by decide) (by decide) 1 (.slice (some ⟨g, 0, none⟩) (c' + 1) cp))
  have HBW := hide (show Below w.heap.size w (W.setCell ⟨w2.heap.size, 1, none⟩ (.slice (some ⟨g, 0, none⟩) (c' + 1) cp)) from (HB3.out.grown hgr HB3.out.size (fun q hq => by have := (HML.out q hq).1; have := HB.out.size; omega)).setCell (by have := HVW.out; have := HB.out.size; simp; omega) _)
  have HRW := hide (show (W.setCell ⟨w2.heap.size, 1, none⟩ (.slice (some ⟨g, 0, none⟩) (c' + 1) cp)).heap[w.heap.size + 1]? = some (.cells #[.int .i64 0, .slice none 0 0] 26 (0, 0)) from
    (Below.heap_setCell _ _ _ _ (show w.heap.size + 1 ≠ w2.heap.size by have := HVS.out; have := HVW.out; have := HW1.out; omega)).trans ((hgr.block (w.heap.size + 1) (row_lt HR3.out) (fun e => by have := (HML.out _ e.symm).1; have := HVS.out; have := HW1.out; omega)).trans HR3.out))
  have HNV := hide hn3
  obtain ⟨W2, hW2⟩ : ∃ W2, Hid (W.setCell ⟨w2.heap.size, 1, none⟩ (.slice (some ⟨g, 0, none⟩) (c' + 1) cp) = W2) := ⟨_, rfl⟩
  rw [hW2.out] at HTX HBW HRW HNV ⊢
  obtain ⟨ax, cx, hex, hlx⟩ := HTX.out.lists HSZ.out
  obtain ⟨rfl, rfl⟩ : ax = some ⟨g, 0, none⟩ ∧ cx = cp := by simp at hex; exact ⟨hex.1.symm, hex.2.symm⟩
  have HGI := hide (goodNetI_any p' (some ⟨g, 0, none⟩) (c' + 1) cx (shortL L s' t') W2 hlx HSZ.out)
  have HLE := hide (show w.heap.size ≤ V.heap.size from HB.out.size)
  have HNE := hide (show w2.heap.size ≠ w.heap.size + 1 by have := HVS.out; have := HVW.out; have := HW1.out; omega)
  clear hn0 hn1 hn2 hn3 hWN htx hlx hex hown hgr hlies hglt HTS HTS0 HO1 HO2 HNW HN3 HR3 HB3 HZ3 HZ0 HML hW2 HK13 HT0 HT2
  refine HGI.out.mono ?_
  rintro e w5 ⟨rfl, hb⟩
  have HB5 := hide (HBW.out.trans (hb.mono HBW.out.size))
  have HT5 := hide (HTX.out.grow hb)
  obtain ⟨hr0, hr1⟩ := cells2 (keep HRW.out hb)
  have hf0 : w5.frozen? ⟨w.heap.size + 1, 0, none⟩ = false := frozen_of_row w5 _ 0 _ _ (keep HRW.out hb)
  have hf1 : w5.frozen? ⟨w.heap.size + 1, 1, none⟩ = false := frozen_of_row w5 _ 1 _ _ (keep HRW.out hb)
  obtain ⟨hv0, hv1⟩ := cells2 (keep HNV.out hb)
  have HRR := hide (keep HRW.out hb)
  clear hb HGI HTX HBW HRW HNV
  cases hgt : netOk p' (c' + 1) (shortL L s' t')
  · have HN := hide (show shortOk p' c' L s' t' = false by unfold shortOk; rw [hgt]; simp)
    go_wp2_with fail
    refine bodyPost_ret (v := .tuple #[.agg #[.int .i64 0, .slice none 0 0], .bool false]) (by simp [results, Try.results7, go_sem, hr0, hr1]) rfl ?_
    rw [HN.out]
    exact shEnd_no ((HB5.out.setCell (by simp) _).setCell (by simp) _)
  · have HY := hide (show shortOk p' c' L s' t' = true by unfold shortOk; rw [hgt, HG.out]; rfl)
    go_wp2_with fail
    refine bodyPost_ret (v := .tuple #[.agg #[.int .i64 p', .slice (some ⟨g, 0, none⟩) (c' + 1) cx], .bool true]) (by simp [results, Try.results7, go_sem, hr0, hr1]) rfl ?_
    rw [HY.out]
    have hR1 : (w5.setCell ⟨w.heap.size + 1, 0, none⟩ (.int .i64 p')).heap[w.heap.size + 1]? = some (.cells #[.int .i64 p', .slice none 0 0] 26 (0, 0)) := by
      rw [heap_setCell_same _ _ _ _ _ _ HRR.out]; rfl
    exact ⟨_, _, rfl, fun _ => ((HT5.out.other HRR.out (by decide) (by decide) 0 _).other hR1 (by decide) (by decide) 1 _).lower HLE.out, (HB5.out.setCell (by simp) _).setCell (by simp) _⟩
end Go.Proofs.Ytbhhpfiolombcaa


/- l2Fire and the specification's Fire, for every net and mark in memory. -/
namespace Go.Proofs.Ytbhhpfiolombcaa
open Go.RowKit

/-- The numbers at the places xs are changed by g, one behind the other. -/
def updL (g : Int → Int) (xs ys : List Int) : List Int := xs.foldl (fun l p => l.set p.toNat (g (l.getD p.toNat 0))) ys

theorem updL_snoc (g : Int → Int) (xs ys : List Int) (x : Int) : updL g (xs ++ [x]) ys = (updL g xs ys).set x.toNat (g ((updL g xs ys).getD x.toNat 0)) := by simp [updL, List.foldl_append]

theorem updL_take (g : Int → Int) (xs ys : List Int) (k : Nat) (x : Int) (h : xs[k]? = some x) : updL g (xs.take (k + 1)) ys = (updL g (xs.take k) ys).set x.toNat (g ((updL g (xs.take k) ys).getD x.toNat 0)) := by
  rw [List.take_add_one, h]; exact updL_snoc _ _ _ _

theorem updL_len (g : Int → Int) (xs ys : List Int) : (updL g xs ys).length = ys.length := by
  induction xs using snoc_ind with
  | h0 => rfl
  | h1 xs x ih => rw [updL_snoc, List.length_set, ih]

theorem riseB_snoc {xs : List Int} {x lo hi : Int} (h : riseB (xs ++ [x]) lo hi = true) : riseB xs lo hi = true ∧ x ∉ xs := by
  induction xs generalizing lo with
  | nil => exact ⟨rfl, by simp⟩
  | cons y r ih =>
    simp only [List.cons_append, riseB, Bool.and_eq_true, decide_eq_true_eq] at h ⊢
    obtain ⟨h1, h2⟩ := h
    have := ih h2
    refine ⟨⟨h1, this.1⟩, ?_⟩
    intro hm
    rcases List.mem_cons.mp hm with e | hm
    · have := riseB_mem h2 x (by simp); omega
    · exact this.2 hm

theorem updL_at (g : Int → Int) {xs : List Int} (ys : List Int) (hi : Int) (h : riseB xs 0 hi = true) (hl : hi < ys.length) (i : Nat) : (updL g xs ys).getD i 0 = if (i : Int) ∈ xs then g (ys.getD i 0) else ys.getD i 0 := by
  induction xs using snoc_ind with
  | h0 => simp [updL]
  | h1 xs x ih =>
    have hs := riseB_snoc h
    have hx := riseB_mem h x (by simp)
    have ih' := ih hs.1
    rw [updL_snoc, List.getD_eq_getElem?_getD, List.getElem?_set, updL_len]
    by_cases e : x.toNat = i
    · subst e
      rw [if_pos rfl, if_pos (by omega), ih', Int.toNat_of_nonneg hx.1, if_neg hs.2, if_pos (by simp)]
      rfl
    · rw [if_neg e, ← List.getD_eq_getElem?_getD, ih']
      have hne : (i : Int) ≠ x := by omega
      by_cases hm : (i : Int) ∈ xs
      · rw [if_pos hm, if_pos (by simp [hm])]
      · rw [if_neg hm, if_neg (by simp [hm, hne])]

theorem bound3 (g : Int → Int) {xs : List Int} (ys : List Int) (hi : Int) (h : riseB xs 0 hi = true) (hl : hi < ys.length) (i : Nat) (hb : -60 ≤ ys.getD i 0 ∧ ys.getD i 0 ≤ 60) (hg : -60 ≤ g (ys.getD i 0) ∧ g (ys.getD i 0) ≤ 60) : -60 ≤ (updL g xs ys).getD i 0 ∧ (updL g xs ys).getD i 0 ≤ 60 := by
  rw [updL_at g ys hi h hl i]; split
  · exact hg
  · exact hb

def fireL (x0 x1 x2 ys : List Int) : List Int := updL (· + 1) x1 (updL (fun _ => 0) x2 (updL (· - 1) x0 ys))

end Go.Proofs.Ytbhhpfiolombcaa


/- What tokensOf and both GoodMarks answer, for every number of places and every list: true just where the places are in 1..16, the list is as long, and each of its numbers is in 0..50; nothing that was there is written. -/
namespace Go.Proofs.Ytbhhpfiolombcaa
open Go.RowKit

theorem goodB_of {p : Int} {n : Nat} {xs : List Int} (hl : xs.length = n) (hp : inB p 1 16 = true) (hn : (n : Int) = p) : goodB p xs = allB xs 0 50 := by
  simp [goodB, hp, hl, hn]

theorem goodB_p {p : Int} {xs : List Int} (hp : inB p 1 16 = false) : goodB p xs = false := by simp [goodB, hp]

theorem goodB_n {p : Int} {n : Nat} {xs : List Int} (hl : xs.length = n) (hn : ¬ (n : Int) = p) : goodB p xs = false := by
  simp [goodB, hl, hn]

theorem inB_le {p : Int} {n : Nat} (hp : inB p 1 16 = true) (hn : (n : Int) = p) : 1 ≤ n ∧ n ≤ 16 := by
  simp [inB] at hp; omega

set_option maxHeartbeats 400000 in
theorem tokens_any (p : Int) (a : Option Addr) (n ca : Nat) (xs : List Int) (w : World) (ha : Row w a n xs) (_hn : n ≤ 1048576) :
    Calls Try.prog 59 #[.int .i64 p, .slice a n ca] w fun e w' => TokEnd (goodB p xs) xs n w e w' := by
  by_cases hp : inB p 1 16 = true
  · by_cases hnp : (n : Int) = p
    · exact tokens_run _ p a n ca xs w ha hp hnp (inB_le hp hnp).2 (goodB_of ha.1 hp hnp)
    · have hd : ((n : Int) != p) = true := by simp [hnp]
      have HG : Hid (goodB p xs = false) := goodB_n ha.1 hnp
      clear hnp ha
      go_enter Try.func59, Try.ntmps59
      go_wp2_with (go_at_call 72; refine (goodPlaces_any _ _).mono ?_; rintro e w' ⟨rfl, rfl⟩)
      exact bodyPost_ret (v := .tuple #[.agg #[.int .u8 0, .int .u8 0, .int .u8 0, .int .u8 0, .int .u8 0, .int .u8 0, .int .u8 0, .int .u8 0, .int .u8 0, .int .u8 0, .int .u8 0, .int .u8 0, .int .u8 0, .int .u8 0, .int .u8 0, .int .u8 0], .bool false]) (by simp [results, Try.results59, go_sem]) rfl (tokEnd_no HG.out (below_two _ _ _))
  · have hp' : inB p 1 16 = false := by simpa using hp
    have HG : Hid (goodB p xs = false) := goodB_p hp'
    clear hp ha
    go_enter Try.func59, Try.ntmps59
    go_wp2_with (go_at_call 72; refine (goodPlaces_any _ _).mono ?_; rintro e w' ⟨rfl, rfl⟩)
    exact bodyPost_ret (v := .tuple #[.agg #[.int .u8 0, .int .u8 0, .int .u8 0, .int .u8 0, .int .u8 0, .int .u8 0, .int .u8 0, .int .u8 0, .int .u8 0, .int .u8 0, .int .u8 0, .int .u8 0, .int .u8 0, .int .u8 0, .int .u8 0, .int .u8 0], .bool false]) (by simp [results, Try.results59, go_sem]) rfl (tokEnd_no HG.out (below_two _ _ _))

/-- A call that answers a bool and writes into nothing that was there. -/
def BoolEnd (b : Bool) (w : World) (e : Ending) (w' : World) : Prop := e = .returned (.bool b) ∧ Below w.heap.size w w'


def AllUpto (xs : List Int) (lo hi : Int) (k : Nat) : Prop := allB (xs.take k) lo hi = true

theorem AllUpto.step {xs : List Int} {lo hi : Int} {k : Nat} {x : Int} (h : AllUpto xs lo hi k) (hx : Hid (xs[k]? = some x)) (hi' : inB x lo hi = true) : AllUpto xs lo hi (k + 1) := by
  unfold AllUpto allB at *
  rw [List.take_add_one, hx.out, List.all_append, h]
  simp [hi']

theorem AllUpto.done {xs : List Int} {lo hi : Int} {n : Nat} (h : AllUpto xs lo hi n) (hl : xs.length = n) : allB xs lo hi = true := by
  unfold AllUpto at h
  rwa [List.take_of_length_le (by omega)] at h

theorem allB_no {xs : List Int} {lo hi : Int} {k : Nat} {x : Int} (hx : Hid (xs[k]? = some x)) (hi' : inB x lo hi = false) : allB xs lo hi = false := by
  unfold allB
  rw [List.all_eq_false]
  exact ⟨x, List.mem_of_getElem? hx.out, by simp [hi']⟩

end Go.Proofs.Ytbhhpfiolombcaa


/- l2Marked and the specification's Fire, for every net, mark and number in memory. -/
namespace Go.Proofs.Ytbhhpfiolombcaa
open Go.RowKit

theorem goodB_parts {p : Int} {ys : List Int} (h : goodB p ys = true) : (1 ≤ p ∧ p ≤ 16) ∧ (ys.length : Int) = p ∧ ∀ i, 0 ≤ ys.getD i 0 ∧ ys.getD i 0 ≤ 50 := by
  unfold goodB at h
  simp only [Bool.and_eq_true, decide_eq_true_eq] at h
  obtain ⟨⟨h1, h2⟩, h3⟩ := h
  refine ⟨by simpa [inB] using h1, h2, fun i => ?_⟩
  by_cases hi : i < ys.length
  · unfold allB at h3
    rw [List.all_eq_true] at h3
    have := h3 (ys.getD i 0) (by rw [List.getD_eq_getElem?_getD, List.getElem?_eq_getElem hi]; simp)
    simpa [inB] using this
  · rw [List.getD_eq_getElem?_getD, List.getElem?_eq_none (by omega)]; simp

/-- The lists of a transition, by its number. -/
def inOf (L : List (List Int)) (t : Int) : List Int := L.getD (3 * t.toNat) []
def outOf (L : List (List Int)) (t : Int) : List Int := L.getD (3 * t.toNat + 1) []
def resOf (L : List (List Int)) (t : Int) : List Int := L.getD (3 * t.toNat + 2) []

def firedL (L : List (List Int)) (ys : List Int) (t : Int) : List Int := fireL (inOf L t) (outOf L t) (resOf L t) ys

def fireOk (p : Int) (n : Nat) (L : List (List Int)) (ys : List Int) (t : Int) : Bool :=
  netOk p n L && goodB p ys && inB t 0 ((n : Int) - 1) && canB (inOf L t) ys && goodB p (firedL L ys t)

def fireR (p : Int) (n : Nat) (L : List (List Int)) (ys : List Int) (t : Int) : List Int := if fireOk p n L ys t then firedL L ys t else []

/-- A list and a bool; nothing that was there is written. -/
def REnd (g : Bool) (r : List Int) (w : World) (e : Ending) (w' : World) : Prop := ∃ a n c, e = .returned (.tuple #[.slice a n c, .bool g]) ∧ Row w' a n r ∧ Below w.heap.size w w'

theorem rend_no {p : Int} {n : Nat} {L : List (List Int)} {ys : List Int} {t : Int} {w w' : World} (h : fireOk p n L ys t = false) (hb : Below w.heap.size w w') : REnd (fireOk p n L ys t) (fireR p n L ys t) w (.returned (.tuple #[.slice none 0 0, .bool false])) w' := by
  refine ⟨none, 0, 0, by rw [h], ⟨?_, .inl rfl⟩, hb⟩
  unfold fireR; rw [h]; rfl

theorem rend_yes {p : Int} {n : Nat} {L : List (List Int)} {ys : List Int} {t : Int} {w w' : World} {a : Option Addr} {m c : Nat} (h : fireOk p n L ys t = true) (hr : Row w' a m (firedL L ys t)) (hb : Below w.heap.size w w') : REnd (fireOk p n L ys t) (fireR p n L ys t) w (.returned (.tuple #[.slice a m c, .bool true])) w' := by
  refine ⟨a, m, c, by rw [h], ?_, hb⟩
  unfold fireR; rw [h]; exact hr

theorem fireOk_no1 {p : Int} {n : Nat} {L : List (List Int)} {ys : List Int} {t : Int} (h : (netOk p n L && goodB p ys) = false) : fireOk p n L ys t = false := by unfold fireOk; rw [h]; rfl
theorem fireOk_no2 {p : Int} {n : Nat} {L : List (List Int)} {ys : List Int} {t : Int} (h : inB t 0 ((n : Int) - 1) = false) : fireOk p n L ys t = false := by unfold fireOk; rw [h]; simp
theorem fireOk_no3 {p : Int} {n : Nat} {L : List (List Int)} {ys : List Int} {t : Int} (h : canB (inOf L t) ys = false) : fireOk p n L ys t = false := by unfold fireOk; rw [h]; simp
theorem fireOk_no4 {p : Int} {n : Nat} {L : List (List Int)} {ys : List Int} {t : Int} (h : goodB p (firedL L ys t) = false) : fireOk p n L ys t = false := by unfold fireOk; rw [h]; simp
theorem fireOk_yes {p : Int} {n : Nat} {L : List (List Int)} {ys : List Int} {t : Int} (h : (netOk p n L && goodB p ys) = true) (h2 : inB t 0 ((n : Int) - 1) = true) (h3 : canB (inOf L t) ys = true) (h4 : goodB p (firedL L ys t) = true) : fireOk p n L ys t = true := by
  unfold fireOk; rw [h, h2, h3, h4]; rfl

theorem triOkOf {p : Int} {n i : Nat} {L : List (List Int)} (h : netOk p n L = true) (hi : i < n) : triOk p L i = true := by
  unfold netOk at h
  rw [Bool.and_eq_true] at h
  exact List.all_eq_true.mp h.2 i (by simpa using hi)

theorem tri_rise {p : Int} {L : List (List Int)} {i : Nat} (h : triOk p L i = true) : riseB (L.getD (3 * i) []) 0 (p - 1) = true ∧ riseB (L.getD (3 * i + 1) []) 0 (p - 1) = true ∧ riseB (L.getD (3 * i + 2) []) 0 (p - 1) = true := by
  unfold triOk at h
  simp only [Bool.and_eq_true] at h
  exact ⟨h.1.1.2, h.1.2, h.2⟩

theorem netOkN {p : Int} {n : Nat} {L : List (List Int)} (h : netOk p n L = true) : n ≤ 24 := by
  unfold netOk at h; simp at h; exact h.1.2

end Go.Proofs.Ytbhhpfiolombcaa


/- The short net fires from the end to the start. -/
namespace Go.Proofs.Ytbhhpfiolombcaa
open Go.RowKit

theorem oneL_len (p q : Nat) : (oneL p q).length = p := by unfold oneL; exact listF_len _ _
theorem oneL_at (p q i : Nat) (h : i < (oneL p q).length) : (oneL p q)[i] = if i = q then 1 else 0 := by
  simp [oneL, listF, oneF]
theorem oneL_getD {p q i : Nat} (h : i < p) : (oneL p q).getD i 0 = if i = q then 1 else 0 := by
  unfold oneL; rw [listF_at _ _ _ h]; rfl

theorem oneL_good {p : Int} (q : Nat) (hp : 1 ≤ p ∧ p ≤ 16) : goodB p (oneL p.toNat q) = true := by
  have h1 : inB p 1 16 = true := by simp [inB]; omega
  rw [goodB_of (n := p.toNat) (oneL_len _ _) h1 (by omega)]
  simp only [allB, List.all_eq_true]
  intro x hx
  unfold oneL listF at hx
  obtain ⟨i, _, rfl⟩ := List.mem_map.1 hx
  unfold oneF
  split <;> simp [inB]

theorem short_fire {p : Int} {n : Nat} {L : List (List Int)} {s t : Int} (hg : shortOk p n L s t = true) (hl : L.length = 3 * n) :
    fireOk p (n + 1) (shortL L s t) (oneL p.toNat t.toNat) (n : Int) = true ∧ firedL (shortL L s t) (oneL p.toNat t.toNat) (n : Int) = oneL p.toNat s.toNat := by
  unfold shortOk at hg
  rw [Bool.and_eq_true] at hg
  obtain ⟨hf, hnet⟩ := hg
  obtain ⟨hp, _, hs, ht⟩ := flow_num hf
  have hst := (flowOk_parts hf).2.1
  have e0 : inOf (shortL L s t) (n : Int) = [t] := by
    unfold inOf shortL; simp [List.getD_eq_getElem?_getD, hl]
  have e1 : outOf (shortL L s t) (n : Int) = [s] := by
    unfold outOf shortL; simp [List.getD_eq_getElem?_getD, hl]
  have e2 : resOf (shortL L s t) (n : Int) = [] := by
    unfold resOf shortL; simp [List.getD_eq_getElem?_getD, hl]
  have hfire : firedL (shortL L s t) (oneL p.toNat t.toNat) (n : Int) = oneL p.toNat s.toNat := by
    unfold firedL fireL
    rw [e0, e1, e2]
    simp only [updL, List.foldl]
    apply List.ext_getElem
    · simp [oneL_len]
    · intro i h1 h2
      have hi : i < p.toNat := by rw [oneL_len] at h2; exact h2
      rw [List.getElem_set, List.getElem_set, oneL_at, oneL_at]
      rw [List.getD_eq_getElem?_getD, List.getElem?_set_ne (by omega), ← List.getD_eq_getElem?_getD, oneL_getD (by omega), oneL_getD (by omega)]
      by_cases h3 : s.toNat = i
      · rw [if_pos h3, if_neg (by omega), if_pos h3.symm]; rfl
      · rw [if_neg h3]
        by_cases h4 : t.toNat = i
        · rw [if_pos h4, if_pos rfl, if_neg (fun e => h3 e.symm)]; rfl
        · rw [if_neg h4, if_neg (fun e => h4 e.symm), if_neg (fun e => h3 e.symm)]
  refine ⟨?_, hfire⟩
  unfold fireOk
  rw [hnet, oneL_good _ hp, hfire, oneL_good _ hp, e0]
  have hc : canB [t] (oneL p.toNat t.toNat) = true := by
    unfold canB
    simp only [List.all_cons, List.all_nil, Bool.and_true]
    rw [oneL_getD (by omega), if_pos rfl]
    rfl
  rw [hc]
  simp [inB]
end Go.Proofs.Ytbhhpfiolombcaa


/- OnWay of the program. -/
namespace Go.Proofs.Ytbhhpfiolombcaa
open Go.RowKit
set_option maxRecDepth 10000

set_option maxHeartbeats 1000000 in
theorem numsLead_any (q F K : Int) (ar : Option Addr) (mr cr : Nat) (Pd : Nat → Bool) (p : Int) (B n : Nat) (L : List (List Int)) (w : World) (h : PartS w B (3 * n) (3 * n) L) (hn : n ≤ 24)
    (hc : ∀ W k, k < n → Calls Try.prog 33 #[.agg #[.int .i64 q, .slice ar mr cr, .int .u16 F, .int .u16 K], .agg #[.int .u16 (maskL (L.getD (3 * k) []) : Int), .int .u16 (maskL (L.getD (3 * k + 1) []) : Int), .int .u16 (maskL (L.getD (3 * k + 2) []) : Int)]] W fun e W' => e = .returned (.bool (Pd k)) ∧ Below W.heap.size W W') :
    Calls Try.prog 32 #[.agg #[.int .i64 p, .slice (some ⟨B, 0, none⟩) n n], .func (.func 33) #[.agg #[.int .i64 q, .slice ar mr cr, .int .u16 F, .int .u16 K]] #[]] w fun e w' => Nums2End Pd n w e w' := by
  have hAl := below_al w (.cells #[.int .i64 p, .slice (some ⟨B, 0, none⟩) n n] 45)
  have HC := hide hc
  have HP := hide h
  have HB0 := hide hAl
  obtain ⟨i0, hi, hz0, hz1, hz2⟩ := info_split2 Try.info3
  clear hc h hAl
  go_enter Try.func32, Try.ntmps32
  go_wp2_with fail
  obtain ⟨V, hV⟩ : ∃ V, Hid (w.alloc (.cells #[.int .i64 p, .slice (some ⟨B, 0, none⟩) n n] 45) = V) := ⟨_, rfl⟩
  rw [hV.out] at HB0 ⊢
  clear hV
  go_loopw [5, 11] (fun o i wr => ∃ k m : Nat, k ≤ n ∧ i = .int .i64 k ∧ Hid (m ≤ k) ∧ Hid (wr.ownsRow w.heap.size 3 1 o m ((nums2 Pd k).map (Value.int .i64))) ∧ Hid (Below w.heap.size w wr)) (fun _ i _ => n - (intOf i).toNat)
  case atStart => exact ⟨0, 0, Nat.zero_le _, rfl, Nat.le_refl _, World.ownsRow_nil _ _ _ _, HB0⟩
  case round =>
    obtain ⟨k, m, hk, rfl, hmk, hown, hbw⟩ := hrel
    by_cases hlt : k < n
    rotate_left
    · have hk' : k = n := by omega
      subst hk'
      go_wp2_with fail
      go_ret
      exact ⟨_, m, rfl, hown.out, hbw.out⟩
    obtain ⟨hc0, hc1, hc2⟩ := (HP.out.grow hbw.out).atW hlt
    have hA1 := fun C => below_al wr (.cells C 89)
    have HH := hide (fun W => HC.out W k hlt)
    have HB1 := hide (fun C => hbw.out.trans ((hA1 C).mono hbw.out.size))
    have HO1 := hide (fun C => hown.out.alloc (.cells C 89))
    obtain ⟨s0, hs0⟩ : ∃ s, Hid (maskL (L.getD (3 * k) []) = s) := ⟨_, rfl⟩
    obtain ⟨s1, hs1⟩ : ∃ s, Hid (maskL (L.getD (3 * k + 1) []) = s) := ⟨_, rfl⟩
    obtain ⟨s2, hs2⟩ : ∃ s, Hid (maskL (L.getD (3 * k + 2) []) = s) := ⟨_, rfl⟩
    rw [hs0.out] at hc0 HH
    rw [hs1.out] at hc1 HH
    rw [hs2.out] at hc2 HH
    clear hown hA1
    by_cases hh : Pd k = true
    rotate_left
    · have hh' : Pd k = false := by simpa using hh
      have HN := hide (nums2_no hh')
      rw [hh'] at HH
      clear hh hh'
      go_wp2_with fail
      refine (HH.out _).mono ?_
      rintro e w' ⟨rfl, hb⟩
      have HB2 := hide ((HB1.out _).trans (hb.mono (HB1.out _).size))
      have HO2 := hide (own_grow2 (HO1.out _) hb)
      clear hb HH HB1 HO1 hc0 hc1 hc2
      go_wp2_with fail
      go_roundw
      case rel => exact ⟨k + 1, m, by omega, by go_num, Nat.le_succ_of_le hmk.out, by rw [HN.out]; exact HO2, HB2⟩
      case measure => simp [intOf]; omega
    have HN := hide (nums2_yes hh)
    rw [hh] at HH
    clear hh
    go_wp2_with fail
    refine (HH.out _).mono ?_
    rintro e W1 ⟨rfl, hb⟩
    have HB1 := hide ((HB1.out _).trans (hb.mono (HB1.out _).size))
    have HO1 := hide (own_grow2 (HO1.out _) hb)
    have hA2 := below_al W1 (.cells #[.int .i64 (k : Int)] 3)
    have HO2 := hide (HO1.out.alloc (.cells #[.int .i64 (k : Int)] 3))
    have HB2 := hide (HB1.out.trans (hA2.mono HB1.out.size))
    have HCE : Hid (∀ j u, ([.int .i64 (k : Int)] : List Value)[j]? = some u → (W1.alloc (.cells #[.int .i64 (k : Int)] 3)).cell? ((⟨W1.heap.size, 0, none⟩ : Addr).add j) = some u) := one_cell2 W1 _
    have H1c : Hid (∀ u ∈ ([.int .i64 (k : Int)] : List Value), u.oneCell' = true) := fun u hu => by simp at hu; subst hu; rfl
    have HX := hide (show m + 1 ≤ maxLen by have := hmk.out; unfold maxLen; omega)
    have HY := hide (show (m + 1) * 8 ≤ 140737488355328 by have := hmk.out; omega)
    have HZ := hide HB2.out.size
    clear hA2 hc0 hc1 hc2 HH hb
    go_wp2_with (refine wpList_append_own _ rfl (.tmp 19) (.tmp 21) 33 rfl w.heap.size 3 i0 (.int .i64 0) 1 8 Try.underlying33 hi hz0 hz1 hz2 rfl (by decide) u5 m _ rfl HO2.out ⟨W1.heap.size, 0, none⟩ 1 1 [.int .i64 (k : Int)] rfl rfl HCE.out H1c.out HX.out HY.out HZ.out ?_; intro v' W' r1 r2 r3)
    have HR1 : Hid (W'.ownsRow w.heap.size 3 1 v' (m + 1) ((nums2 Pd (k + 1)).map (Value.int .i64))) := by
      show World.ownsRow _ _ _ _ _ _ _
      rw [HN.out, List.map_append]; exact r1
    have HB3 := hide (own_below2 HO2.out r2 HB2.out HB2.out.size (Nat.le_refl _))
    clear r1 r2 r3
    go_wp2_with fail
    go_roundw
    case rel => exact ⟨k + 1, m + 1, by omega, by go_num, Nat.succ_le_succ hmk.out, HR1, HB3⟩
    case measure => simp [intOf]; omega

/-- How the program's OnWay ends. -/
def OwEndI (g : Bool) (xs ys : List Int) (w : World) (e : Ending) (w' : World) : Prop :=
  ∃ a1 b1 n1 c1 a2 b2 n2 c2, e = .returned (.tuple #[.slice a1 n1 c1, .slice a2 n2 c2, .bool g]) ∧ Ob w' a1 b1 n1 xs ∧ Ob w' a2 b2 n2 ys ∧ w.heap.size ≤ b1 ∧ b1 < b2 ∧ Below w.heap.size w w'

theorem Ob.low {w : World} {a : Option Addr} {b n lo : Nat} {xs : List Int} (h : Ob w a b n xs) (hb : lo ≤ b) (hl : lo < w.heap.size) : ∃ b', lo ≤ b' ∧ b' < w.heap.size ∧ Ob w a b' n xs := by
  rcases h.2 with h0 | ⟨e, cur, h1, h2, h3⟩
  · exact ⟨lo, Nat.le_refl _, hl, h.1, .inl h0⟩
  · exact ⟨b, hb, (Array.getElem?_eq_some_iff.mp h1).1, h⟩

theorem plL_eq {p : Nat} {n : Nat} {L : List (List Int)} {s t : Int} (h : wayOk (p : Int) n L s t = true) (hp : p ≤ 16) : nums2 (fthM n L s &&& bckM n L t).testBit 16 = nums2 (plB n L s t) p := by
  have e : ∀ i, (fthM n L s &&& bckM n L t).testBit i = plB n L s t i := pl_bit h
  have e2 : (fthM n L s &&& bckM n L t).testBit = plB n L s t := funext e
  rw [e2]
  have key : ∀ m, p ≤ m → nums2 (plB n L s t) m = nums2 (plB n L s t) p := by
    intro m hm
    induction m with
    | zero => rw [show p = 0 by omega]
    | succ m ih =>
      by_cases hpm : p = m + 1
      · rw [hpm]
      · rw [nums2_no]
        · exact ih (by omega)
        · have : ¬ plB n L s t m = true := fun q => by have := pl_lt h q; omega
          simpa using this
  exact key 16 hp

theorem nums2_congr {f g : Nat → Bool} {n : Nat} (h : ∀ k, k < n → f k = g k) : nums2 f n = nums2 g n := by
  unfold nums2
  congr 1
  apply List.filter_congr
  intro i hi
  exact h i (by simpa using hi)

set_option maxHeartbeats 4000000 in
theorem onWayI_any (p s t : Int) (a : Option Addr) (n c : Nat) (L : List (List Int)) (w : World) (h : Lists w a (3 * n) L) (hs : sizeN n L ≤ 1048576) :
    Calls Try.prog 16 #[.agg #[.int .i64 p, .slice a n c], .int .i64 s, .int .i64 t] w fun e w' => OwEndI (wayOk p n L s t) (wayP p n L s t) (wayT p n L s t) w e w' := by
  have HA := hide (below_al w (.cells #[.int .i64 p, .slice a n c] 26))
  have HF := hide (waysOf_any p s t a n c L _ (h.below HA.out) hs)
  clear h
  go_enter Try.func16, Try.ntmps16
  go_wp2_with fail
  refine HF.out.mono ?_
  rintro e w1 ⟨p', a', m, c', F, K, rfl, hx, hb⟩
  have hA2 := below_al w1 (.cells #[.int .i64 p', .slice a' m c', .int .u16 (F : Int), .int .u16 (K : Int)] 61)
  have HB := hide ((HA.out.trans (hb.mono HA.out.size)).trans (hA2.mono (HA.out.trans (hb.mono HA.out.size)).size))
  have HW1 := hide (show w.heap.size + 1 ≤ w1.heap.size by have := hb.size; simpa using this)
  clear hb HF
  by_cases hg : wayOk p n L s t = true
  rotate_left
  · have hg' : wayOk p n L s t = false := by simpa using hg
    have HN : Hid (OwEndI (wayOk p n L s t) (wayP p n L s t) (wayT p n L s t) w (.returned (.tuple #[.slice none 0 0, .slice none 0 0, .bool false])) (w1.alloc (.cells #[.int .i64 p', .slice a' m c', .int .u16 (F : Int), .int .u16 (K : Int)] 61))) :=
      ⟨none, w.heap.size, 0, 0, none, w.heap.size + 1, 0, 0, by rw [hg'], ⟨by unfold wayP; rw [hg']; rfl, .inl rfl⟩, ⟨by unfold wayT; rw [hg']; rfl, .inl rfl⟩, Nat.le_refl _, by omega, HB.out⟩
    rw [hg']
    clear hx hg hg' hA2
    go_wp2_with fail
    go_ret3
    exact HN.out
  obtain ⟨e1, e2, e3, e4, e5, B, rfl, hBs, hps⟩ := hx.out hg
  obtain ⟨hgn, hsr, htr⟩ := wayOk_parts hg
  obtain ⟨⟨hq1, hq2⟩, hn24, _⟩ := netOk_parts hgn
  subst e1 e2 e3
  obtain ⟨P, rfl⟩ : ∃ P : Nat, p' = (P : Int) := ⟨p'.toNat, by omega⟩
  have HG := hide hg
  rw [hg]
  have HF := hide (fthM_lt c' L s)
  have HK := hide (bckM_lt c' L t)
  have HPL := hide (plL_eq hg (by omega))
  have HTR := hide (nums2_congr (fun k hk => lead_tr hg hk))
  rw [← e4] at HF HPL HTR
  rw [← e5] at HK HPL HTR
  have HX := hide (heap_alloc_new w1 (.cells #[.int .i64 (P : Int), .slice (some ⟨B, 0, none⟩) c' c', .int .u16 (F : Int), .int .u16 (K : Int)] 61))
  have HPS := hide (hps.grow hA2)
  have HAP := hide (fun W => wplaces_any (P : Int) (some ⟨B, 0, none⟩) c' c' F K W HF.out HK.out)
  have HAL := hide (fun W => setList_any (F &&& K) W (Nat.lt_of_le_of_lt Nat.and_le_left HF.out))
  have HAN := hide (fun W (hW : PartS W B (3 * c') (3 * c') L) => numsLead_any (P : Int) (F : Int) (K : Int) (some ⟨B, 0, none⟩) c' c' _ (P : Int) B c' L W hW hn24 (fun W' k hk => leads_any (P : Int) (some ⟨B, 0, none⟩) c' c' F K _ _ _ W' (maskL_lt _ fun x hx => by have := (netOk_mem hgn hk).1 x hx; omega) (maskL_lt _ fun x hx => by have := (netOk_mem hgn hk).2.1 x hx; omega) HF.out HK.out))
  obtain ⟨V, hV⟩ : ∃ V, Hid (w1.alloc (.cells #[.int .i64 (P : Int), .slice (some ⟨B, 0, none⟩) c' c', .int .u16 (F : Int), .int .u16 (K : Int)] 61) = V) := ⟨_, rfl⟩
  have HZ : Hid (w.heap.size < V.heap.size) := by
    show _ < _
    have h1 := HW1.out; rw [← hV.out]; simp; omega
  have HE4 := hide e4
  have HE5 := hide e5
  clear hx hps hA2 hg e4 e5 hBs
  go_wp2_with fail
  rw [hV.out] at HB HX HPS ⊢
  obtain ⟨X, hX⟩ : ∃ X, Hid (w1.heap.size = X) := ⟨_, rfl⟩
  rw [hX.out] at HX ⊢
  clear hV hX
  refine wp_region_held_drew (S := fun W => W.cell? ⟨X, 0, none⟩ = some (.int .i64 (P : Int)) ∧ W.cell? ⟨X, 1, none⟩ = some (.slice (some ⟨B, 0, none⟩) c' c') ∧ W.cell? ⟨X, 2, none⟩ = some (.int .u16 (F : Int)) ∧ W.cell? ⟨X, 3, none⟩ = some (.int .u16 (K : Int))) (by kernel_rfl) ?_ (fun hHeld => ?_)
  · exact (cells4 (keep HX.out (Below.refl _ V).drew)).1
  refine take_yes (i := 0) (some 20) (.agg #[.int .i64 (P : Int), .slice (some ⟨B, 0, none⟩) c' c', .int .u16 (F : Int), .int .u16 (K : Int)]) rfl rfl (by kernel_rfl) (by kernel_rfl) (by kernel_rfl) (fun _ _ _ h => h) (by rfl) ?_ (by assumption) ?_
  · intro W hSw
    obtain ⟨hz0, hz1, hz2, hz3⟩ := hSw
    go_simp
  simp only [Act.put, List.setIfInBounds_toArray, List.set_cons_zero, List.set_cons_succ]
  refine take_yes (i := 3) (some 23) (.pointer (some ⟨X, 0, none⟩)) rfl rfl (by kernel_rfl) (by kernel_rfl) (by kernel_rfl) (fun _ _ _ h => h) (by rfl) ?_ (by assumption) ?_
  · intro W hSw
    obtain ⟨hz0, hz1, hz2, hz3⟩ := hSw
    go_simp
  simp only [Act.put, List.setIfInBounds_toArray, List.set_cons_zero, List.set_cons_succ]
  refine take_yes (i := 4) (some 24) (.agg #[.int .i64 (P : Int), .slice (some ⟨B, 0, none⟩) c' c']) rfl rfl (by kernel_rfl) (by kernel_rfl) (by kernel_rfl) (fun _ _ _ h => h) (by rfl) ?_ (by assumption) ?_
  · intro W hSw
    obtain ⟨hz0, hz1, hz2, hz3⟩ := hSw
    go_simp
  simp only [Act.put, List.setIfInBounds_toArray, List.set_cons_zero, List.set_cons_succ]
  refine take_yes (i := 5) (some 25) (.agg #[.int .i64 (P : Int), .slice (some ⟨B, 0, none⟩) c' c', .int .u16 (F : Int), .int .u16 (K : Int)]) rfl rfl (by kernel_rfl) (by kernel_rfl) (by kernel_rfl) (fun _ _ _ h => h) (by rfl) ?_ (by assumption) ?_
  · intro W hSw
    obtain ⟨hz0, hz1, hz2, hz3⟩ := hSw
    go_simp
  simp only [Act.put, List.setIfInBounds_toArray, List.set_cons_zero, List.set_cons_succ]
  refine take_yes (i := 6) (some 26) (.func (.func 33) #[.agg #[.int .i64 (P : Int), .slice (some ⟨B, 0, none⟩) c' c', .int .u16 (F : Int), .int .u16 (K : Int)]] #[]) rfl rfl (by kernel_rfl) (by kernel_rfl) (by kernel_rfl) (fun _ _ _ h => h) (by rfl) ?_ (by assumption) ?_
  · intro W hSw
    obtain ⟨hz0, hz1, hz2, hz3⟩ := hSw
    go_simp
  simp only [Act.put, List.setIfInBounds_toArray, List.set_cons_zero, List.set_cons_succ]
  refine call_next (i := 1) (some 21) rfl rfl (by kernel_rfl) (by rfl) 30 _ _ _ rfl Try.func30 (by decide) rfl #[.agg #[.int .i64 (P : Int), .slice (some ⟨B, 0, none⟩) c' c', .int .u16 (F : Int), .int .u16 (K : Int)]] (mapw1 _ _ _ rfl) _ (HAP.out _) ?_
  rintro e v1 ⟨rfl, hb1⟩
  refine ⟨_, rfl, ?_, fun hHeld => ?_⟩
  · exact (cells4 (keep (keep HX.out (Below.refl _ V).drew) hb1)).1
  simp only [Act.put, List.setIfInBounds_toArray, List.set_cons_zero, List.set_cons_succ]
  refine call_next (i := 2) (some 22) rfl rfl (by kernel_rfl) (by rfl) 31 _ _ _ rfl Try.func31 (by decide) rfl #[.int .u16 ((F &&& K : Nat) : Int)] (mapw1 _ _ _ rfl) _ (HAL.out _) ?_
  rintro e v2 ⟨a1, b1, m1, c1, rfl, hg1, ho1, hb2⟩
  refine ⟨_, rfl, ?_, fun hHeld => ?_⟩
  · exact (cells4 (keep (keep (keep HX.out (Below.refl _ V).drew) hb1) hb2)).1
  simp only [Act.put, List.setIfInBounds_toArray, List.set_cons_zero, List.set_cons_succ]
  refine call_next (i := 7) (some 27) rfl rfl (by kernel_rfl) (by rfl) 32 _ _ _ rfl Try.func32 (by decide) rfl #[.agg #[.int .i64 (P : Int), .slice (some ⟨B, 0, none⟩) c' c'], .func (.func 33) #[.agg #[.int .i64 (P : Int), .slice (some ⟨B, 0, none⟩) c' c', .int .u16 (F : Int), .int .u16 (K : Int)]] #[]] (mapw2 _ _ _ _ _ rfl rfl) _ (HAN.out _ (((HPS.out.grow (Below.refl _ V).drew).grow hb1).grow hb2)) ?_
  rintro e v3 ⟨y3, m3, rfl, hown3, hb3⟩
  obtain ⟨a2, b2, c2, hv3, hg2, ho2⟩ := own_ob2 hown3
  subst hv3
  refine ⟨_, rfl, ?_, fun hHeld => ?_⟩
  · exact (cells4 (keep (keep (keep (keep HX.out (Below.refl _ V).drew) hb1) hb2) hb3)).1
  simp only [Act.put, List.setIfInBounds_toArray, List.set_cons_zero, List.set_cons_succ]
  refine take_yes (i := 8) (some 6) (.slice a1 m1 c1) rfl rfl (by kernel_rfl) (by kernel_rfl) (by kernel_rfl) (fun _ _ _ h => h) (by rfl) ?_ (by assumption) ?_
  · intro W hSw
    obtain ⟨hz0, hz1, hz2, hz3⟩ := hSw
    go_simp
  simp only [Act.put, List.setIfInBounds_toArray, List.set_cons_zero, List.set_cons_succ]
  refine take_yes (i := 9) (some 7) (.slice a2 m3 c2) rfl rfl (by kernel_rfl) (by kernel_rfl) (by kernel_rfl) (fun _ _ _ h => h) (by rfl) ?_ (by assumption) ?_
  · intro W hSw
    obtain ⟨hz0, hz1, hz2, hz3⟩ := hSw
    go_simp
  simp only [Act.put, List.setIfInBounds_toArray, List.set_cons_zero, List.set_cons_succ]
  refine take_yes (i := 10) (some 8) (.bool true) rfl rfl (by kernel_rfl) (by kernel_rfl) (by kernel_rfl) (fun _ _ _ h => h) (by rfl) ?_ (by assumption) ?_
  · intro W hSw
    obtain ⟨hz0, hz1, hz2, hz3⟩ := hSw
    go_simp
  simp only [Act.put, List.setIfInBounds_toArray, List.set_cons_zero, List.set_cons_succ]
  refine wpAnyH_done (by kernel_rfl) ?_ _
  have hsz : w.heap.size < v2.heap.size := by have h1 := HZ.out; have h2 := hb1.size; have h3 := hb2.size; have h4 : V.drew.heap.size = V.heap.size := rfl; omega
  obtain ⟨b1', hl1, hl2, ho1'⟩ := ho1.low (show w.heap.size ≤ b1 by have h1 := HZ.out; have h2 := hb1.size; have h4 : V.drew.heap.size = V.heap.size := rfl; omega) hsz
  have HE : Hid (OwEndI (wayOk (P : Int) c' L s t) (wayP (P : Int) c' L s t) (wayT (P : Int) c' L s t) w (.returned (.tuple #[.slice a1 m1 c1, .slice a2 m3 c2, .bool true])) v3) := by
    refine ⟨a1, b1', m1, c1, a2, b2, m3, c2, by rw [HG.out], ?_, ?_, hl1, by omega, ?_⟩
    · unfold wayP; rw [HG.out, if_pos rfl, Int.toNat_natCast, ← HPL.out]; exact ho1'.grow hb3
    · unfold wayT; rw [HG.out, if_pos rfl, ← HTR.out]; exact ho2
    · exact HB.out.drew.trans ((hb1.trans ((hb2.trans (hb3.mono hb2.size)).mono hb1.size)).mono HB.out.drew.size)
  clear hb1 hb2 hb3 ho1 ho2 ho1' hown3 hHeld HAP HAL HAN
  go_wp2_with fail
  go_ret3
  exact HE.out
end Go.Proofs.Ytbhhpfiolombcaa


/- l1Own of whatever list; pick of one. -/
namespace Go.Proofs.Ytbhhpfiolombcaa
open Go.RowKit
set_option maxRecDepth 10000

theorem run_append_none {P : Program} (w : World) (base : Nat) (t ty e : TypeId) (i : TypeInfo) (size : Nat) (ht : P.underlying t = some (.slice e)) (hi : P.info? e = some i)
    (v : Value) (n c : Nat) (xs : List Value) (hown : w.ownsRow base e size v n xs) :
    (Builtin.append_ #[t, t] ty #[v, .slice none 0 c]).run P w = .ok v w := by
  rcases hown.2 with ⟨rfl, rfl⟩ | ⟨g, cap, cur, rfl, _, _, hnc, _⟩
  · simp [Builtin.append_, run_underlying ht, sizeOf, typeInfo, hi, Builtin.lenOf, Builtin.firstCells]
  · simp [Builtin.append_, run_underlying ht, sizeOf, typeInfo, hi, Builtin.lenOf, Builtin.firstCells, hnc, storeCells]

/-- append, whatever is appended. -/
theorem wpList_append_any2 {P : Program} (w : World) {ops : Array Oper} {rest : List Oper} {o : Oper} {a : Act} {Q : Exit → Act → World → Prop} (hgd : o.guard = none) (s x : Operand) (t : TypeId)
    (ho : o.op = .call { callee := .builtin .append, args := #[s, x], argTypes := #[t, t] })
    (base : Nat) (e : TypeId) (i : TypeInfo) (z : Value) (size bytes : Nat) (ht : P.underlying t = some (.slice e)) (hi : P.info? e = some i) (hz : i.zero = some z)
    (hsize : i.size = size) (hby : i.bytes = bytes) (hzs : z.cells.size = size) (hsz : 0 < size)
    (v : Value) (n : Nat) (xs : List Value) (hs : a.eval s = v) (hown : w.ownsRow base e size v n xs)
    (ao : Option Addr) (m c : Nat) (news : List Value) (hx : a.eval x = .slice ao m c) (hl : news.length = m * size) (hnone : ao = none → m = 0)
    (hnews : ∀ ad, ao = some ad → ∀ j u, news[j]? = some u → w.cell? (ad.add j) = some u) (h1 : ∀ u ∈ news, u.oneCell' = true)
    (h63 : n + m ≤ maxLen) (hbytes : (n + m) * bytes ≤ 140737488355328) (hbase : base ≤ w.heap.size)
    (h : ∀ v' w', w'.ownsRow base e size v' (n + m) (xs ++ news) → w.grownBy w' v.ownBlock → wpList P ops Q rest (a.put o.dst v') w') : wpList P ops Q (o :: rest) a w := by
  cases ao with
  | some ad => exact wpList_append_own w hgd s x t ho base e i z size bytes ht hi hz hsize hby hzs hsz v n xs hs hown ad m c news hx hl (hnews ad rfl) h1 h63 hbytes hbase fun v' w' r1 r2 _ => h v' w' r1 r2
  | none =>
    obtain rfl := hnone rfl
    have hnews : news = [] := List.eq_nil_of_length_eq_zero (by simpa using hl)
    subst hnews
    refine wpList_plain hgd fun K hK' => ?_
    have hrun := run_append_none (P := P) w base t o.type e i size ht hi _ n c xs hown
    unfold Oper.wp
    simp [execOp, ho, resolve, invoke, builtin, hs, hx, hrun, Result.andThen]
    exact hK' _ _ (by simpa using h v w (by simpa using hown) (World.grownBy.refl _ _))

theorem Row.some_of {w : World} {a : Option Addr} {n : Nat} {xs : List Int} (h : Row w a n xs) : ∀ ad, a = some ad → ∀ j u, (xs.map (Value.int .i64))[j]? = some u → w.cell? (ad.add j) = some u := by
  have := cells_upto h (Nat.le_refl n)
  rw [List.take_of_length_le (by have := h.1; omega)] at this
  exact this

set_option maxHeartbeats 400000 in
theorem own3_any (a : Option Addr) (n c : Nat) (xs : List Int) (w : World) (ha : Row w a n xs) (hn : n ≤ 1048576) :
    Calls Try.prog 51 #[.slice a n c] w fun e w' => ∃ a' c', e = .returned (.slice a' n c') ∧ Row w' a' n xs ∧ (0 < n → ∀ x, a' = some x → w.heap.size ≤ x.block) ∧ Below w.heap.size w w' := by
  obtain ⟨i0, hi, hz0, hz1, hz2⟩ := info_split Try.info3
  have P0 := hide (PutSt.first w)
  have HA := hide (ha.below P0.out.bel)
  have HL := hide ha.1
  clear ha
  go_enter Try.func51, Try.ntmps51
  go_wp2_with (at_builtin; refine wpList_append_any2 _ rfl (.tmp 3) (.tmp 4) 33 rfl w.heap.size 3 i0 (.int .i64 0) 1 8 Try.underlying33 hi hz0 hz1 hz2 rfl (by decide) (.slice (some ⟨w.heap.size, 0, none⟩) 0 0) 0 [] rfl P0.out.own a n c (xs.map (Value.int .i64)) rfl (by rw [List.length_map, Nat.mul_one]; exact HL.out) (fun h => by (rcases HA.out.2 with h0 | ⟨b, off, e, _⟩; exact h0; rw [h] at e; cases e)) HA.out.some_of (ints_oneCell _ _) (by unfold maxLen; omega) (by omega) (by simp) ?_; intro u1 W1 r1 r2; have P1 := hide (P0.out.step (q := n) (zs := xs) r1 r2); clear r1 r2)
  go_ret
  have P2 := P1.out
  rw [Nat.zero_add, List.nil_append] at P2
  have hlt := P2.own.lt
  obtain ⟨a', c', rfl, hr⟩ := ownsRow_row2 P2.own
  exact ⟨a', c', rfl, hr, fun _ x hx => by subst hx; exact (hlt x.block rfl).1, P2.bel⟩

set_option maxHeartbeats 400000 in
theorem pickS_any (m : Nat) (bc : Nat) (ca : Option Addr) (cn cc p : Nat) (bs : List Int) (w : World) (h : Cur w bc ca cn cc p) (hr : RowB w ca cn bs) (hp : p ≤ 1000000) (hn : cn ≤ 1048576) (h1 : 1 ≤ m) (h200 : m ≤ 200) :
    Calls Try.prog 40 #[.pointer (some ⟨bc, 0, none⟩), .int .i64 (m : Int)] w fun e w' => ∃ r p' : Nat, e = .returned (.int .i64 (r : Int)) ∧ r < m ∧ p' ≤ p + 1 ∧ Cur w' bc ca cn cc p' ∧ OnlyC bc w w' := by
  by_cases h2 : 2 ≤ m
  · refine (pick_any m bc ca cn cc p bs w h hr hp hn h2 h200).mono ?_
    rintro e w' ⟨r, e1, hr, hc, ho⟩
    exact ⟨r, p + 1, e1, hr, Nat.le_refl _, hc, ho⟩
  · obtain rfl : m = 1 := by omega
    have HC := hide h
    clear h hr
    go_enter Try.func40, Try.ntmps40
    go_wp2_with fail
    go_ret
    exact ⟨0, p, rfl, by omega, by omega, HC.out, OnlyC.refl _ _⟩
end Go.Proofs.Ytbhhpfiolombcaa
