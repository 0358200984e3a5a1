/- ShortNet of the program. -/
import Derived.Test.YtnknhjiofpjbbaaXc
import Derived.Test.YtnknhjiofpjbbaaWl
namespace Go.Proofs.Ytnknhjiofpjbbaa
open Go.RowKit
set_option maxRecDepth 10000

/-- The lists of the net with one transition more behind, from To to From. -/
def shortL (L : List (List Int)) (s t : Int) : List (List Int) := L ++ [[t], [s], []]

theorem shortL_len {n : Nat} {L : List (List Int)} {s t : Int} (h : L.length = 3 * n) : (shortL L s t).length = 3 * (n + 1) := by
  unfold shortL; rw [List.length_append, h]; simp; omega

noncomputable def shortOk (p : Int) (n : Nat) (L : List (List Int)) (s t : Int) : Bool := flowOk p n L s t && netOk p (n + 1) (shortL L s t)

theorem sizeL_app (K N : List (List Int)) : sizeL (K ++ N) = sizeL K + sizeL N := by unfold sizeL; rw [List.map_append, List.sum_append]

theorem getLen16X {p : Int} {n : Nat} {L : List (List Int)} (h : netOk p n L = true) (j : Nat) (hj : j < 3 * n) : (L.getD j []).length ≤ 16 := by
  obtain ⟨hp, _, h3⟩ := netOk_parts h
  obtain ⟨r0, r1, r2⟩ := tri3_rise (h3 (j / 3) (by omega))
  have hm : ∀ xs : List Int, riseB xs 0 (p - 1) = true → xs.length ≤ 16 := by
    intro xs hx
    have h1 := nums2_mask hp.2 hx
    rw [← h1]
    unfold nums2
    have := List.length_filter_le (maskL xs).testBit (List.range 16)
    simpa using this
  have : j % 3 = 0 ∨ j % 3 = 1 ∨ j % 3 = 2 := by omega
  rcases this with e | e | e
  · rw [show j = 3 * (j / 3) by omega]; exact hm _ r0
  · rw [show j = 3 * (j / 3) + 1 by omega]; exact hm _ r1
  · rw [show j = 3 * (j / 3) + 2 by omega]; exact hm _ r2

theorem sum16X (l : List Nat) (h : ∀ x ∈ l, x ≤ 16) : l.sum ≤ 16 * l.length := by
  induction l with
  | nil => simp
  | cons x r ih =>
    have h1 := h x (by simp)
    have h2 := ih fun y hy => h y (by simp [hy])
    simp; omega

theorem netSizeX {p : Int} {n : Nat} {L : List (List Int)} (h : netOk p n L = true) (hl : L.length = 3 * n) : sizeN n L ≤ 2000 := by
  have hn := (netOk_parts h).2.1
  have : sizeL L ≤ 16 * (3 * n) := by
    unfold sizeL
    have h1 := sum16X (L.map List.length) (by
      intro x hx
      rw [List.mem_map] at hx
      obtain ⟨y, hy, rfl⟩ := hx
      obtain ⟨j, hj, rfl⟩ := List.getElem_of_mem hy
      have := getLen16X h j (by omega)
      rw [List.getD_eq_getElem?_getD, List.getElem?_eq_getElem hj] at this
      exact this)
    rw [List.length_map, hl] at h1
    exact h1
  unfold sizeN; omega

theorem shortSize {p : Int} {n : Nat} {L : List (List Int)} {s t : Int} (h : netOk p n L = true) (hl : L.length = 3 * n) : sizeN (n + 1) (shortL L s t) ≤ 1048576 := by
  have := netSizeX h hl
  unfold sizeN at *
  unfold shortL
  rw [sizeL_app]
  have : sizeL [[t], [s], []] = 2 := rfl
  omega

/-- How the program's ShortNet ends. -/
def ShEnd (g : Bool) (p : Int) (n : Nat) (K : List (List Int)) (w : World) (e : Ending) (w' : World) : Prop :=
  ∃ (a : Option Addr) (c : Nat), e = .returned (.tuple #[.agg #[.int .i64 (if g then p else 0), .slice a (if g then n else 0) c], .bool g]) ∧ (g = true → TriX w' w.heap.size (.slice a n c) n K) ∧ Below w.heap.size w w'

theorem shEnd_no {p : Int} {n : Nat} {K : List (List Int)} {w w' : World} (hb : Below w.heap.size w w') : ShEnd false p n K w (.returned (.tuple #[.agg #[.int .i64 0, .slice none 0 0], .bool false])) w' :=
  ⟨none, 0, rfl, fun h => by simp at h, hb⟩

theorem news3X (w : World) (x y z : Value) : ∀ j u, ([x, y, z] : List Value)[j]? = some u → (w.alloc (.cells #[x, y, z] 56)).cell? ((⟨w.heap.size, 0, none⟩ : Addr).add j) = some u := by
  intro j u hu
  rw [Addr.add_mid, cell_of_row _ w.heap.size (0 + j) #[x, y, z] _ _ (heap_alloc_new _ _), Nat.zero_add]
  simpa using hu

theorem obOne (w : World) (x : Int) : Ob (w.alloc (.cells #[.int .i64 x] 3)) (some ⟨w.heap.size, 0, none⟩) w.heap.size 1 [x] :=
  ⟨rfl, .inr ⟨rfl, _, heap_alloc_new _ _, by simp, fun i hi => by rw [show i = 0 by omega]; rfl⟩⟩

set_option maxHeartbeats 4000000 in
theorem shortI_any (p s t : Int) (a : Option Addr) (n c : Nat) (L : List (List Int)) (w : World) (h : Lists w a (3 * n) L) (hs : sizeN n L ≤ 1048576) :
    Calls Try.prog 29 #[.agg #[.int .i64 p, .slice a n c, .int .i64 s, .int .i64 t]] w fun e w' => ShEnd (shortOk p n L s t) p (n + 1) (shortL L s t) w e w' := by
  have HA := hide (below_two w (.cells #[.int .i64 p, .slice a n c, .int .i64 s, .int .i64 t] 33) (.cells #[.int .i64 0, .slice none 0 0] 31))
  have HF := hide (flowSteps_any p s t a n c L _ (h.below HA.out) hs)
  have HL := hide h.1
  have HR0 : Hid (((w.alloc (.cells #[.int .i64 p, .slice a n c, .int .i64 s, .int .i64 t] 33)).alloc (.cells #[.int .i64 0, .slice none 0 0] 31)).heap[w.heap.size + 1]? = some (.cells #[.int .i64 0, .slice none 0 0] 31 (0, 0))) := by
    have := heap_alloc_new (w.alloc (.cells #[.int .i64 p, .slice a n c, .int .i64 s, .int .i64 t] 33)) (.cells #[.int .i64 0, .slice none 0 0] 31)
    rw [show (w.alloc (.cells #[.int .i64 p, .slice a n c, .int .i64 s, .int .i64 t] 33)).heap.size = w.heap.size + 1 by simp] at this
    exact this
  obtain ⟨i1, hi1, hz0, hz1, hz2⟩ := info_split2 Try.info56
  clear h
  go_enter Try.func29, Try.ntmps29
  go_wp2_with fail
  refine HF.out.mono ?_
  rintro e w1 ⟨p', a', m, c', s', t', rfl, hx, hb⟩
  have hA2 := below_al w1 (.cells #[.int .i64 p', .slice a' m c', .int .i64 s', .int .i64 t'] 62)
  have HB1 := hide (HA.out.trans (hb.mono HA.out.size))
  have HB := hide (HA.out.trans ((hb.trans (hA2.mono hb.size)).mono HA.out.size))
  have HR1 := hide (keep (keep HR0.out hb) hA2)
  have HFV := hide (heap_alloc_new w1 (.cells #[.int .i64 p', .slice a' m c', .int .i64 s', .int .i64 t'] 62))
  have HW1 := hide (show w.heap.size + 1 < w1.heap.size from row_lt (keep HR0.out hb))
  have hlr : w.heap.size + 1 < w1.heap.size := HW1.out
  obtain ⟨hr0, hr1⟩ := cells2 (keep HR0.out hb)
  have hf0 : w1.frozen? ⟨w.heap.size + 1, 0, none⟩ = false := frozen_of_row w1 _ 0 _ _ (keep HR0.out hb)
  have hf1 : w1.frozen? ⟨w.heap.size + 1, 1, none⟩ = false := frozen_of_row w1 _ 1 _ _ (keep HR0.out hb)
  clear hb HF HA HR0
  by_cases hg : flowOk p n L s t = true
  rotate_left
  · have hg' : flowOk p n L s t = false := by simpa using hg
    have HN := hide (show shortOk p n L s t = false by unfold shortOk; rw [hg']; rfl)
    rw [hg']
    clear hx hg hg' hA2
    go_wp2_with fail
    refine bodyPost_ret (v := .tuple #[.agg #[.int .i64 0, .slice none 0 0], .bool false]) (by simp [results, Try.results29, go_sem, hr0, hr1, hlr]) rfl ?_
    rw [HN.out]
    exact shEnd_no (((HB1.out.setCell (by simp) _).setCell (by simp) _).alloc (by have := HB1.out.size; simp [World.setCell]; omega) _)
  obtain ⟨e1, e2, e3, e4, e5, B, rfl, hBs, hps⟩ := hx.out hg
  have hgn := (wayOk_parts (flowOk_parts hg).1).1
  have hn24 := (netOk_parts hgn).2.1
  subst e1 e2 e3 e4 e5
  have HG := hide hg
  have HGN := hide hgn
  have HPS := hide (hps.grow hA2)
  have HSZ := hide (shortSize (s := s') (t := t') hgn HL.out)
  rw [hg]
  obtain ⟨V, hV⟩ : ∃ V, Hid (w1.alloc (.cells #[.int .i64 p', .slice (some ⟨B, 0, none⟩) c' c', .int .i64 s', .int .i64 t'] 62) = V) := ⟨_, rfl⟩
  obtain ⟨X, hX⟩ : ∃ X, Hid (w1.heap.size = X) := ⟨_, rfl⟩
  clear hx hps hA2 hg hBs hgn hr0 hr1 hf0 hf1
  go_wp2_with fail
  rw [hV.out] at HB HR1 HFV HPS ⊢
  rw [hX.out] at HFV HW1 hlr
  refine (netLists_any p' B c' L V HPS.out HGN.out HL.out).mono ?_
  rintro e w2 ⟨M, rfl, htri, hb⟩
  have hA3 := below_al w2 (.cells #[.int .i64 p', .slice (some ⟨M, 0, none⟩) c' c'] 31)
  have hb2 := hb.trans (hA3.mono hb.size)
  have HB2 := hide (HB.out.trans (hb2.mono HB.out.size))
  have HR2 := hide (keep HR1.out hb2)
  have HF2 := hide (keep HFV.out hb2)
  have HT0 := hide htri
  have HT2 := hide (htri.grow hA3)
  have HN2 := hide (heap_alloc_new w2 (.cells #[.int .i64 p', .slice (some ⟨M, 0, none⟩) c' c'] 31))
  have HVS := hide (show X < V.heap.size from row_lt HFV.out)
  have HVW := hide (show V.heap.size ≤ w2.heap.size from hb.size)
  rw [hX.out]
  obtain ⟨⟨hq0, hq1, hq2, hq3⟩, _⟩ := cells4 HF2.out
  have hXw : X < w2.heap.size := by have := HVS.out; have := HVW.out; omega
  have hqa := (cells4 (keep HFV.out hb)).1
  obtain ⟨hqa0, hqa1, hqa2, hqa3⟩ := hqa
  clear hb hb2 htri hA3 HFV HR1 HPS
  -- the new transition
  obtain ⟨cells, A, f, cap, hts⟩ := HT2.out
  have z0 : (w2.alloc (.cells #[.int .i64 p', .slice (some ⟨M, 0, none⟩) c' c'] 31)).heap.size = w2.heap.size + 1 := by simp
  have z1 : ((w2.alloc (.cells #[.int .i64 p', .slice (some ⟨M, 0, none⟩) c' c'] 31)).alloc (.cells #[.int .i64 t'] 3)).heap.size = w2.heap.size + 1 + 1 := by simp
  have z2 : (((w2.alloc (.cells #[.int .i64 p', .slice (some ⟨M, 0, none⟩) c' c'] 31)).alloc (.cells #[.int .i64 t'] 3)).alloc (.cells #[.int .i64 s'] 3)).heap.size = w2.heap.size + 1 + 1 + 1 := by simp
  have z3 : ((((w2.alloc (.cells #[.int .i64 p', .slice (some ⟨M, 0, none⟩) c' c'] 31)).alloc (.cells #[.int .i64 t'] 3)).alloc (.cells #[.int .i64 s'] 3)).alloc (.cells #[.slice (some ⟨w2.heap.size + 1, 0, none⟩) 1 1, .slice (some ⟨w2.heap.size + 1 + 1, 0, none⟩) 1 1, .slice none 0 0] 56)).heap.size = w2.heap.size + 1 + 1 + 1 + 1 := by simp
  have hk1 := below_al (w2.alloc (.cells #[.int .i64 p', .slice (some ⟨M, 0, none⟩) c' c'] 31)) (.cells #[.int .i64 t'] 3)
  have hk2 := below_al ((w2.alloc (.cells #[.int .i64 p', .slice (some ⟨M, 0, none⟩) c' c'] 31)).alloc (.cells #[.int .i64 t'] 3)) (.cells #[.int .i64 s'] 3)
  have hk3 := below_al (((w2.alloc (.cells #[.int .i64 p', .slice (some ⟨M, 0, none⟩) c' c'] 31)).alloc (.cells #[.int .i64 t'] 3)).alloc (.cells #[.int .i64 s'] 3)) (.cells #[.slice (some ⟨w2.heap.size + 1, 0, none⟩) 1 1, .slice (some ⟨w2.heap.size + 1 + 1, 0, none⟩) 1 1, .slice none 0 0] 56)
  have hk13 := hk1.trans ((hk2.trans (hk3.mono hk2.size)).mono hk1.size)
  have HTS := hide (hts.grow hk13)
  have HTS0 := hide hts
  have HK13 := hide hk13
  have ho1 := obOne (w2.alloc (.cells #[.int .i64 p', .slice (some ⟨M, 0, none⟩) c' c'] 31)) t'
  have ho2 := obOne ((w2.alloc (.cells #[.int .i64 p', .slice (some ⟨M, 0, none⟩) c' c'] 31)).alloc (.cells #[.int .i64 t'] 3)) s'
  rw [z0] at ho1
  rw [z1] at ho2
  have HO1 := hide ((ho1.grow hk2).grow hk3)
  have HO2 := hide (ho2.grow hk3)
  have hnw := news3X (((w2.alloc (.cells #[.int .i64 p', .slice (some ⟨M, 0, none⟩) c' c'] 31)).alloc (.cells #[.int .i64 t'] 3)).alloc (.cells #[.int .i64 s'] 3)) (.slice (some ⟨w2.heap.size + 1, 0, none⟩) 1 1) (.slice (some ⟨w2.heap.size + 1 + 1, 0, none⟩) 1 1) (.slice none 0 0)
  rw [z2] at hnw
  have HNW := hide hnw
  have HN3 := hide (keep HN2.out hk13)
  have HR3 := hide (keep HR2.out hk13)
  have HB3 := hide (HB2.out.trans (hk13.mono HB2.out.size))
  have HZ3 := hide z3
  have HZ0 := hide z0
  have HML := hide (show ∀ q, (Value.slice (some ⟨M, 0, none⟩) c' c').ownBlock = some q → V.heap.size ≤ q ∧ q < w2.heap.size from fun q hq => by
    have := hts.own.lt q hq
    rw [z0] at this
    refine ⟨this.1, ?_⟩
    have hqM : q = M := by simpa [Value.ownBlock] using hq.symm
    subst hqM
    rcases HT0.out with ⟨cells0, A0, f0, cap0, ht0⟩
    exact (ht0.own.lt q rfl).2)
  clear hk1 hk2 hk3 hk13 hts ho1 ho2 hnw z0 z1 z2 z3 HN2 HR2 HB2 HF2
  go_wp2_with (refine wpList_append_lies _ rfl (.tmp 19) (.tmp 27) 29 rfl V.heap.size 56 i1 _ 3 72 Try.underlying29 hi1 hz0 hz1 hz2 rfl (by decide) (.slice (some ⟨M, 0, none⟩) c' c') c' cells rfl HTS.out.own ⟨w2.heap.size + 1 + 1 + 1, 0, none⟩ 1 1 [.slice (some ⟨w2.heap.size + 1, 0, none⟩) 1 1, .slice (some ⟨w2.heap.size + 1 + 1, 0, none⟩) 1 1, .slice none 0 0] rfl rfl HNW.out (by simp [Value.oneCell']) (by decide) (by unfold maxLen; omega) (by omega) (by rw [HZ3.out]; have := HVW.out; omega) (w2.heap.size + 1 + 1 + 1 + 1) HZ3.out ?_; intro g cp W hown hgr hlies hglt; have hWN := (hgr.block w2.heap.size (by rw [HZ3.out]; omega) (fun e => by have := (HML.out _ e.symm).2; omega)).trans HN3.out; obtain ⟨hn0, hn1⟩ := cells2 hWN; have hn2 : W.frozen? ⟨w2.heap.size, 1, none⟩ = false := frozen_of_row W w2.heap.size 1 _ _ hWN)
  have htx := HTS0.out.push (c0 := 1) (c1 := 1) (c2 := 0) (a2 := none) (b2 := 0) (m2 := 0) (X2 := []) HK13.out (by rw [HZ0.out]; have := HVW.out; omega) HO1.out HO2.out ⟨rfl, .inl rfl⟩ (fun _ => by rw [HZ0.out]; omega) (fun _ => by rw [HZ0.out]; omega) (fun h => absurd rfl h) (fun _ _ => by omega) (fun _ h => absurd rfl h) (fun _ h => absurd rfl h) hown hgr (by rw [HZ3.out]; exact hlies)
  have hn3 : (W.setCell ⟨w2.heap.size, 1, none⟩ (.slice (some ⟨g, 0, none⟩) (c' + 1) cp)).heap[w2.heap.size]? = some (.cells #[.int .i64 p', .slice (some ⟨g, 0, none⟩) (c' + 1) cp] 31 (0, 0)) := by
    rw [heap_setCell_same _ _ _ _ _ _ hWN]; rfl
  have HTX := hide (htx.other hWN (by decide) (by decide) 1 (.slice (some ⟨g, 0, none⟩) (c' + 1) cp))
  have HBW := hide (show Below w.heap.size w (W.setCell ⟨w2.heap.size, 1, none⟩ (.slice (some ⟨g, 0, none⟩) (c' + 1) cp)) from (HB3.out.grown hgr HB3.out.size (fun q hq => by have := (HML.out q hq).1; have := HB.out.size; omega)).setCell (by have := HVW.out; have := HB.out.size; simp; omega) _)
  have HRW := hide (show (W.setCell ⟨w2.heap.size, 1, none⟩ (.slice (some ⟨g, 0, none⟩) (c' + 1) cp)).heap[w.heap.size + 1]? = some (.cells #[.int .i64 0, .slice none 0 0] 31 (0, 0)) from
    (Below.heap_setCell _ _ _ _ (show w.heap.size + 1 ≠ w2.heap.size by have := HVS.out; have := HVW.out; have := HW1.out; omega)).trans ((hgr.block (w.heap.size + 1) (row_lt HR3.out) (fun e => by have := (HML.out _ e.symm).1; have := HVS.out; have := HW1.out; omega)).trans HR3.out))
  have HNV := hide hn3
  obtain ⟨W2, hW2⟩ : ∃ W2, Hid (W.setCell ⟨w2.heap.size, 1, none⟩ (.slice (some ⟨g, 0, none⟩) (c' + 1) cp) = W2) := ⟨_, rfl⟩
  rw [hW2.out] at HTX HBW HRW HNV ⊢
  obtain ⟨ax, cx, hex, hlx⟩ := HTX.out.lists HSZ.out
  obtain ⟨rfl, rfl⟩ : ax = some ⟨g, 0, none⟩ ∧ cx = cp := by simp at hex; exact ⟨hex.1.symm, hex.2.symm⟩
  have HGI := hide (goodNetI_any p' (some ⟨g, 0, none⟩) (c' + 1) cx (shortL L s' t') W2 hlx HSZ.out)
  have HLE := hide (show w.heap.size ≤ V.heap.size from HB.out.size)
  have HNE := hide (show w2.heap.size ≠ w.heap.size + 1 by have := HVS.out; have := HVW.out; have := HW1.out; omega)
  clear hn0 hn1 hn2 hn3 hWN htx hlx hex hown hgr hlies hglt HTS HTS0 HO1 HO2 HNW HN3 HR3 HB3 HZ3 HZ0 HML hW2 HK13 HT0 HT2
  refine HGI.out.mono ?_
  rintro e w5 ⟨rfl, hb⟩
  have HB5 := hide (HBW.out.trans (hb.mono HBW.out.size))
  have HT5 := hide (HTX.out.grow hb)
  obtain ⟨hr0, hr1⟩ := cells2 (keep HRW.out hb)
  have hf0 : w5.frozen? ⟨w.heap.size + 1, 0, none⟩ = false := frozen_of_row w5 _ 0 _ _ (keep HRW.out hb)
  have hf1 : w5.frozen? ⟨w.heap.size + 1, 1, none⟩ = false := frozen_of_row w5 _ 1 _ _ (keep HRW.out hb)
  obtain ⟨hv0, hv1⟩ := cells2 (keep HNV.out hb)
  have HRR := hide (keep HRW.out hb)
  clear hb HGI HTX HBW HRW HNV
  cases hgt : netOk p' (c' + 1) (shortL L s' t')
  · have HN := hide (show shortOk p' c' L s' t' = false by unfold shortOk; rw [hgt]; simp)
    go_wp2_with fail
    refine bodyPost_ret (v := .tuple #[.agg #[.int .i64 0, .slice none 0 0], .bool false]) (by simp [results, Try.results29, go_sem, hr0, hr1]) rfl ?_
    rw [HN.out]
    exact shEnd_no ((HB5.out.setCell (by simp) _).setCell (by simp) _)
  · have HY := hide (show shortOk p' c' L s' t' = true by unfold shortOk; rw [hgt, HG.out]; rfl)
    go_wp2_with fail
    refine bodyPost_ret (v := .tuple #[.agg #[.int .i64 p', .slice (some ⟨g, 0, none⟩) (c' + 1) cx], .bool true]) (by simp [results, Try.results29, go_sem, hr0, hr1]) rfl ?_
    rw [HY.out]
    have hR1 : (w5.setCell ⟨w.heap.size + 1, 0, none⟩ (.int .i64 p')).heap[w.heap.size + 1]? = some (.cells #[.int .i64 p', .slice none 0 0] 31 (0, 0)) := by
      rw [heap_setCell_same _ _ _ _ _ _ HRR.out]; rfl
    exact ⟨_, _, rfl, fun _ => ((HT5.out.other HRR.out (by decide) (by decide) 0 _).other hR1 (by decide) (by decide) 1 _).lower HLE.out, (HB5.out.setCell (by simp) _).setCell (by simp) _⟩
end Go.Proofs.Ytnknhjiofpjbbaa
