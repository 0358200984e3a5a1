/- ShortNet of the specification. -/
import Derived.Test.YtnknhjiofpjbbaaXe
namespace Go.Proofs.Ytnknhjiofpjbbaa
open Go.RowKit
set_option maxRecDepth 10000

/-- How the specification's ShortNet ends: it can be read. -/
def ShS (g : Bool) (p : Int) (n : Nat) (K : List (List Int)) (w : World) (e : Ending) (w' : World) : Prop :=
  ∃ (a : Option Addr) (c : Nat), e = .returned (.tuple #[.agg #[.int .i64 (if g then p else 0), .slice a (if g then n else 0) c], .bool g]) ∧ (g = true → Lists w' a (3 * n) K) ∧ Below w.heap.size w w'

theorem shS_no {p : Int} {n : Nat} {K : List (List Int)} {w w' : World} (hb : Below w.heap.size w w') : ShS false p n K w (.returned (.tuple #[.agg #[.int .i64 0, .slice none 0 0], .bool false])) w' :=
  ⟨none, 0, rfl, fun h => by simp at h, hb⟩

set_option maxHeartbeats 4000000 in
theorem shortS_any (p s t : Int) (a : Option Addr) (n c : Nat) (L : List (List Int)) (w : World) (h : Lists w a (3 * n) L) (hs : sizeN n L ≤ 1048576) :
    Calls Try.prog 28 #[.agg #[.int .i64 p, .slice a n c, .int .i64 s, .int .i64 t]] w fun e w' => ShS (shortOk p n L s t) p (n + 1) (shortL L s t) w e w' := by
  have HA := hide (below_two w (.cells #[.int .i64 p, .slice a n c, .int .i64 s, .int .i64 t] 33) (.cells #[.int .i64 0, .slice none 0 0] 31))
  have HP0 := hide (keep (heap_alloc_new w (.cells #[.int .i64 p, .slice a n c, .int .i64 s, .int .i64 t] 33)) (below_al _ (.cells #[.int .i64 0, .slice none 0 0] 31)))
  have HF := hide (goodFlowS_any p s t a n c L _ (h.below HA.out) hs)
  have HL := hide h.1
  have HLL := hide h
  have HR0 : Hid (((w.alloc (.cells #[.int .i64 p, .slice a n c, .int .i64 s, .int .i64 t] 33)).alloc (.cells #[.int .i64 0, .slice none 0 0] 31)).heap[w.heap.size + 1]? = some (.cells #[.int .i64 0, .slice none 0 0] 31 (0, 0))) := by
    have := heap_alloc_new (w.alloc (.cells #[.int .i64 p, .slice a n c, .int .i64 s, .int .i64 t] 33)) (.cells #[.int .i64 0, .slice none 0 0] 31)
    rw [show (w.alloc (.cells #[.int .i64 p, .slice a n c, .int .i64 s, .int .i64 t] 33)).heap.size = w.heap.size + 1 by simp] at this
    exact this
  obtain ⟨i1, hi1, hz0, hz1, hz2⟩ := info_split2 Try.info56
  clear h
  go_enter Try.func28, Try.ntmps28
  go_wp2_with fail
  refine HF.out.mono ?_
  rintro e V ⟨rfl, hb⟩
  have HB := hide (HA.out.trans (hb.mono HA.out.size))
  have HR1 := hide (keep HR0.out hb)
  have HFV := hide (keep HP0.out hb)
  have hlr : w.heap.size + 1 < V.heap.size := row_lt HR1.out
  obtain ⟨hr0, hr1⟩ := cells2 HR1.out
  have hf0 : V.frozen? ⟨w.heap.size + 1, 0, none⟩ = false := frozen_of_row V _ 0 _ _ HR1.out
  have hf1 : V.frozen? ⟨w.heap.size + 1, 1, none⟩ = false := frozen_of_row V _ 1 _ _ HR1.out
  obtain ⟨⟨hp0, hp1, hp2, hp3⟩, _⟩ := cells4 HFV.out
  clear hb HF HA HR0 HP0
  by_cases hg : flowOk p n L s t = true
  rotate_left
  · have hg' : flowOk p n L s t = false := by simpa using hg
    have HN := hide (show shortOk p n L s t = false by unfold shortOk; rw [hg']; rfl)
    rw [hg']
    clear hg hg'
    go_wp2_with fail
    refine bodyPost_ret (v := .tuple #[.agg #[.int .i64 0, .slice none 0 0], .bool false]) (by simp [results, Try.results28, go_sem, hr0, hr1]) rfl ?_
    rw [HN.out]
    exact shS_no ((HB.out.setCell (by simp) _).setCell (by simp) _)
  have hgn := (wayOk_parts (flowOk_parts hg).1).1
  have hn24 := (netOk_parts hgn).2.1
  have HG := hide hg
  have HSZ := hide (shortSize (s := s) (t := t) hgn HL.out)
  have HO := hide (own3S_any p a n c L V (HLL.out.below HB.out) hs (by omega))
  rw [hg]
  clear hg hgn
  go_wp2_with fail
  refine HO.out.mono ?_
  rintro e w2 ⟨v, rfl, htri, hb⟩
  obtain ⟨av, cv, hev, _⟩ := htri.lists hs
  subst hev
  clear hr0 hr1 hf0 hf1 hp0 hp1 hp2 hp3 HO
  have hA3 := below_al w2 (.cells #[.int .i64 p, .slice av n cv] 31)
  have hb2 := hb.trans (hA3.mono hb.size)
  have HB2 := hide (HB.out.trans (hb2.mono HB.out.size))
  have HR2 := hide (keep HR1.out hb2)
  have HT0 := hide htri
  have HT2 := hide (htri.grow hA3)
  have HN2 := hide (heap_alloc_new w2 (.cells #[.int .i64 p, .slice av n cv] 31))
  have HVW := hide (show V.heap.size ≤ w2.heap.size from hb.size)
  have HLR := hide hlr
  have hXw : w.heap.size < w2.heap.size := by have := HVW.out; omega
  obtain ⟨⟨hqa0, hqa1, hqa2, hqa3⟩, _⟩ := cells4 (keep HFV.out hb)
  clear hb hb2 htri hA3 HFV HR1 hlr
  obtain ⟨cells, A, f, cap, hts⟩ := HT2.out
  have z0 : (w2.alloc (.cells #[.int .i64 p, .slice av n cv] 31)).heap.size = w2.heap.size + 1 := by simp
  have z1 : ((w2.alloc (.cells #[.int .i64 p, .slice av n cv] 31)).alloc (.cells #[.int .i64 t] 3)).heap.size = w2.heap.size + 1 + 1 := by simp
  have z2 : (((w2.alloc (.cells #[.int .i64 p, .slice av n cv] 31)).alloc (.cells #[.int .i64 t] 3)).alloc (.cells #[.int .i64 s] 3)).heap.size = w2.heap.size + 1 + 1 + 1 := by simp
  have z3 : ((((w2.alloc (.cells #[.int .i64 p, .slice av n cv] 31)).alloc (.cells #[.int .i64 t] 3)).alloc (.cells #[.int .i64 s] 3)).alloc (.cells #[.slice (some ⟨w2.heap.size + 1, 0, none⟩) 1 1, .slice (some ⟨w2.heap.size + 1 + 1, 0, none⟩) 1 1, .slice none 0 0] 56)).heap.size = w2.heap.size + 1 + 1 + 1 + 1 := by simp
  have hk1 := below_al (w2.alloc (.cells #[.int .i64 p, .slice av n cv] 31)) (.cells #[.int .i64 t] 3)
  have hk2 := below_al ((w2.alloc (.cells #[.int .i64 p, .slice av n cv] 31)).alloc (.cells #[.int .i64 t] 3)) (.cells #[.int .i64 s] 3)
  have hk3 := below_al (((w2.alloc (.cells #[.int .i64 p, .slice av n cv] 31)).alloc (.cells #[.int .i64 t] 3)).alloc (.cells #[.int .i64 s] 3)) (.cells #[.slice (some ⟨w2.heap.size + 1, 0, none⟩) 1 1, .slice (some ⟨w2.heap.size + 1 + 1, 0, none⟩) 1 1, .slice none 0 0] 56)
  have hk13 := hk1.trans ((hk2.trans (hk3.mono hk2.size)).mono hk1.size)
  have HTS := hide (hts.grow hk13)
  have HTS0 := hide hts
  have HK13 := hide hk13
  have ho1 := obOne (w2.alloc (.cells #[.int .i64 p, .slice av n cv] 31)) t
  have ho2 := obOne ((w2.alloc (.cells #[.int .i64 p, .slice av n cv] 31)).alloc (.cells #[.int .i64 t] 3)) s
  rw [z0] at ho1
  rw [z1] at ho2
  have HO1 := hide ((ho1.grow hk2).grow hk3)
  have HO2 := hide (ho2.grow hk3)
  have hnw := news3X (((w2.alloc (.cells #[.int .i64 p, .slice av n cv] 31)).alloc (.cells #[.int .i64 t] 3)).alloc (.cells #[.int .i64 s] 3)) (.slice (some ⟨w2.heap.size + 1, 0, none⟩) 1 1) (.slice (some ⟨w2.heap.size + 1 + 1, 0, none⟩) 1 1) (.slice none 0 0)
  rw [z2] at hnw
  have HNW := hide hnw
  have HN3 := hide (keep HN2.out hk13)
  have HR3 := hide (keep HR2.out hk13)
  have HB3 := hide (HB2.out.trans (hk13.mono HB2.out.size))
  have HZ3 := hide z3
  have HZ0 := hide z0
  have HML := hide (show ∀ q, (Value.slice av n cv).ownBlock = some q → V.heap.size ≤ q ∧ q < w2.heap.size from fun q hq => by
    rcases HT0.out with ⟨cells0, A0, f0, cap0, ht0⟩
    exact ht0.own.lt q hq)
  clear hk1 hk2 hk3 hk13 hts ho1 ho2 hnw z0 z1 z2 z3 HN2 HR2 HB2
  go_wp2_with (refine wpList_append_lies _ rfl (.tmp 13) (.tmp 21) 29 rfl V.heap.size 56 i1 _ 3 72 Try.underlying29 hi1 hz0 hz1 hz2 rfl (by decide) (.slice av n cv) n cells rfl HTS.out.own ⟨w2.heap.size + 1 + 1 + 1, 0, none⟩ 1 1 [.slice (some ⟨w2.heap.size + 1, 0, none⟩) 1 1, .slice (some ⟨w2.heap.size + 1 + 1, 0, none⟩) 1 1, .slice none 0 0] rfl rfl HNW.out (by simp [Value.oneCell']) (by decide) (by unfold maxLen; omega) (by omega) (by rw [HZ3.out]; have := HVW.out; omega) (w2.heap.size + 1 + 1 + 1 + 1) HZ3.out ?_; intro g cp W hown hgr hlies hglt; have hWN := (hgr.block w2.heap.size (by rw [HZ3.out]; omega) (fun e => by have := (HML.out _ e.symm).2; omega)).trans HN3.out; obtain ⟨hn0, hn1⟩ := cells2 hWN; have hn2 : W.frozen? ⟨w2.heap.size, 1, none⟩ = false := frozen_of_row W w2.heap.size 1 _ _ hWN)
  have htx := HTS0.out.push (c0 := 1) (c1 := 1) (c2 := 0) (a2 := none) (b2 := 0) (m2 := 0) (X2 := []) HK13.out (by rw [HZ0.out]; have := HVW.out; omega) HO1.out HO2.out ⟨rfl, .inl rfl⟩ (fun _ => by rw [HZ0.out]; omega) (fun _ => by rw [HZ0.out]; omega) (fun h => absurd rfl h) (fun _ _ => by omega) (fun _ h => absurd rfl h) (fun _ h => absurd rfl h) hown hgr (by rw [HZ3.out]; exact hlies)
  have hn3 : (W.setCell ⟨w2.heap.size, 1, none⟩ (.slice (some ⟨g, 0, none⟩) (n + 1) cp)).heap[w2.heap.size]? = some (.cells #[.int .i64 p, .slice (some ⟨g, 0, none⟩) (n + 1) cp] 31 (0, 0)) := by
    rw [heap_setCell_same _ _ _ _ _ _ hWN]; rfl
  have HTX := hide (htx.other hWN (by decide) (by decide) 1 (.slice (some ⟨g, 0, none⟩) (n + 1) cp))
  have HBW := hide (show Below w.heap.size w (W.setCell ⟨w2.heap.size, 1, none⟩ (.slice (some ⟨g, 0, none⟩) (n + 1) cp)) from (HB3.out.grown hgr HB3.out.size (fun q hq => by have := (HML.out q hq).1; have := HB.out.size; omega)).setCell (by have := HVW.out; have := HB.out.size; simp; omega) _)
  have HRW := hide (show (W.setCell ⟨w2.heap.size, 1, none⟩ (.slice (some ⟨g, 0, none⟩) (n + 1) cp)).heap[w.heap.size + 1]? = some (.cells #[.int .i64 0, .slice none 0 0] 31 (0, 0)) from
    (Below.heap_setCell _ _ _ _ (show w.heap.size + 1 ≠ w2.heap.size by have := HVW.out; have := HLR.out; omega)).trans ((hgr.block (w.heap.size + 1) (row_lt HR3.out) (fun e => by have := (HML.out _ e.symm).1; have := HLR.out; omega)).trans HR3.out))
  have HNV := hide hn3
  obtain ⟨W2, hW2⟩ : ∃ W2, Hid (W.setCell ⟨w2.heap.size, 1, none⟩ (.slice (some ⟨g, 0, none⟩) (n + 1) cp) = W2) := ⟨_, rfl⟩
  rw [hW2.out] at HTX HBW HRW HNV ⊢
  obtain ⟨ax, cx, hex, hlx⟩ := HTX.out.lists HSZ.out
  obtain ⟨rfl, rfl⟩ : ax = some ⟨g, 0, none⟩ ∧ cx = cp := by simp at hex; exact ⟨hex.1.symm, hex.2.symm⟩
  have HGI := hide (goodNetS_any p (some ⟨g, 0, none⟩) (n + 1) cx (shortL L s t) W2 hlx HSZ.out)
  have HLE := hide (show w.heap.size ≤ V.heap.size from HB.out.size)
  have HNE := hide (show w2.heap.size ≠ w.heap.size + 1 by have := HVW.out; have := HLR.out; omega)
  clear hn0 hn1 hn2 hn3 hWN htx hlx hex hown hgr hlies hglt HTS HTS0 HO1 HO2 HNW HN3 HR3 HB3 HZ3 HZ0 HML hW2 HK13 HT0 HT2
  refine HGI.out.mono ?_
  rintro e w5 ⟨rfl, hb⟩
  have HB5 := hide (HBW.out.trans (hb.mono HBW.out.size))
  have HT5 := hide (HTX.out.grow hb)
  obtain ⟨hr0, hr1⟩ := cells2 (keep HRW.out hb)
  have hf0 : w5.frozen? ⟨w.heap.size + 1, 0, none⟩ = false := frozen_of_row w5 _ 0 _ _ (keep HRW.out hb)
  have hf1 : w5.frozen? ⟨w.heap.size + 1, 1, none⟩ = false := frozen_of_row w5 _ 1 _ _ (keep HRW.out hb)
  obtain ⟨hv0, hv1⟩ := cells2 (keep HNV.out hb)
  have HRR := hide (keep HRW.out hb)
  clear hb HGI HTX HBW HRW HNV
  cases hgt : netOk p (n + 1) (shortL L s t)
  · have HN := hide (show shortOk p n L s t = false by unfold shortOk; rw [hgt]; simp)
    go_wp2_with fail
    refine bodyPost_ret (v := .tuple #[.agg #[.int .i64 0, .slice none 0 0], .bool false]) (by simp [results, Try.results28, go_sem, hr0, hr1]) rfl ?_
    rw [HN.out]
    exact shS_no ((HB5.out.setCell (by simp) _).setCell (by simp) _)
  · have HY := hide (show shortOk p n L s t = true by unfold shortOk; rw [hgt, HG.out]; rfl)
    go_wp2_with fail
    refine bodyPost_ret (v := .tuple #[.agg #[.int .i64 p, .slice (some ⟨g, 0, none⟩) (n + 1) cx], .bool true]) (by simp [results, Try.results28, go_sem, hr0, hr1]) rfl ?_
    rw [HY.out]
    have hR1 : (w5.setCell ⟨w.heap.size + 1, 0, none⟩ (.int .i64 p)).heap[w.heap.size + 1]? = some (.cells #[.int .i64 p, .slice none 0 0] 31 (0, 0)) := by
      rw [heap_setCell_same _ _ _ _ _ _ HRR.out]; rfl
    obtain ⟨a6, c6, he6, hl6⟩ := ((HT5.out.other HRR.out (by decide) (by decide) 0 (.int .i64 p)).other hR1 (by decide) (by decide) 1 (.slice (some ⟨g, 0, none⟩) (n + 1) cx)).lists HSZ.out
    obtain ⟨rfl, rfl⟩ : a6 = some ⟨g, 0, none⟩ ∧ c6 = cx := by simp at he6; exact ⟨he6.1.symm, he6.2.symm⟩
    exact ⟨_, _, rfl, fun _ => hl6, (HB5.out.setCell (by simp) _).setCell (by simp) _⟩
end Go.Proofs.Ytnknhjiofpjbbaa
