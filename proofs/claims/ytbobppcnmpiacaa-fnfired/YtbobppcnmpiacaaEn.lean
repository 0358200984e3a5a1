/- The program's Enabled, for every net and mark in memory. -/
import Derived.Test.YtbobppcnmpiacaaEo
namespace Go.Proofs.Ytbobppcnmpiacaa
open Go.RowKit
set_option maxRecDepth 10000

def enOk (p : Int) (n : Nat) (L : List (List Int)) (ys : List Int) : Bool := netOk p n L && goodB p ys
def enR (p : Int) (n : Nat) (L : List (List Int)) (ys : List Int) : List Int := if enOk p n L ys then numsL (fun i => canB (L.getD (3 * i) []) ys) n else []

theorem enend_yes {p : Int} {n : Nat} {L : List (List Int)} {ys : List Int} {w w' : World} {a : Option Addr} {b m c : Nat} (h : enOk p n L ys = true) (hr : Ob w' a b m (numsL (fun i => canB (L.getD (3 * i) []) ys) n)) (hB : w.heap.size ≤ b) (hb : Below w.heap.size w w') : OEnd (enOk p n L ys) (enR p n L ys) w (.returned (.tuple #[.slice a m c, .bool true])) w' := by
  refine ⟨a, b, m, c, by rw [h], ?_, hB, hb⟩
  unfold enR; rw [h]; exact hr

theorem enend_no {p : Int} {n : Nat} {L : List (List Int)} {ys : List Int} {w w' : World} (h : (netOk p n L && goodB p ys) = false) (hb : Below w.heap.size w w') : OEnd (enOk p n L ys) (enR p n L ys) w (.returned (.tuple #[.slice none 0 0, .bool false])) w' := by
  have h' : enOk p n L ys = false := h
  refine ⟨none, w.heap.size, 0, 0, by rw [h'], ⟨?_, .inl rfl⟩, Nat.le_refl _, hb⟩
  unfold enR; rw [h']; rfl

set_option maxHeartbeats 2000000 in
theorem implEn_any (p : Int) (a am : Option Addr) (n c nm cm : Nat) (L : List (List Int)) (ys : List Int) (w : World) (h : Lists w a (3 * n) L) (rm : Row w am nm ys) (hs : sizeN n L ≤ 1048576) (hnm : nm ≤ 1048576) :
    Calls Try.prog 13 #[.agg #[.int .i64 p, .slice a n c], .slice am nm cm] w fun e w' => OEnd (enOk p n L ys) (enR p n L ys) w e w' := by
  have hAl := below_al w (.cells #[.int .i64 p, .slice a n c] 26)
  have HT := hide (netTok_any p a am n c nm cm L ys _ (h.below hAl) (rm.below hAl) hs hnm)
  have HLY := hide rm.1
  have HB0 := hide hAl
  clear h rm hAl
  go_enter Try.func13, Try.ntmps13
  go_wp2_with fail
  refine HT.out.mono ?_
  rintro e w1 ⟨p', a', m', c', l, rfl, hx, hb⟩
  have hz := HB0.out.size
  have HB1 := hide (HB0.out.trans (hb.mono HB0.out.size))
  have hz1 := HB1.out.size
  have hA1 := below_al w1 (.cells #[.int .i64 p', .slice a' m' c'] 66)
  have hA2 := below_al (w1.alloc (.cells #[.int .i64 p', .slice a' m' c'] 66)) (.cells #[.int .u8 0, .int .u8 0, .int .u8 0, .int .u8 0, .int .u8 0, .int .u8 0, .int .u8 0, .int .u8 0, .int .u8 0, .int .u8 0, .int .u8 0, .int .u8 0, .int .u8 0, .int .u8 0, .int .u8 0, .int .u8 0] 68)
  have hs1 : (w1.alloc (.cells #[.int .i64 p', .slice a' m' c'] 66)).heap.size = w1.heap.size + 1 := by simp
  have hg0 := heap_alloc_new (w1.alloc (.cells #[.int .i64 p', .slice a' m' c'] 66)) (.cells #[.int .u8 0, .int .u8 0, .int .u8 0, .int .u8 0, .int .u8 0, .int .u8 0, .int .u8 0, .int .u8 0, .int .u8 0, .int .u8 0, .int .u8 0, .int .u8 0, .int .u8 0, .int .u8 0, .int .u8 0, .int .u8 0] 68)
  rw [hs1] at hg0
  clear hb HT HB0
  by_cases g1 : (netOk p n L && goodB p ys) = true
  rotate_left
  · have g1' : (netOk p n L && goodB p ys) = false := by simpa using g1
    have HN := hide (fun W (hW : Below w.heap.size w W) => enend_no (w := w) g1' hW)
    rw [g1']
    have HBX := hide (below_setRow ((HB1.out.alloc HB1.out.size (.cells #[.int .i64 p', .slice a' m' c'] 66)).alloc (by simp; omega) (.cells #[.int .u8 0, .int .u8 0, .int .u8 0, .int .u8 0, .int .u8 0, .int .u8 0, .int .u8 0, .int .u8 0, .int .u8 0, .int .u8 0, .int .u8 0, .int .u8 0, .int .u8 0, .int .u8 0, .int .u8 0, .int .u8 0] 68)) (w1.heap.size + 1) (by omega) (packOf ys l))
    clear g1 g1' hx
    go_wp2_with (refine wpList_store_row rfl 68 _ _ rfl _ _ rfl rfl 68 _ hg0 (by rw [packOf_size]; exact Try.size68) (by rw [packOf_size]; rfl) (packOf_one _ _) ?_)
    go_ret2
    exact HN.out _ HBX.out
  have hgg := g1
  rw [Bool.and_eq_true] at hgg
  obtain ⟨e1, e2, e3, e4, B, e5, e6, e7⟩ := hx.out g1
  subst e1 e2 e3 e4 e5
  rw [g1]
  have hAA := hA1.trans (hA2.mono hA1.size)
  have HPS := hide ((e7.grow hAA).setRow (show B ≠ w1.heap.size + 1 by obtain ⟨C, q1, _⟩ := e7; have := (Array.getElem?_eq_some_iff.mp q1).1; omega) (packOf ys l))
  have hg1 := setRow_same hg0 (packOf ys l)
  have HBX := hide (below_setRow (HB1.out.trans (hAA.mono HB1.out.size)) (w1.heap.size + 1) (by omega) (packOf ys l))
  have Q7 := keepR (keep (heap_alloc_new w1 (.cells #[.int .i64 p', .slice (some ⟨B, 0, none⟩) c' c'] 66)) hA2) (show w1.heap.size ≠ w1.heap.size + 1 by omega) (packOf ys l)
  obtain ⟨hq0, hq1⟩ := cells2 Q7
  have HQ7 := hide Q7
  have HGP := hide hgg
  clear e6 e7 hx hAA hA1 hA2 g1 hgg Q7
  go_wp2_with (refine wpList_store_row rfl 68 _ _ rfl _ _ rfl rfl 68 _ hg0 (by rw [packOf_size]; exact Try.size68) (by rw [packOf_size]; rfl) (packOf_one _ _) ?_)
  obtain ⟨⟨hp1, hp2⟩, hlp, hyb⟩ := goodB_parts HGP.out.2
  have hfs : ∀ i, 0 ≤ fOf ys l i ∧ fOf ys l i ≤ 255 := by
    intro i; unfold fOf; split
    · have := hyb i; omega
    · omega
  have hn24 := netOkN' HGP.out.1
  have hnmp : (l : Int) = p' := by have := HLY.out; omega
  have HOK := hide (show enOk p' c' L ys = true by unfold enOk; rw [HGP.out.1, HGP.out.2]; rfl)
  obtain ⟨V, hV⟩ : ∃ V, Hid ((((w1.alloc (.cells #[.int .i64 p', .slice (some ⟨B, 0, none⟩) c' c'] 66)).alloc (.cells #[.int .u8 0, .int .u8 0, .int .u8 0, .int .u8 0, .int .u8 0, .int .u8 0, .int .u8 0, .int .u8 0, .int .u8 0, .int .u8 0, .int .u8 0, .int .u8 0, .int .u8 0, .int .u8 0, .int .u8 0, .int .u8 0] 68)).setRow (w1.heap.size + 1) (packOf ys l)) = V) := ⟨_, rfl⟩
  have Q7 := HQ7.out
  rw [hV.out] at HPS HBX Q7 hg1 ⊢
  have hA5 := below_al V.drew (.cells (packOf ys l) 68)
  have HBM := hide (HBX.out.trans (((show Below V.heap.size V V.drew from ⟨rfl, rfl, rfl, Nat.le_refl _, fun _ _ => rfl⟩).trans hA5).mono HBX.out.size))
  have Q7' := keep (v := V.drew) Q7 hA5
  have HMK := hide (markedI_any (fOf ys l) V.drew hfs)
  have HNW := hide (numsEn_any (maskL (posL (fOf ys l) 16)) (fun i => canB (L.getD (3 * i) []) ys) p' B c' L (V.drew.alloc (.cells (packOf ys l) 68)) ((show PartS V.drew B (3 * c') (3 * c') L from HPS.out).grow hA5) hn24 (fun W hW k hk => by
    have htri := tri_riseT (triOkT HGP.out.1 hk)
    have hc := enables_any (maskL (posL (fOf ys l) 16)) (maskL (L.getD (3 * k) [])) (maskL (L.getD (3 * k + 1) [])) (maskL (L.getD (3 * k + 2) [])) W (mask16T htri.1 ⟨hp1, hp2⟩)
    rw [can_sub ⟨hp1, hp2⟩ hnmp hyb htri.1] at hc
    refine hc.mono fun e w' hh => ⟨hh.1, by rw [hh.2]; exact below_al _ _⟩))
  clear hq0 hq1 hg0 hs1 hfs hyb hA5 HQ7 hV
  refine wp_region_any (by kernel_rfl) ?_
  refine wpAny_ready (rs := [0, 1]) (by kernel_rfl) (by simp) ?_
  refine cons_load_s rfl rfl (some 18) rfl 66 (.tmp 6) rfl w1.heap.size #[.int .i64 p', .slice (some ⟨B, 0, none⟩) c' c'] rfl 66 _ Try.underlying66 Q7 Try.size66 ?_ (cons_load rfl rfl (some 19) rfl 68 (.tmp 7) rfl (w1.heap.size + 1) (packOf ys l) rfl 68 _ _ Try.underlying68 hg1 (by rw [packOf_size]; exact Try.size68) ?_ AllReady.nil)
  · refine wpAny_ready (rs := [1]) (by kernel_rfl) (by simp) ?_
    refine cons_load rfl rfl (some 19) rfl 68 (.tmp 7) rfl (w1.heap.size + 1) (packOf ys l) rfl 68 _ _ Try.underlying68 hg1 (by rw [packOf_size]; exact Try.size68) ?_ AllReady.nil
    refine wpAny_ready (rs := [2]) (by kernel_rfl) (by simp) ?_
    refine cons_callg rfl rfl (some 20) rfl 51 _ _ _ rfl Try.func51 (by decide) rfl #[.agg (packOf ys l)] (mapg1 _ _ _ rfl) (.int .u16 (maskL (posL (fOf ys l) 16) : Int)) (V.drew.alloc (.cells (packOf ys l) 68)) HMK.out ?_ AllReady.nil
    refine wpAny_ready (rs := [3]) (by kernel_rfl) (by simp) ?_
    refine cons_make rfl rfl (some 21) rfl _ _ rfl (.int .u16 (maskL (posL (fOf ys l) 16) : Int)) rfl ?_ AllReady.nil
    refine wpAny_ready (rs := [4]) (by kernel_rfl) (by simp) ?_
    refine cons_callE rfl rfl (some 22) rfl 50 _ _ _ rfl Try.func50 (by decide) rfl #[.agg #[.int .i64 p', .slice (some ⟨B, 0, none⟩) c' c'], .func (.func 52) #[.int .u16 (maskL (posL (fOf ys l) 16) : Int)] #[]] (mapg2 _ _ _ _ _ rfl rfl) _ HNW.out ?_ AllReady.nil
    rintro e w3 ⟨vv, mm, rfl, hown, hb⟩
    obtain ⟨av, bv, cv, hv, hbv, hob⟩ := own_ob hown
    subst hv
    have HY : Hid (OEnd (enOk p' c' L ys) (enR p' c' L ys) w (.returned (.tuple #[.slice av mm cv, .bool true])) w3) := enend_yes HOK.out hob (by have := HBM.out.size; omega) (HBM.out.trans (hb.mono HBM.out.size))
    clear hown hb hob
    refine ⟨_, rfl, ?_⟩
    refine wpAny_ready (rs := [5]) (by kernel_rfl) (by simp) ?_
    refine cons_assignV rfl rfl (some 4) rfl (.tmp 22) rfl (.slice av mm cv) rfl ?_ AllReady.nil
    refine wpAny_ready (rs := [6]) (by kernel_rfl) (by simp) ?_
    refine cons_assignV rfl rfl (some 5) rfl (.const (.bool true)) rfl (.bool true) rfl ?_ AllReady.nil
    refine wpAny_done (by kernel_rfl) ?_ _
    go_wp2_with fail
    go_ret2
    simp only [Act.put, Array.getD_eq_getD_getElem?]
    simpa using HY.out
  · refine wpAny_ready (rs := [0, 2]) (by kernel_rfl) (by simp) ?_
    refine cons_load_s rfl rfl (some 18) rfl 66 (.tmp 6) rfl w1.heap.size #[.int .i64 p', .slice (some ⟨B, 0, none⟩) c' c'] rfl 66 _ Try.underlying66 Q7 Try.size66 ?_ (cons_callg rfl rfl (some 20) rfl 51 _ _ _ rfl Try.func51 (by decide) rfl #[.agg (packOf ys l)] (mapg1 _ _ _ rfl) (.int .u16 (maskL (posL (fOf ys l) 16) : Int)) (V.drew.alloc (.cells (packOf ys l) 68)) HMK.out ?_ AllReady.nil)
    · refine wpAny_ready (rs := [2]) (by kernel_rfl) (by simp) ?_
      refine cons_callg rfl rfl (some 20) rfl 51 _ _ _ rfl Try.func51 (by decide) rfl #[.agg (packOf ys l)] (mapg1 _ _ _ rfl) (.int .u16 (maskL (posL (fOf ys l) 16) : Int)) (V.drew.alloc (.cells (packOf ys l) 68)) HMK.out ?_ AllReady.nil
      refine wpAny_ready (rs := [3]) (by kernel_rfl) (by simp) ?_
      refine cons_make rfl rfl (some 21) rfl _ _ rfl (.int .u16 (maskL (posL (fOf ys l) 16) : Int)) rfl ?_ AllReady.nil
      refine wpAny_ready (rs := [4]) (by kernel_rfl) (by simp) ?_
      refine cons_callE rfl rfl (some 22) rfl 50 _ _ _ rfl Try.func50 (by decide) rfl #[.agg #[.int .i64 p', .slice (some ⟨B, 0, none⟩) c' c'], .func (.func 52) #[.int .u16 (maskL (posL (fOf ys l) 16) : Int)] #[]] (mapg2 _ _ _ _ _ rfl rfl) _ HNW.out ?_ AllReady.nil
      rintro e w3 ⟨vv, mm, rfl, hown, hb⟩
      obtain ⟨av, bv, cv, hv, hbv, hob⟩ := own_ob hown
      subst hv
      have HY : Hid (OEnd (enOk p' c' L ys) (enR p' c' L ys) w (.returned (.tuple #[.slice av mm cv, .bool true])) w3) := enend_yes HOK.out hob (by have := HBM.out.size; omega) (HBM.out.trans (hb.mono HBM.out.size))
      clear hown hb hob
      refine ⟨_, rfl, ?_⟩
      refine wpAny_ready (rs := [5]) (by kernel_rfl) (by simp) ?_
      refine cons_assignV rfl rfl (some 4) rfl (.tmp 22) rfl (.slice av mm cv) rfl ?_ AllReady.nil
      refine wpAny_ready (rs := [6]) (by kernel_rfl) (by simp) ?_
      refine cons_assignV rfl rfl (some 5) rfl (.const (.bool true)) rfl (.bool true) rfl ?_ AllReady.nil
      refine wpAny_done (by kernel_rfl) ?_ _
      go_wp2_with fail
      go_ret2
      simp only [Act.put, Array.getD_eq_getD_getElem?]
      simpa using HY.out
    · refine wpAny_ready (rs := [0, 3]) (by kernel_rfl) (by simp) ?_
      refine cons_load_s rfl rfl (some 18) rfl 66 (.tmp 6) rfl w1.heap.size #[.int .i64 p', .slice (some ⟨B, 0, none⟩) c' c'] rfl 66 _ Try.underlying66 Q7' Try.size66 ?_ (cons_make rfl rfl (some 21) rfl _ _ rfl (.int .u16 (maskL (posL (fOf ys l) 16) : Int)) rfl ?_ AllReady.nil)
      · refine wpAny_ready (rs := [3]) (by kernel_rfl) (by simp) ?_
        refine cons_make rfl rfl (some 21) rfl _ _ rfl (.int .u16 (maskL (posL (fOf ys l) 16) : Int)) rfl ?_ AllReady.nil
        refine wpAny_ready (rs := [4]) (by kernel_rfl) (by simp) ?_
        refine cons_callE rfl rfl (some 22) rfl 50 _ _ _ rfl Try.func50 (by decide) rfl #[.agg #[.int .i64 p', .slice (some ⟨B, 0, none⟩) c' c'], .func (.func 52) #[.int .u16 (maskL (posL (fOf ys l) 16) : Int)] #[]] (mapg2 _ _ _ _ _ rfl rfl) _ HNW.out ?_ AllReady.nil
        rintro e w3 ⟨vv, mm, rfl, hown, hb⟩
        obtain ⟨av, bv, cv, hv, hbv, hob⟩ := own_ob hown
        subst hv
        have HY : Hid (OEnd (enOk p' c' L ys) (enR p' c' L ys) w (.returned (.tuple #[.slice av mm cv, .bool true])) w3) := enend_yes HOK.out hob (by have := HBM.out.size; omega) (HBM.out.trans (hb.mono HBM.out.size))
        clear hown hb hob
        refine ⟨_, rfl, ?_⟩
        refine wpAny_ready (rs := [5]) (by kernel_rfl) (by simp) ?_
        refine cons_assignV rfl rfl (some 4) rfl (.tmp 22) rfl (.slice av mm cv) rfl ?_ AllReady.nil
        refine wpAny_ready (rs := [6]) (by kernel_rfl) (by simp) ?_
        refine cons_assignV rfl rfl (some 5) rfl (.const (.bool true)) rfl (.bool true) rfl ?_ AllReady.nil
        refine wpAny_done (by kernel_rfl) ?_ _
        go_wp2_with fail
        go_ret2
        simp only [Act.put, Array.getD_eq_getD_getElem?]
        simpa using HY.out
      · refine wpAny_ready (rs := [0]) (by kernel_rfl) (by simp) ?_
        refine cons_load_s rfl rfl (some 18) rfl 66 (.tmp 6) rfl w1.heap.size #[.int .i64 p', .slice (some ⟨B, 0, none⟩) c' c'] rfl 66 _ Try.underlying66 Q7' Try.size66 ?_ AllReady.nil
        refine wpAny_ready (rs := [4]) (by kernel_rfl) (by simp) ?_
        refine cons_callE rfl rfl (some 22) rfl 50 _ _ _ rfl Try.func50 (by decide) rfl #[.agg #[.int .i64 p', .slice (some ⟨B, 0, none⟩) c' c'], .func (.func 52) #[.int .u16 (maskL (posL (fOf ys l) 16) : Int)] #[]] (mapg2 _ _ _ _ _ rfl rfl) _ HNW.out ?_ AllReady.nil
        rintro e w3 ⟨vv, mm, rfl, hown, hb⟩
        obtain ⟨av, bv, cv, hv, hbv, hob⟩ := own_ob hown
        subst hv
        have HY : Hid (OEnd (enOk p' c' L ys) (enR p' c' L ys) w (.returned (.tuple #[.slice av mm cv, .bool true])) w3) := enend_yes HOK.out hob (by have := HBM.out.size; omega) (HBM.out.trans (hb.mono HBM.out.size))
        clear hown hb hob
        refine ⟨_, rfl, ?_⟩
        refine wpAny_ready (rs := [5]) (by kernel_rfl) (by simp) ?_
        refine cons_assignV rfl rfl (some 4) rfl (.tmp 22) rfl (.slice av mm cv) rfl ?_ AllReady.nil
        refine wpAny_ready (rs := [6]) (by kernel_rfl) (by simp) ?_
        refine cons_assignV rfl rfl (some 5) rfl (.const (.bool true)) rfl (.bool true) rfl ?_ AllReady.nil
        refine wpAny_done (by kernel_rfl) ?_ _
        go_wp2_with fail
        go_ret2
        simp only [Act.put, Array.getD_eq_getD_getElem?]
        simpa using HY.out
end Go.Proofs.Ytbobppcnmpiacaa
