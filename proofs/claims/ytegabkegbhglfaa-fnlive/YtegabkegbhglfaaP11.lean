/- Contracts that the proof stands on, one behind the other. -/
import Derived.Test.YtegabkegbhglfaaP10
/- The program's Enabled, for every net and mark in memory. -/
namespace Go.Proofs.Ytegabkegbhglfaa
open Go.RowKit
set_option maxRecDepth 10000

def enOk (p : Int) (n : Nat) (L : List (List Int)) (ys : List Int) : Bool := netOk p n L && goodB p ys
def enR (p : Int) (n : Nat) (L : List (List Int)) (ys : List Int) : List Int := if enOk p n L ys then numsL (fun i => canB (L.getD (3 * i) []) ys) n else []

theorem enend_yes {p : Int} {n : Nat} {L : List (List Int)} {ys : List Int} {w w' : World} {a : Option Addr} {b m c : Nat} (h : enOk p n L ys = true) (hr : Ob w' a b m (numsL (fun i => canB (L.getD (3 * i) []) ys) n)) (hB : w.heap.size ≤ b) (hb : Below w.heap.size w w') : OEnd (enOk p n L ys) (enR p n L ys) w (.returned (.tuple #[.slice a m c, .bool true])) w' := by
  refine ⟨a, b, m, c, by rw [h], ?_, hB, hb⟩
  unfold enR; rw [h]; exact hr

theorem enend_no {p : Int} {n : Nat} {L : List (List Int)} {ys : List Int} {w w' : World} (h : (netOk p n L && goodB p ys) = false) (hb : Below w.heap.size w w') : OEnd (enOk p n L ys) (enR p n L ys) w (.returned (.tuple #[.slice none 0 0, .bool false])) w' := by
  have h' : enOk p n L ys = false := h
  refine ⟨none, w.heap.size, 0, 0, by rw [h'], ⟨?_, .inl rfl⟩, Nat.le_refl _, hb⟩
  unfold enR; rw [h']; rfl

set_option maxHeartbeats 2000000 in
theorem implEn_any (p : Int) (a am : Option Addr) (n c nm cm : Nat) (L : List (List Int)) (ys : List Int) (w : World) (h : Lists w a (3 * n) L) (rm : Row w am nm ys) (hs : sizeN n L ≤ 1048576) (hnm : nm ≤ 1048576) :
    Calls Try.prog 24 #[.agg #[.int .i64 p, .slice a n c], .slice am nm cm] w fun e w' => OEnd (enOk p n L ys) (enR p n L ys) w e w' := by
  have hAl := below_al w (.cells #[.int .i64 p, .slice a n c] 39)
  have HT := hide (netTok_any p a am n c nm cm L ys _ (h.below hAl) (rm.below hAl) hs hnm)
  have HLY := hide rm.1
  have HB0 := hide hAl
  clear h rm hAl
  go_enter Try.func24, Try.ntmps24
  go_wp2_with fail
  refine HT.out.mono ?_
  rintro e w1 ⟨p', a', m', c', l, rfl, hx, hb⟩
  have hz := HB0.out.size
  have HB1 := hide (HB0.out.trans (hb.mono HB0.out.size))
  have hz1 := HB1.out.size
  have hA1 := below_al w1 (.cells #[.int .i64 p', .slice a' m' c'] 99)
  have hA2 := below_al (w1.alloc (.cells #[.int .i64 p', .slice a' m' c'] 99)) (.cells #[.int .u8 0, .int .u8 0, .int .u8 0, .int .u8 0, .int .u8 0, .int .u8 0, .int .u8 0, .int .u8 0, .int .u8 0, .int .u8 0, .int .u8 0, .int .u8 0, .int .u8 0, .int .u8 0, .int .u8 0, .int .u8 0] 82)
  have hs1 : (w1.alloc (.cells #[.int .i64 p', .slice a' m' c'] 99)).heap.size = w1.heap.size + 1 := by simp
  have hg0 := heap_alloc_new (w1.alloc (.cells #[.int .i64 p', .slice a' m' c'] 99)) (.cells #[.int .u8 0, .int .u8 0, .int .u8 0, .int .u8 0, .int .u8 0, .int .u8 0, .int .u8 0, .int .u8 0, .int .u8 0, .int .u8 0, .int .u8 0, .int .u8 0, .int .u8 0, .int .u8 0, .int .u8 0, .int .u8 0] 82)
  rw [hs1] at hg0
  clear hb HT HB0
  by_cases g1 : (netOk p n L && goodB p ys) = true
  rotate_left
  · have g1' : (netOk p n L && goodB p ys) = false := by simpa using g1
    have HN := hide (fun W (hW : Below w.heap.size w W) => enend_no (w := w) g1' hW)
    rw [g1']
    have HBX := hide (below_setRow ((HB1.out.alloc HB1.out.size (.cells #[.int .i64 p', .slice a' m' c'] 99)).alloc (by simp; omega) (.cells #[.int .u8 0, .int .u8 0, .int .u8 0, .int .u8 0, .int .u8 0, .int .u8 0, .int .u8 0, .int .u8 0, .int .u8 0, .int .u8 0, .int .u8 0, .int .u8 0, .int .u8 0, .int .u8 0, .int .u8 0, .int .u8 0] 82)) (w1.heap.size + 1) (by omega) (packOf ys l))
    clear g1 g1' hx
    go_wp2_with (refine wpList_store_row rfl 82 _ _ rfl _ _ rfl rfl 82 _ hg0 (by rw [packOf_size]; exact Try.size82) (by rw [packOf_size]; rfl) (packOf_one _ _) ?_)
    go_ret2
    exact HN.out _ HBX.out
  have hgg := g1
  rw [Bool.and_eq_true] at hgg
  obtain ⟨e1, e2, e3, e4, B, e5, e6, e7⟩ := hx.out g1
  subst e1 e2 e3 e4 e5
  rw [g1]
  have hAA := hA1.trans (hA2.mono hA1.size)
  have HPS := hide ((e7.grow hAA).setRow (show B ≠ w1.heap.size + 1 by obtain ⟨C, q1, _⟩ := e7; have := (Array.getElem?_eq_some_iff.mp q1).1; omega) (packOf ys l))
  have hg1 := setRow_same hg0 (packOf ys l)
  have HBX := hide (below_setRow (HB1.out.trans (hAA.mono HB1.out.size)) (w1.heap.size + 1) (by omega) (packOf ys l))
  have Q7 := keepR (keep (heap_alloc_new w1 (.cells #[.int .i64 p', .slice (some ⟨B, 0, none⟩) c' c'] 99)) hA2) (show w1.heap.size ≠ w1.heap.size + 1 by omega) (packOf ys l)
  obtain ⟨hq0, hq1⟩ := cells2 Q7
  have HQ7 := hide Q7
  have HGP := hide hgg
  clear e6 e7 hx hAA hA1 hA2 g1 hgg Q7
  go_wp2_with (refine wpList_store_row rfl 82 _ _ rfl _ _ rfl rfl 82 _ hg0 (by rw [packOf_size]; exact Try.size82) (by rw [packOf_size]; rfl) (packOf_one _ _) ?_)
  obtain ⟨⟨hp1, hp2⟩, hlp, hyb⟩ := goodB_parts HGP.out.2
  have hfs : ∀ i, 0 ≤ fOf ys l i ∧ fOf ys l i ≤ 255 := by
    intro i; unfold fOf; split
    · have := hyb i; omega
    · omega
  have hn24 := netOkN' HGP.out.1
  have hnmp : (l : Int) = p' := by have := HLY.out; omega
  have HOK := hide (show enOk p' c' L ys = true by unfold enOk; rw [HGP.out.1, HGP.out.2]; rfl)
  obtain ⟨V, hV⟩ : ∃ V, Hid ((((w1.alloc (.cells #[.int .i64 p', .slice (some ⟨B, 0, none⟩) c' c'] 99)).alloc (.cells #[.int .u8 0, .int .u8 0, .int .u8 0, .int .u8 0, .int .u8 0, .int .u8 0, .int .u8 0, .int .u8 0, .int .u8 0, .int .u8 0, .int .u8 0, .int .u8 0, .int .u8 0, .int .u8 0, .int .u8 0, .int .u8 0] 82)).setRow (w1.heap.size + 1) (packOf ys l)) = V) := ⟨_, rfl⟩
  have Q7 := HQ7.out
  rw [hV.out] at HPS HBX Q7 hg1 ⊢
  have hA5 := below_al V.drew (.cells (packOf ys l) 82)
  have HBM := hide (HBX.out.trans (((show Below V.heap.size V V.drew from ⟨rfl, rfl, rfl, Nat.le_refl _, fun _ _ => rfl⟩).trans hA5).mono HBX.out.size))
  have Q7' := keep (v := V.drew) Q7 hA5
  have HMK := hide (markedI_any (fOf ys l) V.drew hfs)
  have HNW := hide (numsEn_any (maskL (posL (fOf ys l) 16)) (fun i => canB (L.getD (3 * i) []) ys) p' B c' L (V.drew.alloc (.cells (packOf ys l) 82)) ((show PartS V.drew B (3 * c') (3 * c') L from HPS.out).grow hA5) hn24 (fun W hW k hk => by
    have htri := tri_riseT (triOkT HGP.out.1 hk)
    have hc := enables_any (maskL (posL (fOf ys l) 16)) (maskL (L.getD (3 * k) [])) (maskL (L.getD (3 * k + 1) [])) (maskL (L.getD (3 * k + 2) [])) W (mask16T htri.1 ⟨hp1, hp2⟩)
    rw [can_sub ⟨hp1, hp2⟩ hnmp hyb htri.1] at hc
    refine hc.mono fun e w' hh => ⟨hh.1, by rw [hh.2]; exact below_al _ _⟩))
  clear hq0 hq1 hg0 hs1 hfs hyb hA5 HQ7 hV
  refine wp_region_any (by kernel_rfl) ?_
  refine wpAny_ready (rs := [0, 1]) (by kernel_rfl) (by simp) ?_
  refine cons_load_s rfl rfl (some 18) rfl 99 (.tmp 6) rfl w1.heap.size #[.int .i64 p', .slice (some ⟨B, 0, none⟩) c' c'] rfl 99 _ Try.underlying99 Q7 Try.size99 ?_ (cons_load rfl rfl (some 19) rfl 82 (.tmp 7) rfl (w1.heap.size + 1) (packOf ys l) rfl 82 _ _ Try.underlying82 hg1 (by rw [packOf_size]; exact Try.size82) ?_ AllReady.nil)
  · refine wpAny_ready (rs := [1]) (by kernel_rfl) (by simp) ?_
    refine cons_load rfl rfl (some 19) rfl 82 (.tmp 7) rfl (w1.heap.size + 1) (packOf ys l) rfl 82 _ _ Try.underlying82 hg1 (by rw [packOf_size]; exact Try.size82) ?_ AllReady.nil
    refine wpAny_ready (rs := [2]) (by kernel_rfl) (by simp) ?_
    refine cons_callg rfl rfl (some 20) rfl 76 _ _ _ rfl Try.func76 (by decide) rfl #[.agg (packOf ys l)] (mapg1 _ _ _ rfl) (.int .u16 (maskL (posL (fOf ys l) 16) : Int)) (V.drew.alloc (.cells (packOf ys l) 82)) HMK.out ?_ AllReady.nil
    refine wpAny_ready (rs := [3]) (by kernel_rfl) (by simp) ?_
    refine cons_make rfl rfl (some 21) rfl _ _ rfl (.int .u16 (maskL (posL (fOf ys l) 16) : Int)) rfl ?_ AllReady.nil
    refine wpAny_ready (rs := [4]) (by kernel_rfl) (by simp) ?_
    refine cons_callE rfl rfl (some 22) rfl 75 _ _ _ rfl Try.func75 (by decide) rfl #[.agg #[.int .i64 p', .slice (some ⟨B, 0, none⟩) c' c'], .func (.func 77) #[.int .u16 (maskL (posL (fOf ys l) 16) : Int)] #[]] (mapg2 _ _ _ _ _ rfl rfl) _ HNW.out ?_ AllReady.nil
    rintro e w3 ⟨vv, mm, rfl, hown, hb⟩
    obtain ⟨av, bv, cv, hv, hbv, hob⟩ := own_ob hown
    subst hv
    have HY : Hid (OEnd (enOk p' c' L ys) (enR p' c' L ys) w (.returned (.tuple #[.slice av mm cv, .bool true])) w3) := enend_yes HOK.out hob (by have := HBM.out.size; omega) (HBM.out.trans (hb.mono HBM.out.size))
    clear hown hb hob
    refine ⟨_, rfl, ?_⟩
    refine wpAny_ready (rs := [5]) (by kernel_rfl) (by simp) ?_
    refine cons_assignV rfl rfl (some 4) rfl (.tmp 22) rfl (.slice av mm cv) rfl ?_ AllReady.nil
    refine wpAny_ready (rs := [6]) (by kernel_rfl) (by simp) ?_
    refine cons_assignV rfl rfl (some 5) rfl (.const (.bool true)) rfl (.bool true) rfl ?_ AllReady.nil
    refine wpAny_done (by kernel_rfl) ?_ _
    go_wp2_with fail
    go_ret2
    simp only [Act.put, Array.getD_eq_getD_getElem?]
    simpa using HY.out
  · refine wpAny_ready (rs := [0, 2]) (by kernel_rfl) (by simp) ?_
    refine cons_load_s rfl rfl (some 18) rfl 99 (.tmp 6) rfl w1.heap.size #[.int .i64 p', .slice (some ⟨B, 0, none⟩) c' c'] rfl 99 _ Try.underlying99 Q7 Try.size99 ?_ (cons_callg rfl rfl (some 20) rfl 76 _ _ _ rfl Try.func76 (by decide) rfl #[.agg (packOf ys l)] (mapg1 _ _ _ rfl) (.int .u16 (maskL (posL (fOf ys l) 16) : Int)) (V.drew.alloc (.cells (packOf ys l) 82)) HMK.out ?_ AllReady.nil)
    · refine wpAny_ready (rs := [2]) (by kernel_rfl) (by simp) ?_
      refine cons_callg rfl rfl (some 20) rfl 76 _ _ _ rfl Try.func76 (by decide) rfl #[.agg (packOf ys l)] (mapg1 _ _ _ rfl) (.int .u16 (maskL (posL (fOf ys l) 16) : Int)) (V.drew.alloc (.cells (packOf ys l) 82)) HMK.out ?_ AllReady.nil
      refine wpAny_ready (rs := [3]) (by kernel_rfl) (by simp) ?_
      refine cons_make rfl rfl (some 21) rfl _ _ rfl (.int .u16 (maskL (posL (fOf ys l) 16) : Int)) rfl ?_ AllReady.nil
      refine wpAny_ready (rs := [4]) (by kernel_rfl) (by simp) ?_
      refine cons_callE rfl rfl (some 22) rfl 75 _ _ _ rfl Try.func75 (by decide) rfl #[.agg #[.int .i64 p', .slice (some ⟨B, 0, none⟩) c' c'], .func (.func 77) #[.int .u16 (maskL (posL (fOf ys l) 16) : Int)] #[]] (mapg2 _ _ _ _ _ rfl rfl) _ HNW.out ?_ AllReady.nil
      rintro e w3 ⟨vv, mm, rfl, hown, hb⟩
      obtain ⟨av, bv, cv, hv, hbv, hob⟩ := own_ob hown
      subst hv
      have HY : Hid (OEnd (enOk p' c' L ys) (enR p' c' L ys) w (.returned (.tuple #[.slice av mm cv, .bool true])) w3) := enend_yes HOK.out hob (by have := HBM.out.size; omega) (HBM.out.trans (hb.mono HBM.out.size))
      clear hown hb hob
      refine ⟨_, rfl, ?_⟩
      refine wpAny_ready (rs := [5]) (by kernel_rfl) (by simp) ?_
      refine cons_assignV rfl rfl (some 4) rfl (.tmp 22) rfl (.slice av mm cv) rfl ?_ AllReady.nil
      refine wpAny_ready (rs := [6]) (by kernel_rfl) (by simp) ?_
      refine cons_assignV rfl rfl (some 5) rfl (.const (.bool true)) rfl (.bool true) rfl ?_ AllReady.nil
      refine wpAny_done (by kernel_rfl) ?_ _
      go_wp2_with fail
      go_ret2
      simp only [Act.put, Array.getD_eq_getD_getElem?]
      simpa using HY.out
    · refine wpAny_ready (rs := [0, 3]) (by kernel_rfl) (by simp) ?_
      refine cons_load_s rfl rfl (some 18) rfl 99 (.tmp 6) rfl w1.heap.size #[.int .i64 p', .slice (some ⟨B, 0, none⟩) c' c'] rfl 99 _ Try.underlying99 Q7' Try.size99 ?_ (cons_make rfl rfl (some 21) rfl _ _ rfl (.int .u16 (maskL (posL (fOf ys l) 16) : Int)) rfl ?_ AllReady.nil)
      · refine wpAny_ready (rs := [3]) (by kernel_rfl) (by simp) ?_
        refine cons_make rfl rfl (some 21) rfl _ _ rfl (.int .u16 (maskL (posL (fOf ys l) 16) : Int)) rfl ?_ AllReady.nil
        refine wpAny_ready (rs := [4]) (by kernel_rfl) (by simp) ?_
        refine cons_callE rfl rfl (some 22) rfl 75 _ _ _ rfl Try.func75 (by decide) rfl #[.agg #[.int .i64 p', .slice (some ⟨B, 0, none⟩) c' c'], .func (.func 77) #[.int .u16 (maskL (posL (fOf ys l) 16) : Int)] #[]] (mapg2 _ _ _ _ _ rfl rfl) _ HNW.out ?_ AllReady.nil
        rintro e w3 ⟨vv, mm, rfl, hown, hb⟩
        obtain ⟨av, bv, cv, hv, hbv, hob⟩ := own_ob hown
        subst hv
        have HY : Hid (OEnd (enOk p' c' L ys) (enR p' c' L ys) w (.returned (.tuple #[.slice av mm cv, .bool true])) w3) := enend_yes HOK.out hob (by have := HBM.out.size; omega) (HBM.out.trans (hb.mono HBM.out.size))
        clear hown hb hob
        refine ⟨_, rfl, ?_⟩
        refine wpAny_ready (rs := [5]) (by kernel_rfl) (by simp) ?_
        refine cons_assignV rfl rfl (some 4) rfl (.tmp 22) rfl (.slice av mm cv) rfl ?_ AllReady.nil
        refine wpAny_ready (rs := [6]) (by kernel_rfl) (by simp) ?_
        refine cons_assignV rfl rfl (some 5) rfl (.const (.bool true)) rfl (.bool true) rfl ?_ AllReady.nil
        refine wpAny_done (by kernel_rfl) ?_ _
        go_wp2_with fail
        go_ret2
        simp only [Act.put, Array.getD_eq_getD_getElem?]
        simpa using HY.out
      · refine wpAny_ready (rs := [0]) (by kernel_rfl) (by simp) ?_
        refine cons_load_s rfl rfl (some 18) rfl 99 (.tmp 6) rfl w1.heap.size #[.int .i64 p', .slice (some ⟨B, 0, none⟩) c' c'] rfl 99 _ Try.underlying99 Q7' Try.size99 ?_ AllReady.nil
        refine wpAny_ready (rs := [4]) (by kernel_rfl) (by simp) ?_
        refine cons_callE rfl rfl (some 22) rfl 75 _ _ _ rfl Try.func75 (by decide) rfl #[.agg #[.int .i64 p', .slice (some ⟨B, 0, none⟩) c' c'], .func (.func 77) #[.int .u16 (maskL (posL (fOf ys l) 16) : Int)] #[]] (mapg2 _ _ _ _ _ rfl rfl) _ HNW.out ?_ AllReady.nil
        rintro e w3 ⟨vv, mm, rfl, hown, hb⟩
        obtain ⟨av, bv, cv, hv, hbv, hob⟩ := own_ob hown
        subst hv
        have HY : Hid (OEnd (enOk p' c' L ys) (enR p' c' L ys) w (.returned (.tuple #[.slice av mm cv, .bool true])) w3) := enend_yes HOK.out hob (by have := HBM.out.size; omega) (HBM.out.trans (hb.mono HBM.out.size))
        clear hown hb hob
        refine ⟨_, rfl, ?_⟩
        refine wpAny_ready (rs := [5]) (by kernel_rfl) (by simp) ?_
        refine cons_assignV rfl rfl (some 4) rfl (.tmp 22) rfl (.slice av mm cv) rfl ?_ AllReady.nil
        refine wpAny_ready (rs := [6]) (by kernel_rfl) (by simp) ?_
        refine cons_assignV rfl rfl (some 5) rfl (.const (.bool true)) rfl (.bool true) rfl ?_ AllReady.nil
        refine wpAny_done (by kernel_rfl) ?_ _
        go_wp2_with fail
        go_ret2
        simp only [Act.put, Array.getD_eq_getD_getElem?]
        simpa using HY.out
end Go.Proofs.Ytegabkegbhglfaa


/- The specification's Enabled, for every net and mark in memory. -/
namespace Go.Proofs.Ytegabkegbhglfaa
open Go.RowKit
set_option maxRecDepth 10000

set_option maxHeartbeats 1000000 in
theorem enabledS_any (p : Int) (a am : Option Addr) (n c nm cm : Nat) (L : List (List Int)) (ys : List Int) (w : World) (h : Lists w a (3 * n) L) (rm : Row w am nm ys) (hs : sizeN n L ≤ 1048576) (hn : n ≤ 24) (hin : ∀ k, k < n → ∀ x ∈ L.getD (3 * k) [], 0 ≤ x ∧ x < (nm : Int)) :
    Calls Try.prog 88 #[.agg #[.int .i64 p, .slice a n c], .slice am nm cm] w fun e w' => NumsEnd (fun i => canB (L.getD (3 * i) []) ys) n w e w' := by
  have hAl := below_al w (.cells #[.int .i64 p, .slice a n c] 39)
  have HL := hide h
  have RM := hide rm
  have HIN := hide hin
  have HB0 := hide hAl
  have hs' : n + sizeL L ≤ 1048576 := hs
  obtain ⟨i0, hi, hz0, hz1, hz2⟩ := info_split Try.info3
  clear h hAl rm hin
  go_enter Try.func88, Try.ntmps88
  go_wp2_with fail
  obtain ⟨V, hV⟩ : ∃ V, Hid (w.alloc (.cells #[.int .i64 p, .slice a n c] 39) = V) := ⟨_, rfl⟩
  rw [hV.out] at HB0 ⊢
  clear hV
  go_loopw [5, 11] (fun o i wr => ∃ k m : Nat, k ≤ n ∧ i = .int .i64 k ∧ Hid (m ≤ k) ∧ Hid (wr.ownsRow w.heap.size 3 1 o m ((numsL (fun i => canB (L.getD (3 * i) []) ys) k).map (Value.int .i64))) ∧ Hid (Below w.heap.size w wr)) (fun _ i _ => n - (intOf i).toNat)
  case atStart => exact ⟨0, 0, Nat.zero_le _, rfl, Nat.le_refl _, World.ownsRow_nil _ _ _ _, HB0⟩
  case round =>
    obtain ⟨k, m, hk, rfl, hmk, hown, hbw⟩ := hrel
    by_cases hlt : k < n
    rotate_left
    · have hk' : k = n := by omega
      subst hk'
      go_wp2_with fail
      go_ret
      exact ⟨_, m, rfl, hown.out, hbw.out⟩
    obtain ⟨b, off, a0, n0, c0, a1, n1, c1, a2, n2, c2, rfl, hb, hr, m0, m1, m2, r0, r1, r2⟩ := (HL.out.below hbw.out).tri hlt
    obtain ⟨hc0, hc1, hc2⟩ := rangeAt_cells3 hr
    have hl := len_le L (3 * k)
    have hA1 := below_al wr (.cells #[.slice a0 n0 c0, .slice a1 n1 c1, .slice a2 n2 c2] 126)
    have q0 : n0 ≤ 1048576 := by have := r0.1; omega
    have HH := hide (can_any a0 a1 a2 am n0 n1 n2 c0 c1 c2 nm cm _ ys _ (r0.below hA1) ((RM.out.below hbw.out).below hA1) q0 (HIN.out k hlt))
    have HB1 := hide (hbw.out.trans (hA1.mono hbw.out.size))
    have HO1 := hide (hown.out.alloc (.cells #[.slice a0 n0 c0, .slice a1 n1 c1, .slice a2 n2 c2] 126))
    clear hr r0 r1 r2 m0 m1 m2 hl hA1
    by_cases hh : canB (L.getD (3 * k) []) ys = true
    rotate_left
    · have hh' : canB (L.getD (3 * k) []) ys = false := by simpa using hh
      have HN := hide (numsL_no (f := fun i => canB (L.getD (3 * i) []) ys) hh')
      rw [hh'] at HH
      clear hh hh' hown
      go_wp2_with fail
      refine HH.out.mono ?_
      rintro e w' ⟨rfl, hb'⟩
      have HB2 := hide (HB1.out.trans (hb'.mono HB1.out.size))
      have HO2 := hide (own_grow (HO1.out) hb')
      clear hb' HH HB1 HO1 hc0 hc1 hc2
      go_wp2_with fail
      go_roundw
      case rel => exact ⟨k + 1, m, by omega, by go_num, Nat.le_succ_of_le hmk.out, by rw [HN.out]; exact HO2, HB2⟩
      case measure => simp [intOf]; omega
    have HN := hide (numsL_yes (f := fun i => canB (L.getD (3 * i) []) ys) hh)
    rw [hh] at HH
    clear hh hown
    go_wp2_with fail
    refine HH.out.mono ?_
    rintro e W1 ⟨rfl, hb'⟩
    have HB1 := hide (HB1.out.trans (hb'.mono HB1.out.size))
    have HO1 := hide (own_grow (HO1.out) hb')
    have hA2 := below_al W1 (.cells #[.int .i64 (k : Int)] 3)
    have HO2 := hide (HO1.out.alloc (.cells #[.int .i64 (k : Int)] 3))
    have HB2 := hide (HB1.out.trans (hA2.mono HB1.out.size))
    have HCE : Hid (∀ j u, ([.int .i64 (k : Int)] : List Value)[j]? = some u → (W1.alloc (.cells #[.int .i64 (k : Int)] 3)).cell? ((⟨W1.heap.size, 0, none⟩ : Addr).add j) = some u) := one_cell W1 _
    have H1c : Hid (∀ u ∈ ([.int .i64 (k : Int)] : List Value), u.oneCell' = true) := fun u hu => by simp at hu; subst hu; rfl
    have HX := hide (show m + 1 ≤ maxLen by have := hmk.out; unfold maxLen; omega)
    have HY := hide (show (m + 1) * 8 ≤ 140737488355328 by have := hmk.out; omega)
    have HZ := hide HB2.out.size
    clear hA2 hc0 hc1 hc2 HH hb'
    go_wp2_with (refine wpList_append_own _ rfl (.tmp 19) (.tmp 21) 30 rfl w.heap.size 3 i0 (.int .i64 0) 1 8 Try.underlying30 hi hz0 hz1 hz2 rfl (by decide) u5 m _ rfl HO2.out ⟨W1.heap.size, 0, none⟩ 1 1 [.int .i64 (k : Int)] rfl rfl HCE.out H1c.out HX.out HY.out HZ.out ?_; intro v' W' r1 r2 r3)
    have HR1 : Hid (W'.ownsRow w.heap.size 3 1 v' (m + 1) ((numsL (fun i => canB (L.getD (3 * i) []) ys) (k + 1)).map (Value.int .i64))) := by
      show World.ownsRow _ _ _ _ _ _ _
      rw [HN.out, List.map_append]; exact r1
    have HB3 := hide (own_below HO2.out r2 HB2.out HB2.out.size (Nat.le_refl _))
    clear r1 r2 r3
    go_wp2_with fail
    go_roundw
    case rel => exact ⟨k + 1, m + 1, by omega, by go_num, Nat.succ_le_succ hmk.out, HR1, HB3⟩
    case measure => simp [intOf]; omega

set_option maxHeartbeats 1000000 in
theorem enabledSp_any (p : Int) (a am : Option Addr) (n c nm cm : Nat) (L : List (List Int)) (ys : List Int) (w : World) (h : Lists w a (3 * n) L) (rm : Row w am nm ys) (hs : sizeN n L ≤ 1048576) (hnm : nm ≤ 1048576) :
    Calls Try.prog 128 #[.agg #[.int .i64 p, .slice a n c], .slice am nm cm] w fun e w' => WEnd (enOk p n L ys) (enR p n L ys) w e w' := by
  have hAl := below_al w (.cells #[.int .i64 p, .slice a n c] 39)
  have PAR := hide (heap_alloc_new w (.cells #[.int .i64 p, .slice a n c] 39))
  have HG := hide (marked_any p a am n c nm cm L ys _ (h.below hAl) (rm.below hAl) hs hnm)
  have HL := hide h
  have RM := hide rm
  have HB0 := hide hAl
  clear h rm hAl
  go_enter Try.func128, Try.ntmps128
  go_wp2_with fail
  refine HG.out.mono ?_
  rintro e w1 ⟨rfl, hb⟩
  have HB1 := hide (HB0.out.trans (hb.mono HB0.out.size))
  have PAR1 := hide (keep PAR.out hb)
  obtain ⟨hc0, hc1⟩ := cells2 PAR1.out
  clear HG HB0 PAR hb
  by_cases g1 : (netOk p n L && goodB p ys) = true
  rotate_left
  · have g1' : (netOk p n L && goodB p ys) = false := by simpa using g1
    have g1'' : enOk p n L ys = false := g1'
    have HN : Hid (WEnd (enOk p n L ys) (enR p n L ys) w (.returned (.tuple #[.slice none 0 0, .bool false])) w1) :=
      ⟨none, 0, 0, by rw [g1''], ⟨by unfold enR; rw [g1'']; rfl, .inl rfl⟩, HB1.out⟩
    rw [g1']
    clear g1 g1' g1''
    go_wp2_with fail
    go_ret2
    exact HN.out
  have hgg := g1
  rw [Bool.and_eq_true] at hgg
  have HOK : Hid (enOk p n L ys = true) := g1
  rw [g1]
  have hn24 := netOkN' hgg.1
  obtain ⟨hp, hyl, _⟩ := goodB_parts hgg.2
  have HIN : Hid (∀ k, k < n → ∀ x ∈ L.getD (3 * k) [], 0 ≤ x ∧ x < (nm : Int)) := fun k hk x hx => by
    have htri := tri_riseT (triOkT hgg.1 hk)
    have := riseB_mem htri.1 x hx
    have := RM.out.1
    omega
  clear g1 hgg
  go_wp2_with fail
  refine (enabledS_any _ _ _ _ _ _ _ L ys _ (HL.out.below HB1.out) (RM.out.below HB1.out) hs hn24 HIN.out).mono ?_
  rintro e w2 ⟨v, m, rfl, hown, hb⟩
  obtain ⟨av, cv, hv, hrow⟩ := own_row hown
  subst hv
  have HY : Hid (WEnd (enOk p n L ys) (enR p n L ys) w (.returned (.tuple #[.slice av m cv, .bool true])) w2) :=
    ⟨av, m, cv, by rw [HOK.out], by unfold enR; rw [HOK.out]; exact hrow, HB1.out.trans (hb.mono HB1.out.size)⟩
  clear hown hb hrow
  go_wp2_with fail
  go_ret2
  exact HY.out
end Go.Proofs.Ytegabkegbhglfaa


/- The specification's l4Explore: it goes by the same function; for every net, mark and budget in memory. -/
namespace Go.Proofs.Ytegabkegbhglfaa
open Go.RowKit
set_option maxRecDepth 10000

theorem own_ty {w : World} {B : Nat} {e : TypeId} {size : Nat} {v : Value} {n : Nat} {xs : List Value} (h : w.ownsRow B e size v n xs) {g : Nat} (hg : v.ownBlock = some g) : ∃ cur, w.heap[g]? = some (.cells cur e (0, 0)) := by
  rcases h.2 with ⟨rfl, _⟩ | ⟨g', cap, cur, rfl, _, h2, _⟩
  · simp [Value.ownBlock] at hg
  · simp [Value.ownBlock] at hg; subst hg; exact ⟨cur, h2⟩

/-- The marks of the specification's space: each is a list of the call's own. -/
def MRow (w : World) (B : Nat) (v : Value) (l : Nat) (ms : List (List Int)) : Prop :=
  ∃ cs, w.ownsRow B 30 1 v ms.length cs ∧ ∀ i, i < ms.length → ∃ g c, cs[i]? = some (.slice (some ⟨g, 0, none⟩) l c) ∧ OutR w g l (ms.getD i [])

/-- Blocks of integers are as they were. -/
structure Turn3 (w w' : World) : Prop where
  size : w.heap.size ≤ w'.heap.size
  ints : ∀ (g : Nat) (cs : Array Value), w.heap[g]? = some (Obj.cells cs 3 (0, 0)) → w'.heap[g]? = w.heap[g]?

theorem Turn3.refl (w : World) : Turn3 w w := ⟨Nat.le_refl _, fun _ _ _ => rfl⟩
theorem Turn3.trans {u v w : World} (h : Turn3 u v) (g : Turn3 v w) : Turn3 u w :=
  ⟨Nat.le_trans h.size g.size, fun i cs hi => (g.ints i cs ((h.ints i cs hi).trans hi)).trans (h.ints i cs hi)⟩
theorem Turn3.of_below {w w' : World} (h : Below w.heap.size w w') : Turn3 w w' := ⟨h.size, fun g _ hg => h.block g (Array.getElem?_eq_some_iff.mp hg).1⟩

theorem OutR.turn {w w' : World} {g n : Nat} {ys : List Int} (h : OutR w g n ys) (ht : Turn3 w w') : OutR w' g n ys := by
  obtain ⟨hl, cur, h1, h2, h3⟩ := h
  exact ⟨hl, cur, (ht.ints g cur h1).trans h1, h2, h3⟩

theorem own_turn {w w' : World} {B : Nat} {size : Nat} {v : Value} {n : Nat} {xs : List Value} (h : w.ownsRow B 3 size v n xs) (ht : Turn3 w w') : w'.ownsRow B 3 size v n xs :=
  ownsRow_kept h fun g hg => by obtain ⟨cur, hc⟩ := own_ty h hg; exact ht.ints g cur hc

theorem MRow.kept {w w' : World} {B l : Nat} {v : Value} {ms : List (List Int)} (h : MRow w B v l ms) (ht : Turn3 w w') (h2 : ∀ g, v.ownBlock = some g → w'.heap[g]? = w.heap[g]?) : MRow w' B v l ms := by
  obtain ⟨cs, h1, h3⟩ := h
  refine ⟨cs, ownsRow_kept h1 h2, fun i hi => ?_⟩
  obtain ⟨g, c, e1, e2⟩ := h3 i hi
  exact ⟨g, c, e1, e2.turn ht⟩

theorem MRow.go {w w' : World} {B l : Nat} {v : Value} {ms : List (List Int)} (h : MRow w B v l ms) (hb : Below w.heap.size w w') : MRow w' B v l ms := by
  refine h.kept (Turn3.of_below hb) fun g hg => ?_
  obtain ⟨cs, h1, _⟩ := h
  exact hb.block g (own_lt h1 hg).2

theorem MRow.form {w : World} {B l : Nat} {v : Value} {ms : List (List Int)} (h : MRow w B v l ms) : ∃ a c, v = .slice a ms.length c := by
  obtain ⟨cs, h1, _⟩ := h
  exact own_form h1

theorem MRow.lists {w : World} {B l : Nat} {a : Option Addr} {n c : Nat} {ms : List (List Int)} (h : MRow w B (.slice a n c) l ms) (hl : l ≤ maxLen) : Lists w a ms.length ms := by
  obtain ⟨cs, h1, h2⟩ := h
  refine ⟨rfl, ?_⟩
  rcases h1.2 with ⟨_, h0⟩ | ⟨g, cap, cur, e, hb, hh, hn, hc, hs, ht⟩
  · exact .inl h0
  · have e' := e
    simp only [Value.slice.injEq] at e'
    obtain ⟨rfl, rfl, rfl⟩ := e'
    refine .inr ⟨g, 0, rfl, (Array.getElem?_eq_some_iff.mp hh).1, fun j hj => ?_⟩
    obtain ⟨g', c', e1, e2⟩ := h2 j hj
    exact ⟨_, l, c', by rw [Nat.zero_add, h1.cellAt j (by omega)]; exact e1, hl, e2.row⟩

theorem MRow.at_ {w : World} {B l : Nat} {a : Option Addr} {n c : Nat} {ms : List (List Int)} (h : MRow w B (.slice a n c) l ms) {k : Nat} (hk : k < ms.length) :
    ∃ b g' c', a = some ⟨b, 0, none⟩ ∧ b < w.heap.size ∧ w.cell? ⟨b, k, none⟩ = some (.slice (some ⟨g', 0, none⟩) l c') ∧ OutR w g' l (ms.getD k []) := by
  obtain ⟨cs, h1, h2⟩ := h
  rcases h1.2 with ⟨_, h0⟩ | ⟨g, cap, cur, e, hb, hh, hn, hc, hs, ht⟩
  · omega
  · simp only [Value.slice.injEq] at e
    obtain ⟨rfl, rfl, rfl⟩ := e
    obtain ⟨g', c', e1, e2⟩ := h2 k hk
    refine ⟨g, g', c', rfl, (Array.getElem?_eq_some_iff.mp hh).1, ?_, e2⟩
    rw [h1.cellAt k (by omega)]; exact e1

/-- The state of the specification's search in memory. -/
structure SeSt (w0 w : World) (hN h6 b : Nat) (p : Int) (a : Option Addr) (n c l : Nat) (mv av : Value) (ms : List (List Int)) (ar : List (Nat × Nat × Nat)) : Prop where
  bel : Below w0.heap.size w0 w
  net : w.heap[hN]? = some (.cells #[.int .i64 p, .slice a n c] 39 (0, 0))
  res : w.heap[h6]? = some (.cells #[.slice none 0 0, .slice none 0 0] 44 (0, 0))
  st : w.heap[b]? = some (.cells #[mv, av] 44 (0, 0))
  ne : h6 ≠ b
  hb : w0.heap.size ≤ b
  marks : MRow w w0.heap.size mv l ms
  arcs : w.ownsRow w0.heap.size 49 3 av ar.length (arcsL ar)

section
variable {w0 w w' : World} {hN h6 b : Nat} {p : Int} {a : Option Addr} {n c l : Nat} {mv av : Value} {ms : List (List Int)} {ar : List (Nat × Nat × Nat)}

theorem SeSt.go (h : SeSt w0 w hN h6 b p a n c l mv av ms ar) (hb : Below w.heap.size w w') : SeSt w0 w' hN h6 b p a n c l mv av ms ar :=
  ⟨h.bel.trans (hb.mono h.bel.size), keep h.net hb, keep h.res hb, keep h.st hb, h.ne, h.hb, h.marks.go hb, ownsRow_kept h.arcs fun g hg => hb.block g (own_lt h.arcs hg).2⟩

/-- A mark more. -/
theorem SeSt.mark (h : SeSt w0 w hN h6 b p a n c l mv av ms ar) {cs : List Value} (hcs : w.ownsRow w0.heap.size 30 1 mv ms.length cs) (hms : ∀ i, i < ms.length → ∃ g c, cs[i]? = some (.slice (some ⟨g, 0, none⟩) l c) ∧ OutR w g l (ms.getD i []))
    (hg : w.grownBy w' mv.ownBlock) {v : Value} {g gc : Nat} {m : List Int} (hown : w'.ownsRow w0.heap.size 30 1 v (ms.length + 1) (cs ++ [.slice (some ⟨g, 0, none⟩) l gc])) (hm : OutR w g l m) :
    SeSt w0 (w'.setCell ⟨b, 0, none⟩ v) hN h6 b p a n c l v av (ms ++ [m]) ar ∧ Turn3 w (w'.setCell ⟨b, 0, none⟩ v) := by
  have hbl := row_lt h.st
  have nm : ∀ (g' : Nat) (C : Array Value) (T : TypeId), w.heap[g']? = some (Obj.cells C T (0, 0)) → T ≠ 30 → mv.ownBlock ≠ some g' := fun g' C T h1 h2 e => by
    obtain ⟨cur, hc⟩ := own_ty hcs e
    rw [hc] at h1
    simp at h1
    exact h2 h1.2.symm
  have far : ∀ (g' : Nat) (C : Array Value) (T : TypeId), w.heap[g']? = some (Obj.cells C T (0, 0)) → T ≠ 30 → g' ≠ b → (w'.setCell ⟨b, 0, none⟩ v).heap[g']? = w.heap[g']? := fun g' C T h1 h2 h3 =>
    (Below.heap_setCell _ _ _ _ h3).trans (hg.block g' (row_lt h1) (fun e => nm g' C T h1 h2 e.symm))
  have hT : Turn3 w (w'.setCell ⟨b, 0, none⟩ v) := by
    refine ⟨by rw [size_setCell]; exact hg.size, fun g' C h1 => far g' C _ h1 (by decide) (fun e => ?_)⟩
    subst e; rw [h.st] at h1; simp at h1
  have hst := (hg.block b hbl (fun e => nm b _ _ h.st (by decide) e.symm)).trans h.st
  refine ⟨⟨?_, (far hN _ _ h.net (by decide) fun e => ?_).trans h.net, (far h6 _ _ h.res (by decide) h.ne).trans h.res, ?_, h.ne, h.hb, ?_, ?_⟩, hT⟩
  · exact (h.bel.grown hg h.bel.size fun k hk => (own_lt hcs hk).1).setCell h.hb _
  · subst e; have := h.net; rw [h.st] at this; simp at this
  · rw [heap_setCell_same w' b 0 _ _ v hst]; rfl
  · refine ⟨cs ++ [.slice (some ⟨g, 0, none⟩) l gc], ?_, fun i hi => ?_⟩
    · rw [List.length_append]
      refine ownsRow_kept hown fun g' hg' => Below.heap_setCell _ _ _ _ fun e => ?_
      subst e
      obtain ⟨cur, hc⟩ := own_ty hown hg'
      rw [hst] at hc; simp at hc
    · have hcl : cs.length = ms.length := by have := hcs.1; omega
      by_cases hi2 : i < ms.length
      · obtain ⟨g2, c2, e1, e2⟩ := hms i hi2
        refine ⟨g2, c2, by rw [List.getElem?_append_left (by omega)]; exact e1, ?_⟩
        rw [List.getD_eq_getElem?_getD, List.getElem?_append_left hi2, ← List.getD_eq_getElem?_getD]
        exact e2.turn hT
      · rw [List.length_append, List.length_singleton] at hi
        have : i = ms.length := by omega
        subst this
        refine ⟨g, gc, by rw [List.getElem?_append_right (by omega), hcl]; simp, ?_⟩
        rw [List.getD_eq_getElem?_getD, List.getElem?_append_right (Nat.le_refl _)]
        simp
        exact hm.turn hT
  · refine ownsRow_kept h.arcs fun g' hg' => ?_
    obtain ⟨cur, hc⟩ := own_ty h.arcs hg'
    refine far g' _ _ hc (by decide) fun e => ?_
    subst e; rw [h.st] at hc; simp at hc

/-- An arc more. -/
theorem SeSt.arc (h : SeSt w0 w hN h6 b p a n c l mv av ms ar) (hg : w.grownBy w' av.ownBlock) {v : Value} {ar' : List (Nat × Nat × Nat)} (hown : w'.ownsRow w0.heap.size 49 3 v ar'.length (arcsL ar')) :
    SeSt w0 (w'.setCell ⟨b, 1, none⟩ v) hN h6 b p a n c l mv v ms ar' ∧ Turn3 w (w'.setCell ⟨b, 1, none⟩ v) := by
  have hbl := row_lt h.st
  have nm : ∀ (g' : Nat) (C : Array Value) (T : TypeId), w.heap[g']? = some (Obj.cells C T (0, 0)) → T ≠ 49 → av.ownBlock ≠ some g' := fun g' C T h1 h2 e => by
    obtain ⟨cur, hc⟩ := own_ty h.arcs e
    rw [hc] at h1
    simp at h1
    exact h2 h1.2.symm
  have far : ∀ (g' : Nat) (C : Array Value) (T : TypeId), w.heap[g']? = some (Obj.cells C T (0, 0)) → T ≠ 49 → g' ≠ b → (w'.setCell ⟨b, 1, none⟩ v).heap[g']? = w.heap[g']? := fun g' C T h1 h2 h3 =>
    (Below.heap_setCell _ _ _ _ h3).trans (hg.block g' (row_lt h1) (fun e => nm g' C T h1 h2 e.symm))
  have hT : Turn3 w (w'.setCell ⟨b, 1, none⟩ v) := by
    refine ⟨by rw [size_setCell]; exact hg.size, fun g' C h1 => far g' C _ h1 (by decide) (fun e => ?_)⟩
    subst e; rw [h.st] at h1; simp at h1
  have hst := (hg.block b hbl (fun e => nm b _ _ h.st (by decide) e.symm)).trans h.st
  refine ⟨⟨?_, (far hN _ _ h.net (by decide) fun e => ?_).trans h.net, (far h6 _ _ h.res (by decide) h.ne).trans h.res, ?_, h.ne, h.hb, ?_, ?_⟩, hT⟩
  · exact (h.bel.grown hg h.bel.size fun k hk => (own_lt h.arcs hk).1).setCell h.hb _
  · subst e; have := h.net; rw [h.st] at this; simp at this
  · rw [heap_setCell_same w' b 1 _ _ v hst]; rfl
  · refine h.marks.kept hT fun g' hg' => ?_
    obtain ⟨cs, h1, _⟩ := h.marks
    obtain ⟨cur, hc⟩ := own_ty h1 hg'
    refine far g' _ _ hc (by decide) fun e => ?_
    subst e; rw [h.st] at hc; simp at hc
  · refine ownsRow_kept hown fun g' hg' => Below.heap_setCell _ _ _ _ fun e => ?_
    subst e
    obtain ⟨cur, hc⟩ := own_ty hown hg'
    rw [hst] at hc; simp at hc
end

end Go.Proofs.Ytegabkegbhglfaa
