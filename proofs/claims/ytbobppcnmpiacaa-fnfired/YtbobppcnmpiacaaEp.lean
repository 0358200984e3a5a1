/- The specification's Enabled, for every net and mark in memory. -/
import Derived.Test.YtbobppcnmpiacaaEn
namespace Go.Proofs.Ytbobppcnmpiacaa
open Go.RowKit
set_option maxRecDepth 10000

set_option maxHeartbeats 1000000 in
theorem enabledS_any (p : Int) (a am : Option Addr) (n c nm cm : Nat) (L : List (List Int)) (ys : List Int) (w : World) (h : Lists w a (3 * n) L) (rm : Row w am nm ys) (hs : sizeN n L ≤ 1048576) (hn : n ≤ 24) (hin : ∀ k, k < n → ∀ x ∈ L.getD (3 * k) [], 0 ≤ x ∧ x < (nm : Int)) :
    Calls Try.prog 57 #[.agg #[.int .i64 p, .slice a n c], .slice am nm cm] w fun e w' => NumsEnd (fun i => canB (L.getD (3 * i) []) ys) n w e w' := by
  have hAl := below_al w (.cells #[.int .i64 p, .slice a n c] 26)
  have HL := hide h
  have RM := hide rm
  have HIN := hide hin
  have HB0 := hide hAl
  have hs' : n + sizeL L ≤ 1048576 := hs
  obtain ⟨i0, hi, hz0, hz1, hz2⟩ := info_split Try.info3
  clear h hAl rm hin
  go_enter Try.func57, Try.ntmps57
  go_wp2_with fail
  obtain ⟨V, hV⟩ : ∃ V, Hid (w.alloc (.cells #[.int .i64 p, .slice a n c] 26) = V) := ⟨_, rfl⟩
  rw [hV.out] at HB0 ⊢
  clear hV
  go_loopw [5, 11] (fun o i wr => ∃ k m : Nat, k ≤ n ∧ i = .int .i64 k ∧ Hid (m ≤ k) ∧ Hid (wr.ownsRow w.heap.size 3 1 o m ((numsL (fun i => canB (L.getD (3 * i) []) ys) k).map (Value.int .i64))) ∧ Hid (Below w.heap.size w wr)) (fun _ i _ => n - (intOf i).toNat)
  case atStart => exact ⟨0, 0, Nat.zero_le _, rfl, Nat.le_refl _, World.ownsRow_nil _ _ _ _, HB0⟩
  case round =>
    obtain ⟨k, m, hk, rfl, hmk, hown, hbw⟩ := hrel
    by_cases hlt : k < n
    rotate_left
    · have hk' : k = n := by omega
      subst hk'
      go_wp2_with fail
      go_ret
      exact ⟨_, m, rfl, hown.out, hbw.out⟩
    obtain ⟨b, off, a0, n0, c0, a1, n1, c1, a2, n2, c2, rfl, hb, hr, m0, m1, m2, r0, r1, r2⟩ := (HL.out.below hbw.out).tri hlt
    obtain ⟨hc0, hc1, hc2⟩ := rangeAt_cells3 hr
    have hl := len_le L (3 * k)
    have hA1 := below_al wr (.cells #[.slice a0 n0 c0, .slice a1 n1 c1, .slice a2 n2 c2] 39)
    have q0 : n0 ≤ 1048576 := by have := r0.1; omega
    have HH := hide (can_any a0 a1 a2 am n0 n1 n2 c0 c1 c2 nm cm _ ys _ (r0.below hA1) ((RM.out.below hbw.out).below hA1) q0 (HIN.out k hlt))
    have HB1 := hide (hbw.out.trans (hA1.mono hbw.out.size))
    have HO1 := hide (hown.out.alloc (.cells #[.slice a0 n0 c0, .slice a1 n1 c1, .slice a2 n2 c2] 39))
    clear hr r0 r1 r2 m0 m1 m2 hl hA1
    by_cases hh : canB (L.getD (3 * k) []) ys = true
    rotate_left
    · have hh' : canB (L.getD (3 * k) []) ys = false := by simpa using hh
      have HN := hide (numsL_no (f := fun i => canB (L.getD (3 * i) []) ys) hh')
      rw [hh'] at HH
      clear hh hh' hown
      go_wp2_with fail
      refine HH.out.mono ?_
      rintro e w' ⟨rfl, hb'⟩
      have HB2 := hide (HB1.out.trans (hb'.mono HB1.out.size))
      have HO2 := hide (own_grow (HO1.out) hb')
      clear hb' HH HB1 HO1 hc0 hc1 hc2
      go_wp2_with fail
      go_roundw
      case rel => exact ⟨k + 1, m, by omega, by go_num, Nat.le_succ_of_le hmk.out, by rw [HN.out]; exact HO2, HB2⟩
      case measure => simp [intOf]; omega
    have HN := hide (numsL_yes (f := fun i => canB (L.getD (3 * i) []) ys) hh)
    rw [hh] at HH
    clear hh hown
    go_wp2_with fail
    refine HH.out.mono ?_
    rintro e W1 ⟨rfl, hb'⟩
    have HB1 := hide (HB1.out.trans (hb'.mono HB1.out.size))
    have HO1 := hide (own_grow (HO1.out) hb')
    have hA2 := below_al W1 (.cells #[.int .i64 (k : Int)] 3)
    have HO2 := hide (HO1.out.alloc (.cells #[.int .i64 (k : Int)] 3))
    have HB2 := hide (HB1.out.trans (hA2.mono HB1.out.size))
    have HCE : Hid (∀ j u, ([.int .i64 (k : Int)] : List Value)[j]? = some u → (W1.alloc (.cells #[.int .i64 (k : Int)] 3)).cell? ((⟨W1.heap.size, 0, none⟩ : Addr).add j) = some u) := one_cell W1 _
    have H1c : Hid (∀ u ∈ ([.int .i64 (k : Int)] : List Value), u.oneCell' = true) := fun u hu => by simp at hu; subst hu; rfl
    have HX := hide (show m + 1 ≤ maxLen by have := hmk.out; unfold maxLen; omega)
    have HY := hide (show (m + 1) * 8 ≤ 140737488355328 by have := hmk.out; omega)
    have HZ := hide HB2.out.size
    clear hA2 hc0 hc1 hc2 HH hb'
    go_wp2_with (refine wpList_append_own _ rfl (.tmp 19) (.tmp 21) 27 rfl w.heap.size 3 i0 (.int .i64 0) 1 8 Try.underlying27 hi hz0 hz1 hz2 rfl (by decide) u5 m _ rfl HO2.out ⟨W1.heap.size, 0, none⟩ 1 1 [.int .i64 (k : Int)] rfl rfl HCE.out H1c.out HX.out HY.out HZ.out ?_; intro v' W' r1 r2 r3)
    have HR1 : Hid (W'.ownsRow w.heap.size 3 1 v' (m + 1) ((numsL (fun i => canB (L.getD (3 * i) []) ys) (k + 1)).map (Value.int .i64))) := by
      show World.ownsRow _ _ _ _ _ _ _
      rw [HN.out, List.map_append]; exact r1
    have HB3 := hide (own_below HO2.out r2 HB2.out HB2.out.size (Nat.le_refl _))
    clear r1 r2 r3
    go_wp2_with fail
    go_roundw
    case rel => exact ⟨k + 1, m + 1, by omega, by go_num, Nat.succ_le_succ hmk.out, HR1, HB3⟩
    case measure => simp [intOf]; omega

set_option maxHeartbeats 1000000 in
theorem enabledSp_any (p : Int) (a am : Option Addr) (n c nm cm : Nat) (L : List (List Int)) (ys : List Int) (w : World) (h : Lists w a (3 * n) L) (rm : Row w am nm ys) (hs : sizeN n L ≤ 1048576) (hnm : nm ≤ 1048576) :
    Calls Try.prog 18 #[.agg #[.int .i64 p, .slice a n c], .slice am nm cm] w fun e w' => WEnd (enOk p n L ys) (enR p n L ys) w e w' := by
  have hAl := below_al w (.cells #[.int .i64 p, .slice a n c] 26)
  have PAR := hide (heap_alloc_new w (.cells #[.int .i64 p, .slice a n c] 26))
  have HG := hide (marked_any p a am n c nm cm L ys _ (h.below hAl) (rm.below hAl) hs hnm)
  have HL := hide h
  have RM := hide rm
  have HB0 := hide hAl
  clear h rm hAl
  go_enter Try.func18, Try.ntmps18
  go_wp2_with fail
  refine HG.out.mono ?_
  rintro e w1 ⟨rfl, hb⟩
  have HB1 := hide (HB0.out.trans (hb.mono HB0.out.size))
  have PAR1 := hide (keep PAR.out hb)
  obtain ⟨hc0, hc1⟩ := cells2 PAR1.out
  clear HG HB0 PAR hb
  by_cases g1 : (netOk p n L && goodB p ys) = true
  rotate_left
  · have g1' : (netOk p n L && goodB p ys) = false := by simpa using g1
    have g1'' : enOk p n L ys = false := g1'
    have HN : Hid (WEnd (enOk p n L ys) (enR p n L ys) w (.returned (.tuple #[.slice none 0 0, .bool false])) w1) :=
      ⟨none, 0, 0, by rw [g1''], ⟨by unfold enR; rw [g1'']; rfl, .inl rfl⟩, HB1.out⟩
    rw [g1']
    clear g1 g1' g1''
    go_wp2_with fail
    go_ret2
    exact HN.out
  have hgg := g1
  rw [Bool.and_eq_true] at hgg
  have HOK : Hid (enOk p n L ys = true) := g1
  rw [g1]
  have hn24 := netOkN' hgg.1
  obtain ⟨hp, hyl, _⟩ := goodB_parts hgg.2
  have HIN : Hid (∀ k, k < n → ∀ x ∈ L.getD (3 * k) [], 0 ≤ x ∧ x < (nm : Int)) := fun k hk x hx => by
    have htri := tri_riseT (triOkT hgg.1 hk)
    have := riseB_mem htri.1 x hx
    have := RM.out.1
    omega
  clear g1 hgg
  go_wp2_with fail
  refine (enabledS_any _ _ _ _ _ _ _ L ys _ (HL.out.below HB1.out) (RM.out.below HB1.out) hs hn24 HIN.out).mono ?_
  rintro e w2 ⟨v, m, rfl, hown, hb⟩
  obtain ⟨av, cv, hv, hrow⟩ := own_row hown
  subst hv
  have HY : Hid (WEnd (enOk p n L ys) (enR p n L ys) w (.returned (.tuple #[.slice av m cv, .bool true])) w2) :=
    ⟨av, m, cv, by rw [HOK.out], by unfold enR; rw [HOK.out]; exact hrow, HB1.out.trans (hb.mono HB1.out.size)⟩
  clear hown hb hrow
  go_wp2_with fail
  go_ret2
  exact HY.out
end Go.Proofs.Ytbobppcnmpiacaa
