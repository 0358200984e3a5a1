/- Contracts that the proof stands on, one behind the other. -/
import Derived.Test.YtegabkegbhglfaaP14
/- The specification's IsLive. -/
namespace Go.Proofs.Ytegabkegbhglfaa
open Go.RowKit
set_option maxRecDepth 10000

/-- From each mark one can come to one in which t can fire. -/
def LiveT (s : Sea) (L : List (List Int)) (t : Nat) : Prop := ∀ i, i < s.ms.length → CanTo s.ar (fun x => x < s.ms.length ∧ canT L (s.ms.getD x []) t = true) i
def LiveP (s : Sea) (n : Nat) (L : List (List Int)) : Prop := ∀ t, t < n → LiveT s L t

open Classical in
/-- What IsLive tells. -/
noncomputable def ilR (p : Int) (n : Nat) (L : List (List Int)) (ys : List Int) (bg : Int) : Bool := dtOk p n L ys bg && decide (LiveP (spSea p n L ys bg) n L)

/-- How IsLive ends. -/
def IlEnd (p : Int) (n : Nat) (L : List (List Int)) (ys : List Int) (bg : Int) (w : World) (e : Ending) (w' : World) : Prop :=
  e = .returned (.tuple #[.bool (ilR p n L ys bg), .bool (dtOk p n L ys bg)]) ∧ Below w.heap.size w w'

theorem ilEnd_no {p : Int} {n : Nat} {L : List (List Int)} {ys : List Int} {bg : Int} {w w' : World} (h : spCode p n L ys bg ≠ 1) (hb : Below w.heap.size w w') : IlEnd p n L ys bg w (.returned (.tuple #[.bool false, .bool false])) w' := by
  refine ⟨?_, hb⟩
  unfold ilR; rw [dtOk_no h]; rfl

theorem ilEnd_yes {p : Int} {n l : Nat} {L : List (List Int)} {ys : List Int} {bg : Int} {s : Sea} {w w' : World} {b : Bool} (h : spCode p n L ys bg = 1) (hs : SpOk p n l L ys bg s) (hx : b = true ↔ LiveP s n L) (hb : Below w.heap.size w w') : IlEnd p n L ys bg w (.returned (.tuple #[.bool b, .bool true])) w' := by
  refine ⟨?_, hb⟩
  unfold ilR
  rw [dtOk_yes h, hs.is]
  have e : (true && @decide (LiveP s n L) (Classical.propDecidable _)) = b := by
    cases b
    · simp only [Bool.true_and, decide_eq_false_iff_not]; exact fun e => by have := hx.2 e; cases this
    · simp only [Bool.true_and, decide_eq_true_eq]; exact hx.1 rfl
  rw [e]

theorem nums_mem {f : Nat → Bool} {N i : Nat} : i ∈ (List.range N).filter f ↔ (i < N ∧ f i = true) := by
  rw [List.mem_filter, List.mem_range]

set_option maxHeartbeats 4000000 in
theorem liveS_any (p : Int) (a am : Option Addr) (n c nm cm : Nat) (L : List (List Int)) (ys : List Int) (bg : Int) (w : World) (h : Lists w a (3 * n) L) (rm : Row w am nm ys) (hs : sizeN n L ≤ 1048576) (hnm : nm ≤ 1048576) :
    Calls Try.prog 31 #[.agg #[.int .i64 p, .slice a n c], .slice am nm cm, .int .i64 bg] w fun e w' => IlEnd p n L ys bg w e w' := by
  have hAl := below_al w (.cells #[.int .i64 p, .slice a n c] 39)
  have HN0 := hide (heap_alloc_new w (.cells #[.int .i64 p, .slice a n c] 39))
  have HX := hide (all_any4 p a am n c nm cm L ys bg _ (h.below hAl) (rm.below hAl) hs hnm)
  have HL0 := hide (h.below hAl)
  have HB0 := hide hAl
  clear h rm hAl
  go_enter Try.func31, Try.ntmps31
  go_wp2_with fail
  generalize w.alloc (.cells #[.int .i64 p, .slice a n c] 39) = v0 at *
  refine HX.out.mono ?_
  rintro e w1 ⟨hb1, hxx⟩
  have HN1 := hide (keep HN0.out hb1)
  have HL1 := hide (HL0.out.below hb1)
  have HB1 := hide (HB0.out.trans (hb1.mono HB0.out.size))
  clear hb1 HN0 HB0 HX HL0
  rcases hxx with ⟨hcode, s, ma, mc, aa, ac, hok, rfl, hmr, har⟩ | ⟨hcode, rfl⟩
  rotate_left
  · have HN := hide (ilEnd_no (w := w) hcode (HB1.out.trans ((below_al w1 (.cells #[.slice none 0 0, .slice none 0 0] 44)).mono HB1.out.size)))
    clear hcode
    go_wp2_with fail
    go_ret2
    exact HN.out
  have hA3 := below_al w1 (.cells #[.slice ma s.ms.length mc, .slice aa s.ar.length ac] 44)
  have HB3 := hide (HB1.out.trans (hA3.mono HB1.out.size))
  have HN3 := hide (keep HN1.out hA3)
  have HS3 := hide (heap_alloc_new w1 (.cells #[.slice ma s.ms.length mc, .slice aa s.ar.length ac] 44))
  have HM3 := hide (hmr.go hA3)
  have HL3 := hide (HL1.out.below hA3)
  have HA3 := hide (ownsRow_kept har fun g hg => hA3.block g (own_lt har hg).2)
  have HEND := hide (fun W b hx (hW : Below w.heap.size w W) => ilEnd_yes (w := w) (w' := W) (b := b) hcode hok hx hW)
  have hl16 := hok.l16
  have hm4 := hok.m4
  have hlen := hok.len
  have hn24 := hok.n24
  have HALT := hide (arcs_lt hok)
  have hin : ∀ k, k < n → ∀ x ∈ L.getD (3 * k) [], 0 ≤ x ∧ x < (nm : Int) := by
    intro t ht x hx
    have htri := tri_rise (triOkOf hok.net ht)
    have := riseB_mem htri.1 x hx
    have := hok.hl
    omega
  have HIN := hide hin
  have hss : n + sizeL L ≤ 1048576 := hs
  obtain ⟨hc0, hc1⟩ := cells2 HN3.out
  clear hA3 hmr har HB1 HN1 HL1 hcode hok hin
  obtain ⟨i0, hi, hz0, hz1, hz2⟩ := info_split Try.info3
  go_upto_region 4 with fail
  generalize w1.alloc (.cells #[.slice ma s.ms.length mc, .slice aa s.ar.length ac] 44) = v3 at *
  obtain ⟨N, hN⟩ : ∃ N, Hid (s.ms.length = N) := ⟨_, rfl⟩
  rw [hN.out] at HS3 hm4 ⊢
  go_wp2_with fail
  clear hc0 hc1
  go_loopw [26] (fun i wr => ∃ t : Nat, t ≤ n ∧ i = .int .i64 t ∧ Hid (∀ u, u < t → LiveT s L u) ∧ Hid (Below v3.heap.size v3 wr)) (fun i _ => n - (intOf i).toNat)
  case atStart => exact ⟨0, Nat.zero_le _, rfl, fun u hu => absurd hu (by omega), Below.refl _ _⟩
  case round =>
    obtain ⟨t, ht, rfl, hlv, hbw⟩ := hrel
    have HBW := hide (HB3.out.trans (hbw.out.mono HB3.out.size))
    by_cases hlt : t < n
    rotate_left
    · have HE := hide (HEND.out wr true ⟨fun _ u hu => hlv.out u (by omega), fun _ => rfl⟩ HBW.out)
      have hk' : t = n := by omega
      clear hlv hbw
      subst hk'
      have htt : ¬ (t : Int) < (t : Int) := by omega
      go_wp2_with fail
      go_ret2
      exact HE.out
    obtain ⟨bo, hbo⟩ : ∃ b, wr.heap.size = b := ⟨_, rfl⟩
    obtain ⟨hs0, hs1⟩ := cells2 (keep HS3.out hbw.out)
    have htn : (t : Int) < (n : Int) := by omega
    have ht24 : (t : Int) ≤ 24 := by omega
    have HBV := hide hbw.out
    clear hbw
    go_wp2_with fail
    clear hs0 hs1
    go_loopw [11, 32] (fun o i wq => ∃ j m : Nat, j ≤ N ∧ i = .int .i64 j ∧ Hid (m ≤ j) ∧ Hid (wq.ownsRow bo 3 1 o m ((numsL (fun x => canT L (s.ms.getD x []) t) j).map (Value.int .i64))) ∧ Hid (Below bo wr wq ∧ Below v3.heap.size v3 wq)) (fun _ i _ => N - (intOf i).toNat)
    case atStart => exact ⟨0, 0, Nat.zero_le _, rfl, Nat.le_refl _, World.ownsRow_nil _ _ _ _, Below.refl _ _, HBV.out⟩
    case round =>
      obtain ⟨j, m, hj, rfl, hmj, hown, hbb⟩ := hrel
      by_cases hjN : j < N
      rotate_left
      · have hj' : j = N := by omega
        have hown' := hown.out
        rw [hj'] at hown'
        have hnl : numsL (fun x => canT L (s.ms.getD x []) t) N = ((List.range N).filter (fun x => canT L (s.ms.getD x []) t)).map fun (x : Nat) => (x : Int) := rfl
        rw [hnl] at hown'
        obtain ⟨oa, oc, rfl, hrow⟩ := own_row hown'
        have HS4 := hide (keep HS3.out hbb.out.2)
        have HEV := hide (everywhere_any ma aa oa N mc ac m oc _ ((List.range N).filter (fun x => canT L (s.ms.getD x []) t)) s.ar wr (ownsRow_kept HA3.out fun g hg => hbb.out.2.block g (own_lt HA3.out hg).2) hm4 hlen (by rw [← hN.out]; exact HALT.out) hrow (by have := hmj.out; omega) (fun x hx => (nums_mem.1 hx).1))
        have HB4 := hide (HB3.out.trans (hbb.out.2.mono HB3.out.size))
        have HBV2 := hide hbb.out.2
        obtain ⟨hs0, hs1⟩ := cells2 HS4.out
        clear hown hown' hrow hbb hmj hj hnl
        subst hj'
        have hjj : ¬ (j : Int) < (j : Int) := by omega
        go_wp2_with fail
        refine HEV.out.mono ?_
        rintro e w7 ⟨b, rfl, hbi, hb⟩
        rw [← hN.out] at hbi
        have HBX := hide (HB4.out.trans (hb.mono HB4.out.size))
        have HBY := hide (HBV2.out.trans (hb.mono HBV2.out.size))
        have hbl : b = true ↔ LiveT s L t := hbi.trans ⟨fun hh i hi => (CanTo.congr fun x => nums_mem).1 (hh i hi), fun hh i hi => (CanTo.congr fun x => nums_mem).2 (hh i hi)⟩
        cases b
        · have HE := hide (HEND.out w7 false ⟨fun e => (by cases e), fun e => hbl.2 (e t hlt)⟩ HBX.out)
          clear hbl hbi hb hs0 hs1
          go_wp2_with fail
          go_ret2
          exact HE.out
        · have HLV : Hid (∀ u, u < t + 1 → LiveT s L u) := fun u hu => by
            by_cases e : u = t
            · rw [e]; exact hbl.1 rfl
            · exact hlv.out u (by omega)
          clear hbl hbi hb hs0 hs1
          go_wp2_with fail
          go_roundw
          case rel => exact ⟨t + 1, by omega, by go_num, HLV, HBY⟩
          case measure => simp [intOf]; omega
      have hbv := hbb.out.2
      obtain ⟨mb, mg, mgc, hma, hmbl, hcell, hor⟩ := (HM3.out.go hbv).at_ (show j < s.ms.length by rw [hN.out]; exact hjN)
      obtain ⟨tb, toff, a0, n0, c0', a1, n1, c1', a2, n2, c2', hta, htb, htr, m0, m1, m2, r0, r1, r2⟩ := (HL3.out.below hbv).tri hlt
      obtain ⟨he0, he1, he2⟩ := rangeAt_cells3 htr
      obtain ⟨hd0, hd1⟩ := cells2 (keep HN3.out hbv)
      have hl := len_le L (3 * t)
      have q0 : n0 ≤ 1048576 := by have := r0.1; omega
      obtain ⟨mk, hmk⟩ : ∃ m, Hid (s.ms.getD j [] = m) := ⟨_, rfl⟩
      rw [hmk.out] at hor
      have HH := hide (can_any a0 a1 a2 (some ⟨mg, 0, none⟩) n0 n1 n2 c0' c1' c2' nm mgc _ mk wr r0 hor.row q0 (HIN.out t hlt))
      have hjNi : (j : Int) < (N : Int) := by omega
      have hj4 : (j : Int) ≤ 400 := by omega
      subst hma hta
      by_cases hh : canB (L.getD (3 * t) []) mk = true
      rotate_left
      · have hh' : canB (L.getD (3 * t) []) mk = false := by simpa using hh
        have HN := hide (numsL_no (f := (fun x => canT L (s.ms.getD x []) t)) (k := j) (by show canB _ _ = false; rw [hmk.out]; exact hh'))
        rw [hh'] at HH
        have HO1 := hown
        have HBB := hbb
        clear hh hh' hown hbb hbv hor htr m0 m1 m2 r0 r1 r2 hl q0 htb hmbl
        go_wp2_with fail
        refine HH.out.mono ?_
        rintro e w7 ⟨rfl, hb⟩
        have hzb : bo ≤ wr.heap.size := by rw [← hbo]; exact HBB.out.1.size
        have HO2 := hide (own_grow HO1.out hb)
        have HB2 := hide (And.intro (HBB.out.1.trans (hb.mono hzb)) (HBB.out.2.trans (hb.mono HBB.out.2.size)))
        clear hb hcell he0 he1 he2 hd0 hd1 HH HO1 HBB
        go_wp2_with fail
        go_roundw
        case rel => exact ⟨j + 1, m, by omega, by go_num, Nat.le_succ_of_le hmj.out, by rw [HN.out]; exact HO2, HB2⟩
        case measure => simp [intOf]; omega
      · have HN := hide (numsL_yes (f := (fun x => canT L (s.ms.getD x []) t)) (k := j) (by show canB _ _ = true; rw [hmk.out]; exact hh))
        rw [hh] at HH
        have HO0 := hown
        have HBB := hbb
        clear hh hown hbb hbv hor htr m0 m1 m2 r0 r1 r2 hl q0 htb hmbl
        go_wp2_with fail
        refine HH.out.mono ?_
        rintro e W1 ⟨rfl, hb⟩
        have hzb : bo ≤ wr.heap.size := by rw [← hbo]; exact HBB.out.1.size
        have HO1 := hide (own_grow HO0.out hb)
        have HB1 := hide (And.intro (HBB.out.1.trans (hb.mono hzb)) (HBB.out.2.trans (hb.mono HBB.out.2.size)))
        have hzw : bo ≤ W1.heap.size := Nat.le_trans hzb hb.size
        have hA2 := below_al W1 (.cells #[.int .i64 (j : Int)] 3)
        have HO2 := hide (HO1.out.alloc (.cells #[.int .i64 (j : Int)] 3))
        have HB2 := hide (HB1.out.1.trans (hA2.mono hzw))
        have HB2v := hide (HB1.out.2.trans (hA2.mono HB1.out.2.size))
        have HCE : Hid (∀ k u, ([.int .i64 (j : Int)] : List Value)[k]? = some u → (W1.alloc (.cells #[.int .i64 (j : Int)] 3)).cell? ((⟨W1.heap.size, 0, none⟩ : Addr).add k) = some u) := one_cell W1 _
        have H1c : Hid (∀ u ∈ ([.int .i64 (j : Int)] : List Value), u.oneCell' = true) := fun u hu => by simp at hu; subst hu; rfl
        have HXb := hide (show m + 1 ≤ maxLen by have := hmj.out; unfold maxLen; omega)
        have HYb := hide (show (m + 1) * 8 ≤ 140737488355328 by have := hmj.out; omega)
        have HZ := hide (show bo ≤ (W1.alloc (.cells #[.int .i64 (j : Int)] 3)).heap.size from Nat.le_trans hzw hA2.size)
        have hvb : v3.heap.size ≤ bo := by rw [← hbo]; exact HBV.out.size
        clear hA2 hb hcell he0 he1 he2 hd0 hd1 HH HO0 HBB
        go_wp2_with (refine wpList_append_own _ rfl (.tmp 44) (.tmp 46) 30 rfl bo 3 i0 (.int .i64 0) 1 8 Try.underlying30 hi hz0 hz1 hz2 rfl (by decide) u11 m _ rfl HO2.out ⟨W1.heap.size, 0, none⟩ 1 1 [.int .i64 (j : Int)] rfl rfl HCE.out H1c.out HXb.out HYb.out HZ.out ?_; intro v' W' r1 r2 r3)
        have HR1 : Hid (W'.ownsRow bo 3 1 v' (m + 1) ((numsL (fun x => canT L (s.ms.getD x []) t) (j + 1)).map (Value.int .i64))) := by
          show World.ownsRow _ _ _ _ _ _ _
          rw [HN.out, List.map_append]; exact r1
        have HB3' := hide (And.intro (own_below HO2.out r2 HB2.out HZ.out (Nat.le_refl _)) (own_below HO2.out r2 HB2v.out (Nat.le_trans hvb HZ.out) hvb))
        clear r1 r2 r3
        go_wp2_with fail
        go_roundw
        case rel => exact ⟨j + 1, m + 1, by omega, by go_num, Nat.succ_le_succ hmj.out, HR1, HB3'⟩
        case measure => simp [intOf]; omega
end Go.Proofs.Ytegabkegbhglfaa


/- Dead marks: the program's dead, and the search for the first. -/
namespace Go.Proofs.Ytegabkegbhglfaa
open Go.RowKit
set_option maxRecDepth 10000

/-- Whether one of the first n is as asked. -/
def anyE (Pd : Nat → Bool) (n : Nat) : Bool := (List.range n).any Pd

theorem anyE_yes {Pd : Nat → Bool} {n k : Nat} (hk : k < n) (h : Pd k = true) : anyE Pd n = true := by
  unfold anyE
  rw [List.any_eq_true]
  exact ⟨k, by simpa using hk, h⟩

theorem anyE_step {Pd : Nat → Bool} {k : Nat} (h : anyE Pd k = false) (he : Pd k = false) : anyE Pd (k + 1) = false := by
  unfold anyE at *
  rw [List.range_succ, List.any_append, h]
  simp [he]

theorem anyE_congr {f g : Nat → Bool} {n : Nat} (h : ∀ i, i < n → f i = g i) : anyE f n = anyE g n := by
  unfold anyE
  rw [Bool.eq_iff_iff, List.any_eq_true, List.any_eq_true]
  constructor
  · rintro ⟨i, hi, hh⟩; exact ⟨i, hi, by rw [← h i (by simpa using hi)]; exact hh⟩
  · rintro ⟨i, hi, hh⟩; exact ⟨i, hi, by rw [h i (by simpa using hi)]; exact hh⟩

theorem numsL_empty (f : Nat → Bool) (n : Nat) : ((numsL f n).length = 0) ↔ anyE f n = false := by
  unfold numsL anyE
  rw [List.length_map, List.length_eq_zero_iff, List.filter_eq_nil_iff, Bool.eq_false_iff, Ne, List.any_eq_true]
  constructor
  · rintro h ⟨x, h1, h2⟩; exact h x h1 h2
  · intro h x h1 h2; exact h ⟨x, h1, h2⟩

/-- Whether nothing can fire. -/
def deadM (n : Nat) (L : List (List Int)) (m : List Int) : Bool := !anyE (canT L m) n

def IdxE (Pd : Nat → Bool) (n : Nat) (w : World) (e : Ending) (w' : World) : Prop := ∃ z : Int, e = .returned (.int .i64 z) ∧ Hid (decide (0 ≤ z) = anyE Pd n) ∧ Below w.heap.size w w'

set_option maxHeartbeats 1000000 in
theorem indexE_any (s : Nat) (Pd : Nat → Bool) (B n : Nat) (L : List (List Int)) (w : World) (h : PartS w B (3 * n) (3 * n) L) (hn : n ≤ 24)
    (hc : ∀ W k, k < n → Calls Try.prog 77 #[.int .u16 (s : Int), .agg #[.int .u16 (maskL (L.getD (3 * k) []) : Int), .int .u16 (maskL (L.getD (3 * k + 1) []) : Int), .int .u16 (maskL (L.getD (3 * k + 2) []) : Int)]] W fun e W' => e = .returned (.bool (Pd k)) ∧ Below W.heap.size W W') :
    Calls Try.prog 143 #[.slice (some ⟨B, 0, none⟩) n n, .func (.func 77) #[.int .u16 (s : Int)] #[]] w fun e w' => IdxE Pd n w e w' := by
  have HP := hide h
  have HC := hide hc
  clear h hc
  go_enter Try.func143, Try.ntmps143
  go_wp2_with fail
  go_loopw [8] (fun i wr => ∃ k : Nat, k ≤ n ∧ i = .int .i64 k ∧ Hid (anyE Pd k = false) ∧ Hid (Below w.heap.size w wr)) (fun i _ => n - (intOf i).toNat)
  case atStart => exact ⟨0, Nat.zero_le _, rfl, rfl, Below.refl _ _⟩
  case round =>
    obtain ⟨k, hk, rfl, hu, hbw⟩ := hrel
    by_cases hlt : k < n
    rotate_left
    · have hk' : k = n := by omega
      subst hk'
      have HE : Hid (IdxE Pd k w (.returned (.int .i64 (-1))) wr) := ⟨-1, rfl, by rw [hu.out]; rfl, hbw.out⟩
      go_wp2_with fail
      go_ret
      exact HE.out
    obtain ⟨hc0, hc1, hc2⟩ := (HP.out.grow hbw.out).at2 hlt
    have HH := hide (HC.out wr k hlt)
    cases hh : Pd k
    · have HU := hide (anyE_step hu.out hh)
      rw [hh] at HH
      clear hh hu
      generalize maskL (L.getD (3 * k) []) = s0 at *
      generalize maskL (L.getD (3 * k + 1) []) = s1 at *
      generalize maskL (L.getD (3 * k + 2) []) = s2 at *
      go_wp2_with fail
      refine HH.out.mono ?_
      rintro e w1 ⟨rfl, hb⟩
      have HB := hide (hbw.out.trans (hb.mono hbw.out.size))
      clear hb HH hc0 hc1 hc2
      go_wp2_with fail
      go_roundw
      case rel => exact ⟨k + 1, by omega, by go_num, HU, HB⟩
      case measure => simp [intOf]; omega
    · have HY := hide (anyE_yes hlt hh)
      rw [hh] at HH
      clear hh hu
      generalize maskL (L.getD (3 * k) []) = s0 at *
      generalize maskL (L.getD (3 * k + 1) []) = s1 at *
      generalize maskL (L.getD (3 * k + 2) []) = s2 at *
      go_wp2_with fail
      refine HH.out.mono ?_
      rintro e w1 ⟨rfl, hb⟩
      have HE : Hid (IdxE Pd n w (.returned (.int .i64 (k : Int))) w1) := ⟨k, rfl, by rw [HY.out]; simp [Hid], hbw.out.trans (hb.mono hbw.out.size)⟩
      clear hb HH hc0 hc1 hc2
      go_wp2_with fail
      go_ret
      exact HE.out

set_option maxHeartbeats 400000 in
theorem containsE_any (s : Nat) (Pd : Nat → Bool) (B n : Nat) (L : List (List Int)) (w : World) (h : PartS w B (3 * n) (3 * n) L) (hn : n ≤ 24)
    (hc : ∀ W k, k < n → Calls Try.prog 77 #[.int .u16 (s : Int), .agg #[.int .u16 (maskL (L.getD (3 * k) []) : Int), .int .u16 (maskL (L.getD (3 * k + 1) []) : Int), .int .u16 (maskL (L.getD (3 * k + 2) []) : Int)]] W fun e W' => e = .returned (.bool (Pd k)) ∧ Below W.heap.size W W') :
    Calls Try.prog 126 #[.slice (some ⟨B, 0, none⟩) n n, .func (.func 77) #[.int .u16 (s : Int)] #[]] w fun e w' => e = .returned (.bool (anyE Pd n)) ∧ Below w.heap.size w w' := by
  have HI := hide (indexE_any s Pd B n L w h hn hc)
  clear h hc
  go_enter Try.func126, Try.ntmps126
  go_wp2_with fail
  refine HI.out.mono ?_
  rintro e w1 ⟨z, rfl, hz, hb⟩
  have HB := hide hb
  clear hb HI
  go_wp2_with fail
  go_ret
  exact ⟨ret_bool hz.out, HB.out⟩

set_option maxHeartbeats 1000000 in
theorem dead_any {p : Int} {n l : Nat} {L : List (List Int)} {ys : List Int} {bg : Int} {s : Sea} (hok : SpOk p n l L ys bg s) (BS mb G N : Nat) (av : Value) {m : List Int} (hm : goodB p m = true) (w : World) (h : PartS w BS (3 * n) (3 * n) L) :
    Calls Try.prog 87 #[.agg (spV p n BS mb G N av), .agg (packOf m l)] w fun e w' => e = .returned (.bool (deadM n L m)) ∧ Below w.heap.size w w' := by
  have hAl := (below_al w (.cells (spV p n BS mb G N av) 102)).trans ((below_al (w.alloc (.cells (spV p n BS mb G N av) 102)) (.cells (packOf m l) 82)).mono (by simp))
  have HN0 := hide (keep (heap_alloc_new w (.cells (spV p n BS mb G N av) 102)) (below_al (w.alloc (.cells (spV p n BS mb G N av) 102)) (.cells (packOf m l) 82)))
  have HS0 := hide (heap_alloc2_new w (.cells (spV p n BS mb G N av) 102) (.cells (packOf m l) 82))
  have HP := hide (h.grow hAl)
  have HB0 := hide hAl
  have HF := hide (fun i => (goodB_parts hm).2.2 i)
  have hn24 := hok.n24
  obtain ⟨M, hM⟩ : ∃ M, Hid (maskL (posL (fOf m l) 16) = M) := ⟨_, rfl⟩
  have HD : Hid (deadM n L m = !anyE (fun t => subB (maskL (L.getD (3 * t) [])) M) n) := by
    show _ = _
    unfold deadM
    rw [anyE_congr fun i hi => ?_]
    rw [← hM.out]
    exact ((step_links hok.net hm hok.hl hi).1).symm
  have HT := hide (fun k (hk : k < n) => mask16' (tri_rise (triOkOf hok.net hk)).1 hok.hp)
  clear h hAl hok hm
  go_enter Try.func87, Try.ntmps87
  go_upto_region 1 with fail
  generalize (w.alloc (.cells (spV p n BS mb G N av) 102)).alloc (.cells (packOf m l) 82) = v at *
  obtain ⟨⟨hc0, hc1, hc2, hc3, hc4⟩, _⟩ := cells5 HN0.out
  have HB1 := hide HB0.out.drew
  have HP1 := hide (HP.out.grow (Below.refl _ v).drew)
  have hc1' : v.drew.cell? ⟨w.heap.size, 1, none⟩ = some (.slice (some ⟨BS, 0, none⟩) n n) := hc1
  have hs' : v.drew.heap[w.heap.size + 1]? = some (.cells (packOf m l) 82 (0, 0)) := keep HS0.out (Below.refl _ v).drew
  have HNd := hide (keep HN0.out (Below.refl _ v).drew)
  refine wp_region_held_drew (S := fun W => W.cell? ⟨w.heap.size, 1, none⟩ = some (.slice (some ⟨BS, 0, none⟩) n n) ∧ W.heap[w.heap.size + 1]? = some (.cells (packOf m l) 82 (0, 0))) (by kernel_rfl) ⟨hc1', hs'⟩ (fun hHeld => ?_)
  clear hc0 hc1 hc2 hc3 hc4 HN0 HP HB0 hc1'
  generalize v.drew = v1 at *
  refine take_yes (i := 0) (some 5) (.pointer (some ⟨w.heap.size, 0, none⟩)) rfl rfl (by kernel_rfl) (by kernel_rfl) (by kernel_rfl) (fun _ _ _ h => h) (by rfl) ?_ (by assumption) ?_
  · intro W' hSw
    obtain ⟨hz0, hz1⟩ := hSw
    go_simp
  simp only [Act.put, List.setIfInBounds_toArray, List.set_cons_zero, List.set_cons_succ]
  refine take_yes (i := 1) (some 6) (.pointer (some ⟨w.heap.size, 1, none⟩)) rfl rfl (by kernel_rfl) (by kernel_rfl) (by kernel_rfl) (fun _ _ _ h => h) (by rfl) ?_ (by assumption) ?_
  · intro W' hSw
    obtain ⟨hz0, hz1⟩ := hSw
    go_simp
  simp only [Act.put, List.setIfInBounds_toArray, List.set_cons_zero, List.set_cons_succ]
  refine take_yes (i := 2) (some 7) (.slice (some ⟨BS, 0, none⟩) n n) rfl rfl (by kernel_rfl) (by kernel_rfl) (by kernel_rfl) (fun _ _ _ h => h) (by rfl) ?_ (by assumption) ?_
  · intro W' hSw
    obtain ⟨hz0, hz1⟩ := hSw
    go_simp
  simp only [Act.put, List.setIfInBounds_toArray, List.set_cons_zero, List.set_cons_succ]
  refine take_yes (i := 3) (some 8) (.agg (packOf m l)) rfl rfl (by kernel_rfl) (by kernel_rfl) (by kernel_rfl) (fun _ _ _ h => h) (by rfl) ?_ (by assumption) ?_
  · intro W' hSw
    obtain ⟨hz0, hz1⟩ := hSw
    exact exec_load_row 82 _ rfl _ rfl 82 _ _ _ hz1 Try.underlying82 rfl (by rw [packOf_size]; exact Try.size82)
  simp only [Act.put, List.setIfInBounds_toArray, List.set_cons_zero, List.set_cons_succ]
  refine call_next (i := 4) (some 9) rfl rfl (by kernel_rfl) (by rfl) 76 _ _ _ rfl Try.func76 (by decide) rfl #[.agg (packOf m l)] (mapw1 _ _ _ rfl) _ (markedI_any (fOf m l) v1 (fun i => by have := HF.out i; unfold fOf; split <;> omega)) ?_
  rintro e w1 ⟨rfl, rfl⟩
  have hA := below_al v1 (.cells (tokF (fOf m l)) 82)
  have HB2 := hide (HB1.out.trans (hA.mono HB1.out.size))
  have HP2 := hide (HP1.out.grow hA)
  have hs2 := keep hs' hA
  have HN2 := hide (keep HNd.out hA)
  rw [hM.out]
  refine ⟨_, rfl, ⟨(cells5 HN2.out).1.2.1, hs2⟩, fun _ => ?_⟩
  simp only [Act.put, List.setIfInBounds_toArray, List.set_cons_zero, List.set_cons_succ]
  clear HB1 HP1 hs' HNd hA hHeld
  generalize v1.alloc (.cells (tokF (fOf m l)) 82) = v2 at *
  refine take_yes (i := 5) (some 10) (.func (.func 77) #[.int .u16 (M : Int)] #[]) rfl rfl (by kernel_rfl) (by kernel_rfl) (by kernel_rfl) (fun _ _ _ h => h) (by rfl) ?_ (by assumption) ?_
  · intro W' hSw
    obtain ⟨hz0, hz1⟩ := hSw
    go_simp
  simp only [Act.put, List.setIfInBounds_toArray, List.set_cons_zero, List.set_cons_succ]
  refine call_next (i := 6) (some 11) rfl rfl (by kernel_rfl) (by rfl) 126 _ _ _ rfl Try.func126 (by decide) rfl #[.slice (some ⟨BS, 0, none⟩) n n, .func (.func 77) #[.int .u16 (M : Int)] #[]] (mapw2 _ _ _ _ _ rfl rfl) _ (containsE_any M (fun t => subB (maskL (L.getD (3 * t) [])) M) BS n L v2 HP2.out hn24 (fun W k hk => (enables_any M _ _ _ W (HT.out k hk)).mono (by rintro e w' ⟨rfl, rfl⟩; exact ⟨rfl, below_al _ _⟩))) ?_
  rintro e w3 ⟨rfl, hb⟩
  have HB3 := hide (HB2.out.trans (hb.mono HB2.out.size))
  refine ⟨_, rfl, ⟨(cells5 (keep HN2.out hb)).1.2.1, keep hs2 hb⟩, fun _ => ?_⟩
  simp only [Act.put, List.setIfInBounds_toArray, List.set_cons_zero, List.set_cons_succ]
  clear HB2 HP2 hs2 HN2 hb HT HF
  generalize anyE (fun t => subB (maskL (L.getD (3 * t) [])) M) n = x at *
  refine take_yes (i := 7) (some 12) (.bool (!x)) rfl rfl (by kernel_rfl) (by kernel_rfl) (by kernel_rfl) (fun _ _ _ h => h) (by rfl) ?_ (by assumption) ?_
  · intro W' hSw
    obtain ⟨hz0, hz1⟩ := hSw
    go_simp
  simp only [Act.put, List.setIfInBounds_toArray, List.set_cons_zero, List.set_cons_succ]
  refine take_yes (i := 8) (some 4) (.bool (!x)) rfl rfl (by kernel_rfl) (by kernel_rfl) (by kernel_rfl) (fun _ _ _ h => h) (by rfl) ?_ (by assumption) ?_
  · intro W' hSw
    obtain ⟨hz0, hz1⟩ := hSw
    go_simp
  simp only [Act.put, List.setIfInBounds_toArray, List.set_cons_zero, List.set_cons_succ]
  refine wpAnyH_done (by kernel_rfl) ?_ _
  go_wp2_with fail
  go_ret
  exact ⟨ret_bool HD.out.symm, HB3.out⟩

/-- The first mark that is as asked is the k-th. -/
def FdAt (f : List Int → Bool) (ms : List (List Int)) (k : Nat) : Prop := k < ms.length ∧ (∀ i, i < k → f (ms.getD i []) = false) ∧ f (ms.getD k []) = true

def IdxT (f : List Int → Bool) (ms : List (List Int)) (w : World) (e : Ending) (w' : World) : Prop :=
  ∃ z : Int, e = .returned (.int .i64 z) ∧ Hid ((∃ k : Nat, z = (k : Int) ∧ FdAt f ms k) ∨ (z = -1 ∧ ∀ i, i < ms.length → f (ms.getD i []) = false)) ∧ Below w.heap.size w w'

set_option maxHeartbeats 1000000 in
theorem indexT_any {p : Int} {n l : Nat} {L : List (List Int)} {ys : List Int} {bg : Int} {s : Sea} (hok : SpOk p n l L ys bg s) (BS mb G : Nat) (av : Value) (w : World) (h : PartS w BS (3 * n) (3 * n) L) (ht : TokAll w G l s.ms) :
    Calls Try.prog 86 #[.slice (some ⟨G, 0, none⟩) s.ms.length s.ms.length, .func (.func 87) #[.agg (spV p n BS mb G s.ms.length av)] #[]] w fun e w' => IdxT (deadM n L) s.ms w e w' := by
  have HP := hide h
  have HT := hide ht
  have HOK := hide hok
  have hm4 := hok.m4
  clear h ht hok
  obtain ⟨N, hN⟩ : ∃ N, Hid (s.ms.length = N) := ⟨_, rfl⟩
  obtain ⟨V, hV⟩ : ∃ V, Hid (spV p n BS mb G s.ms.length av = V) := ⟨_, rfl⟩
  have HD := hide (fun W (hW : Below w.heap.size w W) k (hk : k < s.ms.length) => dead_any HOK.out BS mb G s.ms.length av (HOK.out.ok.goodAt hk) W (HP.out.grow hW))
  rw [hV.out] at HD ⊢
  rw [hN.out] at HD hm4 ⊢
  go_enter Try.func86, Try.ntmps86
  go_wp2_with fail
  go_loopw [8] (fun i wr => ∃ k : Nat, k ≤ N ∧ i = .int .i64 k ∧ Hid (∀ i, i < k → deadM n L (s.ms.getD i []) = false) ∧ Hid (Below w.heap.size w wr)) (fun i _ => N - (intOf i).toNat)
  case atStart => exact ⟨0, Nat.zero_le _, rfl, fun i hi => absurd hi (by omega), Below.refl _ _⟩
  case round =>
    obtain ⟨k, hk, rfl, hu, hbw⟩ := hrel
    by_cases hlt : k < N
    rotate_left
    · have hk' : k = N := by omega
      have HE : Hid (IdxT (deadM n L) s.ms w (.returned (.int .i64 (-1))) wr) := ⟨-1, rfl, .inr ⟨rfl, fun i hi => hu.out i (by rw [hk', ← hN.out]; exact hi)⟩, hbw.out⟩
      go_wp2_with fail
      go_ret
      exact HE.out
    have hrg := (HT.out.grow hbw.out).cells k (by rw [hN.out]; exact hlt)
    have HH := hide (HD.out wr hbw.out k hlt)
    have hkN : (k : Int) < (N : Int) := by omega
    have hk0 : (0 : Int) ≤ (k : Int) := by omega
    obtain ⟨m, hm⟩ : ∃ m, Hid (s.ms.getD k [] = m) := ⟨_, rfl⟩
    obtain ⟨d, hd⟩ : ∃ d, Hid (deadM n L m = d) := ⟨_, rfl⟩
    rw [hm.out] at hrg HH
    rw [hd.out] at HH
    cases d
    · have HU : Hid (∀ i, i < k + 1 → deadM n L (s.ms.getD i []) = false) := fun i hi => by
        by_cases e : i = k
        · rw [e, hm.out]; exact hd.out
        · exact hu.out i (by omega)
      clear hu hm hd
      go_wp2_with ((show wpList _ _ _ (⟨some 15, .load 82 (.tmp 14), _, _, _, _⟩ :: _) _ _); refine wpList_load_tokQ rfl (.tmp 14) rfl G (k * 16) rfl l m hrg ?_)
      refine HH.out.mono ?_
      rintro e w1 ⟨rfl, hb⟩
      have HB := hide (hbw.out.trans (hb.mono hbw.out.size))
      clear hb HH hrg
      go_wp2_with fail
      go_roundw
      case rel => exact ⟨k + 1, by omega, by go_num, HU, HB⟩
      case measure => simp [intOf]; omega
    · have HY : Hid (FdAt (deadM n L) s.ms k) := ⟨by rw [hN.out]; exact hlt, hu.out, by rw [hm.out]; exact hd.out⟩
      clear hu hm hd
      go_wp2_with ((show wpList _ _ _ (⟨some 15, .load 82 (.tmp 14), _, _, _, _⟩ :: _) _ _); refine wpList_load_tokQ rfl (.tmp 14) rfl G (k * 16) rfl l m hrg ?_)
      refine HH.out.mono ?_
      rintro e w1 ⟨rfl, hb⟩
      have HE : Hid (IdxT (deadM n L) s.ms w (.returned (.int .i64 (k : Int))) w1) := ⟨k, rfl, .inl ⟨k, rfl, HY.out⟩, hbw.out.trans (hb.mono hbw.out.size)⟩
      clear hb HH hrg
      go_wp2_with fail
      go_ret
      exact HE.out
end Go.Proofs.Ytegabkegbhglfaa


/- FirstDead of both. -/
namespace Go.Proofs.Ytegabkegbhglfaa
open Go.RowKit
set_option maxRecDepth 10000

def fdOk (p : Int) (n : Nat) (L : List (List Int)) (ys : List Int) (bg : Int) : Bool := decide (spCode p n L ys bg = 1) && (spSea p n L ys bg).ms.any (deadM n L)
def fdR (p : Int) (n : Nat) (L : List (List Int)) (ys : List Int) (bg : Int) : List Int := if fdOk p n L ys bg then ((spSea p n L ys bg).ms.find? (deadM n L)).getD [] else []

theorem fd_at {f : List Int → Bool} {ms : List (List Int)} {k : Nat} (h : FdAt f ms k) : ms.any f = true ∧ ms.find? f = some (ms.getD k []) := by
  obtain ⟨hk, h1, h2⟩ := h
  have e : ∀ i (hi : i < ms.length), ms.getD i [] = ms[i] := fun i hi => by rw [List.getD_eq_getElem?_getD, List.getElem?_eq_getElem hi]; rfl
  refine ⟨List.any_eq_true.2 ⟨_, List.getElem_mem hk, by rw [← e k hk]; exact h2⟩, ?_⟩
  rw [List.find?_eq_some_iff_getElem]
  refine ⟨h2, k, hk, (e k hk).symm, fun j hj => ?_⟩
  have := h1 j hj
  rw [e j (by omega)] at this
  simp [this]

theorem fd_none {f : List Int → Bool} {ms : List (List Int)} (h : ∀ i, i < ms.length → f (ms.getD i []) = false) : ms.any f = false := by
  rw [Bool.eq_false_iff, Ne, List.any_eq_true]
  rintro ⟨x, hx, hf⟩
  obtain ⟨i, hi, rfl⟩ := List.getElem_of_mem hx
  have := h i hi
  rw [List.getD_eq_getElem?_getD, List.getElem?_eq_getElem hi] at this
  simp at this; rw [this] at hf; cases hf

theorem fdOk_code {p : Int} {n : Nat} {L : List (List Int)} {ys : List Int} {bg : Int} (h : spCode p n L ys bg ≠ 1) : fdOk p n L ys bg = false := by unfold fdOk; simp [h]
theorem fdOk_none {p : Int} {n l : Nat} {L : List (List Int)} {ys : List Int} {bg : Int} {s : Sea} (hs : SpOk p n l L ys bg s) (h : ∀ i, i < s.ms.length → deadM n L (s.ms.getD i []) = false) : fdOk p n L ys bg = false := by unfold fdOk; rw [hs.is, fd_none h, Bool.and_false]
theorem fdOk_at {p : Int} {n l : Nat} {L : List (List Int)} {ys : List Int} {bg : Int} {s : Sea} (hc : spCode p n L ys bg = 1) (hs : SpOk p n l L ys bg s) {k : Nat} (h : FdAt (deadM n L) s.ms k) : fdOk p n L ys bg = true ∧ fdR p n L ys bg = s.ms.getD k [] := by
  obtain ⟨h1, h2⟩ := fd_at h
  have e : fdOk p n L ys bg = true := by unfold fdOk; rw [hs.is, h1, hc]; rfl
  refine ⟨e, ?_⟩
  unfold fdR; rw [e, if_pos rfl, hs.is, h2]; rfl

theorem fdend_noS {p : Int} {n : Nat} {L : List (List Int)} {ys : List Int} {bg : Int} {w w' : World} (h : fdOk p n L ys bg = false) (hb : Below w.heap.size w w') : WEnd (fdOk p n L ys bg) (fdR p n L ys bg) w (.returned (.tuple #[.slice none 0 0, .bool false])) w' := by
  refine ⟨none, 0, 0, by rw [h], ⟨?_, .inl rfl⟩, hb⟩
  unfold fdR; rw [h]; rfl

theorem fdend_noI {p : Int} {n : Nat} {L : List (List Int)} {ys : List Int} {bg : Int} {w w' : World} (h : fdOk p n L ys bg = false) (hb : Below w.heap.size w w') : OEnd (fdOk p n L ys bg) (fdR p n L ys bg) w (.returned (.tuple #[.slice none 0 0, .bool false])) w' := by
  refine ⟨none, w.heap.size, 0, 0, by rw [h], ⟨?_, .inl rfl⟩, Nat.le_refl _, hb⟩
  unfold fdR; rw [h]; rfl

theorem fdend_yesS {p : Int} {n l : Nat} {L : List (List Int)} {ys : List Int} {bg : Int} {s : Sea} {w w' : World} (hc : spCode p n L ys bg = 1) (hs : SpOk p n l L ys bg s) {k : Nat} (h : FdAt (deadM n L) s.ms k) {g c : Nat} (ho : OutR w' g l (s.ms.getD k [])) (hb : Below w.heap.size w w') : WEnd (fdOk p n L ys bg) (fdR p n L ys bg) w (.returned (.tuple #[.slice (some ⟨g, 0, none⟩) l c, .bool true])) w' := by
  obtain ⟨h1, h2⟩ := fdOk_at hc hs h
  exact ⟨_, l, c, by rw [h1], by rw [h2]; exact ho.row, hb⟩

theorem fdend_yesI {p : Int} {n l : Nat} {L : List (List Int)} {ys : List Int} {bg : Int} {s : Sea} {w w' : World} (hc : spCode p n L ys bg = 1) (hs : SpOk p n l L ys bg s) {k : Nat} (h : FdAt (deadM n L) s.ms k) {g : Nat} (ho : w'.heap[g]? = some (.cells (cellsOf (s.ms.getD k [])) 3 (0, 0))) (hg : w.heap.size ≤ g) (hb : Below w.heap.size w w') : OEnd (fdOk p n L ys bg) (fdR p n L ys bg) w (.returned (.tuple #[.slice (some ⟨g, 0, none⟩) l l, .bool true])) w' := by
  obtain ⟨h1, h2⟩ := fdOk_at hc hs h
  have hl := (hs.goodAt h.1).1
  refine ⟨_, g, l, l, by rw [h1], ?_, hg, hb⟩
  rw [h2]
  generalize s.ms.getD k [] = m at *
  refine ⟨hl, .inr ⟨rfl, _, ho, by simp [cellsOf, hl], fun i hi => ?_⟩⟩
  simp [cellsOf, List.getElem?_eq_getElem (show i < m.length by omega)]

theorem listF_fOf {m : List Int} {l : Nat} (h : m.length = l) : listF (fOf m l) l = m := by
  apply List.ext_getElem
  · rw [listF_len]; exact h.symm
  · intro i h1 h2
    have hi : i < l := by rw [listF_len] at h1; exact h1
    simp [listF, fOf, hi, List.getElem?_eq_getElem h2]

theorem dead_len {n : Nat} {L : List (List Int)} {m : List Int} {k : Nat} (h : (numsL (fun i => canB (L.getD (3 * i) []) m) n).length = k) : ((k : Int) == 0) = deadM n L m := by
  have h2 := numsL_empty (fun i => canB (L.getD (3 * i) []) m) n
  unfold deadM
  have e : anyE (canT L m) n = anyE (fun i => canB (L.getD (3 * i) []) m) n := rfl
  rw [e]
  by_cases hk : k = 0
  · rw [h2.1 (by omega), hk]; rfl
  · have : anyE (fun i => canB (L.getD (3 * i) []) m) n = true := by
      cases hx : anyE (fun i => canB (L.getD (3 * i) []) m) n
      · exact absurd (h2.2 hx) (by omega)
      · rfl
    rw [this]; simp; omega

theorem exec_load_tokQ {o : Oper} {a : Act} {w : World} (x : Operand) (ho : o.op = .load 82 x) (g k l : Nat) (hx : a.eval x = .pointer (some ⟨g, k, none⟩)) (m : List Int) (hc : w.rangeAt g k (encQ l m)) : (execOp a.eval o).run Try.prog w = .ok (.value (.agg (packOf m l))) w := by
  have h := run_loadVar_mid (P := Try.prog) w g k 82 (encQ l m) _ hc Try.underlying82 rfl (by rw [encQ_len]; exact Try.size82)
  unfold execOp
  simp only [ho, hx, Instr.loadAt, Instr.sureAddr, Sem.run_bind, Sem.run_pure, Result.andThen_ok, h]
  simp [encQ]


set_option maxHeartbeats 1000000 in
theorem firstS_any (p : Int) (a am : Option Addr) (n c nm cm : Nat) (L : List (List Int)) (ys : List Int) (bg : Int) (w : World) (h : Lists w a (3 * n) L) (rm : Row w am nm ys) (hs : sizeN n L ≤ 1048576) (hnm : nm ≤ 1048576) :
    Calls Try.prog 33 #[.agg #[.int .i64 p, .slice a n c], .slice am nm cm, .int .i64 bg] w fun e w' => WEnd (fdOk p n L ys bg) (fdR p n L ys bg) w e w' := by
  have hAl := below_al w (.cells #[.int .i64 p, .slice a n c] 39)
  have HN0 := hide (heap_alloc_new w (.cells #[.int .i64 p, .slice a n c] 39))
  have HX := hide (all_any4 p a am n c nm cm L ys bg _ (h.below hAl) (rm.below hAl) hs hnm)
  have HL0 := hide (h.below hAl)
  have HB0 := hide hAl
  clear h rm hAl
  go_enter Try.func33, Try.ntmps33
  go_wp2_with fail
  generalize w.alloc (.cells #[.int .i64 p, .slice a n c] 39) = v0 at *
  refine HX.out.mono ?_
  rintro e w1 ⟨hb1, hxx⟩
  have HN1 := hide (keep HN0.out hb1)
  have HL1 := hide (HL0.out.below hb1)
  have HB1 := hide (HB0.out.trans (hb1.mono HB0.out.size))
  clear hb1 HN0 HB0 HX HL0
  rcases hxx with ⟨hcode, s, ma, mc, aa, ac, hok, rfl, hmr, har⟩ | ⟨hcode, rfl⟩
  rotate_left
  · have HN := hide (fdend_noS (w := w) (fdOk_code hcode) (HB1.out.trans ((below_al w1 (.cells #[.slice none 0 0, .slice none 0 0] 44)).mono HB1.out.size)))
    clear hcode
    go_wp2_with fail
    go_ret2
    exact HN.out
  have hA3 := below_al w1 (.cells #[.slice ma s.ms.length mc, .slice aa s.ar.length ac] 44)
  have HB3 := hide (HB1.out.trans (hA3.mono HB1.out.size))
  have HN3 := hide (keep HN1.out hA3)
  have HS3 := hide (heap_alloc_new w1 (.cells #[.slice ma s.ms.length mc, .slice aa s.ar.length ac] 44))
  have HM3 := hide (hmr.go hA3)
  have HL3 := hide (HL1.out.below hA3)
  have HNO := hide (fun W hx (hW : Below w.heap.size w W) => fdend_noS (w' := W) (w := w) (fdOk_none hok hx) hW)
  have HYE := hide (fun W k g cc hx ho (hW : Below w.heap.size w W) => fdend_yesS (w' := W) (w := w) (k := k) (g := g) (c := cc) hcode hok hx ho hW)
  have hl16 := hok.l16
  have hm4 := hok.m4
  have hn24 := hok.n24
  have HLE := hide (fun k (hk : k < s.ms.length) => (hok.goodAt hk).1)
  have hin : ∀ k, k < n → ∀ x ∈ L.getD (3 * k) [], 0 ≤ x ∧ x < (nm : Int) := by
    intro t ht x hx
    have htri := tri_rise (triOkOf hok.net ht)
    have := riseB_mem htri.1 x hx
    have := hok.hl
    omega
  have HIN := hide hin
  obtain ⟨hs0, hs1⟩ := cells2 HS3.out
  clear hA3 hmr har HB1 HN1 HL1 hcode hok hin HS3
  go_upto_region 4 with fail
  generalize w1.alloc (.cells #[.slice ma s.ms.length mc, .slice aa s.ar.length ac] 44) = v3 at *
  obtain ⟨N, hN⟩ : ∃ N, Hid (s.ms.length = N) := ⟨_, rfl⟩
  rw [hN.out] at hs0 hm4 HLE ⊢
  go_wp2_with fail
  clear hs0 hs1
  go_loopw [24] (fun i wr => ∃ k : Nat, k ≤ N ∧ i = .int .i64 k ∧ Hid (∀ i, i < k → deadM n L (s.ms.getD i []) = false) ∧ Hid (Below v3.heap.size v3 wr)) (fun i _ => N - (intOf i).toNat)
  case atStart => exact ⟨0, Nat.zero_le _, rfl, fun i hi => absurd hi (by omega), Below.refl _ _⟩
  case round =>
    obtain ⟨k, hk, rfl, hu, hbw⟩ := hrel
    have hBw := HB3.out.trans (hbw.out.mono HB3.out.size)
    by_cases hlt : k < N
    rotate_left
    · have hk' : k = N := by omega
      have HE := hide (HNO.out wr (fun i hi => hu.out i (by rw [hk', ← hN.out]; exact hi)) hBw)
      go_wp2_with fail
      go_ret2
      exact HE.out
    obtain ⟨b, g', c', hma, hbl, hcell, hor⟩ := (HM3.out.go hbw.out).at_ (show k < s.ms.length by rw [hN.out]; exact hlt)
    obtain ⟨hd0, hd1⟩ := cells2 (keep HN3.out hbw.out)
    subst hma
    obtain ⟨m, hm⟩ : ∃ m, Hid (s.ms.getD k [] = m) := ⟨_, rfl⟩
    have hml := HLE.out k hlt
    rw [hm.out] at hor hml
    have HEN := hide (enabledS_any p a (some ⟨g', 0, none⟩) n c nm c' L m wr (HL3.out.below hbw.out) hor.row hs hn24 HIN.out)
    have HBw := hide hBw
    have HOR := hide hor
    have hkN : (k : Int) < (N : Int) := by omega
    have hk0 : (0 : Int) ≤ (k : Int) := by omega
    have hk9 : (k : Int) ≤ 400 := by omega
    clear hor hml hBw hbl
    go_wp2_with fail
    refine HEN.out.mono ?_
    rintro e w4 ⟨v, mc', rfl, hown, hb⟩
    obtain ⟨oa, ob, oc, rfl, _, hob⟩ := own_ob hown
    have hz := dead_len (L := L) (m := m) (n := n) hob.1
    have HB4 := hide (hbw.out.trans (hb.mono hbw.out.size))
    have HO4 := hide (own_any g' 0 nm c' m w4 (HOR.out.grow hb).row (by omega))
    have HBB := hide (HBw.out.trans (hb.mono HBw.out.size))
    obtain ⟨d, hd⟩ : ∃ d, Hid (deadM n L m = d) := ⟨_, rfl⟩
    rw [hd.out] at hz
    clear hown hob hb HEN hcell hd0 hd1
    cases d
    · have HU : Hid (∀ i, i < k + 1 → deadM n L (s.ms.getD i []) = false) := fun i hi => by
        by_cases e : i = k
        · rw [e, hm.out]; exact hd.out
        · exact hu.out i (by omega)
      clear hu hm hd HO4
      go_wp2_with fail
      go_roundw
      case rel => exact ⟨k + 1, by omega, by go_num, HU, HB4⟩
      case measure => simp [intOf]; omega
    · have HF : Hid (FdAt (deadM n L) s.ms k) := ⟨by rw [hN.out]; exact hlt, hu.out, by rw [hm.out]; exact hd.out⟩
      go_wp2_with fail
      refine HO4.out.mono ?_
      rintro e w5 ⟨g5, c5, rfl, hg5, hc5, hor5, hb5⟩
      have HE := hide (HYE.out w5 k g5 c5 HF.out (by rw [hm.out]; exact hor5) (HBB.out.trans (hb5.mono HBB.out.size)))
      clear hor5 hb5
      go_wp2_with fail
      go_ret2
      exact HE.out
end Go.Proofs.Ytegabkegbhglfaa


/- What a space that is told whole holds: where one can always fire, no mark is dead and no transition; a bound is at least each mark's number. -/
namespace Go.Proofs.Ytegabkegbhglfaa
open Go.RowKit

theorem oneS_arc {p : Int} {B : Nat} {L : List (List Int)} {s s' : Sea} {m : List Int} {k t : Nat} (he : oneS p L B m k t s = .ok s') : ∃ j, s'.ar = s.ar ++ [(k, t, j)] ∧ s.ms <+: s'.ms := by
  unfold oneS at he
  by_cases h1 : goodB p (fireT L m t) = true
  · rw [if_pos h1] at he
    unfold meetS at he
    by_cases h2 : fireT L m t ∈ s.ms
    · rw [if_pos h2] at he; cases he; exact ⟨_, rfl, List.prefix_refl _⟩
    · rw [if_neg h2] at he
      by_cases h3 : s.ms.length = B
      · rw [if_pos h3] at he; cases he
      · rw [if_neg h3] at he; cases he; exact ⟨_, rfl, List.prefix_append _ _⟩
  · rw [if_neg h1] at he; cases he

theorem rowS_arc {p : Int} {B : Nat} {L : List (List Int)} {m : List Int} {k : Nat} : ∀ {ts : List Nat} {s s' : Sea}, rowS p L B m k ts s = .ok s' →
    s.ms <+: s'.ms ∧ (∀ a ∈ s'.ar, a ∈ s.ar ∨ (a.1 = k ∧ canT L m a.2.1 = true)) ∧ (∀ a ∈ s.ar, a ∈ s'.ar) ∧ (∀ t ∈ ts, canT L m t = true → ∃ a ∈ s'.ar, a.2.1 = t)
  | [], s, s', he => by
    unfold rowS at he; cases he
    exact ⟨List.prefix_refl _, fun a ha => .inl ha, fun a ha => ha, fun t ht => by simp at ht⟩
  | t :: r, s, s', he => by
    unfold rowS at he
    by_cases hc : canT L m t = true
    · rw [if_pos hc] at he
      cases h1 : oneS p L B m k t s with
      | error c => rw [h1] at he; cases he
      | ok s1 =>
        rw [h1] at he
        obtain ⟨j, e1, e2⟩ := oneS_arc h1
        obtain ⟨b1, b2, b3, b4⟩ := rowS_arc he
        refine ⟨e2.trans b1, fun a ha => ?_, fun a ha => b3 a (by rw [e1]; simp [ha]), fun x hx hcx => ?_⟩
        · rcases b2 a ha with h | h
          · rw [e1] at h
            rcases List.mem_append.mp h with h | h
            · exact .inl h
            · simp at h; subst h; exact .inr ⟨rfl, hc⟩
          · exact .inr h
        · rcases List.mem_cons.mp hx with rfl | hx
          · exact ⟨(k, x, j), b3 _ (by rw [e1]; simp), rfl⟩
          · exact b4 x hx hcx
    · rw [if_neg hc] at he
      obtain ⟨b1, b2, b3, b4⟩ := rowS_arc he
      refine ⟨b1, b2, b3, fun x hx hcx => ?_⟩
      rcases List.mem_cons.mp hx with rfl | hx
      · exact absurd hcx hc
      · exact b4 x hx hcx

/-- Each arc fires where it leaves, and of the first k marks all that fires is an arc. -/
structure ArcsTo (n : Nat) (L : List (List Int)) (k : Nat) (s : Sea) : Prop where
  snd : ∀ a ∈ s.ar, canT L (s.ms.getD a.1 []) a.2.1 = true
  all : ∀ i, i < k → ∀ t, t < n → canT L (s.ms.getD i []) t = true → ∃ a ∈ s.ar, a.2.1 = t

theorem seaS_arc {p : Int} {n B : Nat} {L : List (List Int)} : ∀ {f k : Nat} {s s' : Sea}, SeaOk p n B s → f + k = B → k ≤ s.ms.length → ArcsTo n L k s → seaS p n L B f k s = .ok s' → ArcsTo n L s'.ms.length s'
  | 0, k, s, s', h, hf, hk, ha, he => by
    unfold seaS at he; cases he
    have := h.le
    exact ⟨ha.snd, fun i hi => ha.all i (by omega)⟩
  | f + 1, k, s, s', h, hf, hkl, ha, he => by
    unfold seaS at he
    by_cases hk : k < s.ms.length
    · rw [if_pos hk] at he
      cases h1 : rowS p L B (s.ms.getD k []) k (List.range n) s with
      | error c => rw [h1] at he; cases he
      | ok s1 =>
        rw [h1] at he
        obtain ⟨a1, _, a3⟩ := rowS_ok h hk (fun t ht => by simpa using ht) h1
        obtain ⟨b1, b2, b3, b4⟩ := rowS_arc h1
        refine seaS_arc a1 (by omega) (Nat.lt_of_lt_of_le hk a3.length_le) ⟨fun a haa => ?_, fun i hi t ht hc => ?_⟩ he
        · rcases b2 a haa with h2 | ⟨h2, h3⟩
          · rw [prefix_getD b1 (h.arc a h2).1]; exact ha.snd a h2
          · rw [h2, prefix_getD b1 hk]; exact h3
        · by_cases hik : i < k
          · rw [prefix_getD b1 (by omega)] at hc
            obtain ⟨a, haa, e⟩ := ha.all i hik t ht hc
            exact ⟨a, b3 a haa, e⟩
          · have hik2 : i = k := by omega
            subst hik2
            rw [prefix_getD b1 hk] at hc
            exact b4 t (by simpa using ht) hc
    · rw [if_neg hk] at he; cases he
      exact ⟨ha.snd, fun i hi => ha.all i (by omega)⟩

structure SpTold (p : Int) (n : Nat) (L : List (List Int)) (ys : List Int) (bg : Int) : Prop where
  ok : SeaOk p n bg.toNat (spSea p n L ys bg)
  arcs : ArcsTo n L (spSea p n L ys bg).ms.length (spSea p n L ys bg)
  first : (spSea p n L ys bg).ms.getD 0 [] = ys
  good : goodB p ys = true

theorem told_of {p : Int} {n : Nat} {L : List (List Int)} {ys : List Int} {bg : Int} (h : spCode p n L ys bg = 1) : SpTold p n L ys bg := by
  unfold spCode at h
  by_cases ha : askB p n L ys bg = true
  · rw [if_pos ha] at h
    unfold askB at ha
    simp only [Bool.and_eq_true] at ha
    obtain ⟨⟨g1, g2⟩, g3⟩ := ha
    unfold inB at g3
    simp only [Bool.and_eq_true, decide_eq_true_eq] at g3
    have hB : 1 ≤ bg.toNat := by omega
    have h0 := SeaOk.start (n := n) hB g2
    cases hs : searchS p n L bg.toNat ys with
    | error c =>
      rw [hs] at h
      unfold searchS at hs
      rcases seaS_err hs with rfl | rfl <;> cases h
    | ok s =>
      have es : spSea p n L ys bg = s := by unfold spSea; rw [hs]; rfl
      rw [show SpTold p n L ys bg ↔ (SeaOk p n bg.toNat (spSea p n L ys bg) ∧ ArcsTo n L (spSea p n L ys bg).ms.length (spSea p n L ys bg) ∧ (spSea p n L ys bg).ms.getD 0 [] = ys ∧ goodB p ys = true) from ⟨fun h => ⟨h.ok, h.arcs, h.first, h.good⟩, fun h => ⟨h.1, h.2.1, h.2.2.1, h.2.2.2⟩⟩]
      rw [es]
      unfold searchS at hs
      obtain ⟨b1, _, b3⟩ := seaS_ok h0 hs
      refine ⟨b1, seaS_arc h0 (by omega) (Nat.zero_le _) ⟨fun a haa => by simp [sea0] at haa, fun i hi => by omega⟩ hs, ?_, g2⟩
      rw [prefix_getD b3 (by simp [sea0])]
      rfl
  · rw [if_neg ha] at h; cases h

theorem getD_memS {ms : List (List Int)} {m : List Int} (h : m ∈ ms) : ∃ i, i < ms.length ∧ ms.getD i [] = m := by
  obtain ⟨i, hi, rfl⟩ := List.mem_iff_getElem.mp h
  exact ⟨i, hi, by rw [List.getD_eq_getElem?_getD, List.getElem?_eq_getElem hi]; rfl⟩

/-- Where a net is live and has a transition no mark of it is dead. -/
theorem live_fd {p : Int} {n : Nat} {L : List (List Int)} {ys : List Int} {bg : Int} (hl : ilR p n L ys bg = true) (hn : 1 ≤ n) : fdOk p n L ys bg = false := by
  unfold ilR dtOk at hl
  simp only [Bool.and_eq_true, decide_eq_true_eq] at hl
  obtain ⟨h1, h2⟩ := hl
  have T := told_of h1
  unfold fdOk
  rw [Bool.and_eq_false_iff]
  right
  rw [List.any_eq_false]
  intro m hm
  obtain ⟨i, hi, rfl⟩ := getD_memS hm
  have hc := h2 0 (by omega) i hi
  unfold deadM
  have : anyE (canT L ((spSea p n L ys bg).ms.getD i [])) n = true := by
    cases hc with
    | at_ hg => exact anyE_yes (k := 0) (by omega) hg.2
    | @step _ t j ha hr => exact anyE_yes (k := t) (T.ok.arc _ ha).2.1 (T.arcs.snd _ ha)
  rw [this]; simp

/-- Where a net is live no transition of it is dead. -/
theorem live_dt {p : Int} {n : Nat} {L : List (List Int)} {ys : List Int} {bg : Int} (hl : ilR p n L ys bg = true) : dtR p n L ys bg = [] := by
  unfold ilR at hl
  simp only [Bool.and_eq_true, decide_eq_true_eq] at hl
  obtain ⟨h1, h2⟩ := hl
  unfold dtR
  rw [h1, if_pos rfl]
  unfold dtOk at h1
  have T := told_of (by simpa using h1)
  unfold deadL numsL
  rw [List.map_eq_nil_iff, List.filter_eq_nil_iff]
  intro t ht
  have htn : t < n := by simpa using ht
  have hc := h2 t htn 0 T.ok.pos
  have key : ∃ x, x < (spSea p n L ys bg).ms.length ∧ canT L ((spSea p n L ys bg).ms.getD x []) t = true := by
    exact hc.least (S := fun _ => ∃ x, x < (spSea p n L ys bg).ms.length ∧ canT L ((spSea p n L ys bg).ms.getD x []) t = true) (fun i hg => ⟨i, hg.1, hg.2⟩) (fun _ _ _ _ h => h)
  obtain ⟨x, hx, hcx⟩ := key
  obtain ⟨a, haa, e⟩ := T.arcs.all x hx t htn hcx
  have : metB (spSea p n L ys bg).ar t = true := by
    unfold metB; rw [List.any_eq_true]; exact ⟨a, haa, by simp [e]⟩
  rw [this]; simp

theorem bdK_le (ms : List (List Int)) (q : Nat) : ∀ k, k ≤ ms.length → ∀ i, i < k → (ms.getD i []).getD q 0 ≤ bdK ms q k := by
  intro k
  induction k with
  | zero => intro _ i hi; omega
  | succ k ih =>
    intro hk i hi
    rw [bdK_succ (by omega)]
    unfold mostQ
    by_cases e : i = k
    · subst e; split <;> omega
    · have := ih (by omega) i (by omega)
      split <;> omega

/-- A bound is at least the first mark's number. -/
theorem bound_first {p : Int} {n : Nat} {L : List (List Int)} {ys : List Int} {bg q : Int} (h : bdOk p n L ys bg q = true) : ys.getD q.toNat 0 ≤ bdR p n L ys bg q ∧ 0 ≤ q ∧ q < ys.length := by
  have h' := h
  unfold bdOk at h
  simp only [Bool.and_eq_true, decide_eq_true_eq] at h
  have T := told_of h.1
  have hq := h.2
  unfold inB at hq
  simp only [Bool.and_eq_true, decide_eq_true_eq] at hq
  have hl : (ys.length : Int) = p := by
    have := T.good
    unfold goodB at this; simp only [Bool.and_eq_true, decide_eq_true_eq] at this; exact this.1.2
  refine ⟨?_, hq.1, by omega⟩
  unfold bdR
  rw [h', if_pos rfl]
  have := bdK_le (spSea p n L ys bg).ms q.toNat _ (Nat.le_refl _) 0 T.ok.pos
  rw [T.first] at this
  exact this
end Go.Proofs.Ytegabkegbhglfaa
