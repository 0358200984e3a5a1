/- l3Both and OnWay of the specification. -/
import Derived.Test.YtnknhjiofpjbbaaWt
import Derived.Test.YtnknhjiofpjbbaaWo
import Derived.Test.YtnknhjiofpjbbaaGs
namespace Go.Proofs.Ytnknhjiofpjbbaa
open Go.RowKit
set_option maxRecDepth 10000

/-- How a function that tells numbers ends. -/
def Nums2End (f : Nat → Bool) (n : Nat) (w : World) (e : Ending) (w' : World) : Prop :=
  ∃ v m, e = .returned v ∧ w'.ownsRow w.heap.size 3 1 v m ((nums2 f n).map (Value.int .i64)) ∧ Below w.heap.size w w'

theorem own_grow2 {B : Nat} {w w' : World} {v : Value} {n : Nat} {l : List Value} (hown : w.ownsRow B 3 1 v n l) (hb : Below w.heap.size w w') : w'.ownsRow B 3 1 v n l := by
  refine ⟨hown.1, ?_⟩
  rcases hown.2 with h0 | ⟨g, cap, cur, e, h1, h2, h3⟩
  · exact .inl h0
  · exact .inr ⟨g, cap, cur, e, h1, (hb.block g (Array.getElem?_eq_some_iff.mp h2).1).trans h2, h3⟩

set_option maxHeartbeats 1000000 in
theorem both_any (F G : Nat → Bool) (b1 b2 n c1 m2 c2 : Nat) (w : World) (h1 : BoolRow w b1 n F) (h2 : BoolRow w b2 n G) (hm : m2 = n) (hn : n ≤ 24) :
    Calls Try.prog 41 #[.slice (some ⟨b1, 0, none⟩) n c1, .slice (some ⟨b2, 0, none⟩) m2 c2] w fun e w' => Nums2End (fun i => F i && G i) n w e w' := by
  subst hm
  have H1 := hide h1
  have H2 := hide h2
  obtain ⟨i0, hi, hz0, hz1, hz2⟩ := info_split2 Try.info3
  clear h1 h2
  go_enter Try.func41, Try.ntmps41
  go_wp2_with fail
  go_loopw [5, 9] (fun o i wr => ∃ k m : Nat, k ≤ m2 ∧ i = .int .i64 k ∧ Hid (m ≤ k) ∧ Hid (wr.ownsRow w.heap.size 3 1 o m ((nums2 (fun i => F i && G i) k).map (Value.int .i64))) ∧ Hid (Below w.heap.size w wr)) (fun _ i _ => m2 - (intOf i).toNat)
  case atStart => exact ⟨0, 0, Nat.zero_le _, rfl, Nat.le_refl _, World.ownsRow_nil _ _ _ _, Below.refl _ _⟩
  case round =>
    obtain ⟨k, m, hk, rfl, hmk, hown, hbw⟩ := hrel
    by_cases hlt : k < m2
    rotate_left
    · have hk' : k = m2 := by omega
      subst hk'
      go_wp2_with fail
      go_ret
      exact ⟨_, m, rfl, hown.out, hbw.out⟩
    obtain ⟨hc1, _⟩ := (H1.out.grow hbw.out).cell hlt
    obtain ⟨hc2, _⟩ := (H2.out.grow hbw.out).cell hlt
    cases hF : F k
    · have HN := hide (nums2_no (f := fun i => F i && G i) (k := k) (by simp [hF]))
      rw [hF] at hc1
      clear hF
      go_wp2_with fail
      go_roundw
      case rel => exact ⟨k + 1, m, by omega, by go_num, Nat.le_succ_of_le hmk.out, by rw [HN.out]; exact hown, hbw⟩
      case measure => simp [intOf]; omega
    cases hG : G k
    · have HN := hide (nums2_no (f := fun i => F i && G i) (k := k) (by simp [hG]))
      rw [hF] at hc1
      rw [hG] at hc2
      clear hF hG
      go_wp2_with fail
      go_roundw
      case rel => exact ⟨k + 1, m, by omega, by go_num, Nat.le_succ_of_le hmk.out, by rw [HN.out]; exact hown, hbw⟩
      case measure => simp [intOf]; omega
    have HN := hide (nums2_yes (f := fun i => F i && G i) (k := k) (by simp [hF, hG]))
    rw [hF] at hc1
    rw [hG] at hc2
    clear hF hG
    have hA2 := below_al wr (.cells #[.int .i64 (k : Int)] 3)
    have HO2 := hide (hown.out.alloc (.cells #[.int .i64 (k : Int)] 3))
    have HB2 := hide (hbw.out.trans (hA2.mono hbw.out.size))
    have HCE : Hid (∀ j u, ([.int .i64 (k : Int)] : List Value)[j]? = some u → (wr.alloc (.cells #[.int .i64 (k : Int)] 3)).cell? ((⟨wr.heap.size, 0, none⟩ : Addr).add j) = some u) := one_cell2 wr _
    have H1c : Hid (∀ u ∈ ([.int .i64 (k : Int)] : List Value), u.oneCell' = true) := fun u hu => by simp at hu; subst hu; rfl
    have HX := hide (show m + 1 ≤ maxLen by have := hmk.out; unfold maxLen; omega)
    have HY := hide (show (m + 1) * 8 ≤ 140737488355328 by have := hmk.out; omega)
    have HZ := hide HB2.out.size
    clear hA2 hown
    go_wp2_with (refine wpList_append_own _ rfl (.tmp 22) (.tmp 24) 38 rfl w.heap.size 3 i0 (.int .i64 0) 1 8 Try.underlying38 hi hz0 hz1 hz2 rfl (by decide) u5 m _ rfl HO2.out ⟨wr.heap.size, 0, none⟩ 1 1 [.int .i64 (k : Int)] rfl rfl HCE.out H1c.out HX.out HY.out HZ.out ?_; intro v' W' r1 r2 r3)
    have HR1 : Hid (W'.ownsRow w.heap.size 3 1 v' (m + 1) ((nums2 (fun i => F i && G i) (k + 1)).map (Value.int .i64))) := by
      show World.ownsRow _ _ _ _ _ _ _
      rw [HN.out, List.map_append]; exact r1
    have HB3 := hide (own_below2 HO2.out r2 HB2.out HB2.out.size (Nat.le_refl _))
    clear r1 r2 r3 hc1 hc2
    go_wp2_with fail
    go_roundw
    case rel => exact ⟨k + 1, m + 1, by omega, by go_num, Nat.succ_le_succ hmk.out, HR1, HB3⟩
    case measure => simp [intOf]; omega

/-- Which places and which transitions are on a way. -/
noncomputable def plB (n : Nat) (L : List (List Int)) (s t : Int) (i : Nat) : Bool := rchB (inL L) (outL L) n s i && rchB (outL L) (inL L) n t i
noncomputable def trB (n : Nat) (L : List (List Int)) (s t : Int) (k : Nat) : Bool := rchT (inL L) (outL L) n s k && rchT (outL L) (inL L) n t k

noncomputable def wayP (p : Int) (n : Nat) (L : List (List Int)) (s t : Int) : List Int := if wayOk p n L s t then nums2 (plB n L s t) p.toNat else []
noncomputable def wayT (p : Int) (n : Nat) (L : List (List Int)) (s t : Int) : List Int := if wayOk p n L s t then nums2 (trB n L s t) n else []

/-- How the specification's OnWay ends. -/
def OwEnd (g : Bool) (xs ys : List Int) (w : World) (e : Ending) (w' : World) : Prop :=
  ∃ a1 n1 c1 a2 n2 c2, e = .returned (.tuple #[.slice a1 n1 c1, .slice a2 n2 c2, .bool g]) ∧ Row w' a1 n1 xs ∧ Row w' a2 n2 ys ∧ Below w.heap.size w w'

theorem owEnd_no {p : Int} {n : Nat} {L : List (List Int)} {s t : Int} {w w' : World} (h : wayOk p n L s t = false) (hb : Below w.heap.size w w') :
    OwEnd (wayOk p n L s t) (wayP p n L s t) (wayT p n L s t) w (.returned (.tuple #[.slice none 0 0, .slice none 0 0, .bool false])) w' :=
  ⟨none, 0, 0, none, 0, 0, by rw [h], ⟨by unfold wayP; rw [h]; rfl, .inl rfl⟩, ⟨by unfold wayT; rw [h]; rfl, .inl rfl⟩, hb⟩

theorem own_row2 {B : Nat} {w : World} {v : Value} {n : Nat} {l : List Int} (hown : w.ownsRow B 3 1 v n (l.map (Value.int .i64))) : ∃ a c, v = .slice a n c ∧ Row w a n l := by
  obtain ⟨a, b, c, e, _, ho⟩ := own_ob2 hown
  exact ⟨a, c, e, ho.row⟩

theorem within_in {p n : Nat} {L : List (List Int)} (h : netOk (p : Int) n L = true) : Within (inL L) p n := fun _ hk x hx => (netOk_mem h hk).1 x hx
theorem within_out {p n : Nat} {L : List (List Int)} (h : netOk (p : Int) n L = true) : Within (outL L) p n := fun _ hk x hx => (netOk_mem h hk).2.1 x hx

set_option maxHeartbeats 4000000 in
theorem onWayS_any (p s t : Int) (a : Option Addr) (n c : Nat) (L : List (List Int)) (w : World) (h : Lists w a (3 * n) L) (hs : sizeN n L ≤ 1048576) :
    Calls Try.prog 15 #[.agg #[.int .i64 p, .slice a n c], .int .i64 s, .int .i64 t] w fun e w' => OwEnd (wayOk p n L s t) (wayP p n L s t) (wayT p n L s t) w e w' := by
  have hAl := below_al w (.cells #[.int .i64 p, .slice a n c] 31)
  have PAR := hide (heap_alloc_new w (.cells #[.int .i64 p, .slice a n c] 31))
  have HG := hide (goodNetS_any p a n c L _ (h.below hAl) hs)
  have HL := hide h
  have HB0 := hide hAl
  clear h hAl
  go_enter Try.func15, Try.ntmps15
  go_wp2_with fail
  refine HG.out.mono ?_
  rintro e w2 ⟨rfl, hb⟩
  have HB1 := hide (HB0.out.trans (hb.mono HB0.out.size))
  have PAR1 := hide (keep PAR.out hb)
  obtain ⟨hc0, hc1⟩ := cells2 PAR1.out
  clear HG HB0 PAR hb
  by_cases hg : netOk p n L = true
  rotate_left
  · have hg' : netOk p n L = false := by simpa using hg
    have HN := hide (owEnd_no (show wayOk p n L s t = false by unfold wayOk; rw [hg']; rfl) HB1.out)
    rw [hg']
    clear hg hg'
    go_wp2_with fail
    go_ret3
    exact HN.out
  rw [hg]
  have HG := hide hg
  obtain ⟨⟨hp1, hp2⟩, hn24, _⟩ := netOk_parts hg
  clear hg
  go_wp2_with fail
  refine (in_any _ _ _ _).mono ?_
  rintro e w3 ⟨rfl, hw3⟩
  subst hw3
  by_cases hq : inB s 0 (p - 1) = true
  rotate_left
  · have hq' : inB s 0 (p - 1) = false := by simpa using hq
    have HN := hide (owEnd_no (show wayOk p n L s t = false by unfold wayOk; rw [hq']; simp) HB1.out)
    rw [hq']
    clear hq hq'
    go_wp2_with fail
    go_ret3
    exact HN.out
  rw [hq]
  have HQ := hide hq
  clear hq
  go_wp2_with fail
  refine (in_any _ _ _ _).mono ?_
  rintro e w3 ⟨rfl, hw3⟩
  subst hw3
  by_cases hq : inB t 0 (p - 1) = true
  rotate_left
  · have hq' : inB t 0 (p - 1) = false := by simpa using hq
    have HN := hide (owEnd_no (show wayOk p n L s t = false by unfold wayOk; rw [hq']; simp) HB1.out)
    rw [hq']
    clear hq hq'
    go_wp2_with fail
    go_ret3
    exact HN.out
  rw [hq]
  have HQ2 := hide hq
  have HOK := hide (show wayOk p n L s t = true by unfold wayOk; rw [HG.out, HQ.out, HQ2.out]; rfl)
  clear hq
  have hs1 : 0 ≤ s ∧ s ≤ p - 1 := by simpa [inB] using HQ.out
  have ht1 : 0 ≤ t ∧ t ≤ p - 1 := by simpa [inB] using HQ2.out
  obtain ⟨P, rfl⟩ : ∃ P : Nat, p = (P : Int) := ⟨p.toNat, by omega⟩
  obtain ⟨S, rfl⟩ : ∃ P : Nat, s = (P : Int) := ⟨s.toNat, by omega⟩
  obtain ⟨T, rfl⟩ : ∃ P : Nat, t = (P : Int) := ⟨t.toNat, by omega⟩
  have HFW := hide (forward_any (inL L) (outL L) P S a n c L w3 (HL.out.below HB1.out) hn24 (by omega) (by omega) hs (within_in HG.out) (within_out HG.out) (fun _ => rfl) (fun _ => rfl))
  have HBK := hide (fun W (hW : Below w.heap.size w W) => back_any (outL L) (inL L) P T a n c L W (HL.out.below hW) hn24 (by omega) (by omega) hs (within_out HG.out) (within_in HG.out) (fun _ => rfl) (fun _ => rfl))
  clear hs1 ht1
  go_wp2_with fail
  refine HFW.out.mono ?_
  rintro e w4 ⟨b1, b2, rfl, hr1, hr2, hb4⟩
  have HB4 := hide (HB1.out.trans (hb4.mono HB1.out.size))
  have PAR4 := hide (keep PAR1.out hb4)
  have HR1 := hide hr1
  have HR2 := hide hr2
  obtain ⟨hc0, hc1⟩ := cells2 PAR4.out
  clear hb4 hr1 hr2 HB1 PAR1 HFW
  go_wp2_with fail
  refine (HBK.out _ HB4.out).mono ?_
  rintro e w5 ⟨b3, b4, rfl, hr3, hr4, hb5⟩
  have HB5 := hide (HB4.out.trans (hb5.mono HB4.out.size))
  have HB1 := hide (both_any _ _ b1 b3 P P P P w5 (HR1.out.grow hb5) hr3 rfl (by omega))
  have HB2 := hide (fun W (hW : Below w5.heap.size w5 W) => both_any _ _ b2 b4 n n n n W ((HR2.out.grow hb5).grow hW) (hr4.grow hW) rfl hn24)
  clear hb5 hr3 hr4 HB4 PAR4 HBK HR1 HR2 hc0 hc1
  go_wp2_with fail
  refine HB1.out.mono ?_
  rintro e w6 ⟨v6, m6, rfl, hown6, hb6⟩
  have HB6 := hide (HB5.out.trans (hb6.mono HB5.out.size))
  have HB7 := hide (HB2.out w6 hb6)
  obtain ⟨a6, c6, hv6, hr6⟩ := own_row2 hown6
  have HR6 := hide hr6
  subst hv6
  clear hown6 hb6 hr6 HB2 HB1 HB5
  go_wp2_with fail
  refine HB7.out.mono ?_
  rintro e w7 ⟨v7, m7, rfl, hown7, hb7⟩
  obtain ⟨a7, c7, hv7, hr7⟩ := own_row2 hown7
  subst hv7
  have HE : Hid (OwEnd (wayOk (P : Int) n L (S : Int) (T : Int)) (wayP (P : Int) n L (S : Int) (T : Int)) (wayT (P : Int) n L (S : Int) (T : Int)) w (.returned (.tuple #[.slice a6 m6 c6, .slice a7 m7 c7, .bool true])) w7) :=
    ⟨a6, m6, c6, a7, m7, c7, by rw [HOK.out], by unfold wayP; rw [HOK.out]; exact HR6.out.below hb7, by unfold wayT; rw [HOK.out]; exact hr7, HB6.out.trans (hb7.mono HB6.out.size)⟩
  clear hown7 hb7 hr7 HB7
  go_wp2_with fail
  go_ret3
  exact HE.out
end Go.Proofs.Ytnknhjiofpjbbaa
