/- Contracts that the proof stands on, one behind the other. -/
import Derived.Test.YtajcmamapmeglaaP7
import Derived.Maps.OwnSet
import Derived.Maps.RangeWalk
import Derived.Carry
/- The specification's l8Siphon, l8Trap, l8Asked, IsSiphon, IsTrap. -/
namespace Go.Proofs.Ytajcmamapmeglaa
open Go.RowKit
set_option maxRecDepth 10000

theorem slipAt_meet {b : Bool} {p : Int} {n k : Nat} {L : List (List Int)} {xs : List Int} (h : netOk p n L = true) (hk : k < n) (hx : riseB xs 0 (p - 1) = true) :
    slipAt b (maskL xs) k L = (meetB (L.getD (3 * k + (if b then 1 else 0)) []) xs && !meetB (L.getD (3 * k + (if b then 0 else 1)) []) xs) := by
  have hr := net_rises h hk
  unfold slipAt slipB sideB
  cases b
  · simp only [Bool.false_eq_true, if_false, if_true, Bool.not_false, Nat.add_zero]
    rw [meet_mask hr.1 hx, meet_mask hr.2.1 hx, Bool.not_not]
  · simp only [if_true, Bool.not_true, Bool.false_eq_true, if_false, Nat.add_zero]
    rw [meet_mask hr.1 hx, meet_mask hr.2.1 hx, Bool.not_not]

set_option maxHeartbeats 2000000 in
theorem l8Siphon_any (P : Nat) (a ax : Option Addr) (n c nx cx : Nat) (L : List (List Int)) (xs : List Int) (w : World) (h : Lists w a (3 * n) L) (rx : Row w ax nx xs) (hnx : nx ≤ 1048576) (hg : netOk (P : Int) n L = true) (hx : riseB xs 0 ((P : Int) - 1) = true) :
    Calls Try.prog 90 #[.agg #[.int .i64 (P : Int), .slice a n c], .slice ax nx cx] w fun e w' => e = .returned (.bool (!slips true (maskL xs) n L)) ∧ Below w.heap.size w w' := by
  have hAl := below_al w (.cells #[.int .i64 (P : Int), .slice a n c] 26)
  have hn := netN hg
  have hP : P ≤ 16 := by unfold netOk at hg; simp [inB] at hg; omega
  have HL := hide h
  have RC := hide rx
  have HG := hide hg
  have HX := hide hx
  have HB0 := hide hAl
  clear h rx hg hx hAl
  go_enter Try.func90, Try.ntmps90
  go_wp2_with fail
  obtain ⟨V, hV⟩ : ∃ V, Hid (w.alloc (.cells #[.int .i64 (P : Int), .slice a n c] 26) = V) := ⟨_, rfl⟩
  rw [hV.out] at HB0 ⊢
  clear hV
  go_loopw [10] (fun i wr => ∃ k : Nat, k ≤ n ∧ i = .int .i64 k ∧ Hid (slips true (maskL xs) k L = false) ∧ Hid (Below w.heap.size w wr)) (fun i _ => n - (intOf i).toNat)
  case atStart => exact ⟨0, Nat.zero_le _, rfl, rfl, HB0⟩
  case round =>
    obtain ⟨k, hk, rfl, hu, hbw⟩ := hrel
    by_cases hlt : k < n
    rotate_left
    · have hk' : k = n := by omega
      subst hk'
      go_wp2_with fail
      go_ret
      exact ⟨ret_bool (by rw [hu.out]; rfl), hbw.out⟩
    obtain ⟨b0, off, a0, n0, c0, a1, n1, c1, a2, n2, c2, rfl, hb, hr, m0, m1, m2, r0, r1, r2⟩ := (HL.out.below hbw.out).tri hlt
    obtain ⟨hc0, hc1, hc2⟩ := rangeAt_cells3 hr
    have hri := net_rises HG.out hlt
    have hA1 := below_al wr (.cells #[.slice a0 n0 c0, .slice a1 n1 c1, .slice a2 n2 c2] 106)
    have HB1 := hide (hbw.out.trans (hA1.mono hbw.out.size))
    have HV1 := hide (heap_alloc_new wr (.cells #[.slice a0 n0 c0, .slice a1 n1 c1, .slice a2 n2 c2] 106))
    have q0 : n0 ≤ 1048576 := by have h1 := r0.1; rcases rise_len hri.1 with e | e; omega; rw [e] at h1; simp at h1; omega
    have q1 : n1 ≤ 1048576 := by have h1 := r1.1; rcases rise_len hri.2.1 with e | e; omega; rw [e] at h1; simp at h1; omega
    have H0 := hide (meet_any a1 ax n1 nx c1 cx _ xs _ (r1.below hA1) (RC.out.below HB1.out) q1 hnx)
    have H1 := hide (meet_any a0 ax n0 nx c0 cx _ xs _ (r0.below hA1) (RC.out.below HB1.out) q0 hnx)
    have HS := hide (slipAt_meet (b := true) HG.out hlt HX.out)
    simp only [if_true] at HS
    have HY : Hid (slipAt true (maskL xs) k L = false → slips true (maskL xs) (k + 1) L = false) := slips_step hu.out
    have HN : Hid (slipAt true (maskL xs) k L = true → slips true (maskL xs) n L = true) := slips_yes hlt
    rw [HS.out] at HY HN
    obtain ⟨t0, ht0⟩ : ∃ t, Hid (meetB (L.getD (3 * k + 1) []) xs = t) := ⟨_, rfl⟩
    obtain ⟨t1, ht1⟩ : ∃ t, Hid (meetB (L.getD (3 * k) []) xs = t) := ⟨_, rfl⟩
    simp only [Nat.add_zero] at HY HN
    rw [ht0.out] at H0 HY HN
    rw [ht1.out] at H1 HY HN
    clear hr m0 m1 m2 r0 r1 r2 hri hA1 hu q0 q1 HS ht0 ht1 hbw
    go_wp2_with fail
    clear hc0 hc1 hc2
    generalize wr.alloc (.cells #[.slice a0 n0 c0, .slice a1 n1 c1, .slice a2 n2 c2] 106) = W1 at *
    generalize wr.heap.size = q at *
    obtain ⟨hv0, hv1, hv2⟩ := cells3E HV1.out
    have hvl := (Array.getElem?_eq_some_iff.mp HV1.out).1
    go_wp2_with fail
    refine H0.out.mono ?_
    rintro e w2 ⟨rfl, rfl⟩
    cases t0
    · have HU := hide (HY.out rfl)
      clear HY HN H1 H0
      go_wp2_with fail
      go_roundw
      case rel => exact ⟨k + 1, by omega, by go_num, HU, HB1⟩
      case measure => simp [intOf]; omega
    cases t1
    · have HU := hide (HN.out rfl)
      clear HY HN H0
      go_wp2_with fail
      refine H1.out.mono ?_
      rintro e w2 ⟨rfl, rfl⟩
      go_wp2_with fail
      go_ret
      exact ⟨ret_bool (by rw [HU.out]; rfl), HB1.out⟩
    · have HU := hide (HY.out rfl)
      clear HY HN H0
      go_wp2_with fail
      refine H1.out.mono ?_
      rintro e w2 ⟨rfl, rfl⟩
      go_wp2_with fail
      go_roundw
      case rel => exact ⟨k + 1, by omega, by go_num, HU, HB1⟩
      case measure => simp [intOf]; omega

set_option maxHeartbeats 2000000 in
theorem l8Trap_any (P : Nat) (a ax : Option Addr) (n c nx cx : Nat) (L : List (List Int)) (xs : List Int) (w : World) (h : Lists w a (3 * n) L) (rx : Row w ax nx xs) (hnx : nx ≤ 1048576) (hg : netOk (P : Int) n L = true) (hx : riseB xs 0 ((P : Int) - 1) = true) :
    Calls Try.prog 92 #[.agg #[.int .i64 (P : Int), .slice a n c], .slice ax nx cx] w fun e w' => e = .returned (.bool (!slips false (maskL xs) n L)) ∧ Below w.heap.size w w' := by
  have hAl := below_al w (.cells #[.int .i64 (P : Int), .slice a n c] 26)
  have hn := netN hg
  have hP : P ≤ 16 := by unfold netOk at hg; simp [inB] at hg; omega
  have HL := hide h
  have RC := hide rx
  have HG := hide hg
  have HX := hide hx
  have HB0 := hide hAl
  clear h rx hg hx hAl
  go_enter Try.func92, Try.ntmps92
  go_wp2_with fail
  obtain ⟨V, hV⟩ : ∃ V, Hid (w.alloc (.cells #[.int .i64 (P : Int), .slice a n c] 26) = V) := ⟨_, rfl⟩
  rw [hV.out] at HB0 ⊢
  clear hV
  go_loopw [10] (fun i wr => ∃ k : Nat, k ≤ n ∧ i = .int .i64 k ∧ Hid (slips false (maskL xs) k L = false) ∧ Hid (Below w.heap.size w wr)) (fun i _ => n - (intOf i).toNat)
  case atStart => exact ⟨0, Nat.zero_le _, rfl, rfl, HB0⟩
  case round =>
    obtain ⟨k, hk, rfl, hu, hbw⟩ := hrel
    by_cases hlt : k < n
    rotate_left
    · have hk' : k = n := by omega
      subst hk'
      go_wp2_with fail
      go_ret
      exact ⟨ret_bool (by rw [hu.out]; rfl), hbw.out⟩
    obtain ⟨b0, off, a0, n0, c0, a1, n1, c1, a2, n2, c2, rfl, hb, hr, m0, m1, m2, r0, r1, r2⟩ := (HL.out.below hbw.out).tri hlt
    obtain ⟨hc0, hc1, hc2⟩ := rangeAt_cells3 hr
    have hri := net_rises HG.out hlt
    have hA1 := below_al wr (.cells #[.slice a0 n0 c0, .slice a1 n1 c1, .slice a2 n2 c2] 106)
    have HB1 := hide (hbw.out.trans (hA1.mono hbw.out.size))
    have HV1 := hide (heap_alloc_new wr (.cells #[.slice a0 n0 c0, .slice a1 n1 c1, .slice a2 n2 c2] 106))
    have q0 : n0 ≤ 1048576 := by have h1 := r0.1; rcases rise_len hri.1 with e | e; omega; rw [e] at h1; simp at h1; omega
    have q1 : n1 ≤ 1048576 := by have h1 := r1.1; rcases rise_len hri.2.1 with e | e; omega; rw [e] at h1; simp at h1; omega
    have H0 := hide (meet_any a0 ax n0 nx c0 cx _ xs _ (r0.below hA1) (RC.out.below HB1.out) q0 hnx)
    have H1 := hide (meet_any a1 ax n1 nx c1 cx _ xs _ (r1.below hA1) (RC.out.below HB1.out) q1 hnx)
    have HS := hide (slipAt_meet (b := false) HG.out hlt HX.out)
    simp only [Bool.false_eq_true, if_false] at HS
    have HY : Hid (slipAt false (maskL xs) k L = false → slips false (maskL xs) (k + 1) L = false) := slips_step hu.out
    have HN : Hid (slipAt false (maskL xs) k L = true → slips false (maskL xs) n L = true) := slips_yes hlt
    rw [HS.out] at HY HN
    obtain ⟨t0, ht0⟩ : ∃ t, Hid (meetB (L.getD (3 * k) []) xs = t) := ⟨_, rfl⟩
    obtain ⟨t1, ht1⟩ : ∃ t, Hid (meetB (L.getD (3 * k + 1) []) xs = t) := ⟨_, rfl⟩
    simp only [Nat.add_zero] at HY HN
    rw [ht0.out] at H0 HY HN
    rw [ht1.out] at H1 HY HN
    clear hr m0 m1 m2 r0 r1 r2 hri hA1 hu q0 q1 HS ht0 ht1 hbw
    go_wp2_with fail
    clear hc0 hc1 hc2
    generalize wr.alloc (.cells #[.slice a0 n0 c0, .slice a1 n1 c1, .slice a2 n2 c2] 106) = W1 at *
    generalize wr.heap.size = q at *
    obtain ⟨hv0, hv1, hv2⟩ := cells3E HV1.out
    have hvl := (Array.getElem?_eq_some_iff.mp HV1.out).1
    go_wp2_with fail
    refine H0.out.mono ?_
    rintro e w2 ⟨rfl, rfl⟩
    cases t0
    · have HU := hide (HY.out rfl)
      clear HY HN H1 H0
      go_wp2_with fail
      go_roundw
      case rel => exact ⟨k + 1, by omega, by go_num, HU, HB1⟩
      case measure => simp [intOf]; omega
    cases t1
    · have HU := hide (HN.out rfl)
      clear HY HN H0
      go_wp2_with fail
      refine H1.out.mono ?_
      rintro e w2 ⟨rfl, rfl⟩
      go_wp2_with fail
      go_ret
      exact ⟨ret_bool (by rw [HU.out]; rfl), HB1.out⟩
    · have HU := hide (HY.out rfl)
      clear HY HN H0
      go_wp2_with fail
      refine H1.out.mono ?_
      rintro e w2 ⟨rfl, rfl⟩
      go_wp2_with fail
      go_roundw
      case rel => exact ⟨k + 1, by omega, by go_num, HU, HB1⟩
      case measure => simp [intOf]; omega

set_option maxHeartbeats 1000000 in
theorem l8Asked_any (p : Int) (a ax : Option Addr) (n c nx cx : Nat) (L : List (List Int)) (xs : List Int) (w : World) (h : Lists w a (3 * n) L) (rx : Row w ax nx xs) (hs : sizeN n L ≤ 1048576) (hx : nx ≤ 1048576) :
    Calls Try.prog 89 #[.agg #[.int .i64 p, .slice a n c], .slice ax nx cx] w fun e w' => e = .returned (.bool (ssOk p n L xs)) ∧ Below w.heap.size w w' := by
  have hAl := below_al w (.cells #[.int .i64 p, .slice a n c] 26)
  have hN := heap_alloc_new w (.cells #[.int .i64 p, .slice a n c] 26)
  have HT := hide (plainS_any p a n c L _ (h.below hAl) hs)
  have HRX := hide (rx.below hAl)
  have HB0 := hide hAl
  clear h rx
  go_enter Try.func89, Try.ntmps89
  go_wp2_with fail
  refine HT.out.mono ?_
  rintro e w1 ⟨rfl, hb⟩
  have HB1 := hide (HB0.out.trans (hb.mono HB0.out.size))
  obtain ⟨hc0, hc1⟩ := cells2 (keep hN hb)
  have hlt := row_lt (keep hN hb)
  have HR := hide (rising_any ax nx cx xs 0 (p - 1) w1 (HRX.out.below hb) hx)
  cases hok : plainB p n L
  · have HF : Hid (ssOk p n L xs = false) := by show _ = _; unfold ssOk; rw [hok]; rfl
    clear HT hb hok HB0 hAl hN HRX HR
    go_wp2_with fail
    go_ret
    exact ⟨ret_bool HF.out.symm, HB1.out⟩
  have hp : 1 ≤ p ∧ p ≤ 16 := by unfold plainB at hok; simp only [Bool.and_eq_true] at hok; have h1 := hok.1; unfold netOk at h1; simp [inB] at h1; omega
  have HF : Hid (ssOk p n L xs = riseB xs 0 (p - 1)) := by show _ = _; unfold ssOk; rw [hok]; rfl
  clear HT hb hok HB0 hAl hN HRX
  go_wp2_with fail
  refine HR.out.mono ?_
  rintro e w2 ⟨rfl, rfl⟩
  obtain ⟨r, hr⟩ : ∃ r, Hid (riseB xs 0 (p - 1) = r) := ⟨_, rfl⟩
  rw [hr.out] at HF ⊢
  clear HR
  go_wp2_with fail
  go_ret
  exact ⟨ret_bool HF.out.symm, HB1.out⟩

set_option maxHeartbeats 1000000 in
theorem isSiphonS_any (p : Int) (a ax : Option Addr) (n c nx cx : Nat) (L : List (List Int)) (xs : List Int) (w : World) (h : Lists w a (3 * n) L) (rx : Row w ax nx xs) (hs : sizeN n L ≤ 1048576) (hx : nx ≤ 1048576) :
    Calls Try.prog 33 #[.agg #[.int .i64 p, .slice a n c], .slice ax nx cx] w fun e w' => IssEnd true p n L xs w e w' := by
  have hAl := below_al w (.cells #[.int .i64 p, .slice a n c] 26)
  have hN := heap_alloc_new w (.cells #[.int .i64 p, .slice a n c] 26)
  have HT := hide (l8Asked_any p a ax n c nx cx L xs _ (h.below hAl) (rx.below hAl) hs hx)
  have HL := hide (h.below hAl)
  have HRX := hide (rx.below hAl)
  have HB0 := hide hAl
  clear h rx
  go_enter Try.func33, Try.ntmps33
  go_wp2_with fail
  refine HT.out.mono ?_
  rintro e w1 ⟨rfl, hb⟩
  have HB1 := hide (HB0.out.trans (hb.mono HB0.out.size))
  obtain ⟨hc0, hc1⟩ := cells2 (keep hN hb)
  have hlt := row_lt (keep hN hb)
  cases hok : ssOk p n L xs
  · have HE : Hid (IssEnd true p n L xs w (.returned (.tuple #[.bool false, .bool false])) w1) := ⟨by rw [hok]; rfl, HB1.out⟩
    clear HT hb hok HB0 hAl hN HRX HL
    go_wp2_with fail
    go_ret2
    exact HE.out
  obtain ⟨hgn, hp1, hp2, hri⟩ := ss_parts hok
  obtain ⟨P, rfl⟩ : ∃ P : Nat, p = (P : Int) := ⟨p.toNat, by omega⟩
  have HQ := hide (l8Siphon_any P a ax n c nx cx L xs w1 (HL.out.below hb) (HRX.out.below hb) hx hgn hri)
  have HE : Hid (∀ W, Below w.heap.size w W → IssEnd true (P : Int) n L xs w (.returned (.tuple #[.bool (!slips true (maskL xs) n L), .bool true])) W) := fun W hW => ⟨by rw [hok]; rfl, hW⟩
  generalize slips true (maskL xs) n L = r at *
  clear HT hb hok HB0 hAl hN HRX HL hgn hri
  go_wp2_with fail
  refine HQ.out.mono ?_
  rintro e w2 ⟨rfl, hb⟩
  have HB3 := hide (HB1.out.trans (hb.mono HB1.out.size))
  clear hb HQ hc0 hc1 HB1 hlt
  go_wp2_with fail
  go_ret2
  exact HE.out _ HB3.out

set_option maxHeartbeats 1000000 in
theorem isTrapS_any (p : Int) (a ax : Option Addr) (n c nx cx : Nat) (L : List (List Int)) (xs : List Int) (w : World) (h : Lists w a (3 * n) L) (rx : Row w ax nx xs) (hs : sizeN n L ≤ 1048576) (hx : nx ≤ 1048576) :
    Calls Try.prog 35 #[.agg #[.int .i64 p, .slice a n c], .slice ax nx cx] w fun e w' => IssEnd false p n L xs w e w' := by
  have hAl := below_al w (.cells #[.int .i64 p, .slice a n c] 26)
  have hN := heap_alloc_new w (.cells #[.int .i64 p, .slice a n c] 26)
  have HT := hide (l8Asked_any p a ax n c nx cx L xs _ (h.below hAl) (rx.below hAl) hs hx)
  have HL := hide (h.below hAl)
  have HRX := hide (rx.below hAl)
  have HB0 := hide hAl
  clear h rx
  go_enter Try.func35, Try.ntmps35
  go_wp2_with fail
  refine HT.out.mono ?_
  rintro e w1 ⟨rfl, hb⟩
  have HB1 := hide (HB0.out.trans (hb.mono HB0.out.size))
  obtain ⟨hc0, hc1⟩ := cells2 (keep hN hb)
  have hlt := row_lt (keep hN hb)
  cases hok : ssOk p n L xs
  · have HE : Hid (IssEnd false p n L xs w (.returned (.tuple #[.bool false, .bool false])) w1) := ⟨by rw [hok]; rfl, HB1.out⟩
    clear HT hb hok HB0 hAl hN HRX HL
    go_wp2_with fail
    go_ret2
    exact HE.out
  obtain ⟨hgn, hp1, hp2, hri⟩ := ss_parts hok
  obtain ⟨P, rfl⟩ : ∃ P : Nat, p = (P : Int) := ⟨p.toNat, by omega⟩
  have HQ := hide (l8Trap_any P a ax n c nx cx L xs w1 (HL.out.below hb) (HRX.out.below hb) hx hgn hri)
  have HE : Hid (∀ W, Below w.heap.size w W → IssEnd false (P : Int) n L xs w (.returned (.tuple #[.bool (!slips false (maskL xs) n L), .bool true])) W) := fun W hW => ⟨by rw [hok]; rfl, hW⟩
  generalize slips false (maskL xs) n L = r at *
  clear HT hb hok HB0 hAl hN HRX HL hgn hri
  go_wp2_with fail
  refine HQ.out.mono ?_
  rintro e w2 ⟨rfl, hb⟩
  have HB3 := hide (HB1.out.trans (hb.mono HB1.out.size))
  clear hb HQ hc0 hc1 HB1 hlt
  go_wp2_with fail
  go_ret2
  exact HE.out _ HB3.out
end Go.Proofs.Ytajcmamapmeglaa


/- The places that are left, in a map: left, meets, takeOut and set of the program. -/
namespace Go.Proofs.Ytajcmamapmeglaa
open Go.RowKit
open Go.Maps (Keyed)
set_option maxRecDepth 10000

/-- The members of m that s has not. -/
def subN (m s : Nat) : Nat := m &&& (m ^^^ s)

theorem subN_bit (m s i : Nat) : (subN m s).testBit i = (m.testBit i && !s.testBit i) := by
  unfold subN
  rw [Nat.testBit_and, Nat.testBit_xor]
  cases m.testBit i <;> cases s.testBit i <;> rfl

theorem subN_zero (m : Nat) : subN m 0 = m := by
  apply Nat.eq_of_testBit_eq; intro i; rw [subN_bit]; simp

theorem subN_lt {m s j : Nat} (h : m < 2 ^ j) : subN m s < 2 ^ j := Nat.lt_of_le_of_lt Nat.and_le_left h

theorem subN_or (m s t : Nat) : subN (subN m s) t = subN m (s ||| t) := by
  apply Nat.eq_of_testBit_eq; intro i
  simp only [subN_bit, Nat.testBit_or]
  cases m.testBit i <;> cases s.testBit i <;> cases t.testBit i <;> rfl

theorem mask_nums (s : Nat) (hs : s < 2 ^ 16) : maskL (nums2 s.testBit 16) = s := by
  apply Nat.eq_of_testBit_eq; intro i
  rw [maskL_bit _ _ (fun x hx => by simp [nums2] at hx; obtain ⟨a, _, rfl⟩ := hx; omega)]
  by_cases hi : i < 16
  · cases h : s.testBit i
    · rw [decide_eq_false]
      simp only [nums2, List.mem_map, List.mem_filter, List.mem_range, not_exists, not_and]
      rintro a ⟨_, h2⟩ e
      rw [show a = i by omega, h] at h2; simp at h2
    · rw [decide_eq_true]
      simp only [nums2, List.mem_map, List.mem_filter, List.mem_range]
      exact ⟨i, ⟨hi, h⟩, rfl⟩
  · rw [Nat.testBit_lt_two_pow (Nat.lt_of_lt_of_le hs (Nat.pow_le_pow_right (by decide) (by omega)))]
    rw [decide_eq_false]; simp [nums2]; omega

theorem nums_len (f : Nat → Bool) (k : Nat) : (nums2 f k).length ≤ k := by
  unfold nums2
  rw [List.length_map]
  exact Nat.le_trans (List.length_filter_le _ _) (by simp)

theorem nums_in {s : Nat} {x : Int} (h : x ∈ nums2 s.testBit 16) : 0 ≤ x ∧ x < 16 ∧ s.testBit x.toNat = true := by
  simp [nums2] at h
  obtain ⟨a, ⟨h1, h2⟩, rfl⟩ := h
  exact ⟨by omega, by omega, by simpa using h2⟩

/-- Those keys that are members of m. -/
def KeysM (left : Lit → Bool) (m : Nat) : Prop := ∀ kl, left kl = (match kl with | .int .i64 x => decide (0 ≤ x) && m.testBit x.toNat | _ => false)

/-- What a map's datum has: the members of m. -/
def HasM (D : DataW Unit) (m : Nat) : Prop := KeysM (Maps.has D) m

/-- One key has come: it is none of those still to come. -/
theorem KeysM.next {left : Lit → Bool} {m : Nat} (h : KeysM left m) {x : Int} (hx : left (.int .i64 x) = true) (hm : m < 2 ^ 16) : ∃ y : Nat, x = (y : Int) ∧ y < 16 ∧ m.testBit y = true ∧ KeysM (fun z => left z && !z.sameKey (.int .i64 x)) (subN m (2 ^ y)) := by
  have h0 := h (.int .i64 x)
  rw [hx] at h0
  simp at h0
  obtain ⟨h1, h2⟩ := h0
  obtain ⟨y, rfl⟩ : ∃ y : Nat, x = (y : Int) := ⟨x.toNat, by omega⟩
  rw [Int.toNat_natCast] at h2
  refine ⟨y, rfl, ?_, h2, fun kl => ?_⟩
  · rcases Nat.lt_or_ge y 16 with h3 | h3
    · exact h3
    · rw [Nat.testBit_lt_two_pow (Nat.lt_of_lt_of_le hm (Nat.pow_le_pow_right (by decide) h3))] at h2; simp at h2
  · show (left kl && !kl.sameKey (.int .i64 (y : Int))) = _
    rw [h kl]
    by_cases e : kl = .int .i64 (y : Int)
    · subst e
      simp [subN_bit, Lit.sameKey]
    · rw [Maps.sameKey_ne e]
      split
      · next z =>
        by_cases hz : 0 ≤ z
        · have : z.toNat ≠ y := fun e2 => e (by subst e2; rw [Int.toNat_of_nonneg hz])
          rw [subN_bit, Nat.testBit_two_pow]
          simp [hz]
          intro _ e3; exact this e3.symm
        · simp [hz]
      · rfl

theorem keysM_zero {left : Lit → Bool} {m : Nat} (h : KeysM left m) (hl : ∀ kl, left kl = false) : m = 0 := by
  apply Nat.eq_of_testBit_eq
  intro i
  have := h (.int .i64 (i : Int))
  rw [hl] at this
  simp at this
  rw [this]; simp

theorem hasM_none : HasM (.map []) 0 := fun kl => by
  show false = _
  split <;> simp

theorem hasM_at {D : DataW Unit} {m : Nat} (h : HasM D m) (x : Nat) : Maps.has D (.int .i64 (x : Int)) = m.testBit x := by
  rw [h]; simp

theorem HasM.put {D : DataW Unit} {m : Nat} (h : HasM D m) (hD : Maps.IsMap D) (x : Nat) (d : DataW Unit) : HasM (D.put (.int .i64 (x : Int)) d) (m ||| 2 ^ x) := fun kl => by
  by_cases e : kl = .int .i64 (x : Int)
  · subst e
    rw [Maps.has_put_same hD (by trivial)]
    simp [Nat.testBit_or]
  · rw [Maps.has_put_other e, h kl]
    split
    · next y =>
      by_cases hy : 0 ≤ y
      · have : y.toNat ≠ x := fun e2 => e (by subst e2; rw [Int.toNat_of_nonneg hy])
        rw [Nat.testBit_or, Nat.testBit_two_pow]
        simp [hy]
        intro e3; exact absurd e3.symm this
      · simp [hy]
    · rfl

theorem HasM.del {D : DataW Unit} {m : Nat} (h : HasM D m) (x : Nat) : HasM (D.del (.int .i64 (x : Int))) (subN m (2 ^ x)) := fun kl => by
  by_cases e : kl = .int .i64 (x : Int)
  · subst e
    rw [Maps.has_del_same]
    simp [subN_bit]
  · rw [Maps.has_del_other e, h kl]
    split
    · next y =>
      by_cases hy : 0 ≤ y
      · have : y.toNat ≠ x := fun e2 => e (by subst e2; rw [Int.toNat_of_nonneg hy])
        rw [subN_bit, Nat.testBit_two_pow]
        simp [hy]
        intro _ e3; exact this e3.symm
      · simp [hy]
    · rfl

/-- Block b is a map that has the members of m; sz: how many they are. -/
def LeftIs (w : World) (b m sz N : Nat) : Prop := ∃ n D, w.ownsMap Try.prog 3 (unitElem (H := Unit)) b n D ∧ n ≤ N ∧ HasM D m ∧ Maps.size D = sz

theorem LeftIs.grown {w w' : World} {b m sz N : Nat} {row : Option Nat} (h : LeftIs w b m sz N) (hg : w.grownBy w' row) (hne : some b ≠ row) : LeftIs w' b m sz N := by
  obtain ⟨n, D, h1, h2, h3, h4⟩ := h
  exact ⟨n, D, h1.kept hg hne, h2, h3, h4⟩

theorem grown_of {w w' : World} (h : Below w.heap.size w w') (row : Option Nat) : w.grownBy w' row := ⟨h.os, h.tape, h.output, h.size, fun i hi _ => h.block i hi⟩

theorem LeftIs.below {w w' : World} {b m sz N : Nat} (h : LeftIs w b m sz N) (hb : Below w.heap.size w w') : LeftIs w' b m sz N := h.grown (grown_of hb none) (by simp)

theorem rowOff {w w' : World} {a : Option Addr} {n b : Nat} {xs : List Int} (h : Row w a n xs) (hg : w.grownBy w' (some b)) (hne : 0 < n → ∀ x, a = some x → x.block ≠ b) : Row w' a n xs := by
  refine ⟨h.1, ?_⟩
  rcases h.2 with h0 | ⟨g, off, rfl, hl, hc⟩
  · exact .inl h0
  · by_cases hn : n = 0
    · exact .inl hn
    have hgb := hne (by omega) _ rfl
    have e : w'.heap[g]? = w.heap[g]? := hg.block g hl (fun e => hgb (by simpa using e))
    exact .inr ⟨g, off, rfl, Nat.lt_of_lt_of_le hl hg.size, fun i hi => (World.cell?_of_block (w := w) e).trans (hc i hi)⟩

theorem kInt : Keyed Try.prog 3 := Maps.int_keyed Try.underlying3
theorem leftU : Try.prog.underlying 150 = some (.map 3 155) := by kernel_rfl

theorem wfFin : ∀ x : Fin 64, (Lit.int .i64 (x.val : Int)).wf = true := by decide
theorem wfInt {x : Nat} (h : x < 64) : (Lit.int .i64 (x : Int)).wf = true := wfFin ⟨x, h⟩

set_option maxHeartbeats 1000000 in
theorem left_any (s : Nat) (w : World) (hs : s < 2 ^ 16) :
    Calls Try.prog 152 #[.int .u16 (s : Int)] w fun e w' => ∃ b sz, e = .returned (.map (some b)) ∧ w.heap.size ≤ b ∧ LeftIs w' b s sz 16 ∧ Below w.heap.size w w' := by
  have hA := below_al w (.map #[] 0)
  have HO := hide (World.ownsMap_made w Try.prog 3 (unitElem (H := Unit)))
  have HL := hide (setList_any s (w.alloc (.map #[] 0)) hs)
  have HB0 := hide hA
  clear hA
  have hmm := @run_makeMap Try.prog
  go_enter Try.func152, Try.ntmps152
  go_wp2_with fail
  refine HL.out.mono ?_
  rintro e w1 ⟨a1, b1, m1, c1, rfl, hb1, ho1, hb⟩
  have HB1 := hide (HB0.out.trans (hb.mono HB0.out.size))
  have HM1 := hide (show LeftIs w1 w.heap.size 0 0 0 from (show LeftIs (w.alloc (.map #[] 0)) w.heap.size 0 0 0 from ⟨0, _, HO.out, by omega, hasM_none, rfl⟩).below hb)
  have HR1 := hide ho1.row
  have hb1' : w.heap.size < b1 := by have : (w.alloc (.map #[] 0)).heap.size = w.heap.size + 1 := by simp
                                     omega
  have HNE : Hid (0 < m1 → ∀ x, a1 = some x → x.block ≠ w.heap.size) := fun h0 x hx => by
    rcases ho1.2 with h | ⟨e, _⟩
    · omega
    · rw [e] at hx; injection hx with hx; subst hx; show b1 ≠ _; omega
  have hm16 : m1 ≤ 16 := by have h := ho1.1; have := nums_len s.testBit 16; omega
  obtain ⟨l, hl⟩ : ∃ l, Hid (nums2 s.testBit 16 = l) := ⟨_, rfl⟩
  have HMK : Hid (maskL l = s) := by show _ = _; rw [← hl.out]; exact mask_nums s hs
  have HIN : Hid (∀ x ∈ l, 0 ≤ x ∧ x < 16) := fun x hx => by rw [← hl.out] at hx; have := nums_in hx; exact ⟨this.1, this.2.1⟩
  rw [hl.out] at HR1
  have hll : l.length = m1 := HR1.out.1
  obtain ⟨b, hbb⟩ : ∃ b, Hid (w.heap.size = b) := ⟨_, rfl⟩
  rw [hbb.out] at HM1 HNE ⊢
  have hbw : w.heap.size ≤ b := by rw [hbb.out]; exact Nat.le_refl _
  clear hb ho1 hl HL HO HB0 hb1 hb1'
  go_wp2_with fail
  go_loopw [10] (fun i wr => ∃ k sz : Nat, k ≤ m1 ∧ i = .int .i64 k ∧ Hid (LeftIs wr b (maskL (l.take k)) sz k) ∧ Hid (Row wr a1 m1 l) ∧ Hid (Below w.heap.size w wr)) (fun i _ => m1 - (intOf i).toNat)
  case atStart => exact ⟨0, 0, Nat.zero_le _, rfl, HM1, HR1, HB1⟩
  case round =>
    obtain ⟨k, sz, hk, rfl, hm, hr, hbw2⟩ := hrel
    clear HM1 HR1 HB1
    by_cases hlt : k < m1
    rotate_left
    · have hk' : m1 = k := by omega
      subst hk'
      have HE : Hid (LeftIs wr b s sz 16) := by
        obtain ⟨n, D, h1, h2, h3, h4⟩ := hm.out
        rw [List.take_of_length_le (by omega), HMK.out] at h3
        exact ⟨n, D, h1, by omega, h3, h4⟩
      clear hm hr
      go_wp2_with fail
      go_ret
      exact ⟨b, sz, rfl, hbw, HE.out, hbw2.out⟩
    obtain ⟨g, off, x, rfl, hgl, hcx, HX⟩ := hr.out.at hlt
    obtain ⟨hx0, hx1⟩ := HIN.out x (List.mem_of_getElem? HX.out)
    obtain ⟨y, rfl⟩ : ∃ y : Nat, x = (y : Int) := ⟨x.toNat, by omega⟩
    obtain ⟨n, D, hD1, hD2, hD3, hD4⟩ := hm.out
    have HD1 := hide hD1
    have HD3 := hide hD3
    have hnM : n < maxLen := by unfold maxLen; omega
    have hky := Maps.keyOf_int_mk (P := Try.prog) (k := 3) Try.underlying3 (wfInt (x := y) (by omega))
    have HMS : Hid (maskL (l.take (k + 1)) = maskL (l.take k) ||| 2 ^ y) := by show _ = _; have h := maskL_take l k (y : Int) HX.out; rw [Int.toNat_natCast] at h; first | exact h | exact h.symm
    have HNG : g ≠ b := HNE.out (by omega) _ rfl
    clear hD1 hD3 hm
    go_wp2_with (first | (at_mapUpdate; refine wpList_mapUpdate_in _ rfl _ _ _ 150 rfl 3 155 kInt leftU _ b n D rfl HD1.out hnM _ _ _ rfl rfl hky (.agg []) [] unitElem_mk ?_; intro w2 hown2 hturn2))
    have HL2 : Hid (∃ sz, LeftIs w2 b (maskL (l.take (k + 1))) sz (k + 1)) := by
      refine ⟨_, n + 1, _, hown2, by omega, ?_, rfl⟩
      rw [HMS.out]; exact HD3.out.put (HD1.out.isMap) y _
    obtain ⟨sz2, hl2⟩ := HL2.out
    have HL3 := hide hl2
    have HR2 := hide (rowOff hr.out hturn2.grown (fun _ x hx => by injection hx with hx; subst hx; exact HNG))
    have HB2 := hide (hbw2.out.grown hturn2.grown hbw2.out.size (fun q hq => by injection hq with hq; omega))
    clear hown2 hturn2 HL2 hl2 hr hbw2 HD1 HD3 hcx hgl HMS hky
    go_wp2_with fail
    go_roundw
    case rel => exact ⟨k + 1, sz2, by omega, by go_num, HL3, HR2, HB2⟩
    case measure => simp [intOf]; omega

theorem wpList_next_left (w : World) {ops : Array Oper} {rest : List Oper} {o : Oper} {a : Act} {Q : Exit → Act → World → Prop} (hg : o.guard = none) (it : Operand) (hop : o.op = Op.next it false)
    (b r n : Nat) (D : DataW Unit) (left : Lit → Bool) (cnt mL : Nat) (hit : a.eval it = .pointer (some ⟨r, 0, none⟩)) (h : w.ranges Try.prog 3 (unitElem (H := Unit)) b r n D left cnt) (hk : KeysM left mL) (hm : mL < 2 ^ 16)
    (hDone : mL = 0 → wpList Try.prog ops Q rest (a.put o.dst (.tuple #[.bool false])) w)
    (hMore : ∀ (y : Nat) (w' : World) (left' : Lit → Bool) (cnt' : Nat), y < 16 → mL.testBit y = true → w'.ranges Try.prog 3 (unitElem (H := Unit)) b r n D left' cnt' → KeysM left' (subN mL (2 ^ y)) → cnt' < cnt →
      w.grownBy w' (some r) → w'.heap.size = w.heap.size → (Instr.entry (.pointer (some ⟨r, 0, none⟩))).run Try.prog w' = .ok (.tuple #[.int .i64 (y : Int), .agg #[]]) w' → wpList Try.prog ops Q rest (a.put o.dst (.tuple #[.bool true, .int .i64 (y : Int), .agg #[]])) w') :
    wpList Try.prog ops Q (o :: rest) a w :=
  wpList_next_ranges w hg it hop 3 kInt (unitElem (H := Unit)) (Value.int .i64) (fun (_ : Unit) => Value.agg #[]) (fun key kl hkey => by obtain ⟨x, rfl, _⟩ := Maps.keyOf_int_inv Try.underlying3 hkey; exact ⟨x, rfl⟩) (fun v y hv => ⟨(), (unitElem_inv hv).1⟩)
    b r n D left cnt hit h (fun _ hl => hDone (keysM_zero hk hl)) (fun x c kl y w' cnt' hkey hlk hv hat hrg hlt hgr hsz hen => by
      obtain ⟨x', ex, rfl, hwx⟩ := Maps.keyOf_int_inv Try.underlying3 hkey
      cases ex
      obtain ⟨z, rfl, hz, hb, hk'⟩ := hk.next hlk hm
      exact hMore z w' _ cnt' hz hb hrg hk' hlt hgr hsz hen)

theorem and_hit {m s y : Nat} (h1 : m.testBit y = true) (h2 : s.testBit y = true) : m &&& s ≠ 0 := fun e => by
  have : (m &&& s).testBit y = true := by rw [Nat.testBit_and, h1, h2]; rfl
  rw [e] at this; simp at this

theorem and_sub {m s y : Nat} (h : s.testBit y = false) : subN m (2 ^ y) &&& s = m &&& s := by
  apply Nat.eq_of_testBit_eq; intro i
  rw [Nat.testBit_and, Nat.testBit_and, subN_bit, Nat.testBit_two_pow]
  by_cases e : y = i
  · subst e; rw [h]; simp
  · simp [e]

set_option maxHeartbeats 1000000 in
theorem meets_any (b m sz N s : Nat) (w : World) (h : LeftIs w b m sz N) (hm : m < 2 ^ 16) (hs : s < 2 ^ 16) :
    Calls Try.prog 153 #[.map (some b), .int .u16 (s : Int)] w fun e w' => e = .returned (.bool (!decide (m &&& s = 0))) ∧ Below w.heap.size w w' := by
  obtain ⟨n, D, hD1, hD2, hD3, hD4⟩ := h
  have HD1 := hide hD1
  have HD3 := hide hD3
  have hbs := hD1.lt
  clear hD1 hD3
  go_enter Try.func153, Try.ntmps153
  go_wp2_with (first | (at_range; refine wpList_range_own _ rfl _ 150 rfl 3 155 kInt leftU _ b n D rfl HD1.out ?_; intro w0 hrg0 hg0 hs0))
  go_frame
  have HB0 := hide (show Below w.heap.size w w0 from (Below.refl _ w).grown hg0 (Nat.le_refl _) (fun k hk => by simp at hk))
  have HRG := hide hrg0
  have HK0 := hide (show KeysM (Maps.has D) m from HD3.out)
  obtain ⟨r, hr⟩ : ∃ r, Hid (w.heap.size = r) := ⟨_, rfl⟩
  rw [hr.out] at HRG ⊢
  have hrb : w.heap.size ≤ r := by rw [hr.out]; exact Nat.le_refl _
  clear hrg0 hg0 hs0 HD1 HD3
  go_loopw [5] (fun _ wr => ∃ left cnt mL, Hid (wr.ranges Try.prog 3 (unitElem (H := Unit)) b r n D left cnt) ∧ Hid (KeysM left mL) ∧ mL < 2 ^ 16 ∧ Hid (m &&& s = mL &&& s) ∧ Hid (Below w.heap.size w wr)) (fun _ wr => wr.rangeLeft b r)
  case atStart => exact ⟨_, _, m, HRG, HK0, hm, rfl, HB0⟩
  case round =>
    clear HRG HK0 HB0
    obtain ⟨left, cnt, mL, hrg, hk, hml, hms, hbw⟩ := hrel
    go_wp2_with (at_next; refine wpList_next_left _ rfl _ rfl b r n D left cnt mL rfl hrg.out hk.out hml ?_ ?_)
    · intro h0
      have HE : Hid ((!decide (m &&& s = 0)) = false) := by show _ = _; rw [hms.out, h0]; simp
      clear hrg hk hms
      go_wp2_with fail
      go_ret
      exact ⟨ret_bool HE.out.symm, hbw.out⟩
    · intro y w1 left' cnt' hy hby hrg' hk' hlt hg1 hs1 hen
      have HB1 := hide (hbw.out.grown hg1 hbw.out.size (fun q hq => by injection hq with hq; omega))
      have HRG := hide hrg'
      have HKK := hide hk'
      have HLE := hide (show wr.rangeLeft b r = cnt from hrg.out.left_eq)
      have HLE2 := hide (show w1.rangeLeft b r = cnt' from hrg'.left_eq)
      have HHIT : Hid (s.testBit y = true → (!decide (m &&& s = 0)) = true) := fun h => by
        rw [hms.out]; simp [and_hit hby h]
      have HMIS : Hid (s.testBit y = false → m &&& s = subN mL (2 ^ y) &&& s) := fun h => by rw [and_sub h]; exact hms.out
      have HS := hide (has2_any s y w1 hs hy)
      clear hrg' hk' hg1 hs1 hrg hk hms hbw
      go_wp2_with fail
      refine HS.out.mono ?_
      rintro e w2 ⟨rfl, rfl⟩
      cases hb : s.testBit y
      · have HM2 := hide (HMIS.out hb)
        clear HS HHIT HMIS hb
        go_wp2_with fail
        go_roundw
        case rel => exact ⟨left', cnt', _, HRG, HKK, subN_lt hml, HM2, HB1⟩
        case measure => rw [HLE.out, HLE2.out]; omega
      · have HE := hide (HHIT.out hb)
        clear HS HHIT HMIS hb
        go_wp2_with fail
        go_ret
        exact ⟨ret_bool HE.out.symm, HB1.out⟩

set_option maxHeartbeats 1000000 in
theorem takeOut_any (b m sz N s : Nat) (w : World) (h : LeftIs w b m sz N) (hs : s < 2 ^ 16) :
    Calls Try.prog 154 #[.map (some b), .int .u16 (s : Int)] w fun e w' => e = .returned (.tuple #[]) ∧ (∃ sz', LeftIs w' b (subN m s) sz' N ∧ sz' ≤ sz ∧ (sz' = sz → subN m s = m)) ∧ w.grownBy w' (some b) := by
  have HL := hide (setList_any s w hs)
  have HM0 := hide h
  have hbs : b < w.heap.size := by obtain ⟨n, D, h1, _⟩ := h; exact h1.lt
  clear h
  go_enter Try.func154, Try.ntmps154
  go_wp2_with fail
  refine HL.out.mono ?_
  rintro e w1 ⟨a1, b1, m1, c1, rfl, hb1, ho1, hb⟩
  have HG1 := hide (grown_of hb (some b))
  have HM1 := hide (HM0.out.below hb)
  have HR1 := hide ho1.row
  have HNE : Hid (0 < m1 → ∀ x, a1 = some x → x.block ≠ b) := fun h0 x hx => by
    rcases ho1.2 with h | ⟨e, _⟩
    · omega
    · rw [e] at hx; injection hx with hx; subst hx; show b1 ≠ _; omega
  have hm16 : m1 ≤ 16 := by have h := ho1.1; have := nums_len s.testBit 16; omega
  obtain ⟨l, hl⟩ : ∃ l, Hid (nums2 s.testBit 16 = l) := ⟨_, rfl⟩
  have HMK : Hid (maskL l = s) := by show _ = _; rw [← hl.out]; exact mask_nums s hs
  have HIN : Hid (∀ x ∈ l, 0 ≤ x ∧ x < 16) := fun x hx => by rw [← hl.out] at hx; have := nums_in hx; exact ⟨this.1, this.2.1⟩
  rw [hl.out] at HR1
  have hll : l.length = m1 := HR1.out.1
  clear hb ho1 hl HL HM0 hb1
  go_wp2_with fail
  go_loopw [9] (fun i wr => ∃ k sz2 : Nat, k ≤ m1 ∧ i = .int .i64 k ∧ Hid (LeftIs wr b (subN m (maskL (l.take k))) sz2 N) ∧ sz2 ≤ sz ∧ Hid (sz2 = sz → subN m (maskL (l.take k)) = m) ∧ Hid (Row wr a1 m1 l) ∧ Hid (w.grownBy wr (some b))) (fun i _ => m1 - (intOf i).toNat)
  case atStart => exact ⟨0, sz, Nat.zero_le _, rfl, by show LeftIs _ _ (subN m 0) _ _; rw [subN_zero]; exact HM1, Nat.le_refl _, fun _ => subN_zero m, HR1, HG1⟩
  case round =>
    obtain ⟨k, sz2, hk, rfl, hmm, hsz, hsame, hr, hg⟩ := hrel
    clear HM1 HR1 HG1
    by_cases hlt : k < m1
    rotate_left
    · have hk' : m1 = k := by omega
      subst hk'
      have HE : Hid (∃ sz', LeftIs wr b (subN m s) sz' N ∧ sz' ≤ sz ∧ (sz' = sz → subN m s = m)) := by
        have h1 := hmm.out
        have h2 := hsame.out
        rw [List.take_of_length_le (by omega), HMK.out] at h1 h2
        exact ⟨sz2, h1, hsz, h2⟩
      clear hmm hr hsame
      go_wp2_with fail
      exact ⟨rfl, .tuple #[], by simp [results, Try.results154, go_sem], rfl, HE.out, hg.out⟩
    obtain ⟨g, off, x, rfl, hgl, hcx, HX⟩ := hr.out.at hlt
    obtain ⟨hx0, hx1⟩ := HIN.out x (List.mem_of_getElem? HX.out)
    obtain ⟨y, rfl⟩ : ∃ y : Nat, x = (y : Int) := ⟨x.toNat, by omega⟩
    obtain ⟨n, D, hD1, hD2, hD3, hD4⟩ := hmm.out
    have HD1 := hide hD1
    have HD3 := hide hD3
    have HD4 := hide hD4
    have hky := Maps.keyOf_int_mk (P := Try.prog) (k := 3) Try.underlying3 (wfInt (x := y) (by omega))
    have HMS : Hid (subN m (maskL (l.take (k + 1))) = subN (subN m (maskL (l.take k))) (2 ^ y)) := by
      show _ = _
      have h := maskL_take l k (y : Int) HX.out
      rw [Int.toNat_natCast] at h
      rw [subN_or]
      first | rw [h] | rw [← h]
    have HNG : g ≠ b := HNE.out (by omega) _ rfl
    clear hD1 hD3 hmm hD4
    go_wp2_with (first | (at_delete; refine wpList_delete_own _ rfl _ _ 150 3 rfl 155 kInt leftU _ b n D rfl HD1.out _ _ rfl hky ?_; intro w2 hown2 hturn2))
    have HL2 : Hid (∃ sz3, LeftIs w2 b (subN m (maskL (l.take (k + 1)))) sz3 N ∧ sz3 ≤ sz ∧ (sz3 = sz → subN m (maskL (l.take (k + 1))) = m)) := by
      have hsd := Maps.size_del (k := .int .i64 (y : Int)) (HD1.out.tidy kInt)
      have hat := hasM_at HD3.out y
      rw [hat, HD4.out] at hsd
      refine ⟨_, ⟨n, _, hown2, hD2, ?_, rfl⟩, by omega, fun he => ?_⟩
      · rw [HMS.out]; exact HD3.out.del y
      · have hno : (subN m (maskL (l.take k))).testBit y = false := by
          cases hb : (subN m (maskL (l.take k))).testBit y
          · rfl
          · rw [hb] at hsd; simp at hsd; omega
        rw [hno] at hsd
        simp at hsd
        have h0 := hsame.out (by omega)
        rw [HMS.out, h0]
        rw [h0] at hno
        apply Nat.eq_of_testBit_eq; intro i
        rw [subN_bit, Nat.testBit_two_pow]
        by_cases e : y = i
        · subst e; rw [hno]; rfl
        · simp [e]
    obtain ⟨sz3, hl2, hl3, hl4⟩ := HL2.out
    have HL3 := hide hl2
    have HL4 := hide hl4
    have HR2 := hide (rowOff hr.out hturn2.grown (fun _ x hx => by injection hx with hx; subst hx; exact HNG))
    have HG2 := hide (hg.out.andThen hturn2.grown (fun j hj => .inr (by injection hj with hj; subst hj; rfl)))
    clear hown2 hturn2 HL2 hl2 hl4 hr hg HD1 HD3 HD4 hcx hgl HMS hky hsame
    go_wp2_with fail
    go_roundw
    case rel => exact ⟨k + 1, sz3, by omega, by go_num, HL3, hl3, HL4, HR2, HG2⟩
    case measure => simp [intOf]; omega

theorem or_step {a m y : Nat} (h : m.testBit y = true) : (a ||| 2 ^ y) ||| subN m (2 ^ y) = a ||| m := by
  apply Nat.eq_of_testBit_eq; intro i
  simp only [Nat.testBit_or, subN_bit, Nat.testBit_two_pow]
  by_cases e : y = i
  · subst e; rw [h]; simp
  · simp [e]

theorem or_shl {a y : Nat} (ha : a < 2 ^ 16) (hy : y < 16) : bits .or .u16 (a : Int) (IntKind.u16.wrap (2 ^ y)) = ((a ||| 2 ^ y : Nat) : Int) := by
  have hx2 : 2 ^ y < 2 ^ 16 := Nat.pow_lt_pow_right (by decide) hy
  have hx3 : ((2 : Int) ^ y) = ((2 ^ y : Nat) : Int) := by simp
  rw [hx3, wraps_u16 _ (Int.natCast_nonneg _) (by exact_mod_cast hx2), or_u16 _ _ ha hx2]

set_option maxHeartbeats 1000000 in
theorem leftSet_any (b m sz N : Nat) (w : World) (h : LeftIs w b m sz N) (hm : m < 2 ^ 16) :
    Calls Try.prog 155 #[.map (some b)] w fun e w' => e = .returned (.int .u16 (m : Int)) ∧ Below w.heap.size w w' := by
  obtain ⟨n, D, hD1, hD2, hD3, hD4⟩ := h
  have HD1 := hide hD1
  have HD3 := hide hD3
  clear hD1 hD3
  go_enter Try.func155, Try.ntmps155
  go_wp2_with (first | (at_range; refine wpList_range_own _ rfl _ 150 rfl 3 155 kInt leftU _ b n D rfl HD1.out ?_; intro w0 hrg0 hg0 hs0))
  go_frame
  have HB0 := hide (show Below w.heap.size w w0 from (Below.refl _ w).grown hg0 (Nat.le_refl _) (fun k hk => by simp at hk))
  have HRG := hide hrg0
  have HK0 := hide (show KeysM (Maps.has D) m from HD3.out)
  obtain ⟨r, hr⟩ : ∃ r, Hid (w.heap.size = r) := ⟨_, rfl⟩
  rw [hr.out] at HRG ⊢
  have hrb : w.heap.size ≤ r := by rw [hr.out]; exact Nat.le_refl _
  clear hrg0 hg0 hs0 HD1 HD3
  go_loopw [3, 4] (fun u _ wr => ∃ left cnt mL acc, u = .int .u16 ((acc : Nat) : Int) ∧ acc < 2 ^ 16 ∧ Hid (wr.ranges Try.prog 3 (unitElem (H := Unit)) b r n D left cnt) ∧ Hid (KeysM left mL) ∧ mL < 2 ^ 16 ∧ Hid (acc ||| mL = m) ∧ Hid (Below w.heap.size w wr)) (fun _ _ wr => wr.rangeLeft b r)
  case atStart => exact ⟨_, _, m, 0, rfl, by decide, HRG, HK0, hm, by show _ = _; simp, HB0⟩
  case round =>
    clear HRG HK0 HB0
    obtain ⟨left, cnt, mL, acc, rfl, hacc, hrg, hk, hml, hms, hbw⟩ := hrel
    go_wp2_with (at_next; refine wpList_next_left _ rfl _ rfl b r n D left cnt mL rfl hrg.out hk.out hml ?_ ?_)
    · intro h0
      have HE : Hid (acc = m) := by show _ = _; rw [← hms.out, h0]; simp
      clear hrg hk hms
      rw [HE.out]
      go_wp2_with fail
      go_ret
      exact ⟨rfl, hbw.out⟩
    · intro y w1 left' cnt' hy hby hrg' hk' hlt hg1 hs1 hen
      have HB1 := hide (hbw.out.grown hg1 hbw.out.size (fun q hq => by injection hq with hq; omega))
      have HRG := hide hrg'
      have HKK := hide hk'
      have HLE := hide (show wr.rangeLeft b r = cnt from hrg.out.left_eq)
      have HLE2 := hide (show w1.rangeLeft b r = cnt' from hrg'.left_eq)
      have HMM : Hid ((acc ||| 2 ^ y) ||| subN mL (2 ^ y) = m) := by show _ = _; rw [or_step hby]; exact hms.out
      have HOR := or_shl hacc hy
      have hy0 : (0 : Int) ≤ (y : Int) := by omega
      have hy1 : (y : Int) < 16 := by omega
      have hac2 : acc ||| 2 ^ y < 2 ^ 16 := Nat.or_lt_two_pow hacc (Nat.pow_lt_pow_right (by decide) hy)
      clear hrg' hk' hg1 hs1 hrg hk hms hbw
      go_wp2_with fail
      go_roundw
      case rel => exact ⟨left', cnt', _, acc ||| 2 ^ y, rfl, hac2, HRG, HKK, subN_lt hml, HMM, HB1⟩
      case measure => rw [HLE.out, HLE2.out]; omega
end Go.Proofs.Ytajcmamapmeglaa
