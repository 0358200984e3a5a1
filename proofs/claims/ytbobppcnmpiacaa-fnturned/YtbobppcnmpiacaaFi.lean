/- Whether a net is of free choice, by the program. -/
import Derived.Test.YtbobppcnmpiacaaFc
namespace Go.Proofs.Ytbobppcnmpiacaa
open Go.RowKit

theorem rise_ext {xs ys : List Int} {lo hi : Int} (hx : riseB xs lo hi = true) (hy : riseB ys lo hi = true) (h : ∀ z, z ∈ xs ↔ z ∈ ys) : xs = ys := by
  induction xs generalizing ys lo with
  | nil =>
    cases ys with
    | nil => rfl
    | cons y r => have := (h y).mpr (by simp); simp at this
  | cons x r ih =>
    cases ys with
    | nil => have := (h x).mp (by simp); simp at this
    | cons y s =>
      simp [riseB] at hx hy
      have hxm := riseB_mem hx.2
      have hym := riseB_mem hy.2
      have e : x = y := by
        have h1 := (h x).mp (by simp)
        have h2 := (h y).mpr (by simp)
        rcases List.mem_cons.mp h1 with e | h1
        · exact e
        · rcases List.mem_cons.mp h2 with e | h2
          · exact e.symm
          · have := hym x h1; have := hxm y h2; omega
      subst e
      congr 1
      refine ih hx.2 hy.2 fun z => ?_
      have hz := h z
      simp only [List.mem_cons] at hz
      constructor
      · intro hm
        rcases hz.mp (.inr hm) with e | hm'
        · have := hxm z hm; omega
        · exact hm'
      · intro hm
        rcases hz.mpr (.inr hm) with e | hm'
        · have := hym z hm; omega
        · exact hm'

theorem same_mask {p : Int} {xs ys : List Int} (hx : riseB xs 0 (p - 1) = true) (hy : riseB ys 0 (p - 1) = true) : sameB xs ys = decide (maskL xs = maskL ys) := by
  have nx := fun z hz => (riseB_mem hx z hz).1
  have ny := fun z hz => (riseB_mem hy z hz).1
  unfold sameB
  congr 1
  apply propext
  constructor
  · intro e; rw [e]
  · intro e
    refine rise_ext hx hy fun z => ?_
    constructor
    · intro hz
      have h0 := nx z hz
      have := maskL_bit xs z.toNat nx
      rw [e, maskL_bit ys z.toNat ny, Int.toNat_of_nonneg h0] at this
      simpa [hz] using this
    · intro hz
      have h0 := ny z hz
      have := maskL_bit ys z.toNat ny
      rw [← e, maskL_bit xs z.toNat nx, Int.toNat_of_nonneg h0] at this
      simpa [hz] using this

theorem meet_mask {p : Int} {xs ys : List Int} (hx : riseB xs 0 (p - 1) = true) (hy : riseB ys 0 (p - 1) = true) : meetB xs ys = !decide (maskL xs &&& maskL ys = 0) := by
  have nx := fun z hz => (riseB_mem hx z hz).1
  have ny := fun z hz => (riseB_mem hy z hz).1
  by_cases h : maskL xs &&& maskL ys = 0
  · simp only [h, decide_true, Bool.not_true]
    unfold meetB
    rw [List.any_eq_false]
    intro z hz
    have h0 := nx z hz
    have hb : (maskL xs &&& maskL ys).testBit z.toNat = false := by rw [h]; exact Nat.zero_testBit _
    rw [Nat.testBit_and, maskL_bit xs _ nx, maskL_bit ys _ ny, Int.toNat_of_nonneg h0] at hb
    unfold hasB
    simpa [hz] using hb
  · simp only [h, decide_false, Bool.not_false]
    obtain ⟨i, hi⟩ := Nat.exists_testBit_of_ne_zero h
    rw [Nat.testBit_and, maskL_bit xs _ nx, maskL_bit ys _ ny] at hi
    simp at hi
    unfold meetB
    rw [List.any_eq_true]
    exact ⟨i, hi.1, by unfold hasB; simpa using hi.2⟩

/-- Whether one step leaves another one its choice. -/
def besideB (s t : Nat) : Bool := decide (s = t) || decide (s &&& t = 0)

theorem clash_beside {p : Int} {L : List (List Int)} {i j : Nat} (hi : triOk p L i = true) (hj : triOk p L j = true) : clashB L i j = !besideB (maskL (L.getD (3 * i) [])) (maskL (L.getD (3 * j) [])) := by
  have h1 : riseB (L.getD (3 * i) []) 0 (p - 1) = true := by unfold triOk at hi; simp only [Bool.and_eq_true] at hi; exact hi.1.1.2
  have h2 : riseB (L.getD (3 * j) []) 0 (p - 1) = true := by unfold triOk at hj; simp only [Bool.and_eq_true] at hj; exact hj.1.1.2
  unfold clashB besideB
  rw [same_mask h1 h2, meet_mask h1 h2]
  cases decide (maskL (L.getD (3 * i) []) = maskL (L.getD (3 * j) [])) <;> cases decide (maskL (L.getD (3 * i) []) &&& maskL (L.getD (3 * j) []) = 0) <;> rfl

theorem beside_comm (s t : Nat) : besideB s t = besideB t s := by
  unfold besideB
  rw [Nat.and_comm, show decide (s = t) = decide (t = s) from by congr 1; exact propext eq_comm]

set_option maxHeartbeats 400000 in
theorem beside_any (s0 s1 s2 t0 t1 t2 : Nat) (w : World) (hs : s0 < 2 ^ 16) (ht : t0 < 2 ^ 16) :
    Calls Try.prog 67 #[.agg #[.int .u16 (s0 : Int), .int .u16 (s1 : Int), .int .u16 (s2 : Int)], .agg #[.int .u16 (t0 : Int), .int .u16 (t1 : Int), .int .u16 (t2 : Int)]] w fun e w' => e = .returned (.bool (besideB s0 t0)) ∧ Below w.heap.size w w' := by
  have hand := and_u16 s0 t0 hs ht
  by_cases h : s0 = t0
  · subst h
    have HB := hide (show besideB s0 s0 = true by unfold besideB; simp)
    have hd : ((s0 : Int) == (s0 : Int)) = true := by simp
    go_enter Try.func67, Try.ntmps67
    go_wp2_with fail
    go_ret
    exact ⟨ret_bool HB.out.symm, below_two _ _ _⟩
  · have hd : ((s0 : Int) == (t0 : Int)) = false := by simp; omega
    by_cases h2 : s0 &&& t0 = 0
    · have HB := hide (show besideB s0 t0 = true by unfold besideB; simp [h2])
      rw [h2] at hand
      go_enter Try.func67, Try.ntmps67
      go_wp2_with fail
      go_ret
      exact ⟨ret_bool HB.out.symm, below_two _ _ _⟩
    · have HB := hide (show besideB s0 t0 = false by unfold besideB; simp [h2, h])
      generalize s0 &&& t0 = st at *
      have hd2 : ((st : Int) == 0) = false := by simp; omega
      go_enter Try.func67, Try.ntmps67
      go_wp2_with fail
      go_ret
      exact ⟨ret_bool HB.out.symm, below_two _ _ _⟩

theorem triOk_of {p : Int} {n i : Nat} {L : List (List Int)} (h : netOk p n L = true) (hi : i < n) : triOk p L i = true := by
  unfold netOk at h
  rw [Bool.and_eq_true] at h
  exact List.all_eq_true.mp h.2 i (by simpa using hi)

theorem netOk_p {p : Int} {n : Nat} {L : List (List Int)} (h : netOk p n L = true) : 1 ≤ p ∧ p ≤ 16 := by
  unfold netOk at h; simp [inB] at h; omega

theorem mask16 {p : Int} {L : List (List Int)} {i : Nat} (h : triOk p L i = true) (hp : 1 ≤ p ∧ p ≤ 16) : maskL (L.getD (3 * i) []) < 2 ^ 16 := by
  refine maskL_lt _ fun x hx => ?_
  have h1 : riseB (L.getD (3 * i) []) 0 (p - 1) = true := by unfold triOk at h; simp only [Bool.and_eq_true] at h; exact h.1.1.2
  have := riseB_mem h1 x hx
  omega

/-- Half of the pairs are enough. -/
theorem free_half {p : Int} {n : Nat} {L : List (List Int)} (h : netOk p n L = true) (hh : (List.range n).all (fun i => (List.range i).all fun j => !clashB L i j) = true) : freeB n L = true := by
  unfold freeB
  rw [List.all_eq_true] at hh ⊢
  intro i hi
  rw [List.all_eq_true]
  intro j hj
  have hi' : i < n := by simpa using hi
  have hj' : j < n := by simpa using hj
  rcases Nat.lt_trichotomy i j with hij | hij | hij
  · have := hh j hj
    rw [List.all_eq_true] at this
    have := this i (by simpa using hij)
    rw [clash_beside (triOk_of h hj') (triOk_of h hi')] at this
    rw [clash_beside (triOk_of h hi') (triOk_of h hj'), beside_comm]; exact this
  · subst hij
    unfold clashB; rw [sameB_self]; simp
  · have := hh i hi
    rw [List.all_eq_true] at this
    exact this j (by simpa using hij)

theorem PartS.at {w : World} {B n k : Nat} {L : List (List Int)} (h : PartS w B (3 * n) (3 * n) L) (hk : k < n) :
    w.cell? ⟨B, k * 3, none⟩ = some (.int .u16 (maskL (L.getD (3 * k) []) : Int)) ∧ w.cell? ⟨B, k * 3 + 1, none⟩ = some (.int .u16 (maskL (L.getD (3 * k + 1) []) : Int)) ∧ w.cell? ⟨B, k * 3 + 2, none⟩ = some (.int .u16 (maskL (L.getD (3 * k + 2) []) : Int)) := by
  obtain ⟨C, h1, h2, h3⟩ := h
  refine ⟨?_, ?_, ?_⟩
  · rw [cell_of_row w B _ C _ _ h1, Nat.mul_comm]; exact h3 _ (by omega)
  · rw [cell_of_row w B _ C _ _ h1, Nat.mul_comm]; exact h3 _ (by omega)
  · rw [cell_of_row w B _ C _ _ h1, Nat.mul_comm]; exact h3 _ (by omega)

set_option maxHeartbeats 4000000 in
theorem freeI_any (p : Int) (a : Option Addr) (n c : Nat) (L : List (List Int)) (w : World) (h : Lists w a (3 * n) L) (hs : sizeN n L ≤ 1048576) :
    Calls Try.prog 29 #[.agg #[.int .i64 p, .slice a n c]] w fun e w' => e = .returned (.tuple #[.bool (netOk p n L && freeB n L), .bool (netOk p n L)]) ∧ Below w.heap.size w w' := by
  have HT := hide (netSteps_any p a n c L (w.alloc (.cells #[.int .i64 p, .slice a n c] 26)) (h.below (below_al _ _)) hs)
  clear h
  by_cases hg : netOk p n L = true
  rotate_left
  · have hg' : netOk p n L = false := by simpa using hg
    rw [hg'] at HT ⊢
    clear hg hg'
    go_enter Try.func29, Try.ntmps29
    go_wp2_with fail
    refine HT.out.mono ?_
    rintro e w2 ⟨p', a', m, c', rfl, hx, hb⟩
    have HB := hide ((below_al w (.cells #[.int .i64 p, .slice a n c] 26)).trans (hb.mono (by simp)))
    clear hb HT hx
    go_wp2_with fail
    go_ret2
    exact ⟨rfl, HB.out.alloc HB.out.size _⟩
  rw [hg] at HT ⊢
  have HG := hide hg
  clear hg
  go_enter Try.func29, Try.ntmps29
  go_wp2_with fail
  refine HT.out.mono ?_
  rintro e w2 ⟨p', a', m, c', rfl, hx, hb⟩
  obtain ⟨e1, e2, e3, B, rfl, hBs, hps⟩ := hx.out rfl
  subst e1 e2 e3
  have HB := hide (((below_al w (.cells #[.int .i64 p', .slice a c' c] 26)).trans (hb.mono (by simp))))
  have hn24 := netOk_n HG.out
  clear hb HT hx hBs
  go_wp2_with fail
  have hAl := below_al w2 (.cells #[.int .i64 p', .slice (some ⟨B, 0, none⟩) c' c'] 66)
  have VAR := hide (heap_alloc_new w2 (.cells #[.int .i64 p', .slice (some ⟨B, 0, none⟩) c' c'] 66))
  have PS := hide (hps.grow hAl)
  have HB1 := hide (HB.out.trans (hAl.mono HB.out.size))
  clear hps hAl HB
  generalize w2.alloc (.cells #[.int .i64 p', .slice (some ⟨B, 0, none⟩) c' c'] 66) = v at *
  generalize w2.heap.size = bv at *
  clear w2
  go_loopw [20] (fun i wr => ∃ k : Nat, k ≤ c' ∧ i = .int .i64 k ∧ Hid ((List.range k).all (fun i => (List.range i).all fun j => !clashB L i j) = true) ∧ Hid (Below v.heap.size v wr)) (fun i _ => c' - (intOf i).toNat)
  case atStart => exact ⟨0, Nat.zero_le _, rfl, rfl, Below.refl _ _⟩
  case round =>
    obtain ⟨k, hk, rfl, hu, hbw⟩ := hrel
    have HBB := hide (HB1.out.trans (hbw.out.mono HB1.out.size))
    by_cases hlt : k < c'
    rotate_left
    · have hk' : k = c' := by omega
      subst hk'
      have HF : Hid (freeB k L = true) := free_half HG.out hu.out
      go_wp2_with fail
      go_ret2
      exact ⟨ret_two (by rw [HF.out]; rfl) rfl, HBB.out⟩
    obtain ⟨hc0, hc1, hc2⟩ := (PS.out.grow hbw.out).at hlt
    obtain ⟨hv0, hv1⟩ := cells2 (keep VAR.out hbw.out)
    have hvl := row_lt (keep VAR.out hbw.out)
    obtain ⟨s0, hs0⟩ : ∃ s, Hid (maskL (L.getD (3 * k) []) = s) := ⟨_, rfl⟩
    obtain ⟨s1, hs1⟩ : ∃ s, Hid (maskL (L.getD (3 * k + 1) []) = s) := ⟨_, rfl⟩
    obtain ⟨s2, hs2⟩ : ∃ s, Hid (maskL (L.getD (3 * k + 2) []) = s) := ⟨_, rfl⟩
    rw [hs0.out] at hc0
    rw [hs1.out] at hc1
    rw [hs2.out] at hc2
    go_wp2_with fail
    have hAl := below_al wr (.cells #[.int .u16 (s0 : Int), .int .u16 (s1 : Int), .int .u16 (s2 : Int)] 91)
    have HV := hide (heap_alloc_new wr (.cells #[.int .u16 (s0 : Int), .int .u16 (s1 : Int), .int .u16 (s2 : Int)] 91))
    have HB2 := hide (hbw.out.trans (hAl.mono hbw.out.size))
    clear hc0 hc1 hc2 hv0 hv1 hvl hAl hbw HBB
    generalize wr.alloc (.cells #[.int .u16 (s0 : Int), .int .u16 (s1 : Int), .int .u16 (s2 : Int)] 91) = v2 at *
    generalize wr.heap.size = bs at *
    have hlo : s0 < 2 ^ 16 := by rw [← hs0.out]; exact mask16 (triOk_of HG.out hlt) (netOk_p HG.out)
    go_loopw [30] (fun i wr => ∃ m : Nat, m ≤ k ∧ i = .int .i64 m ∧ Hid ((List.range m).all (fun j => !clashB L k j) = true) ∧ Hid (Below v2.heap.size v2 wr)) (fun i _ => k - (intOf i).toNat)
    case atStart => exact ⟨0, Nat.zero_le _, rfl, rfl, Below.refl _ _⟩
    case round =>
      obtain ⟨m, hm, rfl, hu2, hbw⟩ := hrel
      have HB3 := hide (HB2.out.trans (hbw.out.mono HB2.out.size))
      by_cases hlm : m < k
      rotate_left
      · have hm' : m = k := by omega
        subst hm'
        have HU := hide (all_range_succ (f := fun i => (List.range i).all fun j => !clashB L i j) hu.out hu2.out)
        go_wp2_with fail
        go_roundw
        case rel => exact ⟨m + 1, by omega, by go_num, HU, HB3⟩
        case measure => simp [intOf]; omega
      obtain ⟨hc0, hc1, hc2⟩ := (PS.out.grow HB3.out).at (show m < c' by omega)
      have hv := keep HV.out hbw.out
      have hvl := row_lt hv
      have hv0 := cell_of_row wr bs 0 _ _ _ hv
      have hv1 := cell_of_row wr bs 1 _ _ _ hv
      have hv2 := cell_of_row wr bs 2 _ _ _ hv
      simp at hv0 hv1 hv2
      obtain ⟨t0, ht0⟩ : ∃ s, Hid (maskL (L.getD (3 * m) []) = s) := ⟨_, rfl⟩
      obtain ⟨t1, ht1⟩ : ∃ s, Hid (maskL (L.getD (3 * m + 1) []) = s) := ⟨_, rfl⟩
      obtain ⟨t2, ht2⟩ : ∃ s, Hid (maskL (L.getD (3 * m + 2) []) = s) := ⟨_, rfl⟩
      rw [ht0.out] at hc0
      rw [ht1.out] at hc1
      rw [ht2.out] at hc2
      have hlo2 : t0 < 2 ^ 16 := by rw [← ht0.out]; exact mask16 (triOk_of HG.out (show m < c' by omega)) (netOk_p HG.out)
      have HCL : Hid (clashB L k m = !besideB s0 t0) := by show _ = _; rw [clash_beside (triOk_of HG.out hlt) (triOk_of HG.out (show m < c' by omega)), hs0.out, ht0.out]
      have hAl := below_al wr (.cells #[.int .u16 (t0 : Int), .int .u16 (t1 : Int), .int .u16 (t2 : Int)] 91)
      have HT := hide (beside_any s0 s1 s2 t0 t1 t2 (wr.alloc (.cells #[.int .u16 (t0 : Int), .int .u16 (t1 : Int), .int .u16 (t2 : Int)] 91)) hlo hlo2)
      have HA := hide (hbw.out.trans (hAl.mono hbw.out.size))
      clear hv hAl
      by_cases gb : besideB s0 t0 = true
      · have HU : Hid ((List.range (m + 1)).all (fun j => !clashB L k j) = true) := all_range_succ hu2.out (by rw [HCL.out, gb]; rfl)
        rw [gb] at HT
        clear gb HCL
        go_wp2_with fail
        refine HT.out.mono ?_
        rintro e w3 ⟨rfl, hb⟩
        have HZ := hide (HA.out.trans (hb.mono HA.out.size))
        clear HT hb HA hc0 hc1 hc2 hv0 hv1 hv2
        go_wp2_with fail
        go_roundw
        case rel => exact ⟨m + 1, by omega, by go_num, HU, HZ⟩
        case measure => simp [intOf]; omega
      · have gb' : besideB s0 t0 = false := by simpa using gb
        have HF : Hid (freeB c' L = false) := freeB_no hlt (show m < c' by omega) (by rw [HCL.out, gb']; rfl)
        rw [gb'] at HT
        clear gb gb' HCL
        go_wp2_with fail
        refine HT.out.mono ?_
        rintro e w3 ⟨rfl, hb⟩
        have HZ := hide (HB1.out.trans ((HB2.out.trans ((HA.out.trans (hb.mono HA.out.size)).mono HB2.out.size)).mono HB1.out.size))
        clear HT hb HA hc0 hc1 hc2 hv0 hv1 hv2
        go_wp2_with fail
        go_ret2
        exact ⟨ret_two (by rw [HF.out]; rfl) rfl, HZ.out⟩
end Go.Proofs.Ytbobppcnmpiacaa
