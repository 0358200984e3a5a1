/- Whether a net is of free choice: both IsFreeChoices, for every net in memory. -/
import Derived.Test.YtbobppcnmpiacaaFs
import Derived.Test.YtbobppcnmpiacaaOn
namespace Go.Proofs.Ytbobppcnmpiacaa
open Go.RowKit

/-- Two transitions that have a place to take from in common, and not all. -/
def clashB (L : List (List Int)) (i j : Nat) : Bool := meetB (L.getD (3 * i) []) (L.getD (3 * j) []) && !sameB (L.getD (3 * i) []) (L.getD (3 * j) [])

def freeB (n : Nat) (L : List (List Int)) : Bool := (List.range n).all fun i => (List.range n).all fun j => !clashB L i j

theorem netOk_n {p : Int} {n : Nat} {L : List (List Int)} (h : netOk p n L = true) : n ≤ 24 := by
  unfold netOk at h; simp at h; exact h.1.2

theorem freeB_no {n i j : Nat} {L : List (List Int)} (hi : i < n) (hj : j < n) (h : clashB L i j = true) : freeB n L = false := by
  unfold freeB
  rw [List.all_eq_false]
  refine ⟨i, by simpa using hi, ?_⟩
  simp only [Bool.not_eq_true]
  rw [List.all_eq_false]
  exact ⟨j, by simpa using hj, by simp [h]⟩

theorem ret_two {a b c d : Bool} (h : a = b) (hb : c = d) : Ending.returned (.tuple #[.bool a, .bool c]) = .returned (.tuple #[.bool b, .bool d]) := by rw [h, hb]

set_option maxHeartbeats 4000000 in
theorem freeS_any (p : Int) (a : Option Addr) (n c : Nat) (L : List (List Int)) (w : World) (h : Lists w a (3 * n) L) (hs : sizeN n L ≤ 1048576) :
    Calls Try.prog 30 #[.agg #[.int .i64 p, .slice a n c]] w fun e w' => e = .returned (.tuple #[.bool (netOk p n L && freeB n L), .bool (netOk p n L)]) ∧ Below w.heap.size w w' := by
  have HL := hide (h.below (below_al w (.cells #[.int .i64 p, .slice a n c] 26)))
  have HG := hide (goodNetS_any p a n c L _ HL.out hs)
  clear h
  go_enter Try.func30, Try.ntmps30
  by_cases hg : netOk p n L = true
  rotate_left
  · have hg' : netOk p n L = false := by simpa using hg
    rw [hg'] at HG ⊢
    clear hg hg'
    go_wp2_with (go_at_call 12; refine HG.out.mono ?_; rintro e w2 ⟨rfl, hb⟩)
    go_ret2
    exact ⟨rfl, (below_al _ _).trans (hb.mono (by simp))⟩
  rw [hg] at HG ⊢
  have HGG := hide hg
  clear hg
  go_wp2_with fail
  refine HG.out.mono ?_
  rintro e w2 ⟨rfl, hb⟩
  have PAR := hide (keep (heap_alloc_new w (.cells #[.int .i64 p, .slice a n c] 26)) hb)
  have HB := hide ((below_al w (.cells #[.int .i64 p, .slice a n c] 26)).trans (hb.mono (by simp)))
  have HL2 := hide (HL.out.below hb)
  clear HL HG hb
  obtain ⟨hc0, hc1⟩ := cells2 PAR.out
  go_wp2_with fail
  clear hc0 hc1
  have hn24 : n ≤ 24 := netOk_n HGG.out
  have hs' : n + sizeL L ≤ 1048576 := hs
  go_loopw [14] (fun i wr => ∃ k : Nat, k ≤ n ∧ i = .int .i64 k ∧ Hid ((List.range k).all (fun i => (List.range n).all fun j => !clashB L i j) = true) ∧ Hid (Below w2.heap.size w2 wr)) (fun i _ => n - (intOf i).toNat)
  case atStart => exact ⟨0, Nat.zero_le _, rfl, rfl, Below.refl _ _⟩
  case round =>
    obtain ⟨k, hk, rfl, hu, hbw⟩ := hrel
    by_cases hlt : k < n
    rotate_left
    · have hk' : k = n := by omega
      subst hk'
      have HF : Hid (freeB k L = true) := hu.out
      have HBB := hide (HB.out.trans (hbw.out.mono HB.out.size))
      go_wp2_with fail
      go_ret2
      exact ⟨ret_two (by rw [HF.out]; rfl) rfl, HBB.out⟩
    obtain ⟨b, off, a0, n0, c0, a1, n1, c1, a2, n2, c2, rfl, hb, hr, m0, m1, m2, r0, r1, r2⟩ := (HL2.out.below hbw.out).tri hlt
    obtain ⟨hc0, hc1, hc2⟩ := rangeAt_cells3 hr
    obtain ⟨x0, hx0⟩ : ∃ x, Hid (L.getD (3 * k) [] = x) := ⟨_, rfl⟩
    have hl0 := len_le L (3 * k)
    rw [hx0.out] at r0 hl0
    have q0 : n0 ≤ 1048576 := by have := r0.1; omega
    have PW := hide (keep PAR.out hbw.out)
    obtain ⟨hp0, hp1⟩ := cells2 PW.out
    have hpl := row_lt PW.out
    clear hr r1 r2 m0 m1 m2 hl0
    go_wp2_with fail
    have hAl := below_al wr (.cells #[.slice a0 n0 c0, .slice a1 n1 c1, .slice a2 n2 c2] 39)
    have HV := hide (heap_alloc_new wr (.cells #[.slice a0 n0 c0, .slice a1 n1 c1, .slice a2 n2 c2] 39))
    have HR0 := hide (r0.below hAl)
    have HB1 := hide (hbw.out.trans (hAl.mono hbw.out.size))
    clear hc0 hc1 hc2 hp0 hp1 r0 hAl PW
    generalize wr.alloc (.cells #[.slice a0 n0 c0, .slice a1 n1 c1, .slice a2 n2 c2] 39) = v at *
    generalize wr.heap.size = bv at *
    go_loopw [21] (fun i wr => ∃ m : Nat, m ≤ n ∧ i = .int .i64 m ∧ Hid ((List.range m).all (fun j => !clashB L k j) = true) ∧ Hid (Below v.heap.size v wr)) (fun i _ => n - (intOf i).toNat)
    case atStart => exact ⟨0, Nat.zero_le _, rfl, rfl, Below.refl _ _⟩
    case round =>
      obtain ⟨m, hm, rfl, hu2, hbw2⟩ := hrel
      have HB2 := hide (HB1.out.trans (hbw2.out.mono HB1.out.size))
      by_cases hlm : m < n
      rotate_left
      · have hm' : m = n := by omega
        subst hm'
        have HU := hide (all_range_succ (f := fun i => (List.range m).all fun j => !clashB L i j) hu.out hu2.out)
        go_wp2_with fail
        go_roundw
        case rel => exact ⟨k + 1, by omega, by go_num, HU, HB2⟩
        case measure => simp [intOf]; omega
      obtain ⟨b', off', d0, m0, e0, d1, m1, e1, d2, m2, e2, he, hb', hr, _, _, _, s0, s1, s2⟩ := (HL2.out.below HB2.out).tri hlm
      simp only [Option.some.injEq, Addr.mk.injEq] at he
      obtain ⟨rfl, rfl, _⟩ := he
      obtain ⟨hc0, hc1, hc2⟩ := rangeAt_cells3 hr
      obtain ⟨y0, hy0⟩ : ∃ x, Hid (L.getD (3 * m) [] = x) := ⟨_, rfl⟩
      have hl0 := len_le L (3 * m)
      rw [hy0.out] at s0 hl0
      have q0' : m0 ≤ 1048576 := by have := s0.1; omega
      have HV2 := hide (keep HV.out hbw2.out)
      have hv0 := (cell_of_row wr bv 0 _ _ _ HV2.out)
      simp at hv0
      have hvl := row_lt HV2.out
      have hAl := below_al wr (.cells #[.slice d0 m0 e0, .slice d1 m1 e1, .slice d2 m2 e2] 39)
      have R0 := hide ((HR0.out.below hbw2.out).below hAl)
      have S0 := hide (s0.below hAl)
      have HBn := hide (hbw2.out.trans (hAl.mono hbw2.out.size))
      have HBx := hide ((HB.out.trans (HB2.out.mono HB.out.size)).trans (hAl.mono (by have := HB.out.size; have := HB2.out.size; omega)))
      clear hr s0 s1 s2 hl0 hAl
      have HCL : Hid (clashB L k m = (meetB x0 y0 && !sameB x0 y0)) := by show _ = _; unfold clashB; rw [hx0.out, hy0.out]
      by_cases gm : meetB x0 y0 = true
      rotate_left
      · have gm' : meetB x0 y0 = false := by simpa using gm
        have HU : Hid ((List.range (m + 1)).all (fun j => !clashB L k j) = true) := all_range_succ hu2.out (by rw [HCL.out, gm']; rfl)
        clear gm HCL
        go_wp2_with fail
        refine (meet_any _ _ _ _ _ _ x0 y0 _ R0.out S0.out q0 q0').mono ?_
        rintro e w' ⟨rfl, rfl⟩
        go_wp2_with fail
        go_roundw
        case rel => exact ⟨m + 1, by omega, by go_num, HU, HBn⟩
        case measure => simp [intOf]; omega
      by_cases gs : sameB x0 y0 = true
      · have HU : Hid ((List.range (m + 1)).all (fun j => !clashB L k j) = true) := all_range_succ hu2.out (by rw [HCL.out, gs]; simp)
        clear HCL
        go_wp2_with fail
        refine (meet_any _ _ _ _ _ _ x0 y0 _ R0.out S0.out q0 q0').mono ?_
        rintro e w' ⟨rfl, rfl⟩
        go_wp2_with fail
        refine (same_any _ _ _ _ _ _ x0 y0 _ R0.out S0.out q0).mono ?_
        rintro e w' ⟨rfl, q, rfl⟩
        go_wp2_with fail
        go_roundw
        case rel => exact ⟨m + 1, by omega, by go_num, HU, HBn.out.trans ((below_drewN' _ _).mono HBn.out.size)⟩
        case measure => simp [intOf]; omega
      · have gs' : sameB x0 y0 = false := by simpa using gs
        have HF : Hid (freeB n L = false) := freeB_no hlt hlm (by rw [HCL.out, gm, gs']; rfl)
        clear gs HCL
        go_wp2_with fail
        refine (meet_any _ _ _ _ _ _ x0 y0 _ R0.out S0.out q0 q0').mono ?_
        rintro e w' ⟨rfl, rfl⟩
        go_wp2_with fail
        refine (same_any _ _ _ _ _ _ x0 y0 _ R0.out S0.out q0).mono ?_
        rintro e w' ⟨rfl, q, rfl⟩
        go_wp2_with fail
        go_ret2
        exact ⟨ret_two (by rw [HF.out]; rfl) rfl, HBx.out.trans ((below_drewN' _ _).mono HBx.out.size)⟩
end Go.Proofs.Ytbobppcnmpiacaa
