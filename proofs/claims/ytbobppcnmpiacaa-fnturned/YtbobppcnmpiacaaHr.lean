/- HasResets of the specification. -/
import Derived.Test.YtbobppcnmpiacaaNs
import Derived.Test.YtbobppcnmpiacaaOn
namespace Go.Proofs.Ytbobppcnmpiacaa
open Go.RowKit

def resB (n : Nat) (L : List (List Int)) : Bool := (List.range n).any fun i => !(L.getD (3 * i + 2) []).isEmpty

theorem resB_yes {n k : Nat} {L : List (List Int)} (hk : k < n) (h : L.getD (3 * k + 2) [] ≠ []) : resB n L = true := by
  unfold resB
  rw [List.any_eq_true]
  refine ⟨k, by simpa using hk, ?_⟩
  cases hq : L.getD (3 * k + 2) []
  · exact absurd hq h
  · rfl

theorem resB_step {k : Nat} {L : List (List Int)} (h : resB k L = false) (he : L.getD (3 * k + 2) [] = []) : resB (k + 1) L = false := by
  unfold resB at *
  rw [List.range_succ, List.any_append, h]
  simp only [List.any_cons, List.any_nil, Bool.or_false, Bool.false_or, he]
  rfl

set_option maxHeartbeats 1000000 in
theorem resS_any (p : Int) (a : Option Addr) (n c : Nat) (L : List (List Int)) (w : World) (h : Lists w a (3 * n) L) (hn : n ≤ 24) :
    Calls Try.prog 61 #[.agg #[.int .i64 p, .slice a n c]] w fun e w' => e = .returned (.bool (resB n L)) ∧ Below w.heap.size w w' := by
  have hAl := below_al w (.cells #[.int .i64 p, .slice a n c] 26)
  have HL := hide h
  have HB0 := hide hAl
  clear h hAl
  go_enter Try.func61, Try.ntmps61
  go_wp2_with fail
  obtain ⟨V, hV⟩ : ∃ V, Hid (w.alloc (.cells #[.int .i64 p, .slice a n c] 26) = V) := ⟨_, rfl⟩
  rw [hV.out] at HB0 ⊢
  clear hV
  go_loopw [8] (fun i wr => ∃ k : Nat, k ≤ n ∧ i = .int .i64 k ∧ Hid (resB k L = false) ∧ Hid (Below w.heap.size w wr)) (fun i _ => n - (intOf i).toNat)
  case atStart => exact ⟨0, Nat.zero_le _, rfl, rfl, HB0⟩
  case round =>
    obtain ⟨k, hk, rfl, hu, hbw⟩ := hrel
    by_cases hlt : k < n
    rotate_left
    · have hk' : k = n := by omega
      subst hk'
      go_wp2_with fail
      go_ret
      exact ⟨ret_bool hu.out.symm, hbw.out⟩
    obtain ⟨b, off, a0, n0, c0, a1, n1, c1, a2, n2, c2, rfl, hb, hr, m0, m1, m2, r0, r1, r2⟩ := (HL.out.below hbw.out).tri hlt
    obtain ⟨hc0, hc1, hc2⟩ := rangeAt_cells3 hr
    have hl := r2.1
    have hA1 := below_al wr (.cells #[.slice a0 n0 c0, .slice a1 n1 c1, .slice a2 n2 c2] 39)
    have HB1 := hide (hbw.out.trans (hA1.mono hbw.out.size))
    clear hr r0 r1 r2 m0 m1 m2 hA1
    by_cases hz : n2 = 0
    · subst hz
      have HU := hide (resB_step hu.out (List.length_eq_zero_iff.mp hl))
      clear hl hu
      go_wp2_with fail
      go_roundw
      case rel => exact ⟨k + 1, by omega, by go_num, HU, HB1⟩
      case measure => simp [intOf]; omega
    · have HY := hide (resB_yes hlt (fun e => hz (by rw [← hl, e]; rfl)))
      have hz' : (0 : Int) < (n2 : Int) := by omega
      clear hl hu
      go_wp2_with fail
      go_ret
      exact ⟨ret_bool HY.out.symm, HB1.out⟩

theorem ret_2 {a b c d : Bool} (h : a = b) (hb : c = d) : Ending.returned (.tuple #[.bool a, .bool c]) = .returned (.tuple #[.bool b, .bool d]) := by rw [h, hb]

theorem netN {p : Int} {n : Nat} {L : List (List Int)} (h : netOk p n L = true) : n ≤ 24 := by
  unfold netOk at h; simp at h; exact h.1.2

set_option maxHeartbeats 1000000 in
theorem hasResS_any (p : Int) (a : Option Addr) (n c : Nat) (L : List (List Int)) (w : World) (h : Lists w a (3 * n) L) (hs : sizeN n L ≤ 1048576) :
    Calls Try.prog 32 #[.agg #[.int .i64 p, .slice a n c]] w fun e w' => e = .returned (.tuple #[.bool (netOk p n L && resB n L), .bool (netOk p n L)]) ∧ Below w.heap.size w w' := by
  have hAl := below_al w (.cells #[.int .i64 p, .slice a n c] 26)
  have PAR := hide (heap_alloc_new w (.cells #[.int .i64 p, .slice a n c] 26))
  have HG := hide (goodNetS_any p a n c L _ (h.below hAl) hs)
  have HL := hide h
  have HB0 := hide hAl
  clear h hAl
  by_cases hg : netOk p n L = true
  rotate_left
  · have hg' : netOk p n L = false := by simpa using hg
    rw [hg'] at HG ⊢
    clear hg hg'
    go_enter Try.func32, Try.ntmps32
    go_wp2_with fail
    refine HG.out.mono ?_
    rintro e w2 ⟨rfl, hb⟩
    have HB1 := hide (HB0.out.trans (hb.mono HB0.out.size))
    clear hb
    go_wp2_with fail
    go_ret2
    exact ⟨rfl, HB1.out⟩
  have hn := netN hg
  rw [hg] at HG ⊢
  clear hg
  go_enter Try.func32, Try.ntmps32
  go_wp2_with fail
  refine HG.out.mono ?_
  rintro e w2 ⟨rfl, hb⟩
  have HB1 := hide (HB0.out.trans (hb.mono HB0.out.size))
  obtain ⟨hc0, hc1⟩ := cells2 (keep PAR.out hb)
  clear hb HG PAR HB0
  go_wp2_with fail
  refine (resS_any _ _ _ _ L _ (HL.out.below HB1.out) hn).mono ?_
  rintro e w3 ⟨rfl, hb⟩
  have HB2 := hide (HB1.out.trans (hb.mono HB1.out.size))
  obtain ⟨r, hr⟩ : ∃ r, Hid (resB n L = r) := ⟨_, rfl⟩
  rw [hr.out]
  clear hb HB1 hc0 hc1
  go_wp2_with fail
  go_ret2
  exact ⟨ret_2 (by rw [hr.out]; rfl) rfl, HB2.out⟩
end Go.Proofs.Ytbobppcnmpiacaa
