/- Contracts that the proof stands on, one behind the other. -/
import Derived.Test.YtoijlepjnpdlkaaP5
import Derived.BigFrame
/- What the program asks of a step of a flow: leads, misses, spoiledBy; slices.ContainsFunc with these. -/
namespace Go.Proofs.Ytoijlepjnpdlkaa
open Go.RowKit
set_option maxRecDepth 10000

theorem ret_u16i {a b : Int} (h : a = b) : Ending.returned (.int .u16 a) = .returned (.int .u16 b) := by rw [h]

def leadB (s0 s1 F K : Nat) : Bool := decide (s0 &&& F ≠ 0) && decide (s1 &&& K ≠ 0)

set_option maxHeartbeats 1000000 in
theorem leads_any (p' : Int) (a : Option Addr) (m c F K s0 s1 s2 : Nat) (w : World) (h0 : s0 < 2 ^ 16) (h1 : s1 < 2 ^ 16) (hF : F < 2 ^ 16) (hK : K < 2 ^ 16) :
    Calls Try.prog 54 #[.agg #[.int .i64 p', .slice a m c, .int .u16 (F : Int), .int .u16 (K : Int)], .agg #[.int .u16 (s0 : Int), .int .u16 (s1 : Int), .int .u16 (s2 : Int)]] w fun e w' => e = .returned (.bool (leadB s0 s1 F K)) ∧ Below w.heap.size w w' := by
  by_cases g0 : s0 &&& F = 0
  · have HB := hide (show leadB s0 s1 F K = false by unfold leadB; simp [g0])
    have hd := meetW_no h0 hF g0
    clear g0
    go_enter Try.func54, Try.ntmps54
    go_wp2_with fail
    go_ret
    exact ⟨ret_b HB.out.symm, below_two _ _ _⟩
  have hd := meetW_yes h0 hF g0
  by_cases g1 : s1 &&& K = 0
  · have HB := hide (show leadB s0 s1 F K = false by unfold leadB; simp [g1])
    have hd1 := meetW_no h1 hK g1
    clear g0 g1
    go_enter Try.func54, Try.ntmps54
    go_wp2_with fail
    go_ret
    exact ⟨ret_b HB.out.symm, below_two _ _ _⟩
  · have HB := hide (show leadB s0 s1 F K = true by unfold leadB; simp [g0, g1])
    have hd1 := meetW_yes h1 hK g1
    clear g0 g1
    go_enter Try.func54, Try.ntmps54
    go_wp2_with fail
    go_ret
    exact ⟨ret_b HB.out.symm, below_two _ _ _⟩

set_option maxHeartbeats 1000000 in
theorem misses_any (p' : Int) (a : Option Addr) (m c F K s0 s1 s2 : Nat) (w : World) (h0 : s0 < 2 ^ 16) (h1 : s1 < 2 ^ 16) (hF : F < 2 ^ 16) (hK : K < 2 ^ 16) :
    Calls Try.prog 34 #[.agg #[.int .i64 p', .slice a m c, .int .u16 (F : Int), .int .u16 (K : Int)], .agg #[.int .u16 (s0 : Int), .int .u16 (s1 : Int), .int .u16 (s2 : Int)]] w fun e w' => e = .returned (.bool (!leadB s0 s1 F K)) ∧ Below w.heap.size w w' := by
  have HB0 := hide (below_two w (.cells #[.int .i64 p', .slice a m c, .int .u16 (F : Int), .int .u16 (K : Int)] 72) (.cells #[.int .u16 (s0 : Int), .int .u16 (s1 : Int), .int .u16 (s2 : Int)] 58))
  go_enter Try.func34, Try.ntmps34
  go_wp2_with fail
  refine (leads_any _ _ _ _ _ _ _ _ _ _ h0 h1 hF hK).mono ?_
  rintro e w1 ⟨rfl, hb⟩
  have HB1 := hide (HB0.out.trans (hb.mono HB0.out.size))
  obtain ⟨r, hr⟩ : ∃ r, Hid (leadB s0 s1 F K = r) := ⟨_, rfl⟩
  rw [hr.out]
  clear hb HB0
  go_wp2_with fail
  go_ret
  exact ⟨ret_b (by rw [hr.out]), HB1.out⟩

set_option maxHeartbeats 1000000 in
theorem wplaces_any (p' : Int) (a : Option Addr) (m c F K : Nat) (w : World) (hF : F < 2 ^ 16) (hK : K < 2 ^ 16) :
    Calls Try.prog 31 #[.agg #[.int .i64 p', .slice a m c, .int .u16 (F : Int), .int .u16 (K : Int)]] w fun e w' => e = .returned (.int .u16 ((F &&& K : Nat) : Int)) ∧ Below w.heap.size w w' := by
  have HB := hide (and_u16 F K hF hK)
  go_enter Try.func31, Try.ntmps31
  go_wp2_with fail
  go_ret
  exact ⟨ret_u16i HB.out, below_al _ _⟩

theorem all_wrap {p : Nat} (h1 : 1 ≤ p) (h2 : p ≤ 16) : IntKind.u16.wrap (IntKind.u16.wrap (2 ^ p) - 1) = ((2 ^ p - 1 : Nat) : Int) := by
  have : p = 1 ∨ p = 2 ∨ p = 3 ∨ p = 4 ∨ p = 5 ∨ p = 6 ∨ p = 7 ∨ p = 8 ∨ p = 9 ∨ p = 10 ∨ p = 11 ∨ p = 12 ∨ p = 13 ∨ p = 14 ∨ p = 15 ∨ p = 16 := by omega
  rcases this with rfl | rfl | rfl | rfl | rfl | rfl | rfl | rfl | rfl | rfl | rfl | rfl | rfl | rfl | rfl | rfl <;> rfl

set_option maxHeartbeats 1000000 in
theorem all_any (p : Nat) (a : Option Addr) (m c : Nat) (w : World) (h1 : 1 ≤ p) (h2 : p ≤ 16) :
    Calls Try.prog 32 #[.agg #[.int .i64 (p : Int), .slice a m c]] w fun e w' => e = .returned (.int .u16 ((2 ^ p - 1 : Nat) : Int)) ∧ Below w.heap.size w w' := by
  have HB := hide (all_wrap h1 h2)
  go_enter Try.func32, Try.ntmps32
  go_wp2_with fail
  go_ret
  exact ⟨ret_u16i HB.out, below_al _ _⟩

set_option maxHeartbeats 400000 in
theorem gives_any (k s0 s1 s2 : Nat) (w : World) (h1 : s1 < 2 ^ 16) (hk : k < 16) :
    Calls Try.prog 55 #[.agg #[.int .u16 (s0 : Int), .int .u16 (s1 : Int), .int .u16 (s2 : Int)], .int .i64 (k : Int)] w fun e w' => e = .returned (.bool (s1.testBit k)) ∧ Below w.heap.size w w' := by
  have HB0 := hide (below_al w (.cells #[.int .u16 (s0 : Int), .int .u16 (s1 : Int), .int .u16 (s2 : Int)] 58))
  go_enter Try.func55, Try.ntmps55
  go_wp2_with fail
  refine (has2_any _ _ _ h1 hk).mono ?_
  rintro e w1 ⟨rfl, rfl⟩
  go_wp2_with fail
  go_ret
  exact ⟨rfl, HB0.out⟩

set_option maxHeartbeats 400000 in
theorem takes_any (k s0 s1 s2 : Nat) (w : World) (h0 : s0 < 2 ^ 16) (hk : k < 16) :
    Calls Try.prog 56 #[.agg #[.int .u16 (s0 : Int), .int .u16 (s1 : Int), .int .u16 (s2 : Int)], .int .i64 (k : Int)] w fun e w' => e = .returned (.bool (s0.testBit k)) ∧ Below w.heap.size w w' := by
  have HB0 := hide (below_al w (.cells #[.int .u16 (s0 : Int), .int .u16 (s1 : Int), .int .u16 (s2 : Int)] 58))
  go_enter Try.func56, Try.ntmps56
  go_wp2_with fail
  refine (has2_any _ _ _ h0 hk).mono ?_
  rintro e w1 ⟨rfl, rfl⟩
  go_wp2_with fail
  go_ret
  exact ⟨rfl, HB0.out⟩

def spoilB (s0 s1 s2 f t : Nat) : Bool := s1.testBit f || s0.testBit t || s2.testBit f || s2.testBit t

theorem cells3W {w : World} {b : Nat} {v0 v1 v2 : Value} {T : TypeId} (h : w.heap[b]? = some (.cells #[v0, v1, v2] T (0, 0))) : w.cell? ⟨b, 0, none⟩ = some v0 ∧ w.cell? ⟨b, 1, none⟩ = some v1 ∧ w.cell? ⟨b, 2, none⟩ = some v2 :=
  ⟨cell_of_row w b 0 _ _ _ h, cell_of_row w b 1 _ _ _ h, cell_of_row w b 2 _ _ _ h⟩

set_option maxHeartbeats 2000000 in
theorem spoiled_any (p' : Int) (a : Option Addr) (m c f t s0 s1 s2 : Nat) (w : World) (h0 : s0 < 2 ^ 16) (h1 : s1 < 2 ^ 16) (h2 : s2 < 2 ^ 16) (hf : f < 16) (ht : t < 16) :
    Calls Try.prog 35 #[.agg #[.int .i64 p', .slice a m c, .int .i64 (f : Int), .int .i64 (t : Int)], .agg #[.int .u16 (s0 : Int), .int .u16 (s1 : Int), .int .u16 (s2 : Int)]] w fun e w' => e = .returned (.bool (spoilB s0 s1 s2 f t)) ∧ Below w.heap.size w w' := by
  have HB0 := hide (below_two w (.cells #[.int .i64 p', .slice a m c, .int .i64 (f : Int), .int .i64 (t : Int)] 51) (.cells #[.int .u16 (s0 : Int), .int .u16 (s1 : Int), .int .u16 (s2 : Int)] 58))
  have hX := heap_alloc_new w (.cells #[.int .i64 p', .slice a m c, .int .i64 (f : Int), .int .i64 (t : Int)] 51)
  have hY := heap_alloc_new (w.alloc (.cells #[.int .i64 p', .slice a m c, .int .i64 (f : Int), .int .i64 (t : Int)] 51)) (.cells #[.int .u16 (s0 : Int), .int .u16 (s1 : Int), .int .u16 (s2 : Int)] 58)
  rw [show (w.alloc (.cells #[.int .i64 p', .slice a m c, .int .i64 (f : Int), .int .i64 (t : Int)] 51)).heap.size = w.heap.size + 1 by simp] at hY
  have HX := hide (keep hX (below_al _ (.cells #[.int .u16 (s0 : Int), .int .u16 (s1 : Int), .int .u16 (s2 : Int)] 58)))
  have HY := hide hY
  clear hX hY
  go_enter Try.func35, Try.ntmps35
  go_wp2_with fail
  refine (gives_any _ _ _ _ _ h1 hf).mono ?_
  rintro e w1 ⟨rfl, hb⟩
  have HB1 := hide (HB0.out.trans (hb.mono HB0.out.size))
  have HX1 := hide (keep HX.out hb)
  have HY1 := hide (keep HY.out hb)
  clear hb HB0 HX HY
  cases g1 : s1.testBit f
  rotate_left
  · have HS := hide (show spoilB s0 s1 s2 f t = true by unfold spoilB; rw [g1]; rfl)
    go_wp2_with fail
    go_ret
    exact ⟨ret_b HS.out.symm, HB1.out⟩
  obtain ⟨⟨hx0, hx1, hx2, hx3⟩, _⟩ := cells4 HX1.out
  obtain ⟨hy0, hy1, hy2⟩ := cells3W HY1.out
  go_wp2_with fail
  refine (takes_any _ _ _ _ _ h0 ht).mono ?_
  rintro e w2 ⟨rfl, hb⟩
  have HB2 := hide (HB1.out.trans (hb.mono HB1.out.size))
  have HX2 := hide (keep HX1.out hb)
  have HY2 := hide (keep HY1.out hb)
  clear hb HB1 HX1 HY1 hx0 hx1 hx2 hx3 hy0 hy1 hy2
  cases g2 : s0.testBit t
  rotate_left
  · have HS := hide (show spoilB s0 s1 s2 f t = true by unfold spoilB; rw [g1, g2]; rfl)
    go_wp2_with fail
    go_ret
    exact ⟨ret_b HS.out.symm, HB2.out⟩
  obtain ⟨⟨hx0, hx1, hx2, hx3⟩, _⟩ := cells4 HX2.out
  obtain ⟨hy0, hy1, hy2⟩ := cells3W HY2.out
  go_wp2_with fail
  refine (has2_any _ _ _ h2 hf).mono ?_
  rintro e w3 ⟨rfl, rfl⟩
  cases g3 : s2.testBit f
  rotate_left
  · have HS := hide (show spoilB s0 s1 s2 f t = true by unfold spoilB; rw [g1, g2, g3]; rfl)
    go_wp2_with fail
    go_ret
    exact ⟨ret_b HS.out.symm, HB2.out⟩
  go_wp2_with fail
  refine (has2_any _ _ _ h2 ht).mono ?_
  rintro e w3 ⟨rfl, rfl⟩
  have HS := hide (show spoilB s0 s1 s2 f t = s2.testBit t by unfold spoilB; rw [g1, g2, g3]; rfl)
  generalize s2.testBit t = r at *
  go_wp2_with fail
  go_ret
  exact ⟨ret_b HS.out.symm, HB2.out⟩
end Go.Proofs.Ytoijlepjnpdlkaa


/- slices.ContainsFunc over the steps of a net, with a bound method. -/
namespace Go.Proofs.Ytoijlepjnpdlkaa
open Go.RowKit
set_option maxRecDepth 10000

/-- Whether one of the first n is as asked. -/
def anyK (Pd : Nat → Bool) (n : Nat) : Bool := (List.range n).any Pd

theorem anyK_yes {Pd : Nat → Bool} {n k : Nat} (hk : k < n) (h : Pd k = true) : anyK Pd n = true := by
  unfold anyK
  rw [List.any_eq_true]
  exact ⟨k, by simpa using hk, h⟩

theorem anyK_step {Pd : Nat → Bool} {k : Nat} (h : anyK Pd k = false) (he : Pd k = false) : anyK Pd (k + 1) = false := by
  unfold anyK at *
  rw [List.range_succ, List.any_append, h]
  simp [he]

def IdxEnd2 (Pd : Nat → Bool) (n : Nat) (w : World) (e : Ending) (w' : World) : Prop := ∃ z : Int, e = .returned (.int .i64 z) ∧ Hid (decide (0 ≤ z) = anyK Pd n) ∧ Below w.heap.size w w'

set_option maxHeartbeats 1000000 in
theorem indexM_any (p F K : Int) (ar : Option Addr) (mr cr : Nat) (Pd : Nat → Bool) (B n : Nat) (L : List (List Int)) (w : World) (h : PartS w B (3 * n) (3 * n) L) (hn : n ≤ 24)
    (hc : ∀ W k, k < n → Calls Try.prog 34 #[.agg #[.int .i64 p, .slice ar mr cr, .int .u16 F, .int .u16 K], .agg #[.int .u16 (maskL (L.getD (3 * k) []) : Int), .int .u16 (maskL (L.getD (3 * k + 1) []) : Int), .int .u16 (maskL (L.getD (3 * k + 2) []) : Int)]] W fun e W' => e = .returned (.bool (Pd k)) ∧ Below W.heap.size W W') :
    Calls Try.prog 53 #[.slice (some ⟨B, 0, none⟩) n n, .func (.func 34) #[.agg #[.int .i64 p, .slice ar mr cr, .int .u16 F, .int .u16 K]] #[]] w fun e w' => IdxEnd2 Pd n w e w' := by
  have HP := hide h
  have HC := hide hc
  clear h hc
  go_enter Try.func53, Try.ntmps53
  go_wp2_with fail
  go_loopw [8] (fun i wr => ∃ k : Nat, k ≤ n ∧ i = .int .i64 k ∧ Hid (anyK Pd k = false) ∧ Hid (Below w.heap.size w wr)) (fun i _ => n - (intOf i).toNat)
  case atStart => exact ⟨0, Nat.zero_le _, rfl, rfl, Below.refl _ _⟩
  case round =>
    obtain ⟨k, hk, rfl, hu, hbw⟩ := hrel
    by_cases hlt : k < n
    rotate_left
    · have hk' : k = n := by omega
      subst hk'
      have HE : Hid (IdxEnd2 Pd k w (.returned (.int .i64 (-1))) wr) := ⟨-1, rfl, by rw [hu.out]; rfl, hbw.out⟩
      go_wp2_with fail
      go_ret
      exact HE.out
    obtain ⟨hc0, hc1, hc2⟩ := (HP.out.grow hbw.out).atW hlt
    have HH := hide (HC.out wr k hlt)
    cases hh : Pd k
    · have HU := hide (anyK_step hu.out hh)
      rw [hh] at HH
      clear hh hu
      generalize maskL (L.getD (3 * k) []) = s0 at *
      generalize maskL (L.getD (3 * k + 1) []) = s1 at *
      generalize maskL (L.getD (3 * k + 2) []) = s2 at *
      go_wp2_with fail
      refine HH.out.mono ?_
      rintro e w1 ⟨rfl, hb⟩
      have HB := hide (hbw.out.trans (hb.mono hbw.out.size))
      clear hb HH hc0 hc1 hc2
      go_wp2_with fail
      go_roundw
      case rel => exact ⟨k + 1, by omega, by go_num, HU, HB⟩
      case measure => simp [intOf]; omega
    · have HY := hide (anyK_yes hlt hh)
      rw [hh] at HH
      clear hh hu
      generalize maskL (L.getD (3 * k) []) = s0 at *
      generalize maskL (L.getD (3 * k + 1) []) = s1 at *
      generalize maskL (L.getD (3 * k + 2) []) = s2 at *
      go_wp2_with fail
      refine HH.out.mono ?_
      rintro e w1 ⟨rfl, hb⟩
      have HE : Hid (IdxEnd2 Pd n w (.returned (.int .i64 (k : Int))) w1) := ⟨k, rfl, by rw [HY.out]; simp [Hid], hbw.out.trans (hb.mono hbw.out.size)⟩
      clear hb HH hc0 hc1 hc2
      go_wp2_with fail
      go_ret
      exact HE.out

set_option maxHeartbeats 400000 in
theorem containsM_any (p F K : Int) (ar : Option Addr) (mr cr : Nat) (Pd : Nat → Bool) (B n : Nat) (L : List (List Int)) (w : World) (h : PartS w B (3 * n) (3 * n) L) (hn : n ≤ 24)
    (hc : ∀ W k, k < n → Calls Try.prog 34 #[.agg #[.int .i64 p, .slice ar mr cr, .int .u16 F, .int .u16 K], .agg #[.int .u16 (maskL (L.getD (3 * k) []) : Int), .int .u16 (maskL (L.getD (3 * k + 1) []) : Int), .int .u16 (maskL (L.getD (3 * k + 2) []) : Int)]] W fun e W' => e = .returned (.bool (Pd k)) ∧ Below W.heap.size W W') :
    Calls Try.prog 33 #[.slice (some ⟨B, 0, none⟩) n n, .func (.func 34) #[.agg #[.int .i64 p, .slice ar mr cr, .int .u16 F, .int .u16 K]] #[]] w fun e w' => e = .returned (.bool (anyK Pd n)) ∧ Below w.heap.size w w' := by
  have HI := hide (indexM_any p F K ar mr cr Pd B n L w h hn hc)
  clear h hc
  go_enter Try.func33, Try.ntmps33
  go_wp2_with fail
  refine HI.out.mono ?_
  rintro e w1 ⟨z, rfl, hz, hb⟩
  have HB := hide hb
  clear hb HI
  go_wp2_with fail
  go_ret
  exact ⟨ret_b hz.out, HB.out⟩

set_option maxHeartbeats 1000000 in
theorem indexS_any (p F K : Int) (ar : Option Addr) (mr cr : Nat) (Pd : Nat → Bool) (B n : Nat) (L : List (List Int)) (w : World) (h : PartS w B (3 * n) (3 * n) L) (hn : n ≤ 24)
    (hc : ∀ W k, k < n → Calls Try.prog 35 #[.agg #[.int .i64 p, .slice ar mr cr, .int .i64 F, .int .i64 K], .agg #[.int .u16 (maskL (L.getD (3 * k) []) : Int), .int .u16 (maskL (L.getD (3 * k + 1) []) : Int), .int .u16 (maskL (L.getD (3 * k + 2) []) : Int)]] W fun e W' => e = .returned (.bool (Pd k)) ∧ Below W.heap.size W W') :
    Calls Try.prog 53 #[.slice (some ⟨B, 0, none⟩) n n, .func (.func 35) #[.agg #[.int .i64 p, .slice ar mr cr, .int .i64 F, .int .i64 K]] #[]] w fun e w' => IdxEnd2 Pd n w e w' := by
  have HP := hide h
  have HC := hide hc
  clear h hc
  go_enter Try.func53, Try.ntmps53
  go_wp2_with fail
  go_loopw [8] (fun i wr => ∃ k : Nat, k ≤ n ∧ i = .int .i64 k ∧ Hid (anyK Pd k = false) ∧ Hid (Below w.heap.size w wr)) (fun i _ => n - (intOf i).toNat)
  case atStart => exact ⟨0, Nat.zero_le _, rfl, rfl, Below.refl _ _⟩
  case round =>
    obtain ⟨k, hk, rfl, hu, hbw⟩ := hrel
    by_cases hlt : k < n
    rotate_left
    · have hk' : k = n := by omega
      subst hk'
      have HE : Hid (IdxEnd2 Pd k w (.returned (.int .i64 (-1))) wr) := ⟨-1, rfl, by rw [hu.out]; rfl, hbw.out⟩
      go_wp2_with fail
      go_ret
      exact HE.out
    obtain ⟨hc0, hc1, hc2⟩ := (HP.out.grow hbw.out).atW hlt
    have HH := hide (HC.out wr k hlt)
    cases hh : Pd k
    · have HU := hide (anyK_step hu.out hh)
      rw [hh] at HH
      clear hh hu
      generalize maskL (L.getD (3 * k) []) = s0 at *
      generalize maskL (L.getD (3 * k + 1) []) = s1 at *
      generalize maskL (L.getD (3 * k + 2) []) = s2 at *
      go_wp2_with fail
      refine HH.out.mono ?_
      rintro e w1 ⟨rfl, hb⟩
      have HB := hide (hbw.out.trans (hb.mono hbw.out.size))
      clear hb HH hc0 hc1 hc2
      go_wp2_with fail
      go_roundw
      case rel => exact ⟨k + 1, by omega, by go_num, HU, HB⟩
      case measure => simp [intOf]; omega
    · have HY := hide (anyK_yes hlt hh)
      rw [hh] at HH
      clear hh hu
      generalize maskL (L.getD (3 * k) []) = s0 at *
      generalize maskL (L.getD (3 * k + 1) []) = s1 at *
      generalize maskL (L.getD (3 * k + 2) []) = s2 at *
      go_wp2_with fail
      refine HH.out.mono ?_
      rintro e w1 ⟨rfl, hb⟩
      have HE : Hid (IdxEnd2 Pd n w (.returned (.int .i64 (k : Int))) w1) := ⟨k, rfl, by rw [HY.out]; simp [Hid], hbw.out.trans (hb.mono hbw.out.size)⟩
      clear hb HH hc0 hc1 hc2
      go_wp2_with fail
      go_ret
      exact HE.out

set_option maxHeartbeats 400000 in
theorem containsS_any (p F K : Int) (ar : Option Addr) (mr cr : Nat) (Pd : Nat → Bool) (B n : Nat) (L : List (List Int)) (w : World) (h : PartS w B (3 * n) (3 * n) L) (hn : n ≤ 24)
    (hc : ∀ W k, k < n → Calls Try.prog 35 #[.agg #[.int .i64 p, .slice ar mr cr, .int .i64 F, .int .i64 K], .agg #[.int .u16 (maskL (L.getD (3 * k) []) : Int), .int .u16 (maskL (L.getD (3 * k + 1) []) : Int), .int .u16 (maskL (L.getD (3 * k + 2) []) : Int)]] W fun e W' => e = .returned (.bool (Pd k)) ∧ Below W.heap.size W W') :
    Calls Try.prog 33 #[.slice (some ⟨B, 0, none⟩) n n, .func (.func 35) #[.agg #[.int .i64 p, .slice ar mr cr, .int .i64 F, .int .i64 K]] #[]] w fun e w' => e = .returned (.bool (anyK Pd n)) ∧ Below w.heap.size w w' := by
  have HI := hide (indexS_any p F K ar mr cr Pd B n L w h hn hc)
  clear h hc
  go_enter Try.func33, Try.ntmps33
  go_wp2_with fail
  refine HI.out.mono ?_
  rintro e w1 ⟨z, rfl, hz, hb⟩
  have HB := hide hb
  clear hb HI
  go_wp2_with fail
  go_ret
  exact ⟨ret_b hz.out, HB.out⟩

end Go.Proofs.Ytoijlepjnpdlkaa


/- When a flow is good, and that the program and the specification ask the same for it. -/
namespace Go.Proofs.Ytoijlepjnpdlkaa
open Go.RowKit

def spoilL (L : List (List Int)) (s t : Int) (k : Nat) : Bool :=
  hasB (outL L k) s || hasB (inL L k) t || hasB (L.getD (3 * k + 2) []) s || hasB (L.getD (3 * k + 2) []) t

noncomputable def flowOk (p : Int) (n : Nat) (L : List (List Int)) (s t : Int) : Bool :=
  wayOk p n L s t && !decide (s = t) && decide (((wayP p n L s t).length : Int) = p) && decide ((wayT p n L s t).length = n) && !anyK (spoilL L s t) n

theorem nums2_full {f : Nat → Bool} {k : Nat} : (nums2 f k).length = k ↔ ∀ i, i < k → f i = true := by
  unfold nums2
  rw [List.length_map]
  constructor
  · intro h i hi
    have := List.length_filter_eq_length_iff.mp (by simpa using h : ((List.range k).filter f).length = (List.range k).length) i (by simpa using hi)
    exact this
  · intro h
    have := List.length_filter_eq_length_iff.mpr (fun i hi => h i (by simpa using hi) : ∀ i ∈ List.range k, f i = true)
    simpa using this

theorem wayOk_parts {p : Int} {n : Nat} {L : List (List Int)} {s t : Int} (h : wayOk p n L s t = true) : netOk p n L = true ∧ (0 ≤ s ∧ s < p) ∧ (0 ≤ t ∧ t < p) := by
  unfold wayOk at h
  simp only [Bool.and_eq_true] at h
  have h1 := h.1.2
  have h2 := h.2
  simp [inB] at h1 h2
  exact ⟨h.1.1, by omega, by omega⟩

theorem fth_bit {p : Int} {n : Nat} {L : List (List Int)} {s t : Int} (h : wayOk p n L s t = true) (i : Nat) : (fthM n L s).testBit i = rchB (inL L) (outL L) n s i := by
  obtain ⟨hg, hs, ht⟩ := wayOk_parts h
  have hp := (netOk_parts hg).1
  exact rchM_bit (small_out hg) ⟨by omega, by omega⟩ i
theorem bck_bit {p : Int} {n : Nat} {L : List (List Int)} {s t : Int} (h : wayOk p n L s t = true) (i : Nat) : (bckM n L t).testBit i = rchB (outL L) (inL L) n t i := by
  obtain ⟨hg, hs, ht⟩ := wayOk_parts h
  have hp := (netOk_parts hg).1
  exact rchM_bit (small_in hg) ⟨by omega, by omega⟩ i

theorem fthM_lt (n : Nat) (L : List (List Int)) (s : Int) : fthM n L s < 2 ^ 16 := rchM_lt _ _ _ _
theorem bckM_lt (n : Nat) (L : List (List Int)) (s : Int) : bckM n L s < 2 ^ 16 := rchM_lt _ _ _ _

theorem Rch.within {A B : Nat → List Int} {p n : Nat} {s q : Int} (hB : Within B p n) (hs : 0 ≤ s ∧ s < (p : Int)) (h : Rch A B n s q) : 0 ≤ q ∧ q < (p : Int) := by
  induction h with
  | base => exact hs
  | step _ hk _ hq _ => exact hB _ hk _ hq

theorem pl_bit {p : Int} {n : Nat} {L : List (List Int)} {s t : Int} (h : wayOk p n L s t = true) (i : Nat) : (fthM n L s &&& bckM n L t).testBit i = plB n L s t i := by
  rw [Nat.testBit_and, fth_bit h, bck_bit h]; rfl

theorem pl_lt {p : Nat} {n : Nat} {L : List (List Int)} {s t : Int} (h : wayOk (p : Int) n L s t = true) {i : Nat} (hi : plB n L s t i = true) : i < p := by
  obtain ⟨hg, hs, ht⟩ := wayOk_parts h
  unfold plB at hi
  rw [Bool.and_eq_true] at hi
  have := (rchB_iff.mp hi.1).within (within_out hg) hs
  omega

theorem pl_all {p : Nat} {n : Nat} {L : List (List Int)} {s t : Int} (h : wayOk (p : Int) n L s t = true) : fthM n L s &&& bckM n L t = 2 ^ p - 1 ↔ ((wayP (p : Int) n L s t).length : Int) = (p : Int) := by
  unfold wayP
  rw [h, if_pos rfl, Int.toNat_natCast]
  rw [show (((nums2 (plB n L s t) p).length : Nat) : Int) = (p : Int) ↔ (nums2 (plB n L s t) p).length = p by omega, nums2_full]
  constructor
  · intro e i hi
    rw [← pl_bit h i, e, Nat.testBit_two_pow_sub_one]; simpa using hi
  · intro hall
    apply Nat.eq_of_testBit_eq
    intro i
    rw [pl_bit h i, Nat.testBit_two_pow_sub_one]
    by_cases hi : i < p
    · rw [hall i hi]; simp [hi]
    · have : ¬ plB n L s t i = true := fun e => hi (pl_lt h e)
      simp [hi, this]

theorem lead_tr {p : Int} {n : Nat} {L : List (List Int)} {s t : Int} (h : wayOk p n L s t = true) {k : Nat} (hk : k < n) : leadB (maskL (L.getD (3 * k) [])) (maskL (L.getD (3 * k + 1) [])) (fthM n L s) (bckM n L t) = trB n L s t k := by
  obtain ⟨hg, hs, ht⟩ := wayOk_parts h
  have hm := netOk_mem hg hk
  rw [show L.getD (3 * k) [] = inL L k from rfl, show L.getD (3 * k + 1) [] = outL L k from rfl]
  unfold leadB trB
  congr 1
  · rw [Bool.eq_iff_iff, decide_eq_true_iff, and_ne_iff (fun x hx => (hm.1 x hx).1)]
    unfold rchT
    rw [List.any_eq_true]
    simp only [fth_bit h]
  · rw [Bool.eq_iff_iff, decide_eq_true_iff, and_ne_iff (fun x hx => (hm.2.1 x hx).1)]
    unfold rchT
    rw [List.any_eq_true]
    simp only [bck_bit h]

theorem tr_all {p : Int} {n : Nat} {L : List (List Int)} {s t : Int} (h : wayOk p n L s t = true) : anyK (fun k => !leadB (maskL (L.getD (3 * k) [])) (maskL (L.getD (3 * k + 1) [])) (fthM n L s) (bckM n L t)) n = !decide ((wayT p n L s t).length = n) := by
  unfold wayT
  rw [h, if_pos rfl]
  rw [Bool.eq_iff_iff]
  unfold anyK
  rw [List.any_eq_true, Bool.not_eq_true', decide_eq_false_iff_not, nums2_full]
  constructor
  · rintro ⟨k, hk, he⟩ hall
    have hk' : k < n := by simpa using hk
    rw [lead_tr h hk', hall k hk'] at he
    simp at he
  · intro hno
    apply Classical.byContradiction
    intro hne
    apply hno
    intro k hk
    apply Classical.byContradiction
    intro he
    exact hne ⟨k, by simpa using hk, by rw [lead_tr h hk]; simpa using he⟩

theorem hasB_mask {xs : List Int} {y : Int} (h : ∀ x ∈ xs, 0 ≤ x) (hy : 0 ≤ y) : (maskL xs).testBit y.toNat = hasB xs y := by
  rw [maskL_bit xs _ h, show ((y.toNat : Nat) : Int) = y by omega]
  unfold hasB
  rw [Bool.eq_iff_iff, decide_eq_true_iff]
  simp

theorem spoil_eq {p : Int} {n : Nat} {L : List (List Int)} {s t : Int} (h : wayOk p n L s t = true) : anyK (fun k => spoilB (maskL (L.getD (3 * k) [])) (maskL (L.getD (3 * k + 1) [])) (maskL (L.getD (3 * k + 2) [])) s.toNat t.toNat) n = anyK (spoilL L s t) n := by
  obtain ⟨hg, hs, ht⟩ := wayOk_parts h
  have key : ∀ k, k < n → spoilB (maskL (L.getD (3 * k) [])) (maskL (L.getD (3 * k + 1) [])) (maskL (L.getD (3 * k + 2) [])) s.toNat t.toNat = spoilL L s t k := by
    intro k hk
    have hm := netOk_mem hg hk
    rw [show L.getD (3 * k) [] = inL L k from rfl, show L.getD (3 * k + 1) [] = outL L k from rfl]
    unfold spoilB spoilL
    rw [hasB_mask (fun x hx => (hm.2.1 x hx).1) hs.1, hasB_mask (fun x hx => (hm.1 x hx).1) ht.1, hasB_mask (fun x hx => (hm.2.2 x hx).1) hs.1, hasB_mask (fun x hx => (hm.2.2 x hx).1) ht.1]
  unfold anyK
  rw [Bool.eq_iff_iff, List.any_eq_true, List.any_eq_true]
  constructor
  · rintro ⟨k, hk, he⟩; exact ⟨k, hk, by rw [← key k (by simpa using hk)]; exact he⟩
  · rintro ⟨k, hk, he⟩; exact ⟨k, hk, by rw [key k (by simpa using hk)]; exact he⟩
end Go.Proofs.Ytoijlepjnpdlkaa


/- flowSteps of the program. -/
namespace Go.Proofs.Ytoijlepjnpdlkaa
open Go.RowKit
set_option maxRecDepth 10000

/-- How flowSteps ends. -/
def FlowEnd (g : Bool) (p : Int) (n : Nat) (L : List (List Int)) (s t : Int) (w : World) (e : Ending) (w' : World) : Prop :=
  ∃ p' a m c s' t', e = .returned (.tuple #[.agg #[.int .i64 p', .slice a m c, .int .i64 s', .int .i64 t'], .bool g]) ∧
    Hid (g = true → p' = p ∧ m = n ∧ c = n ∧ s' = s ∧ t' = t ∧ ∃ B, a = some ⟨B, 0, none⟩ ∧ w.heap.size ≤ B ∧ PartS w' B (3 * n) (3 * n) L) ∧ Below w.heap.size w w'

theorem flowEnd_no {p : Int} {n : Nat} {L : List (List Int)} {s t : Int} {w w' : World} (h : flowOk p n L s t = false) (hb : Below w.heap.size w w') :
    FlowEnd (flowOk p n L s t) p n L s t w (.returned (.tuple #[.agg #[.int .i64 0, .slice none 0 0, .int .i64 0, .int .i64 0], .bool false])) w' :=
  ⟨0, none, 0, 0, 0, 0, by rw [h], by rw [h]; intro e; simp at e, hb⟩

theorem flow_no1 {p : Int} {n : Nat} {L : List (List Int)} {s t : Int} (h : wayOk p n L s t = false) : flowOk p n L s t = false := by unfold flowOk; rw [h]; rfl
theorem flow_no2 {p : Int} {n : Nat} {L : List (List Int)} {s t : Int} (h : s = t) : flowOk p n L s t = false := by unfold flowOk; simp [h]
theorem flow_no3 {p : Int} {n : Nat} {L : List (List Int)} {s t : Int} (h : ¬ ((wayP p n L s t).length : Int) = p) : flowOk p n L s t = false := by unfold flowOk; simp [h]
theorem flow_no4 {p : Int} {n : Nat} {L : List (List Int)} {s t : Int} (h : ¬ (wayT p n L s t).length = n) : flowOk p n L s t = false := by unfold flowOk; simp [h]
theorem flow_no5 {p : Int} {n : Nat} {L : List (List Int)} {s t : Int} (h : anyK (spoilL L s t) n = true) : flowOk p n L s t = false := by unfold flowOk; simp [h]
theorem flow_yes {p : Int} {n : Nat} {L : List (List Int)} {s t : Int} (h1 : wayOk p n L s t = true) (h2 : ¬ s = t) (h3 : ((wayP p n L s t).length : Int) = p) (h4 : (wayT p n L s t).length = n) (h5 : anyK (spoilL L s t) n = false) : flowOk p n L s t = true := by
  unfold flowOk; simp [h1, h2, h3, h4, h5]

set_option maxHeartbeats 4000000 in
theorem flowSteps_any (p s t : Int) (a : Option Addr) (n c : Nat) (L : List (List Int)) (w : World) (h : Lists w a (3 * n) L) (hs : sizeN n L ≤ 1048576) :
    Calls Try.prog 16 #[.agg #[.int .i64 p, .slice a n c, .int .i64 s, .int .i64 t]] w fun e w' => FlowEnd (flowOk p n L s t) p n L s t w e w' := by
  have HA := hide (below_two w (.cells #[.int .i64 p, .slice a n c, .int .i64 s, .int .i64 t] 32) (.cells #[.int .i64 0, .slice none 0 0, .int .i64 0, .int .i64 0] 51))
  have HT := hide (waysOf_any p s t a n c L _ (h.below HA.out) hs)
  have HP0 : Hid (((w.alloc (.cells #[.int .i64 p, .slice a n c, .int .i64 s, .int .i64 t] 32)).alloc (.cells #[.int .i64 0, .slice none 0 0, .int .i64 0, .int .i64 0] 51)).heap[w.heap.size]? = some (.cells #[.int .i64 p, .slice a n c, .int .i64 s, .int .i64 t] 32 (0, 0))) :=
    keep (heap_alloc_new _ _) (below_al _ _)
  have HR0 : Hid (((w.alloc (.cells #[.int .i64 p, .slice a n c, .int .i64 s, .int .i64 t] 32)).alloc (.cells #[.int .i64 0, .slice none 0 0, .int .i64 0, .int .i64 0] 51)).heap[w.heap.size + 1]? = some (.cells #[.int .i64 0, .slice none 0 0, .int .i64 0, .int .i64 0] 51 (0, 0))) := by
    have := heap_alloc_new (w.alloc (.cells #[.int .i64 p, .slice a n c, .int .i64 s, .int .i64 t] 32)) (.cells #[.int .i64 0, .slice none 0 0, .int .i64 0, .int .i64 0] 51)
    rw [show (w.alloc (.cells #[.int .i64 p, .slice a n c, .int .i64 s, .int .i64 t] 32)).heap.size = w.heap.size + 1 by simp] at this
    exact this
  clear h
  go_enter Try.func16, Try.ntmps16
  go_wp2_with fail
  refine HT.out.mono ?_
  rintro e w2 ⟨p', a', m, c', F, K, rfl, hx, hb⟩
  have HB2 := hide (HA.out.trans (hb.mono HA.out.size))
  have HP2 := hide (keep HP0.out hb)
  have HR2 := hide (keep HR0.out hb)
  have hlr : w.heap.size + 1 < w2.heap.size := (Array.getElem?_eq_some_iff.mp HR2.out).1
  have hlp : w.heap.size < w2.heap.size := by omega
  obtain ⟨⟨hr0, hr1, hr2, hr3⟩, hf0, hf1, hf2, hf3⟩ := cells4 HR2.out
  obtain ⟨⟨hp0, hp1, hp2, hp3⟩, _⟩ := cells4 HP2.out
  clear hb HT HA HP0 HR0
  by_cases hg : wayOk p n L s t = true
  rotate_left
  · have hg' : wayOk p n L s t = false := by simpa using hg
    have HN := hide (flow_no1 hg')
    rw [hg']
    clear hg hg' hx
    go_wp2_with fail
    refine bodyPost_ret (v := .tuple #[.agg #[.int .i64 0, .slice none 0 0, .int .i64 0, .int .i64 0], .bool false]) (by simp [results, Try.results16, go_sem, hr0, hr1, hr2, hr3, hlr]) rfl ?_
    exact flowEnd_no HN.out ((below_set4 HB2.out (by simp) _ _ _ _).alloc (by have := HB2.out.size; simp [World.setCell]; omega) _)
  obtain ⟨e1, e2, e3, e4, e5, B, rfl, hBs, hps⟩ := hx.out hg
  subst e1 e2 e3
  have HG := hide hg
  rw [hg]
  by_cases hst : s = t
  · have HN := hide (flow_no2 (p := p') (n := c') (L := L) hst)
    subst hst
    clear hx hps hg
    have hdd : (s == s) = true := by simp
    go_wp2_with fail
    refine bodyPost_ret (v := .tuple #[.agg #[.int .i64 0, .slice none 0 0, .int .i64 0, .int .i64 0], .bool false]) (by simp [results, Try.results16, go_sem, hr0, hr1, hr2, hr3, hlr]) rfl ?_
    exact flowEnd_no HN.out ((below_set4 HB2.out (by simp) _ _ _ _).alloc (by have := HB2.out.size; simp [World.setCell]; omega) _)
  have hdd : (s == t) = false := by simpa using hst
  have HST := hide hst
  obtain ⟨hgn, hsr, htr⟩ := wayOk_parts hg
  obtain ⟨⟨hq1, hq2⟩, hn24, _⟩ := netOk_parts hgn
  have HF := hide (fthM_lt c' L s)
  have HK := hide (bckM_lt c' L t)
  rw [← e4] at HF
  rw [← e5] at HK
  obtain ⟨P, rfl⟩ : ∃ P : Nat, p' = (P : Int) := ⟨p'.toNat, by omega⟩
  have HPA := hide (pl_all hg)
  have HTA := hide (tr_all hg)
  have HSA := hide (spoil_eq hg)
  rw [← e4, ← e5] at HPA HTA
  have hA1 := below_al w2 (.cells #[.int .i64 (P : Int), .slice (some ⟨B, 0, none⟩) c' c', .int .u16 (F : Int), .int .u16 (K : Int)] 72)
  have hA2 := below_al (w2.alloc (.cells #[.int .i64 (P : Int), .slice (some ⟨B, 0, none⟩) c' c', .int .u16 (F : Int), .int .u16 (K : Int)] 72)) (.cells #[.int .i64 (P : Int), .slice (some ⟨B, 0, none⟩) c' c', .int .i64 s, .int .i64 t] 51)
  have HX := hide (keep (heap_alloc_new w2 (.cells #[.int .i64 (P : Int), .slice (some ⟨B, 0, none⟩) c' c', .int .u16 (F : Int), .int .u16 (K : Int)] 72)) hA2)
  have hy := heap_alloc_new (w2.alloc (.cells #[.int .i64 (P : Int), .slice (some ⟨B, 0, none⟩) c' c', .int .u16 (F : Int), .int .u16 (K : Int)] 72)) (.cells #[.int .i64 (P : Int), .slice (some ⟨B, 0, none⟩) c' c', .int .i64 s, .int .i64 t] 51)
  rw [show (w2.alloc (.cells #[.int .i64 (P : Int), .slice (some ⟨B, 0, none⟩) c' c', .int .u16 (F : Int), .int .u16 (K : Int)] 72)).heap.size = w2.heap.size + 1 by simp] at hy
  have HY := hide hy
  have HAA := hide (hA1.trans (hA2.mono hA1.size))
  have HPS := hide (hps.grow HAA.out)
  have HBs := hide (show w.heap.size + 1 + 1 ≤ B by simpa using hBs)
  have HE4 := hide e4
  have HE5 := hide e5
  clear hx hst hps hA1 hA2 hy hg e4 e5 hBs
  go_wp2_with fail
  clear hr0 hr1 hr2 hr3 hf0 hf1 hf2 hf3 hp0 hp1 hp2 hp3
  obtain ⟨V, hV⟩ : ∃ V, Hid ((w2.alloc (.cells #[.int .i64 (P : Int), .slice (some ⟨B, 0, none⟩) c' c', .int .u16 (F : Int), .int .u16 (K : Int)] 72)).alloc (.cells #[.int .i64 (P : Int), .slice (some ⟨B, 0, none⟩) c' c', .int .i64 s, .int .i64 t] 51) = V) := ⟨_, rfl⟩
  have HBV := hide (HB2.out.trans (HAA.out.mono HB2.out.size))
  have HRV := hide (keep HR2.out HAA.out)
  rw [hV.out] at HX HY HPS HBV HRV ⊢
  obtain ⟨X, hX⟩ : ∃ X, Hid (w2.heap.size = X) := ⟨_, rfl⟩
  rw [hX.out] at HX HY hlr hlp ⊢
  clear HAA HB2 HR2 hV hX
  obtain ⟨U, hU⟩ : ∃ U : Nat, Hid ((2 ^ P - 1 : Nat) = U) := ⟨2 ^ P - 1, rfl⟩
  have HAL := hide (fun W => all_any P (some ⟨B, 0, none⟩) c' c' W (by omega) (by omega))
  rw [hU.out] at HPA HAL
  have HPL := hide (fun W => wplaces_any (P : Int) (some ⟨B, 0, none⟩) c' c' F K W HF.out HK.out)
  by_cases hpl : F &&& K = U
  rotate_left
  · have HN := hide (flow_no3 (fun e => hpl (HPA.out.mpr e)))
    obtain ⟨M, hM⟩ : ∃ M, Hid (F &&& K = M) := ⟨_, rfl⟩
    rw [hM.out] at HPL hpl
    have hne : (((M : Nat) : Int) != ((U : Nat) : Int)) = true := by simp; omega
    obtain ⟨⟨hx0, hx1, hx2, hx3⟩, _⟩ := cells4 HX.out
    clear HPA HTA HSA hpl
    refine wp_region_held_drew (S := fun W => W.cell? ⟨X, 0, none⟩ = some (.int .i64 (P : Int)) ∧ W.cell? ⟨X, 1, none⟩ = some (.slice (some ⟨B, 0, none⟩) c' c') ∧ W.cell? ⟨X, 2, none⟩ = some (.int .u16 (F : Int)) ∧ W.cell? ⟨X, 3, none⟩ = some (.int .u16 (K : Int))) (by kernel_rfl) ?_ (fun hHeld => ?_)
    · exact (cells4 (keep HX.out (Below.refl _ V).drew)).1
    refine take_yes (i := 0) (some 34) (.agg #[.int .i64 (P : Int), .slice (some ⟨B, 0, none⟩) c' c', .int .u16 (F : Int), .int .u16 (K : Int)]) rfl rfl (by kernel_rfl) (by kernel_rfl) (by kernel_rfl) (fun _ _ _ h => h) (by rfl) ?_ (by assumption) ?_
    · intro W hSw
      obtain ⟨hz0, hz1, hz2, hz3⟩ := hSw
      go_simp
    simp only [Act.put, List.setIfInBounds_toArray, List.set_cons_zero, List.set_cons_succ]
    refine take_yes (i := 2) (some 36) (.pointer (some ⟨X, 0, none⟩)) rfl rfl (by kernel_rfl) (by kernel_rfl) (by kernel_rfl) (fun _ _ _ h => h) (by rfl) ?_ (by assumption) ?_
    · intro W hSw
      obtain ⟨hz0, hz1, hz2, hz3⟩ := hSw
      go_simp
    simp only [Act.put, List.setIfInBounds_toArray, List.set_cons_zero, List.set_cons_succ]
    refine take_yes (i := 3) (some 37) (.agg #[.int .i64 (P : Int), .slice (some ⟨B, 0, none⟩) c' c']) rfl rfl (by kernel_rfl) (by kernel_rfl) (by kernel_rfl) (fun _ _ _ h => h) (by rfl) ?_ (by assumption) ?_
    · intro W hSw
      obtain ⟨hz0, hz1, hz2, hz3⟩ := hSw
      go_simp
    simp only [Act.put, List.setIfInBounds_toArray, List.set_cons_zero, List.set_cons_succ]
    refine call_next (i := 1) (some 35) rfl rfl (by kernel_rfl) (by rfl) 31 _ _ _ rfl Try.func31 (by decide) rfl #[.agg #[.int .i64 (P : Int), .slice (some ⟨B, 0, none⟩) c' c', .int .u16 (F : Int), .int .u16 (K : Int)]] (mapw1 _ _ _ rfl) _ (HPL.out _) ?_
    rintro e v1 ⟨rfl, hb1⟩
    refine ⟨_, rfl, ?_, fun hHeld => ?_⟩
    · exact (cells4 (keep (keep HX.out (Below.refl _ V).drew) hb1)).1
    simp only [Act.put, List.setIfInBounds_toArray, List.set_cons_zero, List.set_cons_succ]
    refine call_next (i := 4) (some 38) rfl rfl (by kernel_rfl) (by rfl) 32 _ _ _ rfl Try.func32 (by decide) rfl #[.agg #[.int .i64 (P : Int), .slice (some ⟨B, 0, none⟩) c' c']] (mapw1 _ _ _ rfl) _ (HAL.out _) ?_
    rintro e v2 ⟨rfl, hb2⟩
    refine ⟨_, rfl, ?_, fun hHeld => ?_⟩
    · exact (cells4 (keep (keep (keep HX.out (Below.refl _ V).drew) hb1) hb2)).1
    simp only [Act.put, List.setIfInBounds_toArray, List.set_cons_zero, List.set_cons_succ]
    refine take_yes (i := 5) (some 39) (.bool true) rfl rfl (by kernel_rfl) (by kernel_rfl) (by kernel_rfl) (fun _ _ _ h => h) (by rfl) ?_ (by assumption) ?_
    · intro W hSw
      obtain ⟨hz0, hz1, hz2, hz3⟩ := hSw
      go_simp
    simp only [Act.put, List.setIfInBounds_toArray, List.set_cons_zero, List.set_cons_succ]
    refine take_yes (i := 6) (some 40) (.bool true) rfl rfl (by kernel_rfl) (by kernel_rfl) (by kernel_rfl) (fun _ _ _ h => h) (by rfl) ?_ (by assumption) ?_
    · intro W hSw
      obtain ⟨hz0, hz1, hz2, hz3⟩ := hSw
      go_simp
    simp only [Act.put, List.setIfInBounds_toArray, List.set_cons_zero, List.set_cons_succ]
    refine take_no (i := 7) (some 41) rfl rfl (by kernel_rfl) (by kernel_rfl) (by kernel_rfl) (fun _ _ _ h => h) (by rfl) (by assumption) ?_
    simp only [Act.put, List.setIfInBounds_toArray, List.set_cons_zero, List.set_cons_succ]
    refine take_no (i := 8) (some 42) rfl rfl (by kernel_rfl) (by kernel_rfl) (by kernel_rfl) (fun _ _ _ h => h) (by rfl) (by assumption) ?_
    simp only [Act.put, List.setIfInBounds_toArray, List.set_cons_zero, List.set_cons_succ]
    refine take_no (i := 9) (some 43) rfl rfl (by kernel_rfl) (by kernel_rfl) (by kernel_rfl) (fun _ _ _ h => h) (by rfl) (by assumption) ?_
    simp only [Act.put, List.setIfInBounds_toArray, List.set_cons_zero, List.set_cons_succ]
    refine take_no (i := 10) (some 44) rfl rfl (by kernel_rfl) (by kernel_rfl) (by kernel_rfl) (fun _ _ _ h => h) (by rfl) (by assumption) ?_
    simp only [Act.put, List.setIfInBounds_toArray, List.set_cons_zero, List.set_cons_succ]
    refine take_no (i := 11) (some 45) rfl rfl (by kernel_rfl) (by kernel_rfl) (by kernel_rfl) (fun _ _ _ h => h) (by rfl) (by assumption) ?_
    simp only [Act.put, List.setIfInBounds_toArray, List.set_cons_zero, List.set_cons_succ]
    refine take_no (i := 12) (some 46) rfl rfl (by kernel_rfl) (by kernel_rfl) (by kernel_rfl) (fun _ _ _ h => h) (by rfl) (by assumption) ?_
    simp only [Act.put, List.setIfInBounds_toArray, List.set_cons_zero, List.set_cons_succ]
    refine take_yes (i := 13) (some 47) (.bool true) rfl rfl (by kernel_rfl) (by kernel_rfl) (by kernel_rfl) (fun _ _ _ h => h) (by rfl) ?_ (by assumption) ?_
    · intro W hSw
      obtain ⟨hz0, hz1, hz2, hz3⟩ := hSw
      go_simp
    simp only [Act.put, List.setIfInBounds_toArray, List.set_cons_zero, List.set_cons_succ]
    refine wpAnyH_done (by kernel_rfl) ?_ _
    obtain ⟨⟨hr0, hr1, hr2, hr3⟩, hf0, hf1, hf2, hf3⟩ := cells4 (keep (keep (keep HRV.out (Below.refl _ V).drew) hb1) hb2)
    have HBX := hide (HBV.out.drew.trans ((hb1.trans (hb2.mono hb1.size)).mono HBV.out.drew.size))
    clear hb1 hb2 hHeld
    go_wp2_with fail
    refine bodyPost_ret (v := .tuple #[.agg #[.int .i64 0, .slice none 0 0, .int .i64 0, .int .i64 0], .bool false]) (by simp [results, Try.results16, go_sem, hr0, hr1, hr2, hr3]) rfl ?_
    exact flowEnd_no HN.out (below_set4 HBX.out (by simp) _ _ _ _)
  have heq : (((U : Nat) : Int) != ((U : Nat) : Int)) = false := by simp
  have HPA2 := hide (HPA.out.mp hpl)
  rw [hpl] at HPL
  have HCM := hide (fun W (hW : PartS W B (3 * c') (3 * c') L) => containsM_any (P : Int) (F : Int) (K : Int) (some ⟨B, 0, none⟩) c' c' _ B c' L W hW hn24 (fun W' k hk => misses_any (P : Int) (some ⟨B, 0, none⟩) c' c' F K _ _ _ W' (maskL_lt _ fun x hx => by have := (netOk_mem hgn hk).1 x hx; omega) (maskL_lt _ fun x hx => by have := (netOk_mem hgn hk).2.1 x hx; omega) HF.out HK.out))
  rw [HTA.out] at HCM
  obtain ⟨q, hq⟩ : ∃ q, Hid (decide ((wayT (P : Int) c' L s t).length = c') = q) := ⟨_, rfl⟩
  rw [hq.out] at HCM
  clear HPA hpl
  refine wp_region_held_drew (S := fun W => W.cell? ⟨X, 0, none⟩ = some (.int .i64 (P : Int)) ∧ W.cell? ⟨X, 1, none⟩ = some (.slice (some ⟨B, 0, none⟩) c' c') ∧ W.cell? ⟨X, 2, none⟩ = some (.int .u16 (F : Int)) ∧ W.cell? ⟨X, 3, none⟩ = some (.int .u16 (K : Int))) (by kernel_rfl) ?_ (fun hHeld => ?_)
  · exact (cells4 (keep HX.out (Below.refl _ V).drew)).1
  refine take_yes (i := 0) (some 34) (.agg #[.int .i64 (P : Int), .slice (some ⟨B, 0, none⟩) c' c', .int .u16 (F : Int), .int .u16 (K : Int)]) rfl rfl (by kernel_rfl) (by kernel_rfl) (by kernel_rfl) (fun _ _ _ h => h) (by rfl) ?_ (by assumption) ?_
  · intro W hSw
    obtain ⟨hz0, hz1, hz2, hz3⟩ := hSw
    go_simp
  simp only [Act.put, List.setIfInBounds_toArray, List.set_cons_zero, List.set_cons_succ]
  refine take_yes (i := 2) (some 36) (.pointer (some ⟨X, 0, none⟩)) rfl rfl (by kernel_rfl) (by kernel_rfl) (by kernel_rfl) (fun _ _ _ h => h) (by rfl) ?_ (by assumption) ?_
  · intro W hSw
    obtain ⟨hz0, hz1, hz2, hz3⟩ := hSw
    go_simp
  simp only [Act.put, List.setIfInBounds_toArray, List.set_cons_zero, List.set_cons_succ]
  refine take_yes (i := 3) (some 37) (.agg #[.int .i64 (P : Int), .slice (some ⟨B, 0, none⟩) c' c']) rfl rfl (by kernel_rfl) (by kernel_rfl) (by kernel_rfl) (fun _ _ _ h => h) (by rfl) ?_ (by assumption) ?_
  · intro W hSw
    obtain ⟨hz0, hz1, hz2, hz3⟩ := hSw
    go_simp
  simp only [Act.put, List.setIfInBounds_toArray, List.set_cons_zero, List.set_cons_succ]
  refine call_next (i := 1) (some 35) rfl rfl (by kernel_rfl) (by rfl) 31 _ _ _ rfl Try.func31 (by decide) rfl #[.agg #[.int .i64 (P : Int), .slice (some ⟨B, 0, none⟩) c' c', .int .u16 (F : Int), .int .u16 (K : Int)]] (mapw1 _ _ _ rfl) _ (HPL.out _) ?_
  rintro e v1 ⟨rfl, hb1⟩
  refine ⟨_, rfl, ?_, fun hHeld => ?_⟩
  · exact (cells4 (keep (keep HX.out (Below.refl _ V).drew) hb1)).1
  simp only [Act.put, List.setIfInBounds_toArray, List.set_cons_zero, List.set_cons_succ]
  refine call_next (i := 4) (some 38) rfl rfl (by kernel_rfl) (by rfl) 32 _ _ _ rfl Try.func32 (by decide) rfl #[.agg #[.int .i64 (P : Int), .slice (some ⟨B, 0, none⟩) c' c']] (mapw1 _ _ _ rfl) _ (HAL.out _) ?_
  rintro e v2 ⟨rfl, hb2⟩
  refine ⟨_, rfl, ?_, fun hHeld => ?_⟩
  · exact (cells4 (keep (keep (keep HX.out (Below.refl _ V).drew) hb1) hb2)).1
  simp only [Act.put, List.setIfInBounds_toArray, List.set_cons_zero, List.set_cons_succ]
  refine take_yes (i := 5) (some 39) (.bool false) rfl rfl (by kernel_rfl) (by kernel_rfl) (by kernel_rfl) (fun _ _ _ h => h) (by rfl) ?_ (by assumption) ?_
  · intro W hSw
    obtain ⟨hz0, hz1, hz2, hz3⟩ := hSw
    go_simp
  simp only [Act.put, List.setIfInBounds_toArray, List.set_cons_zero, List.set_cons_succ]
  refine take_yes (i := 6) (some 40) (.bool false) rfl rfl (by kernel_rfl) (by kernel_rfl) (by kernel_rfl) (fun _ _ _ h => h) (by rfl) ?_ (by assumption) ?_
  · intro W hSw
    obtain ⟨hz0, hz1, hz2, hz3⟩ := hSw
    go_simp
  simp only [Act.put, List.setIfInBounds_toArray, List.set_cons_zero, List.set_cons_succ]
  refine take_yes (i := 7) (some 41) (.pointer (some ⟨X, 0, none⟩)) rfl rfl (by kernel_rfl) (by kernel_rfl) (by kernel_rfl) (fun _ _ _ h => h) (by rfl) ?_ (by assumption) ?_
  · intro W hSw
    obtain ⟨hz0, hz1, hz2, hz3⟩ := hSw
    go_simp
  simp only [Act.put, List.setIfInBounds_toArray, List.set_cons_zero, List.set_cons_succ]
  refine take_yes (i := 8) (some 42) (.pointer (some ⟨X, 1, none⟩)) rfl rfl (by kernel_rfl) (by kernel_rfl) (by kernel_rfl) (fun _ _ _ h => h) (by rfl) ?_ (by assumption) ?_
  · intro W hSw
    obtain ⟨hz0, hz1, hz2, hz3⟩ := hSw
    go_simp
  simp only [Act.put, List.setIfInBounds_toArray, List.set_cons_zero, List.set_cons_succ]
  refine take_yes (i := 9) (some 43) (.slice (some ⟨B, 0, none⟩) c' c') rfl rfl (by kernel_rfl) (by kernel_rfl) (by kernel_rfl) (fun _ _ _ h => h) (by rfl) ?_ (by assumption) ?_
  · intro W hSw
    obtain ⟨hz0, hz1, hz2, hz3⟩ := hSw
    go_simp
  simp only [Act.put, List.setIfInBounds_toArray, List.set_cons_zero, List.set_cons_succ]
  refine take_yes (i := 10) (some 44) (.agg #[.int .i64 (P : Int), .slice (some ⟨B, 0, none⟩) c' c', .int .u16 (F : Int), .int .u16 (K : Int)]) rfl rfl (by kernel_rfl) (by kernel_rfl) (by kernel_rfl) (fun _ _ _ h => h) (by rfl) ?_ (by assumption) ?_
  · intro W hSw
    obtain ⟨hz0, hz1, hz2, hz3⟩ := hSw
    go_simp
  simp only [Act.put, List.setIfInBounds_toArray, List.set_cons_zero, List.set_cons_succ]
  refine take_yes (i := 11) (some 45) (.func (.func 34) #[.agg #[.int .i64 (P : Int), .slice (some ⟨B, 0, none⟩) c' c', .int .u16 (F : Int), .int .u16 (K : Int)]] #[]) rfl rfl (by kernel_rfl) (by kernel_rfl) (by kernel_rfl) (fun _ _ _ h => h) (by rfl) ?_ (by assumption) ?_
  · intro W hSw
    obtain ⟨hz0, hz1, hz2, hz3⟩ := hSw
    go_simp
  simp only [Act.put, List.setIfInBounds_toArray, List.set_cons_zero, List.set_cons_succ]
  refine call_next (i := 12) (some 46) rfl rfl (by kernel_rfl) (by rfl) 33 _ _ _ rfl Try.func33 (by decide) rfl #[.slice (some ⟨B, 0, none⟩) c' c', .func (.func 34) #[.agg #[.int .i64 (P : Int), .slice (some ⟨B, 0, none⟩) c' c', .int .u16 (F : Int), .int .u16 (K : Int)]] #[]] (mapw2 _ _ _ _ _ rfl rfl) _ (HCM.out _ (((HPS.out.grow (Below.refl _ V).drew).grow hb1).grow hb2)) ?_
  rintro e v3 ⟨rfl, hb3⟩
  refine ⟨_, rfl, ?_, fun hHeld => ?_⟩
  · exact (cells4 (keep (keep (keep (keep HX.out (Below.refl _ V).drew) hb1) hb2) hb3)).1
  simp only [Act.put, List.setIfInBounds_toArray, List.set_cons_zero, List.set_cons_succ]
  refine take_yes (i := 13) (some 47) (.bool (!q)) rfl rfl (by kernel_rfl) (by kernel_rfl) (by kernel_rfl) (fun _ _ _ h => h) (by rfl) ?_ (by assumption) ?_
  · intro W hSw
    obtain ⟨hz0, hz1, hz2, hz3⟩ := hSw
    go_simp
  simp only [Act.put, List.setIfInBounds_toArray, List.set_cons_zero, List.set_cons_succ]
  refine wpAnyH_done (by kernel_rfl) ?_ _
  have HBX := hide (HBV.out.drew.trans ((hb1.trans ((hb2.trans (hb3.mono hb2.size)).mono hb1.size)).mono HBV.out.drew.size))
  have HX3 := hide (keep (keep (keep (keep HX.out (Below.refl _ V).drew) hb1) hb2) hb3)
  have HY3 := hide (keep (keep (keep (keep HY.out (Below.refl _ V).drew) hb1) hb2) hb3)
  have HR3 := hide (keep (keep (keep (keep HRV.out (Below.refl _ V).drew) hb1) hb2) hb3)
  have HPS3 := hide ((((HPS.out.grow (Below.refl _ V).drew).grow hb1).grow hb2).grow hb3)
  obtain ⟨⟨hr0, hr1, hr2, hr3⟩, hf0, hf1, hf2, hf3⟩ := cells4 HR3.out
  obtain ⟨⟨hx0, hx1, hx2, hx3⟩, _⟩ := cells4 HX3.out
  obtain ⟨⟨hy0, hy1, hy2, hy3⟩, _⟩ := cells4 HY3.out
  clear hb1 hb2 hb3 hHeld HX HY HRV HPS HBV HCM HAL HPL
  cases q
  · have HN := hide (flow_no4 (p := (P : Int)) (s := s) (t := t) (of_decide_eq_false hq.out))
    go_wp2_with fail
    refine bodyPost_ret (v := .tuple #[.agg #[.int .i64 0, .slice none 0 0, .int .i64 0, .int .i64 0], .bool false]) (by simp [results, Try.results16, go_sem, hr0, hr1, hr2, hr3]) rfl ?_
    exact flowEnd_no HN.out (below_set4 HBX.out (by simp) _ _ _ _)
  have HCS := hide (containsS_any (P : Int) s t (some ⟨B, 0, none⟩) c' c' _ B c' L v3 HPS3.out hn24 (fun W' k hk => by
    have h := spoiled_any (P : Int) (some ⟨B, 0, none⟩) c' c' s.toNat t.toNat _ _ _ W' (maskL_lt (L.getD (3 * k) []) fun x hx => by have := (netOk_mem hgn hk).1 x hx; omega) (maskL_lt (L.getD (3 * k + 1) []) fun x hx => by have := (netOk_mem hgn hk).2.1 x hx; omega) (maskL_lt (L.getD (3 * k + 2) []) fun x hx => by have := (netOk_mem hgn hk).2.2 x hx; omega) (by omega) (by omega)
    rw [show ((s.toNat : Nat) : Int) = s by omega, show ((t.toNat : Nat) : Int) = t by omega] at h
    exact h))
  rw [HSA.out] at HCS
  obtain ⟨r, hr⟩ : ∃ r, Hid (anyK (spoilL L s t) c' = r) := ⟨_, rfl⟩
  rw [hr.out] at HCS
  go_wp2_with fail
  refine HCS.out.mono ?_
  rintro e v4 ⟨rfl, hb4⟩
  have HBY := hide (HBX.out.trans (hb4.mono HBX.out.size))
  have HPS4 := hide (HPS3.out.grow hb4)
  obtain ⟨⟨hr0, hr1, hr2, hr3⟩, hf0, hf1, hf2, hf3⟩ := cells4 (keep HR3.out hb4)
  obtain ⟨⟨hy0, hy1, hy2, hy3⟩, _⟩ := cells4 (keep HY3.out hb4)
  clear hb4 HCS hx0 hx1 hx2 hx3
  cases r
  rotate_left
  · have HN := hide (flow_no5 (p := (P : Int)) (n := c') (L := L) (s := s) (t := t) hr.out)
    go_wp2_with fail
    refine bodyPost_ret (v := .tuple #[.agg #[.int .i64 0, .slice none 0 0, .int .i64 0, .int .i64 0], .bool false]) (by simp [results, Try.results16, go_sem, hr0, hr1, hr2, hr3]) rfl ?_
    exact flowEnd_no HN.out (below_set4 HBY.out (by simp) _ _ _ _)
  have HOK := hide (flow_yes HG.out HST.out HPA2.out (of_decide_eq_true hq.out) hr.out)
  go_wp2_with fail
  refine bodyPost_ret (v := .tuple #[.agg #[.int .i64 (P : Int), .slice (some ⟨B, 0, none⟩) c' c', .int .i64 s, .int .i64 t], .bool true]) (by simp [results, Try.results16, go_sem, hr0, hr1, hr2, hr3]) rfl ?_
  exact ⟨_, _, _, _, s, t, by rw [HOK.out], fun _ => ⟨rfl, rfl, rfl, rfl, rfl, B, rfl, by have := HBs.out; omega, HPS4.out.set4 (by have := HBs.out; omega) _ _ _ _⟩, below_set4 HBY.out (by simp) _ _ _ _⟩
end Go.Proofs.Ytoijlepjnpdlkaa


/- GoodFlow: the specification's and the program's. -/
namespace Go.Proofs.Ytoijlepjnpdlkaa
open Go.RowKit
set_option maxRecDepth 10000

theorem spoil_step {L : List (List Int)} {s t : Int} {k : Nat} (h : anyK (spoilL L s t) k = false) (h0 : hasB (outL L k) s = false) (h1 : hasB (inL L k) t = false) (h2 : hasB (L.getD (3 * k + 2) []) s = false) (h3 : hasB (L.getD (3 * k + 2) []) t = false) : anyK (spoilL L s t) (k + 1) = false :=
  anyK_step h (by unfold spoilL; rw [h0, h1, h2, h3]; rfl)

set_option maxHeartbeats 4000000 in
theorem goodFlowS_any (p s t : Int) (a : Option Addr) (n c : Nat) (L : List (List Int)) (w : World) (h : Lists w a (3 * n) L) (hs : sizeN n L ≤ 1048576) :
    Calls Try.prog 12 #[.agg #[.int .i64 p, .slice a n c, .int .i64 s, .int .i64 t]] w fun e w' => e = .returned (.bool (flowOk p n L s t)) ∧ Below w.heap.size w w' := by
  have HA := hide (below_al w (.cells #[.int .i64 p, .slice a n c, .int .i64 s, .int .i64 t] 32))
  have PAR := hide (heap_alloc_new w (.cells #[.int .i64 p, .slice a n c, .int .i64 s, .int .i64 t] 32))
  have HF := hide (onWayS_any p s t a n c L _ (h.below HA.out) hs)
  have HL := hide h
  have hs' : n + sizeL L ≤ 1048576 := hs
  clear h
  go_enter Try.func12, Try.ntmps12
  go_wp2_with fail
  refine HF.out.mono ?_
  rintro e w1 ⟨a1, n1, c1, a2, n2, c2, rfl, hr1, hr2, hb⟩
  have HB1 := hide (HA.out.trans (hb.mono HA.out.size))
  have PAR1 := hide (keep PAR.out hb)
  have hl1 := hr1.1
  have hl2 := hr2.1
  obtain ⟨⟨hc0, hc1, hc2, hc3⟩, _⟩ := cells4 PAR1.out
  clear hb HF HA PAR hr1 hr2
  by_cases hg : wayOk p n L s t = true
  rotate_left
  · have hg' : wayOk p n L s t = false := by simpa using hg
    have HN := hide (flow_no1 hg')
    rw [hg']
    clear hg hg' hl1 hl2
    go_wp2_with fail
    go_ret
    exact ⟨ret_b HN.out.symm, HB1.out⟩
  have HG := hide hg
  have hn24 := (netOk_parts (wayOk_parts hg).1).2.1
  rw [hg]
  clear hg
  by_cases hst : s = t
  · have HN := hide (flow_no2 (p := p) (n := n) (L := L) hst)
    subst hst
    have hdd : (s == s) = true := by simp
    clear hl1 hl2
    go_wp2_with fail
    go_ret
    exact ⟨ret_b HN.out.symm, HB1.out⟩
  have hdd : (s == t) = false := by simpa using hst
  have HST := hide hst
  clear hst
  by_cases h1 : ((n1 : Nat) : Int) = p
  rotate_left
  · have HN := hide (flow_no3 (p := p) (n := n) (L := L) (s := s) (t := t) (by rw [hl1]; exact h1))
    have hd1 : (((n1 : Nat) : Int) != p) = true := by simpa using h1
    clear hl1 hl2 h1
    go_wp2_with fail
    go_ret
    exact ⟨ret_b HN.out.symm, HB1.out⟩
  have hd1 : (((n1 : Nat) : Int) != p) = false := by simpa using h1
  by_cases h2 : n2 = n
  rotate_left
  · have HN := hide (flow_no4 (p := p) (n := n) (L := L) (s := s) (t := t) (by rw [hl2]; exact h2))
    have hd2 : (((n2 : Nat) : Int) != ((n : Nat) : Int)) = true := by simp; omega
    clear hl1 hl2 h1 h2
    go_wp2_with fail
    go_ret
    exact ⟨ret_b HN.out.symm, HB1.out⟩
  have hd2 : (((n : Nat) : Int) != ((n : Nat) : Int)) = false := by simp
  have HY := hide (fun h5 => flow_yes HG.out HST.out (by rw [hl1]; exact h1) (by rw [hl2]; exact h2) h5)
  subst h2
  clear hl1 hl2 h1
  go_wp2_with fail
  clear hc0 hc1 hc2 hc3
  go_loopw [49] (fun i wr => ∃ k : Nat, k ≤ n2 ∧ i = .int .i64 k ∧ Hid (anyK (spoilL L s t) k = false) ∧ Hid (Below w.heap.size w wr) ∧ Hid (wr.heap[w.heap.size]? = some (.cells #[.int .i64 p, .slice a n2 c, .int .i64 s, .int .i64 t] 32 (0, 0)))) (fun i _ => n2 - (intOf i).toNat)
  case atStart => exact ⟨0, Nat.zero_le _, rfl, rfl, HB1, PAR1⟩
  case round =>
    clear HB1 PAR1
    obtain ⟨k, hk, rfl, hu, hbw, par⟩ := hrel
    by_cases hlt : k < n2
    rotate_left
    · have hk' : k = n2 := by omega
      subst hk'
      have HE := hide (HY.out hu.out)
      go_wp2_with fail
      go_ret
      exact ⟨ret_b HE.out.symm, hbw.out⟩
    obtain ⟨b, off, a0, m0, c0, a3, m3, c3, a4, m4, c4, rfl, hb, hr, q0, q1, q2, r0, r1, r2⟩ := (HL.out.below hbw.out).tri hlt
    obtain ⟨hd0, hd3, hd4⟩ := rangeAt_cells3 hr
    have l0 := len_le L (3 * k)
    have l1 := len_le L (3 * k + 1)
    have l2 := len_le L (3 * k + 2)
    have z0 : m0 ≤ 1048576 := by have := r0.1; omega
    have z1 : m3 ≤ 1048576 := by have := r1.1; omega
    have z2 : m4 ≤ 1048576 := by have := r2.1; omega
    have hA1 := below_al wr (.cells #[.slice a0 m0 c0, .slice a3 m3 c3, .slice a4 m4 c4] 44)
    have R0 := hide (r0.below hA1)
    have R1 := hide (r1.below hA1)
    have R2 := hide (r2.below hA1)
    have HB2 := hide (hbw.out.trans (hA1.mono hbw.out.size))
    have PAR2 := hide (keep par.out hA1)
    have hlw : w.heap.size < wr.heap.size := row_lt par.out
    have HT := hide (heap_alloc_new wr (.cells #[.slice a0 m0 c0, .slice a3 m3 c3, .slice a4 m4 c4] 44))
    obtain ⟨⟨hc0, hc1, hc2, hc3⟩, _⟩ := cells4 par.out
    clear hr r0 r1 r2 q0 q1 q2 hA1 l0 l1 l2
    have H1 := hide (has_any a3 m3 c3 (outL L k) s _ R1.out z1)
    have H2 := hide (has_any a0 m0 c0 (inL L k) t _ R0.out z0)
    have H3 := hide (has_any a4 m4 c4 (L.getD (3 * k + 2) []) s _ R2.out z2)
    have H4 := hide (has_any a4 m4 c4 (L.getD (3 * k + 2) []) t _ R2.out z2)
    have HNO := hide (fun (h : spoilL L s t k = true) => flow_no5 (p := p) (anyK_yes hlt h))
    obtain ⟨x1, e1⟩ : ∃ x, Hid (hasB (outL L k) s = x) := ⟨_, rfl⟩
    obtain ⟨x2, e2⟩ : ∃ x, Hid (hasB (inL L k) t = x) := ⟨_, rfl⟩
    obtain ⟨x3, e3⟩ : ∃ x, Hid (hasB (L.getD (3 * k + 2) []) s = x) := ⟨_, rfl⟩
    obtain ⟨x4, e4⟩ : ∃ x, Hid (hasB (L.getD (3 * k + 2) []) t = x) := ⟨_, rfl⟩
    rw [e1.out] at H1
    rw [e2.out] at H2
    rw [e3.out] at H3
    rw [e4.out] at H4
    clear R0 R1 R2
    go_wp2_with fail
    refine H1.out.mono ?_
    rintro e w3 ⟨rfl, hw3⟩
    obtain rfl := hw3
    cases x1
    rotate_left
    · have HN := hide (HNO.out (by unfold spoilL; rw [e1.out]; rfl))
      go_wp2_with fail
      go_ret
      exact ⟨ret_b HN.out.symm, HB2.out⟩
    go_wp2_with fail
    refine H2.out.mono ?_
    rintro e w3 ⟨rfl, hw3⟩
    obtain rfl := hw3
    cases x2
    rotate_left
    · have HN := hide (HNO.out (by unfold spoilL; rw [e1.out, e2.out]; rfl))
      go_wp2_with fail
      go_ret
      exact ⟨ret_b HN.out.symm, HB2.out⟩
    go_wp2_with fail
    refine H3.out.mono ?_
    rintro e w3 ⟨rfl, hw3⟩
    obtain rfl := hw3
    cases x3
    rotate_left
    · have HN := hide (HNO.out (by unfold spoilL; rw [e1.out, e2.out, e3.out]; rfl))
      go_wp2_with fail
      go_ret
      exact ⟨ret_b HN.out.symm, HB2.out⟩
    go_wp2_with fail
    refine H4.out.mono ?_
    rintro e w3 ⟨rfl, hw3⟩
    obtain rfl := hw3
    cases x4
    rotate_left
    · have HN := hide (HNO.out (by unfold spoilL; rw [e1.out, e2.out, e3.out, e4.out]; rfl))
      go_wp2_with fail
      go_ret
      exact ⟨ret_b HN.out.symm, HB2.out⟩
    have HU := hide (spoil_step hu.out e1.out e2.out e3.out e4.out)
    go_wp2_with fail
    go_roundw
    case rel => exact ⟨k + 1, by omega, by go_num, HU, HB2, PAR2⟩
    case measure => simp [intOf]; omega
end Go.Proofs.Ytoijlepjnpdlkaa


/- StartOf and EndOf, the program's and the specification's. -/
namespace Go.Proofs.Ytoijlepjnpdlkaa
open Go.RowKit
set_option maxRecDepth 10000

/-- The mark with one token. -/
def oneF (s : Nat) (i : Nat) : Int := if i = s then 1 else 0
def oneL (p s : Nat) : List Int := listF (oneF s) p

/-- How a function of the program that answers a list and true ends. -/
def OEndW (g : Bool) (r : List Int) (w : World) (e : Ending) (w' : World) : Prop :=
  ∃ a b n c, e = .returned (.tuple #[.slice a n c, .bool g]) ∧ Ob w' a b n r ∧ w.heap.size ≤ b ∧ Below w.heap.size w w'

/-- How one of the specification ends. -/
def WEndW (g : Bool) (r : List Int) (w : World) (e : Ending) (w' : World) : Prop :=
  ∃ a n c, e = .returned (.tuple #[.slice a n c, .bool g]) ∧ Row w' a n r ∧ Below w.heap.size w w'

theorem blk_ob {w : World} {a : Option Addr} {b n : Nat} {xs : List Int} (h : Blk w a b n xs) : Ob w a b n xs := by
  refine ⟨h.1, ?_⟩
  rcases h.2 with h0 | ⟨e, hh⟩
  · exact .inl h0
  · refine .inr ⟨e, _, hh, ?_, fun i hi => ?_⟩
    · have := h.1; unfold cellsOf; simp; omega
    · have := h.1; unfold cellsOf; simp [show i < xs.length by omega]

/-- A whole array loaded, where the operation is wanted. -/
theorem wpList_load_wantW {P : Program} {ops : Array Oper} {rest : List Oper} {o : Oper} {a : Act} {w : World} {Q : Exit → Act → World → Prop} (hw : Region.wanted o (yielded ops a.tmps) = true) (ty : TypeId) (x : Operand) (ho : o.op = .load ty x)
    (g : Nat) (hx : a.eval x = .pointer (some ⟨g, 0, none⟩)) (t : TypeId) (cells : Array Value) (n : Nat) (e : TypeId) (hg : w.heap[g]? = some (.cells cells t (0, 0))) (hu : P.underlying ty = some (.array n e)) (hi : (P.info? ty).map (·.size) = some cells.size)
    (h : wpList P ops Q rest (a.put o.dst (.agg cells)) w) : wpList P ops Q (o :: rest) a w :=
  BigFrame.wpList_want hw fun _ hK => wp_load_row ty x ho g hx t cells (0, 0) _ hg hu rfl hi (hK _ _ h)

theorem zerosW : (#[.int .u8 0, .int .u8 0, .int .u8 0, .int .u8 0, .int .u8 0, .int .u8 0, .int .u8 0, .int .u8 0, .int .u8 0, .int .u8 0, .int .u8 0, .int .u8 0, .int .u8 0, .int .u8 0, .int .u8 0, .int .u8 0] : Array Value) = tokF (fun _ => 0) := rfl

theorem calls_tok {P : Program} {f : FuncId} {y : Value} {w : World} {R : Ending → World → Prop} {X : Array Value} {F : Nat → Int} (h : X = tokF F) (hc : Calls P f #[.agg (tokF F), y] w R) : Calls P f #[.agg X, y] w R := by rw [h]; exact hc

/-- What StartOf and EndOf answer. -/
noncomputable def oneR (p : Int) (n : Nat) (L : List (List Int)) (s t q : Int) : List Int := if flowOk p n L s t then oneL p.toNat q.toNat else []

theorem oneR_len (p : Int) (n : Nat) (L : List (List Int)) (s t q : Int) (hp : flowOk p n L s t = true → p ≤ 16) : (oneR p n L s t q).length ≤ 16 := by
  unfold oneR; split
  · rename_i h
    unfold oneL; rw [listF_len]; have := hp h; omega
  · exact Nat.zero_le _

theorem flowOk_parts {p : Int} {n : Nat} {L : List (List Int)} {s t : Int} (h : flowOk p n L s t = true) : wayOk p n L s t = true ∧ ¬ s = t ∧ ((wayP p n L s t).length : Int) = p ∧ (wayT p n L s t).length = n ∧ anyK (spoilL L s t) n = false := by
  unfold flowOk at h
  simp only [Bool.and_eq_true, Bool.not_eq_true', decide_eq_true_iff, decide_eq_false_iff_not] at h
  exact ⟨h.1.1.1.1, h.1.1.1.2, h.1.1.2, h.1.2, h.2⟩

theorem flow_num {p : Int} {n : Nat} {L : List (List Int)} {s t : Int} (h : flowOk p n L s t = true) : (1 ≤ p ∧ p ≤ 16) ∧ n ≤ 24 ∧ (0 ≤ s ∧ s < p) ∧ (0 ≤ t ∧ t < p) := by
  obtain ⟨h1, _⟩ := flowOk_parts h
  obtain ⟨hg, hs, ht⟩ := wayOk_parts h1
  obtain ⟨hp, hn, _⟩ := netOk_parts hg
  exact ⟨hp, hn, hs, ht⟩

end Go.Proofs.Ytoijlepjnpdlkaa
