/- What the program asks of a step of a flow: leads, misses, spoiledBy; slices.ContainsFunc with these. -/
import Derived.Test.YtnknhjiofpjbbaaWo
namespace Go.Proofs.Ytnknhjiofpjbbaa
open Go.RowKit
set_option maxRecDepth 10000

theorem ret_u16i {a b : Int} (h : a = b) : Ending.returned (.int .u16 a) = .returned (.int .u16 b) := by rw [h]

def leadB (s0 s1 F K : Nat) : Bool := decide (s0 &&& F ≠ 0) && decide (s1 &&& K ≠ 0)

set_option maxHeartbeats 1000000 in
theorem leads_any (p' : Int) (a : Option Addr) (m c F K s0 s1 s2 : Nat) (w : World) (h0 : s0 < 2 ^ 16) (h1 : s1 < 2 ^ 16) (hF : F < 2 ^ 16) (hK : K < 2 ^ 16) :
    Calls Try.prog 47 #[.agg #[.int .i64 p', .slice a m c, .int .u16 (F : Int), .int .u16 (K : Int)], .agg #[.int .u16 (s0 : Int), .int .u16 (s1 : Int), .int .u16 (s2 : Int)]] w fun e w' => e = .returned (.bool (leadB s0 s1 F K)) ∧ Below w.heap.size w w' := by
  by_cases g0 : s0 &&& F = 0
  · have HB := hide (show leadB s0 s1 F K = false by unfold leadB; simp [g0])
    have hd := meetW_no h0 hF g0
    clear g0
    go_enter Try.func47, Try.ntmps47
    go_wp2_with fail
    go_ret
    exact ⟨ret_b HB.out.symm, below_two _ _ _⟩
  have hd := meetW_yes h0 hF g0
  by_cases g1 : s1 &&& K = 0
  · have HB := hide (show leadB s0 s1 F K = false by unfold leadB; simp [g1])
    have hd1 := meetW_no h1 hK g1
    clear g0 g1
    go_enter Try.func47, Try.ntmps47
    go_wp2_with fail
    go_ret
    exact ⟨ret_b HB.out.symm, below_two _ _ _⟩
  · have HB := hide (show leadB s0 s1 F K = true by unfold leadB; simp [g0, g1])
    have hd1 := meetW_yes h1 hK g1
    clear g0 g1
    go_enter Try.func47, Try.ntmps47
    go_wp2_with fail
    go_ret
    exact ⟨ret_b HB.out.symm, below_two _ _ _⟩

set_option maxHeartbeats 1000000 in
theorem misses_any (p' : Int) (a : Option Addr) (m c F K s0 s1 s2 : Nat) (w : World) (h0 : s0 < 2 ^ 16) (h1 : s1 < 2 ^ 16) (hF : F < 2 ^ 16) (hK : K < 2 ^ 16) :
    Calls Try.prog 62 #[.agg #[.int .i64 p', .slice a m c, .int .u16 (F : Int), .int .u16 (K : Int)], .agg #[.int .u16 (s0 : Int), .int .u16 (s1 : Int), .int .u16 (s2 : Int)]] w fun e w' => e = .returned (.bool (!leadB s0 s1 F K)) ∧ Below w.heap.size w w' := by
  have HB0 := hide (below_two w (.cells #[.int .i64 p', .slice a m c, .int .u16 (F : Int), .int .u16 (K : Int)] 76) (.cells #[.int .u16 (s0 : Int), .int .u16 (s1 : Int), .int .u16 (s2 : Int)] 92))
  go_enter Try.func62, Try.ntmps62
  go_wp2_with fail
  refine (leads_any _ _ _ _ _ _ _ _ _ _ h0 h1 hF hK).mono ?_
  rintro e w1 ⟨rfl, hb⟩
  have HB1 := hide (HB0.out.trans (hb.mono HB0.out.size))
  obtain ⟨r, hr⟩ : ∃ r, Hid (leadB s0 s1 F K = r) := ⟨_, rfl⟩
  rw [hr.out]
  clear hb HB0
  go_wp2_with fail
  go_ret
  exact ⟨ret_b (by rw [hr.out]), HB1.out⟩

set_option maxHeartbeats 1000000 in
theorem wplaces_any (p' : Int) (a : Option Addr) (m c F K : Nat) (w : World) (hF : F < 2 ^ 16) (hK : K < 2 ^ 16) :
    Calls Try.prog 44 #[.agg #[.int .i64 p', .slice a m c, .int .u16 (F : Int), .int .u16 (K : Int)]] w fun e w' => e = .returned (.int .u16 ((F &&& K : Nat) : Int)) ∧ Below w.heap.size w w' := by
  have HB := hide (and_u16 F K hF hK)
  go_enter Try.func44, Try.ntmps44
  go_wp2_with fail
  go_ret
  exact ⟨ret_u16i HB.out, below_al _ _⟩

theorem all_wrap {p : Nat} (h1 : 1 ≤ p) (h2 : p ≤ 16) : IntKind.u16.wrap (IntKind.u16.wrap (2 ^ p) - 1) = ((2 ^ p - 1 : Nat) : Int) := by
  have : p = 1 ∨ p = 2 ∨ p = 3 ∨ p = 4 ∨ p = 5 ∨ p = 6 ∨ p = 7 ∨ p = 8 ∨ p = 9 ∨ p = 10 ∨ p = 11 ∨ p = 12 ∨ p = 13 ∨ p = 14 ∨ p = 15 ∨ p = 16 := by omega
  rcases this with rfl | rfl | rfl | rfl | rfl | rfl | rfl | rfl | rfl | rfl | rfl | rfl | rfl | rfl | rfl | rfl <;> rfl

set_option maxHeartbeats 1000000 in
theorem all_any (p : Nat) (a : Option Addr) (m c : Nat) (w : World) (h1 : 1 ≤ p) (h2 : p ≤ 16) :
    Calls Try.prog 60 #[.agg #[.int .i64 (p : Int), .slice a m c]] w fun e w' => e = .returned (.int .u16 ((2 ^ p - 1 : Nat) : Int)) ∧ Below w.heap.size w w' := by
  have HB := hide (all_wrap h1 h2)
  go_enter Try.func60, Try.ntmps60
  go_wp2_with fail
  go_ret
  exact ⟨ret_u16i HB.out, below_al _ _⟩

set_option maxHeartbeats 400000 in
theorem gives_any (k s0 s1 s2 : Nat) (w : World) (h1 : s1 < 2 ^ 16) (hk : k < 16) :
    Calls Try.prog 81 #[.agg #[.int .u16 (s0 : Int), .int .u16 (s1 : Int), .int .u16 (s2 : Int)], .int .i64 (k : Int)] w fun e w' => e = .returned (.bool (s1.testBit k)) ∧ Below w.heap.size w w' := by
  have HB0 := hide (below_al w (.cells #[.int .u16 (s0 : Int), .int .u16 (s1 : Int), .int .u16 (s2 : Int)] 92))
  go_enter Try.func81, Try.ntmps81
  go_wp2_with fail
  refine (has2_any _ _ _ h1 hk).mono ?_
  rintro e w1 ⟨rfl, rfl⟩
  go_wp2_with fail
  go_ret
  exact ⟨rfl, HB0.out⟩

set_option maxHeartbeats 400000 in
theorem takes_any (k s0 s1 s2 : Nat) (w : World) (h0 : s0 < 2 ^ 16) (hk : k < 16) :
    Calls Try.prog 82 #[.agg #[.int .u16 (s0 : Int), .int .u16 (s1 : Int), .int .u16 (s2 : Int)], .int .i64 (k : Int)] w fun e w' => e = .returned (.bool (s0.testBit k)) ∧ Below w.heap.size w w' := by
  have HB0 := hide (below_al w (.cells #[.int .u16 (s0 : Int), .int .u16 (s1 : Int), .int .u16 (s2 : Int)] 92))
  go_enter Try.func82, Try.ntmps82
  go_wp2_with fail
  refine (has2_any _ _ _ h0 hk).mono ?_
  rintro e w1 ⟨rfl, rfl⟩
  go_wp2_with fail
  go_ret
  exact ⟨rfl, HB0.out⟩

def spoilB (s0 s1 s2 f t : Nat) : Bool := s1.testBit f || s0.testBit t || s2.testBit f || s2.testBit t

theorem cells3W {w : World} {b : Nat} {v0 v1 v2 : Value} {T : TypeId} (h : w.heap[b]? = some (.cells #[v0, v1, v2] T (0, 0))) : w.cell? ⟨b, 0, none⟩ = some v0 ∧ w.cell? ⟨b, 1, none⟩ = some v1 ∧ w.cell? ⟨b, 2, none⟩ = some v2 :=
  ⟨cell_of_row w b 0 _ _ _ h, cell_of_row w b 1 _ _ _ h, cell_of_row w b 2 _ _ _ h⟩

set_option maxHeartbeats 2000000 in
theorem spoiled_any (p' : Int) (a : Option Addr) (m c f t s0 s1 s2 : Nat) (w : World) (h0 : s0 < 2 ^ 16) (h1 : s1 < 2 ^ 16) (h2 : s2 < 2 ^ 16) (hf : f < 16) (ht : t < 16) :
    Calls Try.prog 63 #[.agg #[.int .i64 p', .slice a m c, .int .i64 (f : Int), .int .i64 (t : Int)], .agg #[.int .u16 (s0 : Int), .int .u16 (s1 : Int), .int .u16 (s2 : Int)]] w fun e w' => e = .returned (.bool (spoilB s0 s1 s2 f t)) ∧ Below w.heap.size w w' := by
  have HB0 := hide (below_two w (.cells #[.int .i64 p', .slice a m c, .int .i64 (f : Int), .int .i64 (t : Int)] 62) (.cells #[.int .u16 (s0 : Int), .int .u16 (s1 : Int), .int .u16 (s2 : Int)] 92))
  have hX := heap_alloc_new w (.cells #[.int .i64 p', .slice a m c, .int .i64 (f : Int), .int .i64 (t : Int)] 62)
  have hY := heap_alloc_new (w.alloc (.cells #[.int .i64 p', .slice a m c, .int .i64 (f : Int), .int .i64 (t : Int)] 62)) (.cells #[.int .u16 (s0 : Int), .int .u16 (s1 : Int), .int .u16 (s2 : Int)] 92)
  rw [show (w.alloc (.cells #[.int .i64 p', .slice a m c, .int .i64 (f : Int), .int .i64 (t : Int)] 62)).heap.size = w.heap.size + 1 by simp] at hY
  have HX := hide (keep hX (below_al _ (.cells #[.int .u16 (s0 : Int), .int .u16 (s1 : Int), .int .u16 (s2 : Int)] 92)))
  have HY := hide hY
  clear hX hY
  go_enter Try.func63, Try.ntmps63
  go_wp2_with fail
  refine (gives_any _ _ _ _ _ h1 hf).mono ?_
  rintro e w1 ⟨rfl, hb⟩
  have HB1 := hide (HB0.out.trans (hb.mono HB0.out.size))
  have HX1 := hide (keep HX.out hb)
  have HY1 := hide (keep HY.out hb)
  clear hb HB0 HX HY
  cases g1 : s1.testBit f
  rotate_left
  · have HS := hide (show spoilB s0 s1 s2 f t = true by unfold spoilB; rw [g1]; rfl)
    go_wp2_with fail
    go_ret
    exact ⟨ret_b HS.out.symm, HB1.out⟩
  obtain ⟨⟨hx0, hx1, hx2, hx3⟩, _⟩ := cells4 HX1.out
  obtain ⟨hy0, hy1, hy2⟩ := cells3W HY1.out
  go_wp2_with fail
  refine (takes_any _ _ _ _ _ h0 ht).mono ?_
  rintro e w2 ⟨rfl, hb⟩
  have HB2 := hide (HB1.out.trans (hb.mono HB1.out.size))
  have HX2 := hide (keep HX1.out hb)
  have HY2 := hide (keep HY1.out hb)
  clear hb HB1 HX1 HY1 hx0 hx1 hx2 hx3 hy0 hy1 hy2
  cases g2 : s0.testBit t
  rotate_left
  · have HS := hide (show spoilB s0 s1 s2 f t = true by unfold spoilB; rw [g1, g2]; rfl)
    go_wp2_with fail
    go_ret
    exact ⟨ret_b HS.out.symm, HB2.out⟩
  obtain ⟨⟨hx0, hx1, hx2, hx3⟩, _⟩ := cells4 HX2.out
  obtain ⟨hy0, hy1, hy2⟩ := cells3W HY2.out
  go_wp2_with fail
  refine (has2_any _ _ _ h2 hf).mono ?_
  rintro e w3 ⟨rfl, rfl⟩
  cases g3 : s2.testBit f
  rotate_left
  · have HS := hide (show spoilB s0 s1 s2 f t = true by unfold spoilB; rw [g1, g2, g3]; rfl)
    go_wp2_with fail
    go_ret
    exact ⟨ret_b HS.out.symm, HB2.out⟩
  go_wp2_with fail
  refine (has2_any _ _ _ h2 ht).mono ?_
  rintro e w3 ⟨rfl, rfl⟩
  have HS := hide (show spoilB s0 s1 s2 f t = s2.testBit t by unfold spoilB; rw [g1, g2, g3]; rfl)
  generalize s2.testBit t = r at *
  go_wp2_with fail
  go_ret
  exact ⟨ret_b HS.out.symm, HB2.out⟩
end Go.Proofs.Ytnknhjiofpjbbaa
