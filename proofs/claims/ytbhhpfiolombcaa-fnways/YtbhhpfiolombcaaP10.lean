/- Contracts that the proof stands on, one behind the other. -/
import Derived.Test.YtbhhpfiolombcaaP9
/- What the program asks of a step of a flow: leads, misses, spoiledBy; slices.ContainsFunc with these. -/
namespace Go.Proofs.Ytbhhpfiolombcaa
open Go.RowKit
set_option maxRecDepth 10000

theorem ret_u16i {a b : Int} (h : a = b) : Ending.returned (.int .u16 a) = .returned (.int .u16 b) := by rw [h]

def leadB (s0 s1 F K : Nat) : Bool := decide (s0 &&& F ≠ 0) && decide (s1 &&& K ≠ 0)

set_option maxHeartbeats 1000000 in
theorem leads_any (p' : Int) (a : Option Addr) (m c F K s0 s1 s2 : Nat) (w : World) (h0 : s0 < 2 ^ 16) (h1 : s1 < 2 ^ 16) (hF : F < 2 ^ 16) (hK : K < 2 ^ 16) :
    Calls Try.prog 33 #[.agg #[.int .i64 p', .slice a m c, .int .u16 (F : Int), .int .u16 (K : Int)], .agg #[.int .u16 (s0 : Int), .int .u16 (s1 : Int), .int .u16 (s2 : Int)]] w fun e w' => e = .returned (.bool (leadB s0 s1 F K)) ∧ Below w.heap.size w w' := by
  by_cases g0 : s0 &&& F = 0
  · have HB := hide (show leadB s0 s1 F K = false by unfold leadB; simp [g0])
    have hd := meetW_no h0 hF g0
    clear g0
    go_enter Try.func33, Try.ntmps33
    go_wp2_with fail
    go_ret
    exact ⟨ret_b HB.out.symm, below_two _ _ _⟩
  have hd := meetW_yes h0 hF g0
  by_cases g1 : s1 &&& K = 0
  · have HB := hide (show leadB s0 s1 F K = false by unfold leadB; simp [g1])
    have hd1 := meetW_no h1 hK g1
    clear g0 g1
    go_enter Try.func33, Try.ntmps33
    go_wp2_with fail
    go_ret
    exact ⟨ret_b HB.out.symm, below_two _ _ _⟩
  · have HB := hide (show leadB s0 s1 F K = true by unfold leadB; simp [g0, g1])
    have hd1 := meetW_yes h1 hK g1
    clear g0 g1
    go_enter Try.func33, Try.ntmps33
    go_wp2_with fail
    go_ret
    exact ⟨ret_b HB.out.symm, below_two _ _ _⟩

set_option maxHeartbeats 1000000 in
theorem misses_any (p' : Int) (a : Option Addr) (m c F K s0 s1 s2 : Nat) (w : World) (h0 : s0 < 2 ^ 16) (h1 : s1 < 2 ^ 16) (hF : F < 2 ^ 16) (hK : K < 2 ^ 16) :
    Calls Try.prog 47 #[.agg #[.int .i64 p', .slice a m c, .int .u16 (F : Int), .int .u16 (K : Int)], .agg #[.int .u16 (s0 : Int), .int .u16 (s1 : Int), .int .u16 (s2 : Int)]] w fun e w' => e = .returned (.bool (!leadB s0 s1 F K)) ∧ Below w.heap.size w w' := by
  have HB0 := hide (below_two w (.cells #[.int .i64 p', .slice a m c, .int .u16 (F : Int), .int .u16 (K : Int)] 61) (.cells #[.int .u16 (s0 : Int), .int .u16 (s1 : Int), .int .u16 (s2 : Int)] 89))
  go_enter Try.func47, Try.ntmps47
  go_wp2_with fail
  refine (leads_any _ _ _ _ _ _ _ _ _ _ h0 h1 hF hK).mono ?_
  rintro e w1 ⟨rfl, hb⟩
  have HB1 := hide (HB0.out.trans (hb.mono HB0.out.size))
  obtain ⟨r, hr⟩ : ∃ r, Hid (leadB s0 s1 F K = r) := ⟨_, rfl⟩
  rw [hr.out]
  clear hb HB0
  go_wp2_with fail
  go_ret
  exact ⟨ret_b (by rw [hr.out]), HB1.out⟩

set_option maxHeartbeats 1000000 in
theorem wplaces_any (p' : Int) (a : Option Addr) (m c F K : Nat) (w : World) (hF : F < 2 ^ 16) (hK : K < 2 ^ 16) :
    Calls Try.prog 30 #[.agg #[.int .i64 p', .slice a m c, .int .u16 (F : Int), .int .u16 (K : Int)]] w fun e w' => e = .returned (.int .u16 ((F &&& K : Nat) : Int)) ∧ Below w.heap.size w w' := by
  have HB := hide (and_u16 F K hF hK)
  go_enter Try.func30, Try.ntmps30
  go_wp2_with fail
  go_ret
  exact ⟨ret_u16i HB.out, below_al _ _⟩

theorem all_wrap {p : Nat} (h1 : 1 ≤ p) (h2 : p ≤ 16) : IntKind.u16.wrap (IntKind.u16.wrap (2 ^ p) - 1) = ((2 ^ p - 1 : Nat) : Int) := by
  have : p = 1 ∨ p = 2 ∨ p = 3 ∨ p = 4 ∨ p = 5 ∨ p = 6 ∨ p = 7 ∨ p = 8 ∨ p = 9 ∨ p = 10 ∨ p = 11 ∨ p = 12 ∨ p = 13 ∨ p = 14 ∨ p = 15 ∨ p = 16 := by omega
  rcases this with rfl | rfl | rfl | rfl | rfl | rfl | rfl | rfl | rfl | rfl | rfl | rfl | rfl | rfl | rfl | rfl <;> rfl

set_option maxHeartbeats 1000000 in
theorem all_any (p : Nat) (a : Option Addr) (m c : Nat) (w : World) (h1 : 1 ≤ p) (h2 : p ≤ 16) :
    Calls Try.prog 45 #[.agg #[.int .i64 (p : Int), .slice a m c]] w fun e w' => e = .returned (.int .u16 ((2 ^ p - 1 : Nat) : Int)) ∧ Below w.heap.size w w' := by
  have HB := hide (all_wrap h1 h2)
  go_enter Try.func45, Try.ntmps45
  go_wp2_with fail
  go_ret
  exact ⟨ret_u16i HB.out, below_al _ _⟩

set_option maxHeartbeats 400000 in
theorem gives_any (k s0 s1 s2 : Nat) (w : World) (h1 : s1 < 2 ^ 16) (hk : k < 16) :
    Calls Try.prog 70 #[.agg #[.int .u16 (s0 : Int), .int .u16 (s1 : Int), .int .u16 (s2 : Int)], .int .i64 (k : Int)] w fun e w' => e = .returned (.bool (s1.testBit k)) ∧ Below w.heap.size w w' := by
  have HB0 := hide (below_al w (.cells #[.int .u16 (s0 : Int), .int .u16 (s1 : Int), .int .u16 (s2 : Int)] 89))
  go_enter Try.func70, Try.ntmps70
  go_wp2_with fail
  refine (has2_any _ _ _ h1 hk).mono ?_
  rintro e w1 ⟨rfl, rfl⟩
  go_wp2_with fail
  go_ret
  exact ⟨rfl, HB0.out⟩

set_option maxHeartbeats 400000 in
theorem takes_any (k s0 s1 s2 : Nat) (w : World) (h0 : s0 < 2 ^ 16) (hk : k < 16) :
    Calls Try.prog 71 #[.agg #[.int .u16 (s0 : Int), .int .u16 (s1 : Int), .int .u16 (s2 : Int)], .int .i64 (k : Int)] w fun e w' => e = .returned (.bool (s0.testBit k)) ∧ Below w.heap.size w w' := by
  have HB0 := hide (below_al w (.cells #[.int .u16 (s0 : Int), .int .u16 (s1 : Int), .int .u16 (s2 : Int)] 89))
  go_enter Try.func71, Try.ntmps71
  go_wp2_with fail
  refine (has2_any _ _ _ h0 hk).mono ?_
  rintro e w1 ⟨rfl, rfl⟩
  go_wp2_with fail
  go_ret
  exact ⟨rfl, HB0.out⟩

def spoilB (s0 s1 s2 f t : Nat) : Bool := s1.testBit f || s0.testBit t || s2.testBit f || s2.testBit t

theorem cells3W {w : World} {b : Nat} {v0 v1 v2 : Value} {T : TypeId} (h : w.heap[b]? = some (.cells #[v0, v1, v2] T (0, 0))) : w.cell? ⟨b, 0, none⟩ = some v0 ∧ w.cell? ⟨b, 1, none⟩ = some v1 ∧ w.cell? ⟨b, 2, none⟩ = some v2 :=
  ⟨cell_of_row w b 0 _ _ _ h, cell_of_row w b 1 _ _ _ h, cell_of_row w b 2 _ _ _ h⟩

set_option maxHeartbeats 2000000 in
theorem spoiled_any (p' : Int) (a : Option Addr) (m c f t s0 s1 s2 : Nat) (w : World) (h0 : s0 < 2 ^ 16) (h1 : s1 < 2 ^ 16) (h2 : s2 < 2 ^ 16) (hf : f < 16) (ht : t < 16) :
    Calls Try.prog 48 #[.agg #[.int .i64 p', .slice a m c, .int .i64 (f : Int), .int .i64 (t : Int)], .agg #[.int .u16 (s0 : Int), .int .u16 (s1 : Int), .int .u16 (s2 : Int)]] w fun e w' => e = .returned (.bool (spoilB s0 s1 s2 f t)) ∧ Below w.heap.size w w' := by
  have HB0 := hide (below_two w (.cells #[.int .i64 p', .slice a m c, .int .i64 (f : Int), .int .i64 (t : Int)] 47) (.cells #[.int .u16 (s0 : Int), .int .u16 (s1 : Int), .int .u16 (s2 : Int)] 89))
  have hX := heap_alloc_new w (.cells #[.int .i64 p', .slice a m c, .int .i64 (f : Int), .int .i64 (t : Int)] 47)
  have hY := heap_alloc_new (w.alloc (.cells #[.int .i64 p', .slice a m c, .int .i64 (f : Int), .int .i64 (t : Int)] 47)) (.cells #[.int .u16 (s0 : Int), .int .u16 (s1 : Int), .int .u16 (s2 : Int)] 89)
  rw [show (w.alloc (.cells #[.int .i64 p', .slice a m c, .int .i64 (f : Int), .int .i64 (t : Int)] 47)).heap.size = w.heap.size + 1 by simp] at hY
  have HX := hide (keep hX (below_al _ (.cells #[.int .u16 (s0 : Int), .int .u16 (s1 : Int), .int .u16 (s2 : Int)] 89)))
  have HY := hide hY
  clear hX hY
  go_enter Try.func48, Try.ntmps48
  go_wp2_with fail
  refine (gives_any _ _ _ _ _ h1 hf).mono ?_
  rintro e w1 ⟨rfl, hb⟩
  have HB1 := hide (HB0.out.trans (hb.mono HB0.out.size))
  have HX1 := hide (keep HX.out hb)
  have HY1 := hide (keep HY.out hb)
  clear hb HB0 HX HY
  cases g1 : s1.testBit f
  rotate_left
  · have HS := hide (show spoilB s0 s1 s2 f t = true by unfold spoilB; rw [g1]; rfl)
    go_wp2_with fail
    go_ret
    exact ⟨ret_b HS.out.symm, HB1.out⟩
  obtain ⟨⟨hx0, hx1, hx2, hx3⟩, _⟩ := cells4 HX1.out
  obtain ⟨hy0, hy1, hy2⟩ := cells3W HY1.out
  go_wp2_with fail
  refine (takes_any _ _ _ _ _ h0 ht).mono ?_
  rintro e w2 ⟨rfl, hb⟩
  have HB2 := hide (HB1.out.trans (hb.mono HB1.out.size))
  have HX2 := hide (keep HX1.out hb)
  have HY2 := hide (keep HY1.out hb)
  clear hb HB1 HX1 HY1 hx0 hx1 hx2 hx3 hy0 hy1 hy2
  cases g2 : s0.testBit t
  rotate_left
  · have HS := hide (show spoilB s0 s1 s2 f t = true by unfold spoilB; rw [g1, g2]; rfl)
    go_wp2_with fail
    go_ret
    exact ⟨ret_b HS.out.symm, HB2.out⟩
  obtain ⟨⟨hx0, hx1, hx2, hx3⟩, _⟩ := cells4 HX2.out
  obtain ⟨hy0, hy1, hy2⟩ := cells3W HY2.out
  go_wp2_with fail
  refine (has2_any _ _ _ h2 hf).mono ?_
  rintro e w3 ⟨rfl, rfl⟩
  cases g3 : s2.testBit f
  rotate_left
  · have HS := hide (show spoilB s0 s1 s2 f t = true by unfold spoilB; rw [g1, g2, g3]; rfl)
    go_wp2_with fail
    go_ret
    exact ⟨ret_b HS.out.symm, HB2.out⟩
  go_wp2_with fail
  refine (has2_any _ _ _ h2 ht).mono ?_
  rintro e w3 ⟨rfl, rfl⟩
  have HS := hide (show spoilB s0 s1 s2 f t = s2.testBit t by unfold spoilB; rw [g1, g2, g3]; rfl)
  generalize s2.testBit t = r at *
  go_wp2_with fail
  go_ret
  exact ⟨ret_b HS.out.symm, HB2.out⟩
end Go.Proofs.Ytbhhpfiolombcaa


/- lists of a step and of a net of steps: sets of places as lists again. -/
namespace Go.Proofs.Ytbhhpfiolombcaa
open Go.RowKit
set_option maxRecDepth 10000

/-- How lists of a step ends. -/
def LiEnd (X0 X1 X2 : List Int) (w : World) (e : Ending) (w' : World) : Prop :=
  ∃ a0 b0 m0 c0 a1 b1 m1 c1 a2 b2 m2 c2, e = .returned (.agg #[.slice a0 m0 c0, .slice a1 m1 c1, .slice a2 m2 c2]) ∧ Ob w' a0 b0 m0 X0 ∧ Ob w' a1 b1 m1 X1 ∧ Ob w' a2 b2 m2 X2 ∧
    w.heap.size ≤ b0 ∧ w.heap.size ≤ b1 ∧ w.heap.size ≤ b2 ∧ (X0 ≠ [] → X1 ≠ [] → b0 ≠ b1) ∧ (X0 ≠ [] → X2 ≠ [] → b0 ≠ b2) ∧ (X1 ≠ [] → X2 ≠ [] → b1 ≠ b2) ∧ Below w.heap.size w w'

theorem Ob.setRowX {w : World} {a : Option Addr} {b n g : Nat} {xs : List Int} (h : Ob w a b n xs) (hg : b ≠ g) (D : Array Value) : Ob (w.setRow g D) a b n xs :=
  h.movedX fun _ => setRow_otherW w hg D

set_option maxHeartbeats 2000000 in
theorem stepLists_any (s0 s1 s2 : Nat) (w : World) (h0 : s0 < 2 ^ 16) (h1 : s1 < 2 ^ 16) (h2 : s2 < 2 ^ 16) :
    Calls Try.prog 49 #[.agg #[.int .u16 (s0 : Int), .int .u16 (s1 : Int), .int .u16 (s2 : Int)]] w fun e w' => LiEnd (nums2 s0.testBit 16) (nums2 s1.testBit 16) (nums2 s2.testBit 16) w e w' := by
  have HB0 := hide (below_two w (.cells #[.int .u16 (s0 : Int), .int .u16 (s1 : Int), .int .u16 (s2 : Int)] 89) (.cells #[.slice none 0 0, .slice none 0 0, .slice none 0 0] 52))
  have HX := hide (keep (heap_alloc_new w (.cells #[.int .u16 (s0 : Int), .int .u16 (s1 : Int), .int .u16 (s2 : Int)] 89)) (below_al _ (.cells #[.slice none 0 0, .slice none 0 0, .slice none 0 0] 52)))
  have hy := heap_alloc_new (w.alloc (.cells #[.int .u16 (s0 : Int), .int .u16 (s1 : Int), .int .u16 (s2 : Int)] 89)) (.cells #[.slice none 0 0, .slice none 0 0, .slice none 0 0] 52)
  rw [show (w.alloc (.cells #[.int .u16 (s0 : Int), .int .u16 (s1 : Int), .int .u16 (s2 : Int)] 89)).heap.size = w.heap.size + 1 by simp] at hy
  have HY := hide hy
  have HLs0 := hide (fun W => setList_any s0 W h0)
  have HLs1 := hide (fun W => setList_any s1 W h1)
  have HLs2 := hide (fun W => setList_any s2 W h2)
  have hz : ((w.alloc (.cells #[.int .u16 (s0 : Int), .int .u16 (s1 : Int), .int .u16 (s2 : Int)] 89)).alloc (.cells #[.slice none 0 0, .slice none 0 0, .slice none 0 0] 52)).heap.size = w.heap.size + 1 + 1 := by simp
  clear hy
  go_enter Try.func49, Try.ntmps49
  go_wp2_with fail
  obtain ⟨V, hV⟩ : ∃ V, Hid ((w.alloc (.cells #[.int .u16 (s0 : Int), .int .u16 (s1 : Int), .int .u16 (s2 : Int)] 89)).alloc (.cells #[.slice none 0 0, .slice none 0 0, .slice none 0 0] 52) = V) := ⟨_, rfl⟩
  rw [hV.out] at HX HY HB0 hz ⊢
  have HZ := hide hz
  clear hV hz
  refine wp_region_held_drew (S := fun W => W.cell? ⟨w.heap.size, 0, none⟩ = some (.int .u16 (s0 : Int)) ∧ W.cell? ⟨w.heap.size, 1, none⟩ = some (.int .u16 (s1 : Int)) ∧ W.cell? ⟨w.heap.size, 2, none⟩ = some (.int .u16 (s2 : Int))) (by kernel_rfl) ?_ (fun hHeld => ?_)
  · exact cells3W (keep HX.out (Below.refl _ V).drew)
  refine take_yes (i := 0) (some 3) (.pointer (some ⟨w.heap.size, 0, none⟩)) rfl rfl (by kernel_rfl) (by kernel_rfl) (by kernel_rfl) (fun _ _ _ h => h) (by rfl) ?_ (by assumption) ?_
  · intro W hSw
    obtain ⟨hz0, hz1, hz2⟩ := hSw
    go_simp
  simp only [Act.put, List.setIfInBounds_toArray, List.set_cons_zero, List.set_cons_succ]
  refine take_yes (i := 1) (some 4) (.int .u16 (s0 : Int)) rfl rfl (by kernel_rfl) (by kernel_rfl) (by kernel_rfl) (fun _ _ _ h => h) (by rfl) ?_ (by assumption) ?_
  · intro W hSw
    obtain ⟨hz0, hz1, hz2⟩ := hSw
    go_simp
  simp only [Act.put, List.setIfInBounds_toArray, List.set_cons_zero, List.set_cons_succ]
  refine take_yes (i := 3) (some 6) (.pointer (some ⟨w.heap.size, 1, none⟩)) rfl rfl (by kernel_rfl) (by kernel_rfl) (by kernel_rfl) (fun _ _ _ h => h) (by rfl) ?_ (by assumption) ?_
  · intro W hSw
    obtain ⟨hz0, hz1, hz2⟩ := hSw
    go_simp
  simp only [Act.put, List.setIfInBounds_toArray, List.set_cons_zero, List.set_cons_succ]
  refine take_yes (i := 4) (some 7) (.int .u16 (s1 : Int)) rfl rfl (by kernel_rfl) (by kernel_rfl) (by kernel_rfl) (fun _ _ _ h => h) (by rfl) ?_ (by assumption) ?_
  · intro W hSw
    obtain ⟨hz0, hz1, hz2⟩ := hSw
    go_simp
  simp only [Act.put, List.setIfInBounds_toArray, List.set_cons_zero, List.set_cons_succ]
  refine take_yes (i := 6) (some 9) (.pointer (some ⟨w.heap.size, 2, none⟩)) rfl rfl (by kernel_rfl) (by kernel_rfl) (by kernel_rfl) (fun _ _ _ h => h) (by rfl) ?_ (by assumption) ?_
  · intro W hSw
    obtain ⟨hz0, hz1, hz2⟩ := hSw
    go_simp
  simp only [Act.put, List.setIfInBounds_toArray, List.set_cons_zero, List.set_cons_succ]
  refine take_yes (i := 7) (some 10) (.int .u16 (s2 : Int)) rfl rfl (by kernel_rfl) (by kernel_rfl) (by kernel_rfl) (fun _ _ _ h => h) (by rfl) ?_ (by assumption) ?_
  · intro W hSw
    obtain ⟨hz0, hz1, hz2⟩ := hSw
    go_simp
  simp only [Act.put, List.setIfInBounds_toArray, List.set_cons_zero, List.set_cons_succ]
  refine call_next (i := 2) (some 5) rfl rfl (by kernel_rfl) (by rfl) 31 _ _ _ rfl Try.func31 (by decide) rfl #[.int .u16 (s0 : Int)] (mapw1 _ _ _ rfl) _ (HLs0.out _) ?_
  rintro e v1 ⟨a0, b0, m0, c0, rfl, g0, o0, hb1⟩
  refine ⟨_, rfl, ?_, fun hHeld => ?_⟩
  · exact cells3W (keep (keep HX.out (Below.refl _ V).drew) hb1)
  simp only [Act.put, List.setIfInBounds_toArray, List.set_cons_zero, List.set_cons_succ]
  refine call_next (i := 5) (some 8) rfl rfl (by kernel_rfl) (by rfl) 31 _ _ _ rfl Try.func31 (by decide) rfl #[.int .u16 (s1 : Int)] (mapw1 _ _ _ rfl) _ (HLs1.out _) ?_
  rintro e v2 ⟨a1, b1, m1, c1, rfl, g1, o1, hb2⟩
  refine ⟨_, rfl, ?_, fun hHeld => ?_⟩
  · exact cells3W (keep (keep (keep HX.out (Below.refl _ V).drew) hb1) hb2)
  simp only [Act.put, List.setIfInBounds_toArray, List.set_cons_zero, List.set_cons_succ]
  refine call_next (i := 8) (some 11) rfl rfl (by kernel_rfl) (by rfl) 31 _ _ _ rfl Try.func31 (by decide) rfl #[.int .u16 (s2 : Int)] (mapw1 _ _ _ rfl) _ (HLs2.out _) ?_
  rintro e v3 ⟨a2, b2, m2, c2, rfl, g2, o2, hb3⟩
  refine ⟨_, rfl, ?_, fun hHeld => ?_⟩
  · exact cells3W (keep (keep (keep (keep HX.out (Below.refl _ V).drew) hb1) hb2) hb3)
  simp only [Act.put, List.setIfInBounds_toArray, List.set_cons_zero, List.set_cons_succ]
  refine take_yes (i := 9) (some 12) (.agg #[.slice a0 m0 c0, .slice a1 m1 c1, .slice a2 m2 c2]) rfl rfl (by kernel_rfl) (by kernel_rfl) (by kernel_rfl) (fun _ _ _ h => h) (by rfl) ?_ (by assumption) ?_
  · intro W hSw
    obtain ⟨hz0, hz1, hz2⟩ := hSw
    go_simp
  simp only [Act.put, List.setIfInBounds_toArray, List.set_cons_zero, List.set_cons_succ]
  have HY3 := hide (keep (keep (keep (keep HY.out (Below.refl _ V).drew) hb1) hb2) hb3)
  refine store_next (i := 10) rfl rfl (by kernel_rfl) (by rfl) 52 _ _ rfl (w.heap.size + 1) #[.slice a0 m0 c0, .slice a1 m1 c1, .slice a2 m2 c2] rfl rfl 52 _ HY3.out Try.size52 rfl (by simp [Value.oneCell']) ?_ (fun hHeld => ?_)
  · exact cells3W ((setRow_otherW _ (by omega) _).trans (keep (keep (keep (keep HX.out (Below.refl _ V).drew) hb1) hb2) hb3))
  refine wpAnyH_done (by kernel_rfl) ?_ _
  obtain ⟨hr0, hr1, hr2⟩ := cells3W (setRow_sameW HY3.out #[.slice a0 m0 c0, .slice a1 m1 c1, .slice a2 m2 c2])
  have HBX := hide (below_setRow (HB0.out.drew.trans ((hb1.trans ((hb2.trans (hb3.mono hb2.size)).mono hb1.size)).mono HB0.out.drew.size)) (w.heap.size + 1) (by omega) #[.slice a0 m0 c0, .slice a1 m1 c1, .slice a2 m2 c2])
  have z0 := HZ.out
  have z1 : V.drew.heap.size = V.heap.size := rfl
  have z2 := hb1.size
  have z3 := hb2.size
  have z4 := hb3.size
  have HE : Hid (LiEnd (nums2 s0.testBit 16) (nums2 s1.testBit 16) (nums2 s2.testBit 16) w (.returned (.agg #[.slice a0 m0 c0, .slice a1 m1 c1, .slice a2 m2 c2])) (v3.setRow (w.heap.size + 1) #[.slice a0 m0 c0, .slice a1 m1 c1, .slice a2 m2 c2])) :=
    ⟨a0, b0, m0, c0, a1, b1, m1, c1, a2, b2, m2, c2, rfl, ((o0.grow hb2).grow hb3).setRowX (by omega) _, (o1.grow hb3).setRowX (by omega) _, o2.setRowX (by omega) _, by omega, by omega, by omega, fun hx _ => by have := o0.ltX hx; omega, fun hx _ => by have := o0.ltX hx; omega, fun hx _ => by have := o1.ltX hx; omega, HBX.out⟩
  clear o0 o1 o2 g0 g1 g2 hb1 hb2 hb3 hHeld z0 z1 z2 z3 z4
  go_wp2_with fail
  refine bodyPost_ret (v := .agg #[.slice a0 m0 c0, .slice a1 m1 c1, .slice a2 m2 c2]) (by simp [results, Try.results49, go_sem, hr0, hr1, hr2]) rfl ?_
  exact HE.out
end Go.Proofs.Ytbhhpfiolombcaa


/- lists of a net of steps. -/
namespace Go.Proofs.Ytbhhpfiolombcaa
open Go.RowKit
set_option maxRecDepth 10000

/-- What the loop of lists keeps in mind. -/
structure FiInv (w3 wr : World) (V M : Nat) (p : Int) (n k : Nat) (L : List (List Int)) : Prop where
  var : wr.heap[V]? = some (.cells #[.int .i64 p, .slice (some ⟨M, 0, none⟩) n n] 26 (0, 0))
  fil : ∃ (C : Array Value) (A : Nat → Option Addr) (f cap : Nat → Nat), wr.heap[M]? = some (.cells C 52 (0, 0)) ∧ C.size = n * 3 ∧
    (∀ j, j < 3 * k → C[j]? = some (.slice (A j) (L.getD j []).length (cap j)) ∧ Ob wr (A j) (f j) (L.getD j []).length (L.getD j []) ∧ (L.getD j [] ≠ [] → w3.heap.size ≤ f j ∧ f j < wr.heap.size ∧ f j ≠ M)) ∧
    (∀ i j, i < j → j < 3 * k → L.getD i [] ≠ [] → L.getD j [] ≠ [] → f i ≠ f j)
  bel : Below w3.heap.size w3 wr
  ne : V ≠ M
  hV : w3.heap.size ≤ V
  hM : w3.heap.size ≤ M

theorem FiInv.grow {w3 wr v : World} {V M : Nat} {p : Int} {n k : Nat} {L : List (List Int)} (h : FiInv w3 wr V M p n k L) (hb : Below wr.heap.size wr v) : FiInv w3 v V M p n k L := by
  obtain ⟨C, A, f, cap, h1, h2, h3, h4⟩ := h.fil
  refine ⟨keep h.var hb, ⟨C, A, f, cap, keep h1 hb, h2, fun j hj => ?_, h4⟩, h.bel.trans (hb.mono h.bel.size), h.ne, h.hV, h.hM⟩
  obtain ⟨q1, q2, q3⟩ := h3 j hj
  exact ⟨q1, q2.grow hb, fun hx => ⟨(q3 hx).1, by have := (q3 hx).2.1; have := hb.size; omega, (q3 hx).2.2⟩⟩

theorem FiInv.ltM {w3 wr : World} {V M : Nat} {p : Int} {n k : Nat} {L : List (List Int)} (h : FiInv w3 wr V M p n k L) : M < wr.heap.size := by
  obtain ⟨C, A, f, cap, h1, _⟩ := h.fil
  exact (Array.getElem?_eq_some_iff.mp h1).1

theorem FiInv.there {w3 wr : World} {V M : Nat} {p : Int} {n k : Nat} {L : List (List Int)} (h : FiInv w3 wr V M p n k L) {i : Nat} (hi : i < n) : wr.there M (i * 3) 3 := by
  obtain ⟨C, A, f, cap, h1, h2, _⟩ := h.fil
  exact there_of_row h1 (by omega)

theorem FiInv.step {w3 wr v1 : World} {V M : Nat} {p : Int} {n k : Nat} {L : List (List Int)} (h : FiInv w3 wr V M p n k L) (hk : k < n) {a0 a1 a2 : Option Addr} {b0 b1 b2 m0 m1 m2 c0 c1 c2 : Nat} {X0 X1 X2 : List Int}
    (hb : Below wr.heap.size wr v1) (o0 : Ob v1 a0 b0 m0 X0) (o1 : Ob v1 a1 b1 m1 X1) (o2 : Ob v1 a2 b2 m2 X2) (g0 : wr.heap.size ≤ b0) (g1 : wr.heap.size ≤ b1) (g2 : wr.heap.size ≤ b2)
    (d01 : X0 ≠ [] → X1 ≠ [] → b0 ≠ b1) (d02 : X0 ≠ [] → X2 ≠ [] → b0 ≠ b2) (d12 : X1 ≠ [] → X2 ≠ [] → b1 ≠ b2) (e0 : X0 = L.getD (3 * k) []) (e1 : X1 = L.getD (3 * k + 1) []) (e2 : X2 = L.getD (3 * k + 2) []) :
    FiInv w3 (v1.setCells M (k * 3) [.slice a0 m0 c0, .slice a1 m1 c1, .slice a2 m2 c2]) V M p n (k + 1) L := by
  have hM := h.ltM
  have hbs := hb.size
  have h' := h.grow hb
  obtain ⟨C, A, f, cap, h1, h2, h3, h4⟩ := h'.fil
  have hf : ∀ j, j < 3 * k → L.getD j [] ≠ [] → f j < wr.heap.size := by
    obtain ⟨C', A', f', cap', q1, q2, q3, q4⟩ := h.fil
    intro j hj hx
    obtain ⟨r1, r2, r3⟩ := h3 j hj
    obtain ⟨s1, s2, s3⟩ := q3 j hj
    have hC : C = C' := by
      have := keep q1 hb
      rw [h1] at this
      simpa using this
    have hA : A j = A' j := by
      rw [hC, s1] at r1
      simp at r1
      exact r1.1.symm
    rcases r2.2 with h0 | ⟨ea, _⟩
    · exact absurd (List.length_eq_zero_iff.mp h0) hx
    · rcases s2.2 with h0 | ⟨eb, _⟩
      · exact absurd (List.length_eq_zero_iff.mp h0) hx
      · rw [hA, eb] at ea
        simp at ea
        have := (s3 hx).2.1
        omega
  have hset : ∀ q, q ≠ M → (v1.setCells M (k * 3) [.slice a0 m0 c0, .slice a1 m1 c1, .slice a2 m2 c2]).heap[q]? = v1.heap[q]? := fun q hq => heap_set3_other _ _ _ _ _ _ _ hq
  have hsz := size_set3 v1 M (k * 3) (.slice a0 m0 c0) (.slice a1 m1 c1) (.slice a2 m2 c2)
  refine ⟨(hset V h.ne).trans h'.var, ⟨_, fun j => if j = 3 * k then a0 else if j = 3 * k + 1 then a1 else if j = 3 * k + 2 then a2 else A j, fun j => if j = 3 * k then b0 else if j = 3 * k + 1 then b1 else if j = 3 * k + 2 then b2 else f j, fun j => if j = 3 * k then c0 else if j = 3 * k + 1 then c1 else if j = 3 * k + 2 then c2 else cap j, heap_set3_same h1 _ _ _, by simp [h2], fun j hj => ?_, fun i j hij hj hi0 hj0 => ?_⟩, below_set3 h'.bel h.hM _ _ _ _, h.ne, h.hV, h.hM⟩
  · rw [hsz]
    have hbl := h.bel.size
    by_cases j0 : j = 3 * k
    · subst j0
      simp only [if_true]
      rw [← e0, o0.1]
      refine ⟨?_, o0.movedX fun _ => hset _ (by omega), fun hx => ⟨by omega, o0.ltX hx, by omega⟩⟩
      rw [Array.getElem?_setIfInBounds_ne (by omega), Array.getElem?_setIfInBounds_ne (by omega), Array.getElem?_setIfInBounds, if_pos (by omega), if_pos (by omega)]
    · by_cases j1 : j = 3 * k + 1
      · subst j1
        simp only [if_neg j0, if_true]
        rw [← e1, o1.1]
        refine ⟨?_, o1.movedX fun _ => hset _ (by omega), fun hx => ⟨by omega, o1.ltX hx, by omega⟩⟩
        rw [Array.getElem?_setIfInBounds_ne (by omega), Array.getElem?_setIfInBounds, if_pos (by omega), if_pos (by simp; omega)]
      · by_cases j2 : j = 3 * k + 2
        · subst j2
          simp only [if_neg j0, if_neg j1, if_true]
          rw [← e2, o2.1]
          refine ⟨?_, o2.movedX fun _ => hset _ (by omega), fun hx => ⟨by omega, o2.ltX hx, by omega⟩⟩
          rw [Array.getElem?_setIfInBounds, if_pos (by omega), if_pos (by simp; omega)]
        · simp only [if_neg j0, if_neg j1, if_neg j2]
          obtain ⟨q1, q2, q3⟩ := h3 j (by omega)
          refine ⟨?_, q2.movedX fun hx => hset _ (q3 hx).2.2, q3⟩
          rw [Array.getElem?_setIfInBounds_ne (by omega), Array.getElem?_setIfInBounds_ne (by omega), Array.getElem?_setIfInBounds_ne (by omega)]
          exact q1
  · by_cases j0 : j = 3 * k
    · subst j0
      simp only [if_neg (show i ≠ 3 * k by omega), if_neg (show i ≠ 3 * k + 1 by omega), if_neg (show i ≠ 3 * k + 2 by omega), if_true]
      have := hf i hij hi0; omega
    · by_cases j1 : j = 3 * k + 1
      · subst j1
        simp only [if_neg j0, if_true]
        by_cases i0 : i = 3 * k
        · subst i0; simp only [if_true]; rw [← e0] at hi0; rw [← e1] at hj0; exact d01 hi0 hj0
        · simp only [if_neg i0, if_neg (show i ≠ 3 * k + 1 by omega), if_neg (show i ≠ 3 * k + 2 by omega)]
          have := hf i (by omega) hi0; omega
      · by_cases j2 : j = 3 * k + 2
        · subst j2
          simp only [if_neg j0, if_neg j1, if_true]
          by_cases i0 : i = 3 * k
          · subst i0; simp only [if_true]; rw [← e0] at hi0; rw [← e2] at hj0; exact d02 hi0 hj0
          · by_cases i1 : i = 3 * k + 1
            · subst i1; simp only [if_neg i0, if_true]; rw [← e1] at hi0; rw [← e2] at hj0; exact d12 hi0 hj0
            · simp only [if_neg i0, if_neg i1, if_neg (show i ≠ 3 * k + 2 by omega)]
              have := hf i (by omega) hi0; omega
        · simp only [if_neg j0, if_neg j1, if_neg j2, if_neg (show i ≠ 3 * k by omega), if_neg (show i ≠ 3 * k + 1 by omega), if_neg (show i ≠ 3 * k + 2 by omega)]
          exact h4 i j hij (by omega) hi0 hj0

theorem FiInv.first {w3 wr : World} {V M : Nat} {p : Int} {n : Nat} (L : List (List Int)) {C : Array Value} (hv : wr.heap[V]? = some (.cells #[.int .i64 p, .slice (some ⟨M, 0, none⟩) n n] 26 (0, 0))) (hm : wr.heap[M]? = some (.cells C 52 (0, 0))) (hC : C.size = n * 3) (hb : Below w3.heap.size w3 wr) (ne : V ≠ M) (hV : w3.heap.size ≤ V) (hM : w3.heap.size ≤ M) : FiInv w3 wr V M p n 0 L :=
  ⟨hv, ⟨C, fun _ => none, fun _ => 0, fun _ => 0, hm, hC, fun j hj => absurd hj (by omega), fun i j _ hj => absurd hj (by omega)⟩, hb, ne, hV, hM⟩

theorem TriX.lower {w : World} {lo lo' : Nat} {v : Value} {k : Nat} {K : List (List Int)} (h : TriX w lo v k K) (hl : lo' ≤ lo) : TriX w lo' v k K := by
  obtain ⟨cells, A, f, cap, h1, h2, h3, h4⟩ := h
  refine ⟨cells, A, f, cap, h1, ⟨h2.1, ?_⟩, fun j hj => ?_, h4⟩
  · rcases h2.2 with hn | ⟨g, cp, cur, e, hg, r⟩
    · exact .inl hn
    · exact .inr ⟨g, cp, cur, e, by omega, r⟩
  · obtain ⟨q1, q2, q3⟩ := h3 j hj
    exact ⟨q1, q2, fun hx => ⟨by have := (q3 hx).1; omega, (q3 hx).2⟩⟩

/-- A cell of a block of another kind is written. -/
theorem TriX.other {w : World} {lo : Nat} {v : Value} {k : Nat} {K : List (List Int)} (h : TriX w lo v k K) {b : Nat} {D : Array Value} {T : TypeId} (hb : w.heap[b]? = some (.cells D T (0, 0))) (h1 : T ≠ 3) (h2 : T ≠ 52) (o : Nat) (u : Value) : TriX (w.setCell ⟨b, o, none⟩ u) lo v k K := by
  have key : ∀ (q : Nat) (C : Array Value) (T' : TypeId), w.heap[q]? = some (Obj.cells C T' (0, 0)) → T' ≠ T → (w.setCell ⟨b, o, none⟩ u).heap[q]? = w.heap[q]? := by
    intro q C T' hq hT
    by_cases e : q = b
    · subst e
      rw [hb] at hq
      simp at hq
      exact absurd hq.2.symm hT
    · exact Below.heap_setCell _ _ _ _ e
  obtain ⟨cells, A, f, cap, q1, q2, q3, q4⟩ := h
  refine ⟨cells, A, f, cap, q1, ⟨q2.1, ?_⟩, fun j hj => ?_, q4⟩
  · rcases q2.2 with hn | ⟨g, cp, cur, e, hg, hq, r⟩
    · exact .inl hn
    · exact .inr ⟨g, cp, cur, e, hg, (key g _ _ hq (fun e => h2 e.symm)).trans hq, r⟩
  · obtain ⟨r1, r2, r3⟩ := q3 j hj
    refine ⟨r1, ?_, fun hx => ⟨(r3 hx).1, by have := (r3 hx).2.1; simpa [World.setCell] using this, (r3 hx).2.2⟩⟩
    rcases r2 with ⟨s1, h0 | ⟨e, cur, t1, t2, t3⟩⟩
    · exact ⟨s1, .inl h0⟩
    · exact ⟨s1, .inr ⟨e, cur, (key _ _ _ t1 (fun e => h1 e.symm)).trans t1, t2, t3⟩⟩

/-- How lists of a net of steps ends. -/
def NlEnd (p : Int) (n : Nat) (L : List (List Int)) (w : World) (e : Ending) (w' : World) : Prop :=
  ∃ M, e = .returned (.agg #[.int .i64 p, .slice (some ⟨M, 0, none⟩) n n]) ∧ TriX w' w.heap.size (.slice (some ⟨M, 0, none⟩) n n) n L ∧ Below w.heap.size w w'

theorem setsX {p : Int} {n k : Nat} {L : List (List Int)} (h : netOk p n L = true) (hk : k < n) : nums2 (maskL (L.getD (3 * k) [])).testBit 16 = L.getD (3 * k) [] ∧ nums2 (maskL (L.getD (3 * k + 1) [])).testBit 16 = L.getD (3 * k + 1) [] ∧ nums2 (maskL (L.getD (3 * k + 2) [])).testBit 16 = L.getD (3 * k + 2) [] := by
  obtain ⟨hp, _, h3⟩ := netOk_parts h
  obtain ⟨r0, r1, r2⟩ := tri3_rise (h3 k hk)
  exact ⟨nums2_mask hp.2 r0, nums2_mask hp.2 r1, nums2_mask hp.2 r2⟩

/-- The bits of n transitions at the head of a block. -/
def PartX (w : World) (B n : Nat) (L : List (List Int)) : Prop :=
  ∃ C : Array Value, w.heap[B]? = some (.cells C 89 (0, 0)) ∧ 3 * n ≤ C.size ∧ ∀ j, j < 3 * n → C[j]? = some (.int .u16 (maskL (L.getD j []) : Int))

theorem PartS.toX {w : World} {B n : Nat} {L : List (List Int)} (h : PartS w B (3 * n) (3 * n) L) : PartX w B n L := by
  obtain ⟨C, h1, h2, h3⟩ := h
  exact ⟨C, h1, by omega, h3⟩

theorem PartX.grow {w w' : World} {B n : Nat} {L : List (List Int)} (h : PartX w B n L) (hb : Below w.heap.size w w') : PartX w' B n L := by
  obtain ⟨C, h1, h2, h3⟩ := h
  exact ⟨C, keep h1 hb, h2, h3⟩

theorem PartX.at3X {w : World} {B n k : Nat} {L : List (List Int)} (h : PartX w B n L) (hk : k < n) :
    w.cell? ⟨B, k * 3, none⟩ = some (.int .u16 (maskL (L.getD (3 * k) []) : Int)) ∧ w.cell? ⟨B, k * 3 + 1, none⟩ = some (.int .u16 (maskL (L.getD (3 * k + 1) []) : Int)) ∧ w.cell? ⟨B, k * 3 + 2, none⟩ = some (.int .u16 (maskL (L.getD (3 * k + 2) []) : Int)) := by
  obtain ⟨C, h1, h2, h3⟩ := h
  refine ⟨?_, ?_, ?_⟩
  · rw [cell_of_row w B _ C _ _ h1, Nat.mul_comm]; exact h3 _ (by omega)
  · rw [cell_of_row w B _ C _ _ h1, Nat.mul_comm]; exact h3 _ (by omega)
  · rw [cell_of_row w B _ C _ _ h1, Nat.mul_comm]; exact h3 _ (by omega)

set_option maxHeartbeats 4000000 in
theorem netLists_any (p : Int) (B n cB : Nat) (L : List (List Int)) (w : World) (h : PartX w B n L) (hg : netOk p n L = true) (hl : L.length = 3 * n) :
    Calls Try.prog 22 #[.agg #[.int .i64 p, .slice (some ⟨B, 0, none⟩) n cB]] w fun e w' => NlEnd p n L w e w' := by
  have hn24 := (netOk_parts hg).2.1
  have HG := hide hg
  have HP := hide h
  have HL := hide hl
  have HB0 := hide (below_two w (.cells #[.int .i64 p, .slice (some ⟨B, 0, none⟩) n cB] 45) (.cells #[.int .i64 0, .slice none 0 0] 26))
  have hmk := run_make_many (P := Try.prog) 24 52 _ 3 72 Try.underlying24 Try.info52 .i64 .i64 n (by omega) (by omega)
  simp only [Value.cells] at hmk
  clear h hg hl
  go_enter Try.func22, Try.ntmps22
  go_wp2_with fail
  go_region
  all_goals go_wp2_with fail
  · have HI : Hid (FiInv ((w.alloc (.cells #[.int .i64 p, .slice (some ⟨B, 0, none⟩) n cB] 45)).alloc (.cells #[.int .i64 0, .slice none 0 0] 26)) ((((w.alloc (.cells #[.int .i64 p, .slice (some ⟨B, 0, none⟩) n cB] 45)).alloc (.cells #[.int .i64 0, .slice none 0 0] 26)).alloc (.cells (madeCells #[.slice none 0 0, .slice none 0 0, .slice none 0 0] (n * 3)) 52)).alloc (.cells #[.int .i64 p, .slice (some ⟨w.heap.size + 1 + 1, 0, none⟩) n n] 26)).drew (w.heap.size + 1 + 1 + 1) (w.heap.size + 1 + 1) p n 0 L) := by
      have z2 : ((w.alloc (.cells #[.int .i64 p, .slice (some ⟨B, 0, none⟩) n cB] 45)).alloc (.cells #[.int .i64 0, .slice none 0 0] 26)).heap.size = w.heap.size + 1 + 1 := by simp
      have z3 : (((w.alloc (.cells #[.int .i64 p, .slice (some ⟨B, 0, none⟩) n cB] 45)).alloc (.cells #[.int .i64 0, .slice none 0 0] 26)).alloc (.cells (madeCells #[.slice none 0 0, .slice none 0 0, .slice none 0 0] (n * 3)) 52)).heap.size = w.heap.size + 1 + 1 + 1 := by simp
      have hm := heap_alloc_new ((w.alloc (.cells #[.int .i64 p, .slice (some ⟨B, 0, none⟩) n cB] 45)).alloc (.cells #[.int .i64 0, .slice none 0 0] 26)) (.cells (madeCells #[.slice none 0 0, .slice none 0 0, .slice none 0 0] (n * 3)) 52)
      have hv := heap_alloc_new (((w.alloc (.cells #[.int .i64 p, .slice (some ⟨B, 0, none⟩) n cB] 45)).alloc (.cells #[.int .i64 0, .slice none 0 0] 26)).alloc (.cells (madeCells #[.slice none 0 0, .slice none 0 0, .slice none 0 0] (n * 3)) 52)) (.cells #[.int .i64 p, .slice (some ⟨w.heap.size + 1 + 1, 0, none⟩) n n] 26)
      rw [z2] at hm
      rw [z3] at hv
      exact FiInv.first L (keep hv (Below.refl _ _).drew) (keep (keep hm (below_al _ _)) (Below.refl _ _).drew) (by rw [size_madeCells]) ((below_two _ _ _).drew) (by omega) (by omega) (by omega)
    have HZ : Hid (((w.alloc (.cells #[.int .i64 p, .slice (some ⟨B, 0, none⟩) n cB] 45)).alloc (.cells #[.int .i64 0, .slice none 0 0] 26)).heap.size = w.heap.size + 1 + 1) := by simp [Hid]
    have HRS : Hid (((w.alloc (.cells #[.int .i64 p, .slice (some ⟨B, 0, none⟩) n cB] 45)).alloc (.cells #[.int .i64 0, .slice none 0 0] 26)).heap[w.heap.size + 1]? = some (.cells #[.int .i64 0, .slice none 0 0] 26 (0, 0))) := by
      have := heap_alloc_new (w.alloc (.cells #[.int .i64 p, .slice (some ⟨B, 0, none⟩) n cB] 45)) (.cells #[.int .i64 0, .slice none 0 0] 26)
      rw [show (w.alloc (.cells #[.int .i64 p, .slice (some ⟨B, 0, none⟩) n cB] 45)).heap.size = w.heap.size + 1 by simp] at this
      exact this
    generalize ((((w.alloc (.cells #[.int .i64 p, .slice (some ⟨B, 0, none⟩) n cB] 45)).alloc (.cells #[.int .i64 0, .slice none 0 0] 26)).alloc (.cells (madeCells #[.slice none 0 0, .slice none 0 0, .slice none 0 0] (n * 3)) 52)).alloc (.cells #[.int .i64 p, .slice (some ⟨w.heap.size + 1 + 1, 0, none⟩) n n] 26)).drew = W at HI ⊢
    generalize ((w.alloc (.cells #[.int .i64 p, .slice (some ⟨B, 0, none⟩) n cB] 45)).alloc (.cells #[.int .i64 0, .slice none 0 0] 26)) = W2 at HI HZ HRS HB0
    generalize w.heap.size + 1 + 1 + 1 = V at HI ⊢
    obtain ⟨M, hM⟩ : ∃ M, Hid (w.heap.size + 1 + 1 = M) := ⟨_, rfl⟩
    rw [hM.out] at HI ⊢
    clear hmk
    go_loopw [16] (fun i wr => ∃ k : Nat, k ≤ n ∧ i = .int .i64 k ∧ Hid (FiInv W2 wr V M p n k L)) (fun i _ => n - (intOf i).toNat)
    case atStart => exact ⟨0, Nat.zero_le _, rfl, HI⟩
    case round =>
      obtain ⟨k, hk, rfl, hin⟩ := hrel
      clear HI
      have HBW := hide (HB0.out.trans (hin.out.bel.mono HB0.out.size))
      by_cases hlt : k < n
      rotate_left
      · have hk' : k = n := by omega
        subst hk'
        obtain ⟨hv0, hv1⟩ := cells2 hin.out.var
        have hRr := (hin.out.bel.block (w.heap.size + 1) (by rw [HZ.out]; omega)).trans HRS.out
        obtain ⟨hr0, hr1⟩ := cells2 hRr
        have hf0 : wr.frozen? ⟨w.heap.size + 1, 0, none⟩ = false := frozen_of_row wr _ 0 _ _ hRr
        have hf1 : wr.frozen? ⟨w.heap.size + 1, 1, none⟩ = false := frozen_of_row wr _ 1 _ _ hRr
        have HT : Hid (TriX wr W2.heap.size (.slice (some ⟨M, 0, none⟩) k k) k L) := by
          obtain ⟨C, A, f, cap, q1, q2, q3, q4⟩ := hin.out.fil
          exact TriX.made HL.out q1 q2 hin.out.hM (by unfold maxLen; omega) q3 q4
        have hne : V ≠ w.heap.size + 1 := by have := hin.out.hV; rw [HZ.out] at this; omega
        clear hin hRr
        go_wp2_with fail
        refine bodyPost_ret (v := .agg #[.int .i64 p, .slice (some ⟨M, 0, none⟩) k k]) (by simp [results, Try.results22, go_sem, hr0, hr1]) rfl ?_
        refine ⟨M, rfl, ((HT.out.low (by rw [HZ.out]; omega) 0 _).low (by rw [HZ.out]; omega) 1 _).lower (by rw [HZ.out]; omega), (HBW.out.setCell (by simp) _).setCell (by simp) _⟩
      obtain ⟨hc0, hc1, hc2⟩ := (HP.out.grow HBW.out).at3X hlt
      have HSX := hide (setsX HG.out hlt)
      have HLI := hide (fun W => stepLists_any (maskL (L.getD (3 * k) [])) (maskL (L.getD (3 * k + 1) [])) (maskL (L.getD (3 * k + 2) [])) W (maskL_lt _ fun x hx => by have := (netOk_mem HG.out hlt).1 x hx; have := (netOk_parts HG.out).1; omega) (maskL_lt _ fun x hx => by have := (netOk_mem HG.out hlt).2.1 x hx; have := (netOk_parts HG.out).1; omega) (maskL_lt _ fun x hx => by have := (netOk_mem HG.out hlt).2.2 x hx; have := (netOk_parts HG.out).1; omega))
      rw [HSX.out.1, HSX.out.2.1, HSX.out.2.2] at HLI
      obtain ⟨s0, hs0⟩ : ∃ s, Hid (maskL (L.getD (3 * k) []) = s) := ⟨_, rfl⟩
      obtain ⟨s1, hs1⟩ : ∃ s, Hid (maskL (L.getD (3 * k + 1) []) = s) := ⟨_, rfl⟩
      obtain ⟨s2, hs2⟩ : ∃ s, Hid (maskL (L.getD (3 * k + 2) []) = s) := ⟨_, rfl⟩
      rw [hs0.out] at hc0 HLI
      rw [hs1.out] at hc1 HLI
      rw [hs2.out] at hc2 HLI
      have hA1 := below_al wr (.cells #[.int .u16 (s0 : Int), .int .u16 (s1 : Int), .int .u16 (s2 : Int)] 89)
      have HI1 := hide (hin.out.grow hA1)
      have HX := hide (heap_alloc_new wr (.cells #[.int .u16 (s0 : Int), .int .u16 (s1 : Int), .int .u16 (s2 : Int)] 89))
      have HXM := hide (show wr.heap.size ≠ M by have := hin.out.ltM; omega)
      clear hin hA1 HSX hs0 hs1 hs2 HBW
      go_wp2_with fail
      clear hc0 hc1 hc2
      obtain ⟨U, hU⟩ : ∃ U, Hid (wr.alloc (.cells #[.int .u16 (s0 : Int), .int .u16 (s1 : Int), .int .u16 (s2 : Int)] 89) = U) := ⟨_, rfl⟩
      obtain ⟨X, hX⟩ : ∃ X, Hid (wr.heap.size = X) := ⟨_, rfl⟩
      rw [hU.out] at HI1 HX ⊢
      rw [hX.out] at HX HXM ⊢
      have HI2 := hide (HI1.out.grow (Below.refl _ U).drew)
      have HX2 := hide (keep HX.out (Below.refl _ U).drew)
      have hk0 : (0 : Int) ≤ (k : Int) := by omega
      have hk1 : (k : Int) < (n : Int) := by omega
      clear HI1 HX hU hX
      refine wp_region_held_drew (S := fun W => W.cell? ⟨V, 1, none⟩ = some (.slice (some ⟨M, 0, none⟩) n n) ∧ W.cell? ⟨X, 0, none⟩ = some (.int .u16 (s0 : Int)) ∧ W.cell? ⟨X, 1, none⟩ = some (.int .u16 (s1 : Int)) ∧ W.cell? ⟨X, 2, none⟩ = some (.int .u16 (s2 : Int))) (by kernel_rfl) ?_ (fun hHeld => ?_)
      · exact ⟨(cells2 HI2.out.var).2, cells3W HX2.out⟩
      refine take_yes (i := 0) (some 21) (.pointer (some ⟨V, 1, none⟩)) rfl rfl (by kernel_rfl) (by kernel_rfl) (by kernel_rfl) (fun _ _ _ h => h) (by rfl) ?_ (by assumption) ?_
      · intro W' hSw
        obtain ⟨hz0, hz1, hz2, hz3⟩ := hSw
        go_simp
      simp only [Act.put, List.setIfInBounds_toArray, List.set_cons_zero, List.set_cons_succ]
      refine take_yes (i := 1) (some 22) (.slice (some ⟨M, 0, none⟩) n n) rfl rfl (by kernel_rfl) (by kernel_rfl) (by kernel_rfl) (fun _ _ _ h => h) (by rfl) ?_ (by assumption) ?_
      · intro W' hSw
        obtain ⟨hz0, hz1, hz2, hz3⟩ := hSw
        go_simp
      simp only [Act.put, List.setIfInBounds_toArray, List.set_cons_zero, List.set_cons_succ]
      refine take_yes (i := 2) (some 23) (.int .i64 (k : Int)) rfl rfl (by kernel_rfl) (by kernel_rfl) (by kernel_rfl) (fun _ _ _ h => h) (by rfl) ?_ (by assumption) ?_
      · intro W' hSw
        obtain ⟨hz0, hz1, hz2, hz3⟩ := hSw
        go_simp
      simp only [Act.put, List.setIfInBounds_toArray, List.set_cons_zero, List.set_cons_succ]
      refine take_yes (i := 3) (some 24) (.agg #[.int .u16 (s0 : Int), .int .u16 (s1 : Int), .int .u16 (s2 : Int)]) rfl rfl (by kernel_rfl) (by kernel_rfl) (by kernel_rfl) (fun _ _ _ h => h) (by rfl) ?_ (by assumption) ?_
      · intro W' hSw
        obtain ⟨hz0, hz1, hz2, hz3⟩ := hSw
        go_simp
      simp only [Act.put, List.setIfInBounds_toArray, List.set_cons_zero, List.set_cons_succ]
      refine call_next (i := 4) (some 25) rfl rfl (by kernel_rfl) (by rfl) 49 _ _ _ rfl Try.func49 (by decide) rfl #[.agg #[.int .u16 (s0 : Int), .int .u16 (s1 : Int), .int .u16 (s2 : Int)]] (mapw1 _ _ _ rfl) _ (HLI.out _) ?_
      rintro e v1 ⟨a0, b0, m0, c0, a1, b1, m1, c1, a2, b2, m2, c2, rfl, o0, o1, o2, g0, g1, g2, d01, d02, d12, hb1⟩
      refine ⟨_, rfl, ?_, fun hHeld => ?_⟩
      · exact ⟨(cells2 (keep HI2.out.var hb1)).2, cells3W (keep HX2.out hb1)⟩
      simp only [Act.put, List.setIfInBounds_toArray, List.set_cons_zero, List.set_cons_succ]
      refine take_yes (i := 5) (some 26) (.pointer (some ⟨M, k * 3, none⟩)) rfl rfl (by kernel_rfl) (by kernel_rfl) (by kernel_rfl) (fun _ _ _ h => h) (by rfl) ?_ (by assumption) ?_
      · intro W' hSw
        obtain ⟨hz0, hz1, hz2, hz3⟩ := hSw
        go_simp
      simp only [Act.put, List.setIfInBounds_toArray, List.set_cons_zero, List.set_cons_succ]
      refine store_mid_next (i := 6) rfl rfl (by kernel_rfl) (by rfl) 52 _ _ rfl M (k * 3) #[.slice a0 m0 c0, .slice a1 m1 c1, .slice a2 m2 c2] rfl rfl ((HI2.out.grow hb1).there hlt) Try.size52 (by simp [Value.oneCell']) ?_ (fun hHeld => ?_)
      · exact ⟨(cells2 ((heap_set3_other _ _ _ _ _ _ _ HI2.out.ne).trans (keep HI2.out.var hb1))).2, cells3W ((heap_set3_other _ _ _ _ _ _ _ HXM.out).trans (keep HX2.out hb1))⟩
      refine wpAnyH_done (by kernel_rfl) ?_ _
      have HI3 : Hid (FiInv W2 (v1.setCells M (k * 3) [.slice a0 m0 c0, .slice a1 m1 c1, .slice a2 m2 c2]) V M p n (k + 1) L) := HI2.out.step hlt hb1 o0 o1 o2 g0 g1 g2 d01 d02 d12 rfl rfl rfl
      clear o0 o1 o2 g0 g1 g2 d01 d02 d12 hb1 hHeld HI2 HX2 HLI
      go_wp2_with fail
      go_roundw
      case rel => exact ⟨k + 1, by omega, by go_num, HI3⟩
      case measure => simp [intOf]; omega
  · have HI : Hid (FiInv ((w.alloc (.cells #[.int .i64 p, .slice (some ⟨B, 0, none⟩) n cB] 45)).alloc (.cells #[.int .i64 0, .slice none 0 0] 26)) ((((w.alloc (.cells #[.int .i64 p, .slice (some ⟨B, 0, none⟩) n cB] 45)).alloc (.cells #[.int .i64 0, .slice none 0 0] 26)).alloc (.cells #[.int .i64 p, .slice (some ⟨w.heap.size + 1 + 1 + 1, 0, none⟩) n n] 26)).alloc (.cells (madeCells #[.slice none 0 0, .slice none 0 0, .slice none 0 0] (n * 3)) 52)).drew (w.heap.size + 1 + 1) (w.heap.size + 1 + 1 + 1) p n 0 L) := by
      have z2 : ((w.alloc (.cells #[.int .i64 p, .slice (some ⟨B, 0, none⟩) n cB] 45)).alloc (.cells #[.int .i64 0, .slice none 0 0] 26)).heap.size = w.heap.size + 1 + 1 := by simp
      have z3 : (((w.alloc (.cells #[.int .i64 p, .slice (some ⟨B, 0, none⟩) n cB] 45)).alloc (.cells #[.int .i64 0, .slice none 0 0] 26)).alloc (.cells #[.int .i64 p, .slice (some ⟨w.heap.size + 1 + 1 + 1, 0, none⟩) n n] 26)).heap.size = w.heap.size + 1 + 1 + 1 := by simp
      have hv := heap_alloc_new ((w.alloc (.cells #[.int .i64 p, .slice (some ⟨B, 0, none⟩) n cB] 45)).alloc (.cells #[.int .i64 0, .slice none 0 0] 26)) (.cells #[.int .i64 p, .slice (some ⟨w.heap.size + 1 + 1 + 1, 0, none⟩) n n] 26)
      have hm := heap_alloc_new (((w.alloc (.cells #[.int .i64 p, .slice (some ⟨B, 0, none⟩) n cB] 45)).alloc (.cells #[.int .i64 0, .slice none 0 0] 26)).alloc (.cells #[.int .i64 p, .slice (some ⟨w.heap.size + 1 + 1 + 1, 0, none⟩) n n] 26)) (.cells (madeCells #[.slice none 0 0, .slice none 0 0, .slice none 0 0] (n * 3)) 52)
      rw [z2] at hv
      rw [z3] at hm
      exact FiInv.first L (keep (keep hv (below_al _ _)) (Below.refl _ _).drew) (keep hm (Below.refl _ _).drew) (by rw [size_madeCells]) ((below_two _ _ _).drew) (by omega) (by omega) (by omega)
    have HZ : Hid (((w.alloc (.cells #[.int .i64 p, .slice (some ⟨B, 0, none⟩) n cB] 45)).alloc (.cells #[.int .i64 0, .slice none 0 0] 26)).heap.size = w.heap.size + 1 + 1) := by simp [Hid]
    have HRS : Hid (((w.alloc (.cells #[.int .i64 p, .slice (some ⟨B, 0, none⟩) n cB] 45)).alloc (.cells #[.int .i64 0, .slice none 0 0] 26)).heap[w.heap.size + 1]? = some (.cells #[.int .i64 0, .slice none 0 0] 26 (0, 0))) := by
      have := heap_alloc_new (w.alloc (.cells #[.int .i64 p, .slice (some ⟨B, 0, none⟩) n cB] 45)) (.cells #[.int .i64 0, .slice none 0 0] 26)
      rw [show (w.alloc (.cells #[.int .i64 p, .slice (some ⟨B, 0, none⟩) n cB] 45)).heap.size = w.heap.size + 1 by simp] at this
      exact this
    generalize ((((w.alloc (.cells #[.int .i64 p, .slice (some ⟨B, 0, none⟩) n cB] 45)).alloc (.cells #[.int .i64 0, .slice none 0 0] 26)).alloc (.cells #[.int .i64 p, .slice (some ⟨w.heap.size + 1 + 1 + 1, 0, none⟩) n n] 26)).alloc (.cells (madeCells #[.slice none 0 0, .slice none 0 0, .slice none 0 0] (n * 3)) 52)).drew = W at HI ⊢
    generalize ((w.alloc (.cells #[.int .i64 p, .slice (some ⟨B, 0, none⟩) n cB] 45)).alloc (.cells #[.int .i64 0, .slice none 0 0] 26)) = W2 at HI HZ HRS HB0
    generalize w.heap.size + 1 + 1 + 1 = M at HI ⊢
    obtain ⟨V, hM⟩ : ∃ M, Hid (w.heap.size + 1 + 1 = M) := ⟨_, rfl⟩
    rw [hM.out] at HI ⊢
    clear hmk
    go_loopw [16] (fun i wr => ∃ k : Nat, k ≤ n ∧ i = .int .i64 k ∧ Hid (FiInv W2 wr V M p n k L)) (fun i _ => n - (intOf i).toNat)
    case atStart => exact ⟨0, Nat.zero_le _, rfl, HI⟩
    case round =>
      obtain ⟨k, hk, rfl, hin⟩ := hrel
      clear HI
      have HBW := hide (HB0.out.trans (hin.out.bel.mono HB0.out.size))
      by_cases hlt : k < n
      rotate_left
      · have hk' : k = n := by omega
        subst hk'
        obtain ⟨hv0, hv1⟩ := cells2 hin.out.var
        have hRr := (hin.out.bel.block (w.heap.size + 1) (by rw [HZ.out]; omega)).trans HRS.out
        obtain ⟨hr0, hr1⟩ := cells2 hRr
        have hf0 : wr.frozen? ⟨w.heap.size + 1, 0, none⟩ = false := frozen_of_row wr _ 0 _ _ hRr
        have hf1 : wr.frozen? ⟨w.heap.size + 1, 1, none⟩ = false := frozen_of_row wr _ 1 _ _ hRr
        have HT : Hid (TriX wr W2.heap.size (.slice (some ⟨M, 0, none⟩) k k) k L) := by
          obtain ⟨C, A, f, cap, q1, q2, q3, q4⟩ := hin.out.fil
          exact TriX.made HL.out q1 q2 hin.out.hM (by unfold maxLen; omega) q3 q4
        have hne : V ≠ w.heap.size + 1 := by have := hin.out.hV; rw [HZ.out] at this; omega
        clear hin hRr
        go_wp2_with fail
        refine bodyPost_ret (v := .agg #[.int .i64 p, .slice (some ⟨M, 0, none⟩) k k]) (by simp [results, Try.results22, go_sem, hr0, hr1]) rfl ?_
        refine ⟨M, rfl, ((HT.out.low (by rw [HZ.out]; omega) 0 _).low (by rw [HZ.out]; omega) 1 _).lower (by rw [HZ.out]; omega), (HBW.out.setCell (by simp) _).setCell (by simp) _⟩
      obtain ⟨hc0, hc1, hc2⟩ := (HP.out.grow HBW.out).at3X hlt
      have HSX := hide (setsX HG.out hlt)
      have HLI := hide (fun W => stepLists_any (maskL (L.getD (3 * k) [])) (maskL (L.getD (3 * k + 1) [])) (maskL (L.getD (3 * k + 2) [])) W (maskL_lt _ fun x hx => by have := (netOk_mem HG.out hlt).1 x hx; have := (netOk_parts HG.out).1; omega) (maskL_lt _ fun x hx => by have := (netOk_mem HG.out hlt).2.1 x hx; have := (netOk_parts HG.out).1; omega) (maskL_lt _ fun x hx => by have := (netOk_mem HG.out hlt).2.2 x hx; have := (netOk_parts HG.out).1; omega))
      rw [HSX.out.1, HSX.out.2.1, HSX.out.2.2] at HLI
      obtain ⟨s0, hs0⟩ : ∃ s, Hid (maskL (L.getD (3 * k) []) = s) := ⟨_, rfl⟩
      obtain ⟨s1, hs1⟩ : ∃ s, Hid (maskL (L.getD (3 * k + 1) []) = s) := ⟨_, rfl⟩
      obtain ⟨s2, hs2⟩ : ∃ s, Hid (maskL (L.getD (3 * k + 2) []) = s) := ⟨_, rfl⟩
      rw [hs0.out] at hc0 HLI
      rw [hs1.out] at hc1 HLI
      rw [hs2.out] at hc2 HLI
      have hA1 := below_al wr (.cells #[.int .u16 (s0 : Int), .int .u16 (s1 : Int), .int .u16 (s2 : Int)] 89)
      have HI1 := hide (hin.out.grow hA1)
      have HX := hide (heap_alloc_new wr (.cells #[.int .u16 (s0 : Int), .int .u16 (s1 : Int), .int .u16 (s2 : Int)] 89))
      have HXM := hide (show wr.heap.size ≠ M by have := hin.out.ltM; omega)
      clear hin hA1 HSX hs0 hs1 hs2 HBW
      go_wp2_with fail
      clear hc0 hc1 hc2
      obtain ⟨U, hU⟩ : ∃ U, Hid (wr.alloc (.cells #[.int .u16 (s0 : Int), .int .u16 (s1 : Int), .int .u16 (s2 : Int)] 89) = U) := ⟨_, rfl⟩
      obtain ⟨X, hX⟩ : ∃ X, Hid (wr.heap.size = X) := ⟨_, rfl⟩
      rw [hU.out] at HI1 HX ⊢
      rw [hX.out] at HX HXM ⊢
      have HI2 := hide (HI1.out.grow (Below.refl _ U).drew)
      have HX2 := hide (keep HX.out (Below.refl _ U).drew)
      have hk0 : (0 : Int) ≤ (k : Int) := by omega
      have hk1 : (k : Int) < (n : Int) := by omega
      clear HI1 HX hU hX
      refine wp_region_held_drew (S := fun W => W.cell? ⟨V, 1, none⟩ = some (.slice (some ⟨M, 0, none⟩) n n) ∧ W.cell? ⟨X, 0, none⟩ = some (.int .u16 (s0 : Int)) ∧ W.cell? ⟨X, 1, none⟩ = some (.int .u16 (s1 : Int)) ∧ W.cell? ⟨X, 2, none⟩ = some (.int .u16 (s2 : Int))) (by kernel_rfl) ?_ (fun hHeld => ?_)
      · exact ⟨(cells2 HI2.out.var).2, cells3W HX2.out⟩
      refine take_yes (i := 0) (some 21) (.pointer (some ⟨V, 1, none⟩)) rfl rfl (by kernel_rfl) (by kernel_rfl) (by kernel_rfl) (fun _ _ _ h => h) (by rfl) ?_ (by assumption) ?_
      · intro W' hSw
        obtain ⟨hz0, hz1, hz2, hz3⟩ := hSw
        go_simp
      simp only [Act.put, List.setIfInBounds_toArray, List.set_cons_zero, List.set_cons_succ]
      refine take_yes (i := 1) (some 22) (.slice (some ⟨M, 0, none⟩) n n) rfl rfl (by kernel_rfl) (by kernel_rfl) (by kernel_rfl) (fun _ _ _ h => h) (by rfl) ?_ (by assumption) ?_
      · intro W' hSw
        obtain ⟨hz0, hz1, hz2, hz3⟩ := hSw
        go_simp
      simp only [Act.put, List.setIfInBounds_toArray, List.set_cons_zero, List.set_cons_succ]
      refine take_yes (i := 2) (some 23) (.int .i64 (k : Int)) rfl rfl (by kernel_rfl) (by kernel_rfl) (by kernel_rfl) (fun _ _ _ h => h) (by rfl) ?_ (by assumption) ?_
      · intro W' hSw
        obtain ⟨hz0, hz1, hz2, hz3⟩ := hSw
        go_simp
      simp only [Act.put, List.setIfInBounds_toArray, List.set_cons_zero, List.set_cons_succ]
      refine take_yes (i := 3) (some 24) (.agg #[.int .u16 (s0 : Int), .int .u16 (s1 : Int), .int .u16 (s2 : Int)]) rfl rfl (by kernel_rfl) (by kernel_rfl) (by kernel_rfl) (fun _ _ _ h => h) (by rfl) ?_ (by assumption) ?_
      · intro W' hSw
        obtain ⟨hz0, hz1, hz2, hz3⟩ := hSw
        go_simp
      simp only [Act.put, List.setIfInBounds_toArray, List.set_cons_zero, List.set_cons_succ]
      refine call_next (i := 4) (some 25) rfl rfl (by kernel_rfl) (by rfl) 49 _ _ _ rfl Try.func49 (by decide) rfl #[.agg #[.int .u16 (s0 : Int), .int .u16 (s1 : Int), .int .u16 (s2 : Int)]] (mapw1 _ _ _ rfl) _ (HLI.out _) ?_
      rintro e v1 ⟨a0, b0, m0, c0, a1, b1, m1, c1, a2, b2, m2, c2, rfl, o0, o1, o2, g0, g1, g2, d01, d02, d12, hb1⟩
      refine ⟨_, rfl, ?_, fun hHeld => ?_⟩
      · exact ⟨(cells2 (keep HI2.out.var hb1)).2, cells3W (keep HX2.out hb1)⟩
      simp only [Act.put, List.setIfInBounds_toArray, List.set_cons_zero, List.set_cons_succ]
      refine take_yes (i := 5) (some 26) (.pointer (some ⟨M, k * 3, none⟩)) rfl rfl (by kernel_rfl) (by kernel_rfl) (by kernel_rfl) (fun _ _ _ h => h) (by rfl) ?_ (by assumption) ?_
      · intro W' hSw
        obtain ⟨hz0, hz1, hz2, hz3⟩ := hSw
        go_simp
      simp only [Act.put, List.setIfInBounds_toArray, List.set_cons_zero, List.set_cons_succ]
      refine store_mid_next (i := 6) rfl rfl (by kernel_rfl) (by rfl) 52 _ _ rfl M (k * 3) #[.slice a0 m0 c0, .slice a1 m1 c1, .slice a2 m2 c2] rfl rfl ((HI2.out.grow hb1).there hlt) Try.size52 (by simp [Value.oneCell']) ?_ (fun hHeld => ?_)
      · exact ⟨(cells2 ((heap_set3_other _ _ _ _ _ _ _ HI2.out.ne).trans (keep HI2.out.var hb1))).2, cells3W ((heap_set3_other _ _ _ _ _ _ _ HXM.out).trans (keep HX2.out hb1))⟩
      refine wpAnyH_done (by kernel_rfl) ?_ _
      have HI3 : Hid (FiInv W2 (v1.setCells M (k * 3) [.slice a0 m0 c0, .slice a1 m1 c1, .slice a2 m2 c2]) V M p n (k + 1) L) := HI2.out.step hlt hb1 o0 o1 o2 g0 g1 g2 d01 d02 d12 rfl rfl rfl
      clear o0 o1 o2 g0 g1 g2 d01 d02 d12 hb1 hHeld HI2 HX2 HLI
      go_wp2_with fail
      go_roundw
      case rel => exact ⟨k + 1, by omega, by go_num, HI3⟩
      case measure => simp [intOf]; omega
end Go.Proofs.Ytbhhpfiolombcaa
