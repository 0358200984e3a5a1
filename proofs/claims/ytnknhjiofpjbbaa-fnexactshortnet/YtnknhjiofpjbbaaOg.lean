/- Flows in the laws: szFlow, toFlow, eqFlow. -/
import Derived.Test.YtnknhjiofpjbbaaOf
import Derived.Test.YtnknhjiofpjbbaaEq
import Derived.Test.YtnknhjiofpjbbaaWo
namespace Go.Proofs.Ytnknhjiofpjbbaa
open Go.RowKit
set_option maxRecDepth 10000

set_option maxHeartbeats 400000 in
theorem szFlow_any (p f t : Int) (a : Option Addr) (n c : Nat) (L : List (List Int)) (w : World) (h : Lists w a (3 * n) L) (hn : n ≤ maxLen) :
    Calls Try.prog 9 #[.agg #[.int .i64 p, .slice a n c, .int .i64 f, .int .i64 t], .int .i64 1048576] w fun e w' => e = .returned (.int .i64 (leftOf 1048576 (sizeN n L))) ∧ Below w.heap.size w w' := by
  have HA := hide (below_al w (.cells #[.int .i64 p, .slice a n c, .int .i64 f, .int .i64 t] 26))
  have HL := hide (h.below HA.out)
  clear h
  go_enter Try.func9, Try.ntmps9
  go_wp2_with fail
  refine (szNet_any _ _ _ _ L _ HL.out hn).mono ?_
  rintro e w1 ⟨rfl, hb⟩
  have HB := hide (HA.out.trans (hb.mono HA.out.size))
  clear hb
  by_cases g : leftOf 1048576 (sizeN n L) < 0
  · have HS := hide (leftOf_neg_add 0 g)
    rw [Nat.add_zero] at HS
    obtain ⟨l2, hl2'⟩ : ∃ l2, Hid (leftOf 1048576 (sizeN n L) = l2) := ⟨_, rfl⟩
    rw [hl2'.out] at g ⊢
    go_wp2_with fail
    go_ret
    exact ⟨ret_int HS.out.symm, HB.out⟩
  obtain ⟨l0, hl0⟩ : ∃ l0, Hid (leftOf 1048576 (sizeN n L) = l0) := ⟨_, rfl⟩
  rw [hl0.out] at g ⊢
  go_wp2_with fail
  go_ret
  exact ⟨ret_int hl0.out.symm, HB.out⟩

set_option maxHeartbeats 2000000 in
theorem toFlow_any (p f t : Int) (a : Option Addr) (n c : Nat) (L : List (List Int)) (w : World) (h : Lists w a (3 * n) L) (hs : sizeN n L ≤ 1048576) :
    Calls Try.prog 11 #[.agg #[.int .i64 p, .slice a n c, .int .i64 f, .int .i64 t]] w fun e w' => ∃ B, e = .returned (.agg #[.int .i64 p, .slice (some ⟨B, 0, none⟩) n n, .int .i64 f, .int .i64 t]) ∧ w.heap.size ≤ B ∧ PartL w' B (3 * n) (3 * n) 56 L ∧ Below w.heap.size w w' := by
  have HL := hide h
  clear h
  go_enter Try.func11, Try.ntmps11
  go_wp2_with fail
  have HB0 := hide (((below_al w (.cells #[.int .i64 p, .slice a n c, .int .i64 f, .int .i64 t] 26)).alloc (by simp) (.cells #[.int .i64 0, .slice none 0 0, .int .i64 0, .int .i64 0] 33)).alloc (by simp; omega) (.cells #[.int .i64 0, .slice none 0 0, .int .i64 0, .int .i64 0] 33))
  refine (toNet_any _ _ _ _ L _ (HL.out.below HB0.out) hs).mono ?_
  rintro e w' ⟨B, rfl, hBs, hp, hb⟩
  have hsz : (((w.alloc (.cells #[.int .i64 p, .slice a n c, .int .i64 f, .int .i64 t] 26)).alloc (.cells #[.int .i64 0, .slice none 0 0, .int .i64 0, .int .i64 0] 33)).alloc (.cells #[.int .i64 0, .slice none 0 0, .int .i64 0, .int .i64 0] 33)).heap.size = w.heap.size + 1 + 1 + 1 := by simp
  rw [hsz] at hBs
  have g2 : w'.heap[w.heap.size + 1 + 1]? = some (.cells #[.int .i64 0, .slice none 0 0, .int .i64 0, .int .i64 0] 33 (0, 0)) := by
    rw [hb.block _ (by omega)]
    have := heap_alloc_new ((w.alloc (.cells #[.int .i64 p, .slice a n c, .int .i64 f, .int .i64 t] 26)).alloc (.cells #[.int .i64 0, .slice none 0 0, .int .i64 0, .int .i64 0] 33)) (.cells #[.int .i64 0, .slice none 0 0, .int .i64 0, .int .i64 0] 33)
    simpa using this
  have g1 : w'.heap[w.heap.size + 1]? = some (.cells #[.int .i64 0, .slice none 0 0, .int .i64 0, .int .i64 0] 33 (0, 0)) := by
    rw [hb.block _ (by omega), heap_al_old _ _ _ (by simp)]
    have := heap_alloc_new (w.alloc (.cells #[.int .i64 p, .slice a n c, .int .i64 f, .int .i64 t] 26)) (.cells #[.int .i64 0, .slice none 0 0, .int .i64 0, .int .i64 0] 33)
    simpa using this
  have g0 : w'.heap[w.heap.size]? = some (.cells #[.int .i64 p, .slice a n c, .int .i64 f, .int .i64 t] 26 (0, 0)) := by
    rw [hb.block _ (by omega), heap_al_old _ _ _ (by simp; omega), heap_al_old _ _ _ (by simp)]
    exact heap_alloc_new w (.cells #[.int .i64 p, .slice a n c, .int .i64 f, .int .i64 t] 26)
  obtain ⟨⟨c00, c01, c02, c03⟩, _⟩ := cells4 g0
  obtain ⟨⟨c10, c11, c12, c13⟩, f10, f11, f12, f13⟩ := cells4 g1
  obtain ⟨⟨c20, c21, c22, c23⟩, f20, f21, f22, f23⟩ := cells4 g2
  have HP := hide hp
  have HB := hide (HB0.out.trans (hb.mono (by simp; omega)))
  have HBs := hide hBs
  clear hb hp g0 g1 g2 hsz HB0 hBs
  go_wp2_with fail
  refine bodyPost_ret (v := .agg #[.int .i64 p, .slice (some ⟨B, 0, none⟩) n n, .int .i64 f, .int .i64 t]) (by simp [results, Try.results11, go_sem, c10, c11, c12, c13]) rfl ?_
  have hB := HBs.out
  exact ⟨_, rfl, by omega, (((((((HP.out.set_low (by omega) _ _).set_low (by omega) _ _).set_low (by omega) _ _).set_low (by omega) _ _).set_low (by omega) _ _).set_low (by omega) _ _).set_low (by omega) _ _).set_low (by omega) _ _,
    below_set4 ((((HB.out.setCell (by simp; omega) _).setCell (by simp; omega) _).setCell (by simp; omega) _).setCell (by simp; omega) _) (by omega) _ _ _ _⟩

set_option maxHeartbeats 1000000 in
theorem eqFlow_any (p f t : Int) (a d : Option Addr) (n c e : Nat) (L : List (List Int)) (w : World) (h : Lists w a (3 * n) L) (g : Lists w d (3 * n) L) (hs : sizeN n L ≤ 1048576) :
    Calls Try.prog 13 #[.agg #[.int .i64 p, .slice a n c, .int .i64 f, .int .i64 t], .agg #[.int .i64 p, .slice d n e, .int .i64 f, .int .i64 t]] w fun e w' => e = .returned (.bool true) ∧ Below w.heap.size w w' := by
  have hne : (f != f) = false := by simp
  have hne2 : (t != t) = false := by simp
  have HA := hide (below_two w (.cells #[.int .i64 p, .slice a n c, .int .i64 f, .int .i64 t] 33) (.cells #[.int .i64 p, .slice d n e, .int .i64 f, .int .i64 t] 33))
  have HX := hide (keep (heap_alloc_new w (.cells #[.int .i64 p, .slice a n c, .int .i64 f, .int .i64 t] 33)) (below_al _ (.cells #[.int .i64 p, .slice d n e, .int .i64 f, .int .i64 t] 33)))
  have hy := heap_alloc_new (w.alloc (.cells #[.int .i64 p, .slice a n c, .int .i64 f, .int .i64 t] 33)) (.cells #[.int .i64 p, .slice d n e, .int .i64 f, .int .i64 t] 33)
  rw [show (w.alloc (.cells #[.int .i64 p, .slice a n c, .int .i64 f, .int .i64 t] 33)).heap.size = w.heap.size + 1 by simp] at hy
  have HY := hide hy
  have HE := hide (eqNet_any p a d n c e L _ (h.below HA.out) (g.below HA.out) hs)
  clear h g hy
  go_enter Try.func13, Try.ntmps13
  go_wp2_with fail
  refine HE.out.mono ?_
  rintro e w1 ⟨rfl, hb⟩
  have HB := hide (HA.out.trans (hb.mono HA.out.size))
  obtain ⟨⟨hx0, hx1, hx2, hx3⟩, _⟩ := cells4 (keep HX.out hb)
  obtain ⟨⟨hy0, hy1, hy2, hy3⟩, _⟩ := cells4 (keep HY.out hb)
  clear hb HE HX HY
  go_wp2_with fail
  go_ret
  exact ⟨rfl, HB.out⟩
end Go.Proofs.Ytnknhjiofpjbbaa
