/- The text of a number below a hundred, as the specification and as the library write it. -/
import Derived.Test.YtkpmpnbeedapgaaDoorGood
import Derived.Laws.IdiomStrings
import Derived.Lib.AppendStr
import Derived.Deep.RegionWith
namespace Go.Proofs.YtkpmpnbeedapgaaDoor
open Go.RowKit

def dB (k : Nat) : UInt8 := UInt8.ofNat (48 + k)
theorem dB_nat {k : Nat} (h : k < 10) : (dB k).toNat = 48 + k := by
  unfold dB; simp; omega

def numB (n : Nat) : ByteArray := if n < 10 then ⟨#[dB n]⟩ else ⟨#[dB (n / 10), dB (n % 10)]⟩

theorem conv_one (k : Nat) (hk : k < 10) (W : World) (b : Nat) (hc : W.cell? ⟨b, 0, none⟩ = some (.int .u8 (48 + (k : Int)))) :
    (convert 22 9 (.slice (some ⟨b, 0, none⟩) 1 1)).run Tryd.prog W = .ok (.string ⟨#[dB k]⟩) W := by
  refine run_convert_bytes_back (P := Tryd.prog) W 22 9 5 ⟨b, 0, none⟩ 1 [dB k] Tryd.underlying22 Tryd.underlying5 Tryd.underlying9 ?_
  intro j hj
  obtain rfl : j = 0 := by simp at hj; omega
  show W.cell? ((⟨b, 0, none⟩ : Addr).add 0) = some (.int .u8 ((dB k).toNat : Int))
  rw [dB_nat hk]
  simpa [Addr.add] using hc

def NumEnd (n : Nat) (w : World) (e : Ending) (w' : World) : Prop := e = .returned (.string (numB n)) ∧ Below w.heap.size w w'

set_option maxHeartbeats 400000 in
theorem num_lo (n : Nat) (w : World) (h : n < 10) :
    Calls Tryd.prog 35 #[.int .i64 (n : Int)] w fun e w' => NumEnd n w e w' := by
  have h1 : (n : Int) < 10 := by omega
  have hcv := conv_one n h (w.alloc (.cells #[.int .u8 (48 + (n : Int))] 5)) w.heap.size (by simp)
  have HE : Hid (NumEnd n w (.returned (.string ⟨#[dB n]⟩)) (w.alloc (.cells #[.int .u8 (48 + (n : Int))] 5))) := ⟨by unfold numB; rw [if_pos h], (Below.refl _ _).alloc (Nat.le_refl _) _⟩
  go_enter Tryd.func35, Tryd.ntmps35
  go_wp2
  go_ret
  exact HE.out

theorem cell_kept {w w1 : World} {v : Value} {t : TypeId} (hb : Below (w.alloc (.cells #[v] t)).drew.heap.size (w.alloc (.cells #[v] t)).drew w1) : w1.cell? ⟨w.heap.size, 0, none⟩ = some v := by
  rw [hb.cell (p := ⟨w.heap.size, 0, none⟩) (by simp)]; simp

set_option maxHeartbeats 1000000 in
theorem num_hi (n : Nat) (w : World) (h : 10 ≤ n) (h2 : n < 100) :
    Calls Tryd.prog 35 #[.int .i64 (n : Int)] w fun e w' => NumEnd n w e w' := by
  have h1 : (10 : Int) ≤ (n : Int) := by omega
  have h3 : (n : Int) < 100 := by omega
  have hcv := conv_one (n % 10) (by omega)
  rw [show (48 : Int) + ((n % 10 : Nat) : Int) = IntKind.u8.wrap (IntKind.i64.wrap (48 + ((n : Int)).tmod 10)) by rw [IntKind.wrap_i64, IntKind.wrap_u8, Int.tmod_eq_emod_of_nonneg (by omega)]; omega] at hcv
  have hsz : (numB (n / 10)).size = 1 := by unfold numB; rw [if_pos (by omega)]; rfl
  have happ : numB (n / 10) ++ (⟨#[dB (n % 10)]⟩ : ByteArray) = numB n := by unfold numB; rw [if_pos (by omega), if_neg (by omega)]; rfl
  have hadd := fun W => (run_string_add_sum (P := Tryd.prog) (w := W) (numB (n / 10)) (⟨#[dB (n % 10)]⟩ : ByteArray) (by rw [hsz]; show 1 + 1 ≤ _; omega))
  rw [happ] at hadd
  have HN := hide (fun W => num_lo (n / 10) W (by omega))
  rw [show ((n / 10 : Nat) : Int) = IntKind.i64.wrap ((n : Int) / 10) by rw [IntKind.wrap_i64]; omega] at HN
  go_enter Tryd.func35, Tryd.ntmps35
  go_wp2
  go_region_with (go_at_call 35; refine (HN.out _).mono ?_; rintro e w1 ⟨rfl, hb1⟩; try (have hcc := cell_kept hb1))
  all_goals go_wp2
  all_goals go_ret
  all_goals first
    | exact ⟨rfl, (show Below w.heap.size w w1 from ⟨hb1.os, hb1.tape, hb1.output, hb1.size, hb1.block⟩).alloc hb1.size _⟩
    | exact ⟨rfl, (((Below.refl w.heap.size w).alloc (Nat.le_refl _) _).drew).trans (hb1.mono (by simp))⟩
    | exact ⟨rfl, (((Below.refl w.heap.size w).alloc (Nat.le_refl _) _).drew).trans (hb1.mono (by simp; omega))⟩

theorem num_any (n : Nat) (w : World) (h : n ≤ 50) : Calls Tryd.prog 35 #[.int .i64 (n : Int)] w fun e w' => NumEnd n w e w' := by
  by_cases h1 : n < 10
  · exact num_lo n w h1
  · exact num_hi n w (by omega) (by omega)

set_option maxRecDepth 100000 in
set_option maxHeartbeats 4000000 in
theorem small_0 (n : Nat) (w : World) (h : 0 ≤ n) (h2 : n ≤ 9) :
    Calls Tryd.prog 41 #[.int .i64 (n : Int)] w fun e w' => e = .returned (.string (numB n)) ∧ w' = w := by
  obtain rfl | rfl | rfl | rfl | rfl | rfl | rfl | rfl | rfl | rfl : n = 0 ∨ n = 1 ∨ n = 2 ∨ n = 3 ∨ n = 4 ∨ n = 5 ∨ n = 6 ∨ n = 7 ∨ n = 8 ∨ n = 9 := by omega
  all_goals
    go_enter Tryd.func41, Tryd.ntmps41
    go_wp2
    go_ret
    exact ⟨rfl, rfl⟩

set_option maxRecDepth 100000 in
set_option maxHeartbeats 4000000 in
theorem small_1 (n : Nat) (w : World) (h : 10 ≤ n) (h2 : n ≤ 19) :
    Calls Tryd.prog 41 #[.int .i64 (n : Int)] w fun e w' => e = .returned (.string (numB n)) ∧ w' = w := by
  obtain rfl | rfl | rfl | rfl | rfl | rfl | rfl | rfl | rfl | rfl : n = 10 ∨ n = 11 ∨ n = 12 ∨ n = 13 ∨ n = 14 ∨ n = 15 ∨ n = 16 ∨ n = 17 ∨ n = 18 ∨ n = 19 := by omega
  all_goals
    go_enter Tryd.func41, Tryd.ntmps41
    go_wp2
    go_ret
    exact ⟨rfl, rfl⟩

set_option maxRecDepth 100000 in
set_option maxHeartbeats 4000000 in
theorem small_2 (n : Nat) (w : World) (h : 20 ≤ n) (h2 : n ≤ 29) :
    Calls Tryd.prog 41 #[.int .i64 (n : Int)] w fun e w' => e = .returned (.string (numB n)) ∧ w' = w := by
  obtain rfl | rfl | rfl | rfl | rfl | rfl | rfl | rfl | rfl | rfl : n = 20 ∨ n = 21 ∨ n = 22 ∨ n = 23 ∨ n = 24 ∨ n = 25 ∨ n = 26 ∨ n = 27 ∨ n = 28 ∨ n = 29 := by omega
  all_goals
    go_enter Tryd.func41, Tryd.ntmps41
    go_wp2
    go_ret
    exact ⟨rfl, rfl⟩

set_option maxRecDepth 100000 in
set_option maxHeartbeats 4000000 in
theorem small_3 (n : Nat) (w : World) (h : 30 ≤ n) (h2 : n ≤ 39) :
    Calls Tryd.prog 41 #[.int .i64 (n : Int)] w fun e w' => e = .returned (.string (numB n)) ∧ w' = w := by
  obtain rfl | rfl | rfl | rfl | rfl | rfl | rfl | rfl | rfl | rfl : n = 30 ∨ n = 31 ∨ n = 32 ∨ n = 33 ∨ n = 34 ∨ n = 35 ∨ n = 36 ∨ n = 37 ∨ n = 38 ∨ n = 39 := by omega
  all_goals
    go_enter Tryd.func41, Tryd.ntmps41
    go_wp2
    go_ret
    exact ⟨rfl, rfl⟩

set_option maxRecDepth 100000 in
set_option maxHeartbeats 4000000 in
theorem small_4 (n : Nat) (w : World) (h : 40 ≤ n) (h2 : n ≤ 50) :
    Calls Tryd.prog 41 #[.int .i64 (n : Int)] w fun e w' => e = .returned (.string (numB n)) ∧ w' = w := by
  obtain rfl | rfl | rfl | rfl | rfl | rfl | rfl | rfl | rfl | rfl | rfl : n = 40 ∨ n = 41 ∨ n = 42 ∨ n = 43 ∨ n = 44 ∨ n = 45 ∨ n = 46 ∨ n = 47 ∨ n = 48 ∨ n = 49 ∨ n = 50 := by omega
  all_goals
    go_enter Tryd.func41, Tryd.ntmps41
    go_wp2
    go_ret
    exact ⟨rfl, rfl⟩

theorem small_any (n : Nat) (w : World) (h : n ≤ 50) :
    Calls Tryd.prog 41 #[.int .i64 (n : Int)] w fun e w' => e = .returned (.string (numB n)) ∧ w' = w := by
  rcases (show n ≤ 9 ∨ (10 ≤ n ∧ n ≤ 19) ∨ (20 ≤ n ∧ n ≤ 29) ∨ (30 ≤ n ∧ n ≤ 39) ∨ 40 ≤ n by omega) with h1 | h1 | h1 | h1 | h1
  · exact small_0 n w (by omega) h1
  · exact small_1 n w h1.1 h1.2
  · exact small_2 n w h1.1 h1.2
  · exact small_3 n w h1.1 h1.2
  · exact small_4 n w h1 h
end Go.Proofs.YtkpmpnbeedapgaaDoor
