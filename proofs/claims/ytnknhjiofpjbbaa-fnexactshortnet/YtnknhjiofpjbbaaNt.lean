/- Nets in memory: a slice of transitions read as its lists, three a transition; how an argument is opened to that; what the size functions answer. -/
import Derived.Test.YtnknhjiofpjbbaaBase
import Derived.Deep.MidRow
import Derived.Deep.Slices
import Derived.Deep.Strs
import Derived.Lib.SmallJoins
import Derived.ProofKit
namespace Go.Proofs.Ytnknhjiofpjbbaa
open Go.RowKit

/-- A row of slices of integers reads as the lists L. -/
def Lists (w : World) (a : Option Addr) (n : Nat) (L : List (List Int)) : Prop :=
  L.length = n ∧ (n = 0 ∨ ∃ b off, a = some ⟨b, off, none⟩ ∧ b < w.heap.size ∧ ∀ j, j < n → ∃ a' n' c', w.cell? ⟨b, off + j, none⟩ = some (.slice a' n' c') ∧ n' ≤ maxLen ∧ Row w a' n' (L.getD j []))

theorem Lists.below {w w' : World} {a : Option Addr} {n : Nat} {L : List (List Int)} (h : Lists w a n L) (hb : Below w.heap.size w w') : Lists w' a n L := by
  refine ⟨h.1, ?_⟩
  rcases h.2 with h0 | ⟨b, off, e, hl, hc⟩
  · exact .inl h0
  · refine .inr ⟨b, off, e, Nat.lt_of_lt_of_le hl hb.size, fun j hj => ?_⟩
    obtain ⟨a', n', c', h1, h2, h3⟩ := hc j hj
    exact ⟨a', n', c', (hb.cell (p := ⟨b, off + j, none⟩) hl).trans h1, h2, h3.below hb⟩

/-- The lists of a transition lie in three cells. -/
def Tri (w : World) (b o : Nat) (a0 a1 a2 : Option Addr) (n0 n1 n2 c0 c1 c2 : Nat) (x0 x1 x2 : List Int) : Prop :=
  w.rangeAt b o [.slice a0 n0 c0, .slice a1 n1 c1, .slice a2 n2 c2] ∧ n0 ≤ maxLen ∧ n1 ≤ maxLen ∧ n2 ≤ maxLen ∧ Row w a0 n0 x0 ∧ Row w a1 n1 x1 ∧ Row w a2 n2 x2

theorem Lists.tri {w : World} {a : Option Addr} {n : Nat} {L : List (List Int)} (h : Lists w a (3 * n) L) {k : Nat} (hk : k < n) :
    ∃ b off a0 n0 c0 a1 n1 c1 a2 n2 c2, a = some ⟨b, off, none⟩ ∧ b < w.heap.size ∧ Tri w b (off + k * 3) a0 a1 a2 n0 n1 n2 c0 c1 c2 (L.getD (3 * k) []) (L.getD (3 * k + 1) []) (L.getD (3 * k + 2) []) := by
  rcases h.2 with h0 | ⟨b, off, e, hl, hc⟩
  · omega
  · obtain ⟨a0, n0, c0, h1, h2, h3⟩ := hc (3 * k) (by omega)
    obtain ⟨a1, n1, c1, h4, h5, h6⟩ := hc (3 * k + 1) (by omega)
    obtain ⟨a2, n2, c2, h7, h8, h9⟩ := hc (3 * k + 2) (by omega)
    refine ⟨b, off, a0, n0, c0, a1, n1, c1, a2, n2, c2, e, hl, ?_, h2, h5, h8, h3, h6, h9⟩
    rw [Nat.mul_comm k 3]
    intro j v hv
    match j, hv with
    | 0, hv => simp at hv; subst hv; exact h1
    | 1, hv => simp at hv; subst hv; exact h4
    | 2, hv => simp at hv; subst hv; exact h7
    | (q + 3), hv => simp at hv

theorem below_al (w : World) (o : Obj) : Below w.heap.size w (w.alloc o) := (Below.refl _ _).alloc (Nat.le_refl _) _

/-- How much the lists hold. -/
def sizeL (L : List (List Int)) : Nat := (L.map List.length).sum

def sizeN (n : Nat) (L : List (List Int)) : Nat := n + sizeL L

theorem sizeL_take_succ (L : List (List Int)) (k : Nat) (h : k < L.length) : sizeL (L.take (k + 1)) = sizeL (L.take k) + (L.getD k []).length := by
  unfold sizeL
  rw [List.take_add_one, List.getElem?_eq_getElem h, List.map_append, List.sum_append]
  simp [List.getElem?_eq_getElem h]

theorem sizeL_take_le (L : List (List Int)) (k : Nat) : sizeL (L.take k) ≤ sizeL L := by
  conv => rhs; rw [← List.take_append_drop k L]
  unfold sizeL
  rw [List.map_append, List.sum_append]
  omega

/-- What a size function answers. -/
def leftOf (left : Int) (s : Nat) : Int := if (s : Int) ≤ left then left - s else -1

theorem ret_int {a b : Int} (h : a = b) : Ending.returned (.int .i64 a) = .returned (.int .i64 b) := by rw [h]

theorem szInt_any (a : Option Addr) (n c : Nat) (left : Int) (w : World) (hn : n ≤ maxLen) (h0 : 0 ≤ left) (h1 : left ≤ 1048576) :
    Calls Try.prog 83 #[.slice a n c, .int .i64 left] w fun e w' => e = .returned (.int .i64 (leftOf left n)) ∧ w' = w := by
  have hmx : (n : Int) ≤ 9223372036854775807 := by unfold maxLen at hn; omega
  by_cases h : (n : Int) ≤ left
  · have HS := hide (show leftOf left n = left - n from if_pos h)
    go_enter Try.func83, Try.ntmps83
    go_wp2
    go_ret
    exact ⟨ret_int HS.out.symm, rfl⟩
  · have HS := hide (show leftOf left n = -1 from if_neg h)
    go_enter Try.func83, Try.ntmps83
    go_wp2
    go_ret
    exact ⟨ret_int HS.out.symm, rfl⟩

theorem leftOf_neg {left : Int} {s : Nat} (h : leftOf left s < 0) : left < s := by
  unfold leftOf at h; split at h <;> omega
theorem leftOf_pos {left : Int} {s : Nat} (h : ¬ leftOf left s < 0) : (s : Int) ≤ left ∧ leftOf left s = left - s := by
  unfold leftOf at *; split at h <;> first | omega | (rename_i h'; rw [if_pos h']; exact ⟨h', rfl⟩)

theorem leftOf_add {left : Int} {s t : Nat} (h : ¬ leftOf left s < 0) : leftOf (leftOf left s) t = leftOf left (s + t) := by
  have ⟨h1, h2⟩ := leftOf_pos h
  rw [h2]; unfold leftOf
  by_cases h3 : (t : Int) ≤ left - s
  · rw [if_pos h3, if_pos (by omega)]; omega
  · rw [if_neg h3, if_neg (by omega)]

theorem leftOf_neg_add {left : Int} {s : Nat} (t : Nat) (h : leftOf left s < 0) : leftOf left (s + t) = -1 := by
  have := leftOf_neg h
  unfold leftOf; rw [if_neg (by omega)]

set_option maxHeartbeats 400000 in
theorem szTri_any (a0 a1 a2 : Option Addr) (n0 n1 n2 c0 c1 c2 : Nat) (left : Int) (w : World) (h0 : n0 ≤ maxLen) (h1 : n1 ≤ maxLen) (h2 : n2 ≤ maxLen) (hl0 : 0 ≤ left) (hl1 : left ≤ 1048576) :
    Calls Try.prog 64 #[.agg #[.slice a0 n0 c0, .slice a1 n1 c1, .slice a2 n2 c2], .int .i64 left] w fun e w' => e = .returned (.int .i64 (leftOf left (n0 + n1 + n2))) ∧ w' = w.alloc (.cells #[.slice a0 n0 c0, .slice a1 n1 c1, .slice a2 n2 c2] 97) := by
  go_enter Try.func64, Try.ntmps64
  go_wp2_with fail
  refine (szInt_any _ _ _ _ _ h0 hl0 hl1).mono ?_
  rintro e w' ⟨rfl, rfl⟩
  by_cases g0 : leftOf left n0 < 0
  · have HS := hide (leftOf_neg_add (n1 + n2) g0)
    rw [← Nat.add_assoc] at HS
    generalize leftOf left n0 = l0 at *
    go_wp2_with fail
    go_ret
    exact ⟨ret_int HS.out.symm, rfl⟩
  have HA := hide (leftOf_add (t := n1) g0)
  have hq := leftOf_pos g0
  have hl2 : 0 ≤ leftOf left n0 := by omega
  have hl3 : leftOf left n0 ≤ 1048576 := by omega
  generalize leftOf left n0 = l0 at *
  clear hq
  go_wp2_with fail
  refine (szInt_any _ _ _ _ _ h1 hl2 hl3).mono ?_
  rintro e w' ⟨rfl, rfl⟩
  rw [HA.out]
  clear HA
  by_cases g1 : leftOf left (n0 + n1) < 0
  · have HS := hide (leftOf_neg_add n2 g1)
    generalize leftOf left (n0 + n1) = l1 at *
    go_wp2_with fail
    go_ret
    exact ⟨ret_int HS.out.symm, rfl⟩
  have HA := hide (leftOf_add (t := n2) g1)
  have hq := leftOf_pos g1
  have hl4 : 0 ≤ leftOf left (n0 + n1) := by omega
  have hl5 : leftOf left (n0 + n1) ≤ 1048576 := by omega
  generalize leftOf left (n0 + n1) = l1 at *
  clear hq
  go_wp2_with fail
  refine (szInt_any _ _ _ _ _ h2 hl4 hl5).mono ?_
  rintro e w' ⟨rfl, rfl⟩
  rw [HA.out]
  clear HA
  by_cases g2 : leftOf left (n0 + n1 + n2) < 0
  · have HS := hide (leftOf_neg_add 0 g2)
    rw [Nat.add_zero] at HS
    obtain ⟨l2, hl2'⟩ : ∃ l2, Hid (leftOf left (n0 + n1 + n2) = l2) := ⟨_, rfl⟩
    rw [hl2'.out] at g2 ⊢
    go_wp2_with fail
    go_ret
    exact ⟨ret_int HS.out.symm, rfl⟩
  obtain ⟨l2, hl2'⟩ : ∃ l2, Hid (leftOf left (n0 + n1 + n2) = l2) := ⟨_, rfl⟩
  rw [hl2'.out] at g2 ⊢
  go_wp2_with fail
  go_ret
  exact ⟨ret_int hl2'.out.symm, rfl⟩

theorem rangeAt_cells3 {w : World} {b o : Nat} {v0 v1 v2 : Value} (h : w.rangeAt b o [v0, v1, v2]) : w.cell? ⟨b, o, none⟩ = some v0 ∧ w.cell? ⟨b, o + 1, none⟩ = some v1 ∧ w.cell? ⟨b, o + 2, none⟩ = some v2 :=
  ⟨h 0 _ rfl, h 1 _ rfl, h 2 _ rfl⟩

theorem Try.size97 : (Try.prog.info? 97).map (·.size) = some 3 := by kernel_rfl

set_option maxHeartbeats 400000 in
theorem szTris_any (a : Option Addr) (n c : Nat) (L : List (List Int)) (left : Int) (w : World) (h : Lists w a (3 * n) L) (hn : n ≤ maxLen) (hl0 : 0 ≤ left) (hl1 : left ≤ 1048576) :
    Calls Try.prog 36 #[.slice a n c, .int .i64 left] w fun e w' => e = .returned (.int .i64 (leftOf left (sizeN n L))) ∧ Below w.heap.size w w' := by
  have hmx : (n : Int) ≤ 9223372036854775807 := by unfold maxLen at hn; omega
  by_cases h0 : (n : Int) ≤ left
  rotate_left
  · have HS := hide (show leftOf left (sizeN n L) = -1 by unfold leftOf sizeN; rw [if_neg (by omega)])
    clear h
    go_enter Try.func36, Try.ntmps36
    go_wp2_with fail
    go_ret
    exact ⟨ret_int HS.out.symm, Below.refl _ _⟩
  have HL := hide h
  clear h
  go_enter Try.func36, Try.ntmps36
  go_wp2_with fail
  go_loopw [1, 5] (fun t i wr => ∃ k : Nat, k ≤ n ∧ i = .int .i64 k ∧ t = .int .i64 (left - (n + sizeL (L.take (3 * k)) : Nat)) ∧ Hid ((((n + sizeL (L.take (3 * k)) : Nat)) : Int) ≤ left) ∧ Hid (Below w.heap.size w wr)) (fun _ i _ => n - (intOf i).toNat)
  case atStart => exact ⟨0, Nat.zero_le _, rfl, by simp [sizeL], by simpa [Hid, sizeL] using h0, Below.refl _ _⟩
  case round =>
    obtain ⟨k, hk, rfl, rfl, hle, hbw⟩ := hrel
    obtain ⟨s, hs⟩ : ∃ s : Nat, Hid (n + sizeL (L.take (3 * k)) = s) := ⟨_, rfl⟩
    rw [hs.out] at hle ⊢
    by_cases hlt : k < n
    · obtain ⟨b, off, a0, n0, c0, a1, n1, c1, a2, n2, c2, rfl, hb, ht⟩ := (HL.out.below hbw.out).tri hlt
      obtain ⟨hr, m0, m1, m2, r0, r1, r2⟩ := ht
      obtain ⟨hc0, hc1, hc2⟩ := rangeAt_cells3 hr
      have hl := HL.out.1
      have e0 := sizeL_take_succ L (3 * k) (by omega)
      have e1 := sizeL_take_succ L (3 * k + 1) (by omega)
      have e2 := sizeL_take_succ L (3 * k + 2) (by omega)
      have HE : Hid (n + sizeL (L.take (3 * (k + 1))) = s + (n0 + n1 + n2)) := by
        show n + sizeL (L.take (3 * (k + 1))) = s + (n0 + n1 + n2)
        rw [show 3 * (k + 1) = 3 * k + 2 + 1 by omega, e2, e1, e0, r0.1, r1.1, r2.1, ← hs.out]; omega
      have HE2 : Hid (n + sizeL (L.take (3 * (k + 1))) ≤ sizeN n L) := by
        show _ ≤ _
        unfold sizeN
        have := sizeL_take_le L (3 * (k + 1))
        omega
      clear e0 e1 e2 hr r0 r1 r2 hl hs
      have hz0 : 0 ≤ left - s := by have := hle.out; omega
      have hz1 : left - s ≤ 1048576 := by omega
      go_wp2_with fail
      refine (szTri_any _ _ _ _ _ _ _ _ _ _ _ m0 m1 m2 hz0 hz1).mono ?_
      rintro e w' ⟨rfl, rfl⟩
      have HB := hide (hbw.out.trans ((below_al wr (.cells #[.slice a0 n0 c0, .slice a1 n1 c1, .slice a2 n2 c2] 97)).mono hbw.out.size))
      by_cases g : leftOf (left - s) (n0 + n1 + n2) < 0
      · have HS : Hid (leftOf left (sizeN n L) = -1) := by
          show leftOf left (sizeN n L) = -1
          have h1 := leftOf_neg g
          have h2 := HE.out
          have h3 := HE2.out
          unfold leftOf; rw [if_neg (by omega)]
        generalize leftOf (left - s) (n0 + n1 + n2) = l0 at *
        clear hc0 hc1 hc2
        go_wp2_with fail
        go_ret
        exact ⟨ret_int HS.out.symm, HB.out⟩
      · have hq := leftOf_pos g
        rw [hq.2] at g ⊢
        have HQ := hide hq.1
        clear hq hc0 hc1 hc2
        have HR : Hid ((((n + sizeL (L.take (3 * (k + 1))) : Nat)) : Int) ≤ left) := by
          show _ ≤ _
          rw [HE.out]; have := HQ.out; omega
        have HV : Hid (left - s - ((n0 + n1 + n2 : Nat) : Int) = left - ((n + sizeL (L.take (3 * (k + 1))) : Nat) : Int)) := by
          show _ = _
          rw [HE.out]; omega
        generalize left - s - ((n0 + n1 + n2 : Nat) : Int) = l0 at *
        go_wp2_with fail
        go_roundw
        case rel => exact ⟨k + 1, by omega, by go_num, by rw [HV.out], HR, HB⟩
        case measure => simp [intOf]; omega
    · have hk' : k = n := by omega
      subst hk'
      have HS : Hid (leftOf left (sizeN k L) = left - s) := by
        show leftOf left (sizeN k L) = left - s
        have h1 := hs.out
        rw [List.take_of_length_le (by have := HL.out.1; omega)] at h1
        unfold sizeN; rw [h1]; exact if_pos hle.out
      go_wp2_with fail
      go_ret
      exact ⟨ret_int HS.out.symm, hbw.out⟩

set_option maxHeartbeats 400000 in
theorem szNet_any (p : Int) (a : Option Addr) (n c : Nat) (L : List (List Int)) (w : World) (h : Lists w a (3 * n) L) (hn : n ≤ maxLen) :
    Calls Try.prog 14 #[.agg #[.int .i64 p, .slice a n c], .int .i64 1048576] w fun e w' => e = .returned (.int .i64 (leftOf 1048576 (sizeN n L))) ∧ Below w.heap.size w w' := by
  have HL := hide (h.below (below_al w (.cells #[.int .i64 p, .slice a n c] 24)))
  clear h
  go_enter Try.func14, Try.ntmps14
  go_wp2_with fail
  refine (szTris_any _ _ _ L _ _ HL.out hn (by omega) (by omega)).mono ?_
  rintro e w1 ⟨rfl, hb⟩
  have HB := hide ((below_al w (.cells #[.int .i64 p, .slice a n c] 24)).trans (hb.mono (by simp)))
  clear hb
  by_cases g : leftOf 1048576 (sizeN n L) < 0
  · have HS := hide (leftOf_neg_add 0 g)
    rw [Nat.add_zero] at HS
    obtain ⟨l2, hl2'⟩ : ∃ l2, Hid (leftOf 1048576 (sizeN n L) = l2) := ⟨_, rfl⟩
    rw [hl2'.out] at g ⊢
    go_wp2_with fail
    go_ret
    exact ⟨ret_int HS.out.symm, HB.out⟩
  obtain ⟨l0, hl0⟩ : ∃ l0, Hid (leftOf 1048576 (sizeN n L) = l0) := ⟨_, rfl⟩
  rw [hl0.out] at g ⊢
  go_wp2_with fail
  go_ret
  exact ⟨ret_int hl0.out.symm, HB.out⟩
end Go.Proofs.Ytnknhjiofpjbbaa
