/- Contracts that the proof stands on, one behind the other. -/
import Derived.Test.YtedbihlpggficaaP2
import Derived.Deep.MidRow
import Derived.Deep.Slices
import Derived.Deep.Strs
import Derived.Lib.SmallJoins
import Derived.ProofKit
import Derived.Laws.Tables
import Derived.Laws.ResultCell
import Derived.Deep.RegionWith
import Derived.WalkKit
import Derived.OpenShut
import Derived.ChangeOld
import Derived.Below
/- Nets in memory: a slice of transitions read as its lists, three a transition; how an argument is opened to that; what the size functions answer. -/
namespace Go.Proofs.Ytedbihlpggficaa
open Go.RowKit

/-- A row of slices of integers reads as the lists L. -/
def Lists (w : World) (a : Option Addr) (n : Nat) (L : List (List Int)) : Prop :=
  L.length = n ∧ (n = 0 ∨ ∃ b off, a = some ⟨b, off, none⟩ ∧ b < w.heap.size ∧ ∀ j, j < n → ∃ a' n' c', w.cell? ⟨b, off + j, none⟩ = some (.slice a' n' c') ∧ n' ≤ maxLen ∧ Row w a' n' (L.getD j []))

theorem Lists.below {w w' : World} {a : Option Addr} {n : Nat} {L : List (List Int)} (h : Lists w a n L) (hb : Below w.heap.size w w') : Lists w' a n L := by
  refine ⟨h.1, ?_⟩
  rcases h.2 with h0 | ⟨b, off, e, hl, hc⟩
  · exact .inl h0
  · refine .inr ⟨b, off, e, Nat.lt_of_lt_of_le hl hb.size, fun j hj => ?_⟩
    obtain ⟨a', n', c', h1, h2, h3⟩ := hc j hj
    exact ⟨a', n', c', (hb.cell (p := ⟨b, off + j, none⟩) hl).trans h1, h2, h3.below hb⟩

/-- The lists of a transition lie in three cells. -/
def Tri (w : World) (b o : Nat) (a0 a1 a2 : Option Addr) (n0 n1 n2 c0 c1 c2 : Nat) (x0 x1 x2 : List Int) : Prop :=
  w.rangeAt b o [.slice a0 n0 c0, .slice a1 n1 c1, .slice a2 n2 c2] ∧ n0 ≤ maxLen ∧ n1 ≤ maxLen ∧ n2 ≤ maxLen ∧ Row w a0 n0 x0 ∧ Row w a1 n1 x1 ∧ Row w a2 n2 x2

theorem Lists.tri {w : World} {a : Option Addr} {n : Nat} {L : List (List Int)} (h : Lists w a (3 * n) L) {k : Nat} (hk : k < n) :
    ∃ b off a0 n0 c0 a1 n1 c1 a2 n2 c2, a = some ⟨b, off, none⟩ ∧ b < w.heap.size ∧ Tri w b (off + k * 3) a0 a1 a2 n0 n1 n2 c0 c1 c2 (L.getD (3 * k) []) (L.getD (3 * k + 1) []) (L.getD (3 * k + 2) []) := by
  rcases h.2 with h0 | ⟨b, off, e, hl, hc⟩
  · omega
  · obtain ⟨a0, n0, c0, h1, h2, h3⟩ := hc (3 * k) (by omega)
    obtain ⟨a1, n1, c1, h4, h5, h6⟩ := hc (3 * k + 1) (by omega)
    obtain ⟨a2, n2, c2, h7, h8, h9⟩ := hc (3 * k + 2) (by omega)
    refine ⟨b, off, a0, n0, c0, a1, n1, c1, a2, n2, c2, e, hl, ?_, h2, h5, h8, h3, h6, h9⟩
    rw [Nat.mul_comm k 3]
    intro j v hv
    match j, hv with
    | 0, hv => simp at hv; subst hv; exact h1
    | 1, hv => simp at hv; subst hv; exact h4
    | 2, hv => simp at hv; subst hv; exact h7
    | (q + 3), hv => simp at hv

theorem below_al (w : World) (o : Obj) : Below w.heap.size w (w.alloc o) := (Below.refl _ _).alloc (Nat.le_refl _) _

/-- How much the lists hold. -/
def sizeL (L : List (List Int)) : Nat := (L.map List.length).sum

def sizeN (n : Nat) (L : List (List Int)) : Nat := n + sizeL L

theorem sizeL_take_succ (L : List (List Int)) (k : Nat) (h : k < L.length) : sizeL (L.take (k + 1)) = sizeL (L.take k) + (L.getD k []).length := by
  unfold sizeL
  rw [List.take_add_one, List.getElem?_eq_getElem h, List.map_append, List.sum_append]
  simp [List.getElem?_eq_getElem h]

theorem sizeL_take_le (L : List (List Int)) (k : Nat) : sizeL (L.take k) ≤ sizeL L := by
  conv => rhs; rw [← List.take_append_drop k L]
  unfold sizeL
  rw [List.map_append, List.sum_append]
  omega

/-- What a size function answers. -/
def leftOf (left : Int) (s : Nat) : Int := if (s : Int) ≤ left then left - s else -1

theorem ret_int {a b : Int} (h : a = b) : Ending.returned (.int .i64 a) = .returned (.int .i64 b) := by rw [h]

theorem szInt_any (a : Option Addr) (n c : Nat) (left : Int) (w : World) (hn : n ≤ maxLen) (h0 : 0 ≤ left) (h1 : left ≤ 1048576) :
    Calls Try.prog 51 #[.slice a n c, .int .i64 left] w fun e w' => e = .returned (.int .i64 (leftOf left n)) ∧ w' = w := by
  have hmx : (n : Int) ≤ 9223372036854775807 := by unfold maxLen at hn; omega
  by_cases h : (n : Int) ≤ left
  · have HS := hide (show leftOf left n = left - n from if_pos h)
    go_enter Try.func51, Try.ntmps51
    go_wp2
    go_ret
    exact ⟨ret_int HS.out.symm, rfl⟩
  · have HS := hide (show leftOf left n = -1 from if_neg h)
    go_enter Try.func51, Try.ntmps51
    go_wp2
    go_ret
    exact ⟨ret_int HS.out.symm, rfl⟩

theorem leftOf_neg {left : Int} {s : Nat} (h : leftOf left s < 0) : left < s := by
  unfold leftOf at h; split at h <;> omega
theorem leftOf_pos {left : Int} {s : Nat} (h : ¬ leftOf left s < 0) : (s : Int) ≤ left ∧ leftOf left s = left - s := by
  unfold leftOf at *; split at h <;> first | omega | (rename_i h'; rw [if_pos h']; exact ⟨h', rfl⟩)

theorem leftOf_add {left : Int} {s t : Nat} (h : ¬ leftOf left s < 0) : leftOf (leftOf left s) t = leftOf left (s + t) := by
  have ⟨h1, h2⟩ := leftOf_pos h
  rw [h2]; unfold leftOf
  by_cases h3 : (t : Int) ≤ left - s
  · rw [if_pos h3, if_pos (by omega)]; omega
  · rw [if_neg h3, if_neg (by omega)]

theorem leftOf_neg_add {left : Int} {s : Nat} (t : Nat) (h : leftOf left s < 0) : leftOf left (s + t) = -1 := by
  have := leftOf_neg h
  unfold leftOf; rw [if_neg (by omega)]

set_option maxHeartbeats 400000 in
theorem szTri_any (a0 a1 a2 : Option Addr) (n0 n1 n2 c0 c1 c2 : Nat) (left : Int) (w : World) (h0 : n0 ≤ maxLen) (h1 : n1 ≤ maxLen) (h2 : n2 ≤ maxLen) (hl0 : 0 ≤ left) (hl1 : left ≤ 1048576) :
    Calls Try.prog 81 #[.agg #[.slice a0 n0 c0, .slice a1 n1 c1, .slice a2 n2 c2], .int .i64 left] w fun e w' => e = .returned (.int .i64 (leftOf left (n0 + n1 + n2))) ∧ w' = w.alloc (.cells #[.slice a0 n0 c0, .slice a1 n1 c1, .slice a2 n2 c2] 127) := by
  go_enter Try.func81, Try.ntmps81
  go_wp2_with fail
  refine (szInt_any _ _ _ _ _ h0 hl0 hl1).mono ?_
  rintro e w' ⟨rfl, rfl⟩
  by_cases g0 : leftOf left n0 < 0
  · have HS := hide (leftOf_neg_add (n1 + n2) g0)
    rw [← Nat.add_assoc] at HS
    generalize leftOf left n0 = l0 at *
    go_wp2_with fail
    go_ret
    exact ⟨ret_int HS.out.symm, rfl⟩
  have HA := hide (leftOf_add (t := n1) g0)
  have hq := leftOf_pos g0
  have hl2 : 0 ≤ leftOf left n0 := by omega
  have hl3 : leftOf left n0 ≤ 1048576 := by omega
  generalize leftOf left n0 = l0 at *
  clear hq
  go_wp2_with fail
  refine (szInt_any _ _ _ _ _ h1 hl2 hl3).mono ?_
  rintro e w' ⟨rfl, rfl⟩
  rw [HA.out]
  clear HA
  by_cases g1 : leftOf left (n0 + n1) < 0
  · have HS := hide (leftOf_neg_add n2 g1)
    generalize leftOf left (n0 + n1) = l1 at *
    go_wp2_with fail
    go_ret
    exact ⟨ret_int HS.out.symm, rfl⟩
  have HA := hide (leftOf_add (t := n2) g1)
  have hq := leftOf_pos g1
  have hl4 : 0 ≤ leftOf left (n0 + n1) := by omega
  have hl5 : leftOf left (n0 + n1) ≤ 1048576 := by omega
  generalize leftOf left (n0 + n1) = l1 at *
  clear hq
  go_wp2_with fail
  refine (szInt_any _ _ _ _ _ h2 hl4 hl5).mono ?_
  rintro e w' ⟨rfl, rfl⟩
  rw [HA.out]
  clear HA
  by_cases g2 : leftOf left (n0 + n1 + n2) < 0
  · have HS := hide (leftOf_neg_add 0 g2)
    rw [Nat.add_zero] at HS
    obtain ⟨l2, hl2'⟩ : ∃ l2, Hid (leftOf left (n0 + n1 + n2) = l2) := ⟨_, rfl⟩
    rw [hl2'.out] at g2 ⊢
    go_wp2_with fail
    go_ret
    exact ⟨ret_int HS.out.symm, rfl⟩
  obtain ⟨l2, hl2'⟩ : ∃ l2, Hid (leftOf left (n0 + n1 + n2) = l2) := ⟨_, rfl⟩
  rw [hl2'.out] at g2 ⊢
  go_wp2_with fail
  go_ret
  exact ⟨ret_int hl2'.out.symm, rfl⟩

theorem rangeAt_cells3 {w : World} {b o : Nat} {v0 v1 v2 : Value} (h : w.rangeAt b o [v0, v1, v2]) : w.cell? ⟨b, o, none⟩ = some v0 ∧ w.cell? ⟨b, o + 1, none⟩ = some v1 ∧ w.cell? ⟨b, o + 2, none⟩ = some v2 :=
  ⟨h 0 _ rfl, h 1 _ rfl, h 2 _ rfl⟩

theorem Try.size127 : (Try.prog.info? 127).map (·.size) = some 3 := by kernel_rfl

set_option maxHeartbeats 400000 in
theorem szTris_any (a : Option Addr) (n c : Nat) (L : List (List Int)) (left : Int) (w : World) (h : Lists w a (3 * n) L) (hn : n ≤ maxLen) (hl0 : 0 ≤ left) (hl1 : left ≤ 1048576) :
    Calls Try.prog 40 #[.slice a n c, .int .i64 left] w fun e w' => e = .returned (.int .i64 (leftOf left (sizeN n L))) ∧ Below w.heap.size w w' := by
  have hmx : (n : Int) ≤ 9223372036854775807 := by unfold maxLen at hn; omega
  by_cases h0 : (n : Int) ≤ left
  rotate_left
  · have HS := hide (show leftOf left (sizeN n L) = -1 by unfold leftOf sizeN; rw [if_neg (by omega)])
    clear h
    go_enter Try.func40, Try.ntmps40
    go_wp2_with fail
    go_ret
    exact ⟨ret_int HS.out.symm, Below.refl _ _⟩
  have HL := hide h
  clear h
  go_enter Try.func40, Try.ntmps40
  go_wp2_with fail
  go_loopw [1, 5] (fun t i wr => ∃ k : Nat, k ≤ n ∧ i = .int .i64 k ∧ t = .int .i64 (left - (n + sizeL (L.take (3 * k)) : Nat)) ∧ Hid ((((n + sizeL (L.take (3 * k)) : Nat)) : Int) ≤ left) ∧ Hid (Below w.heap.size w wr)) (fun _ i _ => n - (intOf i).toNat)
  case atStart => exact ⟨0, Nat.zero_le _, rfl, by simp [sizeL], by simpa [Hid, sizeL] using h0, Below.refl _ _⟩
  case round =>
    obtain ⟨k, hk, rfl, rfl, hle, hbw⟩ := hrel
    obtain ⟨s, hs⟩ : ∃ s : Nat, Hid (n + sizeL (L.take (3 * k)) = s) := ⟨_, rfl⟩
    rw [hs.out] at hle ⊢
    by_cases hlt : k < n
    · obtain ⟨b, off, a0, n0, c0, a1, n1, c1, a2, n2, c2, rfl, hb, ht⟩ := (HL.out.below hbw.out).tri hlt
      obtain ⟨hr, m0, m1, m2, r0, r1, r2⟩ := ht
      obtain ⟨hc0, hc1, hc2⟩ := rangeAt_cells3 hr
      have hl := HL.out.1
      have e0 := sizeL_take_succ L (3 * k) (by omega)
      have e1 := sizeL_take_succ L (3 * k + 1) (by omega)
      have e2 := sizeL_take_succ L (3 * k + 2) (by omega)
      have HE : Hid (n + sizeL (L.take (3 * (k + 1))) = s + (n0 + n1 + n2)) := by
        show n + sizeL (L.take (3 * (k + 1))) = s + (n0 + n1 + n2)
        rw [show 3 * (k + 1) = 3 * k + 2 + 1 by omega, e2, e1, e0, r0.1, r1.1, r2.1, ← hs.out]; omega
      have HE2 : Hid (n + sizeL (L.take (3 * (k + 1))) ≤ sizeN n L) := by
        show _ ≤ _
        unfold sizeN
        have := sizeL_take_le L (3 * (k + 1))
        omega
      clear e0 e1 e2 hr r0 r1 r2 hl hs
      have hz0 : 0 ≤ left - s := by have := hle.out; omega
      have hz1 : left - s ≤ 1048576 := by omega
      go_wp2_with fail
      refine (szTri_any _ _ _ _ _ _ _ _ _ _ _ m0 m1 m2 hz0 hz1).mono ?_
      rintro e w' ⟨rfl, rfl⟩
      have HB := hide (hbw.out.trans ((below_al wr (.cells #[.slice a0 n0 c0, .slice a1 n1 c1, .slice a2 n2 c2] 127)).mono hbw.out.size))
      by_cases g : leftOf (left - s) (n0 + n1 + n2) < 0
      · have HS : Hid (leftOf left (sizeN n L) = -1) := by
          show leftOf left (sizeN n L) = -1
          have h1 := leftOf_neg g
          have h2 := HE.out
          have h3 := HE2.out
          unfold leftOf; rw [if_neg (by omega)]
        generalize leftOf (left - s) (n0 + n1 + n2) = l0 at *
        clear hc0 hc1 hc2
        go_wp2_with fail
        go_ret
        exact ⟨ret_int HS.out.symm, HB.out⟩
      · have hq := leftOf_pos g
        rw [hq.2] at g ⊢
        have HQ := hide hq.1
        clear hq hc0 hc1 hc2
        have HR : Hid ((((n + sizeL (L.take (3 * (k + 1))) : Nat)) : Int) ≤ left) := by
          show _ ≤ _
          rw [HE.out]; have := HQ.out; omega
        have HV : Hid (left - s - ((n0 + n1 + n2 : Nat) : Int) = left - ((n + sizeL (L.take (3 * (k + 1))) : Nat) : Int)) := by
          show _ = _
          rw [HE.out]; omega
        generalize left - s - ((n0 + n1 + n2 : Nat) : Int) = l0 at *
        go_wp2_with fail
        go_roundw
        case rel => exact ⟨k + 1, by omega, by go_num, by rw [HV.out], HR, HB⟩
        case measure => simp [intOf]; omega
    · have hk' : k = n := by omega
      subst hk'
      have HS : Hid (leftOf left (sizeN k L) = left - s) := by
        show leftOf left (sizeN k L) = left - s
        have h1 := hs.out
        rw [List.take_of_length_le (by have := HL.out.1; omega)] at h1
        unfold sizeN; rw [h1]; exact if_pos hle.out
      go_wp2_with fail
      go_ret
      exact ⟨ret_int HS.out.symm, hbw.out⟩

set_option maxHeartbeats 400000 in
theorem szNet_any (p : Int) (a : Option Addr) (n c : Nat) (L : List (List Int)) (w : World) (h : Lists w a (3 * n) L) (hn : n ≤ maxLen) :
    Calls Try.prog 9 #[.agg #[.int .i64 p, .slice a n c], .int .i64 1048576] w fun e w' => e = .returned (.int .i64 (leftOf 1048576 (sizeN n L))) ∧ Below w.heap.size w w' := by
  have HL := hide (h.below (below_al w (.cells #[.int .i64 p, .slice a n c] 24)))
  clear h
  go_enter Try.func9, Try.ntmps9
  go_wp2_with fail
  refine (szTris_any _ _ _ L _ _ HL.out hn (by omega) (by omega)).mono ?_
  rintro e w1 ⟨rfl, hb⟩
  have HB := hide ((below_al w (.cells #[.int .i64 p, .slice a n c] 24)).trans (hb.mono (by simp)))
  clear hb
  by_cases g : leftOf 1048576 (sizeN n L) < 0
  · have HS := hide (leftOf_neg_add 0 g)
    rw [Nat.add_zero] at HS
    obtain ⟨l2, hl2'⟩ : ∃ l2, Hid (leftOf 1048576 (sizeN n L) = l2) := ⟨_, rfl⟩
    rw [hl2'.out] at g ⊢
    go_wp2_with fail
    go_ret
    exact ⟨ret_int HS.out.symm, HB.out⟩
  obtain ⟨l0, hl0⟩ : ∃ l0, Hid (leftOf 1048576 (sizeN n L) = l0) := ⟨_, rfl⟩
  rw [hl0.out] at g ⊢
  go_wp2_with fail
  go_ret
  exact ⟨ret_int hl0.out.symm, HB.out⟩
end Go.Proofs.Ytedbihlpggficaa


/- What toTrans, toTransS and toNet make: a net of the same lists, all in blocks of their own; and what eqTrans, eqTransS and eqNet answer. -/
namespace Go.Proofs.Ytedbihlpggficaa
open Go.RowKit

/-- Three lists in blocks of their own. -/
def Tri3 (w w' : World) (e : Ending) (x0 x1 x2 : List Int) : Prop :=
  ∃ b0 b1 b2, e = .returned (.agg #[.slice (some ⟨b0, 0, none⟩) x0.length x0.length, .slice (some ⟨b1, 0, none⟩) x1.length x1.length, .slice (some ⟨b2, 0, none⟩) x2.length x2.length]) ∧ w.heap.size ≤ b0 ∧ b0 < b1 ∧ b1 < b2 ∧ b2 < w'.heap.size ∧
    w'.heap[b0]? = some (.cells (cellsOf x0) 3 (0, 0)) ∧ w'.heap[b1]? = some (.cells (cellsOf x1) 3 (0, 0)) ∧ w'.heap[b2]? = some (.cells (cellsOf x2) 3 (0, 0)) ∧ Below w.heap.size w w'

theorem heap_al_old (w : World) (o : Obj) (k : Nat) (h : k < w.heap.size) : (w.alloc o).heap[k]? = w.heap[k]? := (below_al w o).block k h

theorem tri3_of (w v : World) (x0 x1 x2 : List Int) (hb : Below w.heap.size w v) :
    Tri3 w (((v.alloc (.cells (cellsOf x0) 3)).alloc (.cells (cellsOf x1) 3)).alloc (.cells (cellsOf x2) 3)) (.returned (.agg #[.slice (some ⟨v.heap.size, 0, none⟩) x0.length x0.length, .slice (some ⟨v.heap.size + 1, 0, none⟩) x1.length x1.length, .slice (some ⟨v.heap.size + 1 + 1, 0, none⟩) x2.length x2.length])) x0 x1 x2 := by
  have hs := hb.size
  refine ⟨_, _, _, rfl, hs, by omega, by omega, by simp, ?_, ?_, ?_, ?_⟩
  · rw [heap_al_old _ _ _ (by simp; omega), heap_al_old _ _ _ (by simp)]; exact heap_alloc_new _ _
  · rw [heap_al_old _ _ _ (by simp)]
    have := heap_alloc_new (v.alloc (.cells (cellsOf x0) 3)) (.cells (cellsOf x1) 3)
    simpa using this
  · have := heap_alloc_new ((v.alloc (.cells (cellsOf x0) 3)).alloc (.cells (cellsOf x1) 3)) (.cells (cellsOf x2) 3)
    simpa using this
  · exact ((hb.alloc hs _).alloc (by simp; omega) _).alloc (by simp; omega) _

set_option maxHeartbeats 1000000 in
theorem toTri_any (a0 a1 a2 : Option Addr) (n0 n1 n2 c0 c1 c2 : Nat) (x0 x1 x2 : List Int) (w : World) (r0 : Row w a0 n0 x0) (r1 : Row w a1 n1 x1) (r2 : Row w a2 n2 x2) (h0 : n0 ≤ 1048576) (h1 : n1 ≤ 1048576) (h2 : n2 ≤ 1048576) :
    Calls Try.prog 83 #[.agg #[.slice a0 n0 c0, .slice a1 n1 c1, .slice a2 n2 c2]] w fun e w' => Tri3 w w' e x0 x1 x2 := by
  go_enter Try.func83, Try.ntmps83
  have R0 := hide r0
  obtain rfl := r0.1
  obtain rfl := r1.1
  obtain rfl := r2.1
  have R1 := hide r1
  have R2 := hide r2
  clear r0 r1 r2
  go_wp2_with fail
  refine (toInt_any _ _ _ x0 _ (((R0.out.alloc _).alloc _).alloc _) h0).mono ?_
  rintro e w' ⟨rfl, rfl⟩
  go_wp2_with fail
  refine (toInt_any _ _ _ x1 _ ((((R1.out.alloc _).alloc _).alloc _).alloc _) h1).mono ?_
  rintro e w' ⟨rfl, rfl⟩
  go_wp2_with fail
  refine (toInt_any _ _ _ x2 _ (((((R2.out.alloc _).alloc _).alloc _).alloc _).alloc _) h2).mono ?_
  rintro e w' ⟨rfl, rfl⟩
  go_wp2_with fail
  refine bodyPost_ret (v := .agg #[.slice (some ⟨w.heap.size + 1 + 1 + 1, 0, none⟩) x0.length x0.length, .slice (some ⟨w.heap.size + 1 + 1 + 1 + 1, 0, none⟩) x1.length x1.length, .slice (some ⟨w.heap.size + 1 + 1 + 1 + 1 + 1, 0, none⟩) x2.length x2.length]) (by simp [results, Try.results83, go_sem]) rfl ?_
  have := tri3_of w _ x0 x1 x2 ((((Below.refl w.heap.size w).alloc (Nat.le_refl _) (.cells #[.slice a0 x0.length c0, .slice a1 x1.length c1, .slice a2 x2.length c2] 127)).alloc (by simp) (.cells #[.slice (some ⟨w.heap.size + 1 + 1 + 1, 0, none⟩) x0.length x0.length, .slice (some ⟨w.heap.size + 1 + 1 + 1 + 1, 0, none⟩) x1.length x1.length, .slice (some ⟨w.heap.size + 1 + 1 + 1 + 1 + 1, 0, none⟩) x2.length x2.length] 99)).alloc (by simp; omega) (.cells #[.slice (some ⟨w.heap.size + 1 + 1 + 1, 0, none⟩) x0.length x0.length, .slice (some ⟨w.heap.size + 1 + 1 + 1 + 1, 0, none⟩) x1.length x1.length, .slice (some ⟨w.heap.size + 1 + 1 + 1 + 1 + 1, 0, none⟩) x2.length x2.length] 99))
  simpa using this

theorem run_make_many {P : Program} (t e : TypeId) (z : Value) (size bytes : Nat) (ht : P.underlying t = some (.slice e)) (hinfo : (P.info? e).map (fun i => (i.zero, i.size, i.bytes)) = some (some z, size, bytes))
    (kl kc : IntKind) (n : Nat) (hbytes : bytes * n ≤ 281474976710656) (h63 : n ≤ 9223372036854775807) (w : World) :
    (Instr.makeSlice t (.int kl (n : Int)) (.int kc (n : Int))).run P w = .ok (.slice (some ⟨w.heap.size, 0, none⟩) n n) (w.alloc (.cells (madeCells z.cells (n * size)) e)) := by
  obtain ⟨i, hi, hzz⟩ := Option.map_eq_some_iff.1 hinfo
  simp only [Prod.mk.injEq] at hzz
  obtain ⟨hz, hs, hb⟩ := hzz
  have hb' : (i.bytes : Int) * (n : Int) ≤ 281474976710656 := by
    rw [hb]
    have h : ((bytes * n : Nat) : Int) ≤ 281474976710656 := by omega
    rwa [Int.natCast_mul] at h
  have hr := run_make (P := P) w t e i z ht hi hz kl kc n n (by omega) (Int.le_refl _) hb' (by omega)
  simp only [Int.toNat_natCast, hs] at hr
  exact hr

theorem Try.info99 : (Try.prog.info? 99).map (fun i => (i.zero, i.size, i.bytes)) = some (some (.agg #[.slice none 0 0, .slice none 0 0, .slice none 0 0]), 3, 72) := by kernel_rfl

/-- The first k of n lists lie in blocks of their own, rising, behind the block B that leads to them. -/
def PartL (w : World) (B n k : Nat) (T : TypeId) (L : List (List Int)) : Prop :=
  ∃ (C : Array Value) (f : Nat → Nat), w.heap[B]? = some (.cells C T (0, 0)) ∧ C.size = n ∧
    (∀ j, j < k → C[j]? = some (.slice (some ⟨f j, 0, none⟩) (L.getD j []).length (L.getD j []).length) ∧ B < f j ∧ w.heap[f j]? = some (.cells (cellsOf (L.getD j [])) 3 (0, 0))) ∧
    (∀ i j, i < j → j < k → f i < f j)

theorem PartL.grow {w w' : World} {B n k : Nat} {T : TypeId} {L : List (List Int)} (h : PartL w B n k T L) (hb : Below w.heap.size w w') : PartL w' B n k T L := by
  obtain ⟨C, f, h1, h2, h3, h4⟩ := h
  refine ⟨C, f, (hb.block B (Array.getElem?_eq_some_iff.mp h1).1).trans h1, h2, fun j hj => ?_, h4⟩
  obtain ⟨e1, e2, e3⟩ := h3 j hj
  exact ⟨e1, e2, (hb.block _ (Array.getElem?_eq_some_iff.mp e3).1).trans e3⟩

theorem heap_set3_same {w : World} {B o : Nat} {C : Array Value} {T : TypeId} (h : w.heap[B]? = some (.cells C T (0, 0))) (v0 v1 v2 : Value) :
    (w.setCells B o [v0, v1, v2]).heap[B]? = some (.cells (((C.setIfInBounds o v0).setIfInBounds (o + 1) v1).setIfInBounds (o + 1 + 1) v2) T (0, 0)) := by
  simp only [World.setCells]
  exact heap_setCell_same _ _ _ _ _ _ (heap_setCell_same _ _ _ _ _ _ (heap_setCell_same _ _ _ _ _ _ h))

theorem heap_set3_other (w : World) (B o k : Nat) (v0 v1 v2 : Value) (h : k ≠ B) : (w.setCells B o [v0, v1, v2]).heap[k]? = w.heap[k]? := by
  simp only [World.setCells]
  rw [Below.heap_setCell _ _ _ _ h, Below.heap_setCell _ _ _ _ h, Below.heap_setCell _ _ _ _ h]

theorem size_set3 (w : World) (B o : Nat) (v0 v1 v2 : Value) : (w.setCells B o [v0, v1, v2]).heap.size = w.heap.size := by simp [World.setCells, World.setCell]

theorem below_set3 {D : Nat} {a w : World} (h : Below D a w) {B : Nat} (hB : D ≤ B) (o : Nat) (v0 v1 v2 : Value) : Below D a (w.setCells B o [v0, v1, v2]) := by
  simp only [World.setCells]
  exact ((h.setCell (p := ⟨B, o, none⟩) hB v0).setCell (p := ⟨B, o + 1, none⟩) hB v1).setCell (p := ⟨B, o + 1 + 1, none⟩) hB v2

theorem there_of_row {w : World} {B o m : Nat} {C : Array Value} {T : TypeId} (h : w.heap[B]? = some (.cells C T (0, 0))) (hm : o + m ≤ C.size) : w.there B o m := fun j hj =>
  ⟨by rw [cell_of_row w B (o + j) C T _ h, Array.getElem?_eq_getElem (by omega)]; rfl, frozen_of_row w B (o + j) C _ h⟩

theorem wpList_store3 {P : Program} {ops : Array Oper} {rest : List Oper} {op : Oper} {a : Act} {w : World} {Q : Exit → Act → World → Prop} (hgd : op.guard = none) (ty : TypeId) (x y : Operand) (ho : op.op = .store ty x y)
    (b o : Nat) (v0 v1 v2 : Value) (hx : a.eval x = .pointer (some ⟨b, o, none⟩)) (hy : a.eval y = .agg #[v0, v1, v2]) (ht : w.there b o 3) (hi : (P.info? ty).map (·.size) = some 3) (h0 : v0.oneCell' = true) (h1 : v1.oneCell' = true) (h2 : v2.oneCell' = true)
    (h : wpList P ops Q rest (a.put op.dst undef) (w.setCells b o [v0, v1, v2])) : wpList P ops Q (op :: rest) a w :=
  wpList_store_mid hgd ty x y ho b o #[v0, v1, v2] hx hy ht hi (by simp [h0, h1, h2]) h

theorem Try.size99 : (Try.prog.info? 99).map (·.size) = some 3 := by kernel_rfl

theorem PartL.step {v w : World} {B n k b0 b1 b2 : Nat} {T : TypeId} {L : List (List Int)} {x0 x1 x2 : List Int} (h : PartL v B (3 * n) (3 * k) T L) (hk : k < n) (hb : Below v.heap.size v w)
    (h0 : v.heap.size ≤ b0) (h01 : b0 < b1) (h12 : b1 < b2) (g0 : w.heap[b0]? = some (.cells (cellsOf x0) 3 (0, 0))) (g1 : w.heap[b1]? = some (.cells (cellsOf x1) 3 (0, 0))) (g2 : w.heap[b2]? = some (.cells (cellsOf x2) 3 (0, 0)))
    (e0 : L.getD (3 * k) [] = x0) (e1 : L.getD (3 * k + 1) [] = x1) (e2 : L.getD (3 * k + 2) [] = x2) :
    PartL (w.setCells B (k * 3) [.slice (some ⟨b0, 0, none⟩) x0.length x0.length, .slice (some ⟨b1, 0, none⟩) x1.length x1.length, .slice (some ⟨b2, 0, none⟩) x2.length x2.length]) B (3 * n) (3 * (k + 1)) T L := by
  obtain ⟨C, f, h1, h2, h3, h4⟩ := h
  have hB := (Array.getElem?_eq_some_iff.mp h1).1
  have hold : ∀ j, j < 3 * k → f j < v.heap.size := fun j hj => (Array.getElem?_eq_some_iff.mp (h3 j hj).2.2).1
  refine ⟨_, fun j => if j < 3 * k then f j else if j = 3 * k then b0 else if j = 3 * k + 1 then b1 else b2, heap_set3_same ((hb.block B hB).trans h1) _ _ _, by simp [h2], fun j hj => ?_, fun i j hij hj => ?_⟩
  · by_cases hj3 : j < 3 * k
    · obtain ⟨q1, q2, q3⟩ := h3 j hj3
      simp only [if_pos hj3]
      refine ⟨?_, q2, ?_⟩
      · rw [Array.getElem?_setIfInBounds_ne (by omega), Array.getElem?_setIfInBounds_ne (by omega), Array.getElem?_setIfInBounds_ne (by omega)]; exact q1
      · rw [heap_set3_other _ _ _ _ _ _ _ (by omega)]; exact (hb.block _ (hold j hj3)).trans q3
    · simp only [if_neg hj3]
      obtain rfl | rfl | rfl : j = 3 * k ∨ j = 3 * k + 1 ∨ j = 3 * k + 2 := by omega
      · rw [if_pos rfl, e0]
        refine ⟨?_, by omega, ?_⟩
        · rw [Array.getElem?_setIfInBounds_ne (by omega), Array.getElem?_setIfInBounds_ne (by omega), Array.getElem?_setIfInBounds, if_pos (by omega), if_pos (by omega)]
        · rw [heap_set3_other _ _ _ _ _ _ _ (by omega)]; exact g0
      · rw [if_neg (by omega), if_pos rfl, e1]
        refine ⟨?_, by omega, ?_⟩
        · rw [Array.getElem?_setIfInBounds_ne (by omega), Array.getElem?_setIfInBounds, if_pos (by omega), if_pos (by simp; omega)]
        · rw [heap_set3_other _ _ _ _ _ _ _ (by omega)]; exact g1
      · rw [if_neg (by omega), if_neg (by omega), e2]
        refine ⟨?_, by omega, ?_⟩
        · rw [Array.getElem?_setIfInBounds, if_pos (by omega), if_pos (by simp; omega)]
        · rw [heap_set3_other _ _ _ _ _ _ _ (by omega)]; exact g2
  · have := h4 i j hij
    by_cases hi3 : i < 3 * k
    · have := hold i hi3
      simp only [if_pos hi3]
      repeat' split
      all_goals omega
    · simp only [if_neg hi3, if_neg (show ¬ j < 3 * k by omega)]
      repeat' split
      all_goals omega

theorem len_le (L : List (List Int)) (j : Nat) : (L.getD j []).length ≤ sizeL L := by
  by_cases h : j < L.length
  · have h1 := sizeL_take_succ L j h
    have h2 := sizeL_take_le L (j + 1)
    omega
  · simp [List.getD_eq_getElem?_getD, List.getElem?_eq_none (show L.length ≤ j by omega)]

set_option maxHeartbeats 1000000 in
theorem toTris_any (a : Option Addr) (n c : Nat) (L : List (List Int)) (w : World) (h : Lists w a (3 * n) L) (hs : sizeN n L ≤ 1048576) :
    Calls Try.prog 43 #[.slice a n c] w fun e w' => e = .returned (.slice (some ⟨w.heap.size, 0, none⟩) n n) ∧ PartL w' w.heap.size (3 * n) (3 * n) 99 L ∧ Below w.heap.size w w' := by
  have hn : n ≤ 1048576 := by unfold sizeN at hs; omega
  have hmk := run_make_many (P := Try.prog) 33 99 _ 3 72 Try.underlying33 Try.info99 .i64 .i64 n (by omega) (by omega)
  simp only [Value.cells] at hmk
  have HL := hide h
  clear h
  go_enter Try.func43, Try.ntmps43
  go_wp2_with fail
  go_loopw [4] (fun i wr => ∃ k : Nat, k ≤ n ∧ i = .int .i64 k ∧ Hid (PartL wr w.heap.size (3 * n) (3 * k) 99 L) ∧ Hid (Below w.heap.size w wr)) (fun i _ => n - (intOf i).toNat)
  case atStart =>
    refine ⟨0, Nat.zero_le _, rfl, ⟨_, fun _ => 0, heap_alloc_new _ _, by rw [size_madeCells]; omega, fun j hj => absurd hj (by omega), fun i j _ hj => absurd hj (by omega)⟩, below_al _ _⟩
  case round =>
    obtain ⟨k, hk, rfl, hp, hbw⟩ := hrel
    by_cases hlt : k < n
    · obtain ⟨b, off, a0, n0, c0, a1, n1, c1, a2, n2, c2, rfl, hb, hr, m0, m1, m2, r0, r1, r2⟩ := (HL.out.below hbw.out).tri hlt
      obtain ⟨hc0, hc1, hc2⟩ := rangeAt_cells3 hr
      have hl0 := len_le L (3 * k)
      have hl1 := len_le L (3 * k + 1)
      have hl2 := len_le L (3 * k + 2)
      have hs' : n + sizeL L ≤ 1048576 := hs
      obtain ⟨x0, hx0⟩ : ∃ x, Hid (L.getD (3 * k) [] = x) := ⟨_, rfl⟩
      obtain ⟨x1, hx1⟩ : ∃ x, Hid (L.getD (3 * k + 1) [] = x) := ⟨_, rfl⟩
      obtain ⟨x2, hx2⟩ : ∃ x, Hid (L.getD (3 * k + 2) [] = x) := ⟨_, rfl⟩
      rw [hx0.out] at r0 hl0
      rw [hx1.out] at r1 hl1
      rw [hx2.out] at r2 hl2
      have q0 : n0 ≤ 1048576 := by have := r0.1; omega
      have q1 : n1 ≤ 1048576 := by have := r1.1; omega
      have q2 : n2 ≤ 1048576 := by have := r2.1; omega
      have HT := hide (toTri_any a0 a1 a2 n0 n1 n2 c0 c1 c2 _ _ _ wr r0 r1 r2 q0 q1 q2)
      clear hr r0 r1 r2 hmk hl0 hl1 hl2 q0 q1 q2 hs'
      go_wp2_with fail
      refine HT.out.mono ?_
      rintro e w' ⟨b0, b1, b2, rfl, hb0, hb1, hb2, hb3, g0, g1, g2, hbb⟩
      have HP := hide (hp.out.step hlt hbb hb0 hb1 hb2 g0 g1 g2 hx0.out hx1.out hx2.out)
      have HB := hide (below_set3 (hbw.out.trans (hbb.mono hbw.out.size)) (Nat.le_refl _) (k * 3) (.slice (some ⟨b0, 0, none⟩) x0.length x0.length) (.slice (some ⟨b1, 0, none⟩) x1.length x1.length) (.slice (some ⟨b2, 0, none⟩) x2.length x2.length))
      have HTH : Hid (w'.there w.heap.size (k * 3) 3) := by
        obtain ⟨C, f, h1, h2, _, _⟩ := hp.out.grow hbb
        exact there_of_row h1 (by omega)
      clear HT hb0 hb1 hb2 hb3 g0 g1 g2 hbb hx0 hx1 hx2
      go_wp2_with (refine wpList_store3 rfl 99 _ _ rfl _ _ _ _ _ rfl rfl HTH.out Try.size99 rfl rfl rfl ?_)
      go_roundw
      case rel => exact ⟨k + 1, by omega, by go_num, HP, HB⟩
      case measure => simp [intOf]; omega
    · have hk' : k = n := by omega
      subst hk'
      clear hmk
      go_wp2_with fail
      go_ret
      exact ⟨rfl, hp.out, hbw.out⟩
end Go.Proofs.Ytedbihlpggficaa


/- What toNet makes, and that eqTrans, eqTransS and eqNet answer true for nets that read the same. -/
namespace Go.Proofs.Ytedbihlpggficaa
open Go.RowKit

theorem PartL.lists {w : World} {B n : Nat} {T : TypeId} {L : List (List Int)} (h : PartL w B (3 * n) (3 * n) T L) (hl : L.length = 3 * n) (hs : sizeN n L ≤ 1048576) : Lists w (some ⟨B, 0, none⟩) (3 * n) L := by
  obtain ⟨C, f, h1, h2, h3, h4⟩ := h
  refine ⟨hl, .inr ⟨B, 0, rfl, (Array.getElem?_eq_some_iff.mp h1).1, fun j hj => ?_⟩⟩
  obtain ⟨e1, e2, e3⟩ := h3 j hj
  refine ⟨_, _, _, by rw [cell_of_row w B (0 + j) C T _ h1, Nat.zero_add]; exact e1, ?_, Own.row (B := 0) ⟨rfl, _, rfl, Nat.zero_le _, e3⟩⟩
  have := len_le L j
  unfold sizeN at hs; unfold maxLen; omega

theorem PartL.set_low {w : World} {B n k g : Nat} {T : TypeId} {L : List (List Int)} (h : PartL w B n k T L) (hg : g < B) (o : Nat) (v : Value) : PartL (w.setCell ⟨g, o, none⟩ v) B n k T L := by
  obtain ⟨C, f, h1, h2, h3, h4⟩ := h
  refine ⟨C, f, (Below.heap_setCell _ _ _ _ (show B ≠ g by omega)).trans h1, h2, fun j hj => ?_, h4⟩
  obtain ⟨e1, e2, e3⟩ := h3 j hj
  exact ⟨e1, e2, (Below.heap_setCell _ _ _ _ (show f j ≠ g by omega)).trans e3⟩

set_option maxHeartbeats 400000 in
theorem toNet_any (p : Int) (a : Option Addr) (n c : Nat) (L : List (List Int)) (w : World) (h : Lists w a (3 * n) L) (hs : sizeN n L ≤ 1048576) :
    Calls Try.prog 11 #[.agg #[.int .i64 p, .slice a n c]] w fun e w' => ∃ B, e = .returned (.agg #[.int .i64 p, .slice (some ⟨B, 0, none⟩) n n]) ∧ w.heap.size ≤ B ∧ PartL w' B (3 * n) (3 * n) 99 L ∧ Below w.heap.size w w' := by
  have HL := hide h
  clear h
  go_enter Try.func11, Try.ntmps11
  go_wp2_with fail
  have hb0 := ((below_al w (.cells #[.int .i64 p, .slice a n c] 24)).alloc (by simp) (.cells #[.int .i64 0, .slice none 0 0] 35)).alloc (by simp; omega) (.cells #[.int .i64 p, .slice none 0 0] 35)
  have HB0 := hide hb0
  clear hb0
  refine (toTris_any _ _ _ L _ (HL.out.below HB0.out) hs).mono ?_
  rintro e w' ⟨rfl, hp, hb⟩
  have hsz : (((w.alloc (.cells #[.int .i64 p, .slice a n c] 24)).alloc (.cells #[.int .i64 0, .slice none 0 0] 35)).alloc (.cells #[.int .i64 p, .slice none 0 0] 35)).heap.size = w.heap.size + 1 + 1 + 1 := by simp
  rw [hsz] at hp hb ⊢
  have g2 : w'.heap[w.heap.size + 1 + 1]? = some (.cells #[.int .i64 p, .slice none 0 0] 35 (0, 0)) := by
    rw [hb.block _ (by omega)]
    have := heap_alloc_new ((w.alloc (.cells #[.int .i64 p, .slice a n c] 24)).alloc (.cells #[.int .i64 0, .slice none 0 0] 35)) (.cells #[.int .i64 p, .slice none 0 0] 35)
    simpa using this
  have g1 : w'.heap[w.heap.size + 1]? = some (.cells #[.int .i64 0, .slice none 0 0] 35 (0, 0)) := by
    rw [hb.block _ (by omega), heap_al_old _ _ _ (by simp)]
    have := heap_alloc_new (w.alloc (.cells #[.int .i64 p, .slice a n c] 24)) (.cells #[.int .i64 0, .slice none 0 0] 35)
    simpa using this
  have c20 := cell_of_row w' (w.heap.size + 1 + 1) 0 _ _ _ g2
  have c21 := cell_of_row w' (w.heap.size + 1 + 1) 1 _ _ _ g2
  have c10 := cell_of_row w' (w.heap.size + 1) 0 _ _ _ g1
  have c11 := cell_of_row w' (w.heap.size + 1) 1 _ _ _ g1
  simp at c20 c21 c10 c11
  have f21 := frozen_of_row w' (w.heap.size + 1 + 1) 1 _ _ g2
  have f10 := frozen_of_row w' (w.heap.size + 1) 0 _ _ g1
  have f11 := frozen_of_row w' (w.heap.size + 1) 1 _ _ g1
  have HP := hide hp
  have HB := hide (HB0.out.trans (hb.mono (by omega)))
  clear hb hp g1 g2 hsz HB0
  go_wp2_with fail
  refine bodyPost_ret (v := .agg #[.int .i64 p, .slice (some ⟨w.heap.size + 1 + 1 + 1, 0, none⟩) n n]) (by simp [results, Try.results11, go_sem, c10, c11]) rfl ?_
  exact ⟨_, rfl, by omega, ((HP.out.set_low (by omega) _ _).set_low (by omega) _ _).set_low (by omega) _ _, ((HB.out.setCell (by simp; omega) _).setCell (by simp) _).setCell (by simp) _⟩

set_option maxHeartbeats 400000 in
theorem eqTri_any (a0 a1 a2 d0 d1 d2 : Option Addr) (n0 n1 n2 c0 c1 c2 m0 m1 m2 k0 k1 k2 : Nat) (x0 x1 x2 : List Int) (w : World) (r0 : Row w a0 n0 x0) (r1 : Row w a1 n1 x1) (r2 : Row w a2 n2 x2) (s0 : Row w d0 m0 x0) (s1 : Row w d1 m1 x1) (s2 : Row w d2 m2 x2)
    (h0 : n0 ≤ 1048576) (h1 : n1 ≤ 1048576) (h2 : n2 ≤ 1048576) :
    Calls Try.prog 88 #[.agg #[.slice a0 n0 c0, .slice a1 n1 c1, .slice a2 n2 c2], .agg #[.slice d0 m0 k0, .slice d1 m1 k1, .slice d2 m2 k2]] w fun e w' => e = .returned (.bool true) ∧ Below w.heap.size w w' := by
  have R0 := hide r0
  have R1 := hide r1
  have R2 := hide r2
  have S0 := hide s0
  have S1 := hide s1
  have S2 := hide s2
  have hs0 := sameB_self x0
  have hs1 := sameB_self x1
  have hs2 := sameB_self x2
  clear r0 r1 r2 s0 s1 s2
  go_enter Try.func88, Try.ntmps88
  go_wp2_with fail
  refine (eq_any _ _ _ _ _ _ x0 x0 _ ((R0.out.alloc _).alloc _) ((S0.out.alloc _).alloc _) h0).mono ?_
  rintro e w' ⟨rfl, q, rfl⟩
  go_wp2_with fail
  refine (eq_any _ _ _ _ _ _ x1 x1 _ (((R1.out.alloc _).alloc _).drewN _) (((S1.out.alloc _).alloc _).drewN _) h1).mono ?_
  rintro e w' ⟨rfl, q1, rfl⟩
  go_wp2_with fail
  refine (eq_any _ _ _ _ _ _ x2 x2 _ (((R2.out.alloc _).alloc _).drewN _) (((S2.out.alloc _).alloc _).drewN _) h2).mono ?_
  rintro e w' ⟨rfl, q2, rfl⟩
  go_wp2_with fail
  go_ret
  exact ⟨rfl, (below_two w _ _).trans ((below_drewN' _ _).mono (by simp; omega))⟩

theorem below_drew2 (w : World) (o1 o2 : Obj) (q : Nat) : Below w.heap.size w (((w.alloc o1).alloc o2).drewN q) := (below_two w _ _).trans ((below_drewN' _ _).mono (by simp; omega))

set_option maxHeartbeats 1000000 in
theorem eqTris_any (a d : Option Addr) (n c e : Nat) (L : List (List Int)) (w : World) (h : Lists w a (3 * n) L) (g : Lists w d (3 * n) L) (hs : sizeN n L ≤ 1048576) :
    Calls Try.prog 47 #[.slice a n c, .slice d n e] w fun e w' => e = .returned (.bool true) ∧ Below w.heap.size w w' := by
  have hn : n ≤ 1048576 := by unfold sizeN at hs; omega
  have hne : ((n : Int) != (n : Int)) = false := by simp
  have HL := hide h
  have HG := hide g
  clear h g
  go_enter Try.func47, Try.ntmps47
  go_wp2_with fail
  go_loopw [5] (fun i wr => ∃ k : Nat, k ≤ n ∧ i = .int .i64 k ∧ Hid (Below w.heap.size w wr)) (fun i _ => n - (intOf i).toNat)
  case atStart => exact ⟨0, Nat.zero_le _, rfl, Below.refl _ _⟩
  case round =>
    obtain ⟨k, hk, rfl, hbw⟩ := hrel
    clear hne
    by_cases hlt : k < n
    · obtain ⟨b, off, a0, n0, c0, a1, n1, c1, a2, n2, c2, rfl, hb, hr, m0, m1, m2, r0, r1, r2⟩ := (HL.out.below hbw.out).tri hlt
      obtain ⟨b', off', a0', n0', c0', a1', n1', c1', a2', n2', c2', rfl, hb', hr', m0', m1', m2', r0', r1', r2'⟩ := (HG.out.below hbw.out).tri hlt
      obtain ⟨hc0, hc1, hc2⟩ := rangeAt_cells3 hr
      obtain ⟨hc0', hc1', hc2'⟩ := rangeAt_cells3 hr'
      have hl0 := len_le L (3 * k)
      have hl1 := len_le L (3 * k + 1)
      have hl2 := len_le L (3 * k + 2)
      have hs' : n + sizeL L ≤ 1048576 := hs
      have q0 : n0 ≤ 1048576 := by have := r0.1; omega
      have q1 : n1 ≤ 1048576 := by have := r1.1; omega
      have q2 : n2 ≤ 1048576 := by have := r2.1; omega
      have HT := hide (fun q => eqTri_any a0 a1 a2 a0' a1' a2' n0 n1 n2 c0 c1 c2 n0' n1' n2' c0' c1' c2' _ _ _ (wr.drewN q) (r0.drewN q) (r1.drewN q) (r2.drewN q) (r0'.drewN q) (r1'.drewN q) (r2'.drewN q) q0 q1 q2)
      clear hr r0 r1 r2 hl0 hl1 hl2 q0 q1 q2 hs' hr' r0' r1' r2' m0 m1 m2 m0' m1' m2'
      go_wp2_with fail
      go_region_with (go_at_call 88; refine (HT.out 1).mono ?_; rintro e w1 ⟨rfl, hb1⟩; have HB := hide (hbw.out.trans (((below_drewN' wr 1).trans hb1).mono hbw.out.size)); clear hb1)
      all_goals
        clear HT
        go_wp2_with fail
        go_roundw
        case rel => exact ⟨k + 1, by omega, by go_num, HB⟩
        case measure => simp [intOf]; omega
    · have hk' : k = n := by omega
      subst hk'
      go_wp2_with fail
      go_ret
      exact ⟨rfl, hbw.out⟩

set_option maxHeartbeats 400000 in
theorem eqNet_any (p : Int) (a d : Option Addr) (n c e : Nat) (L : List (List Int)) (w : World) (h : Lists w a (3 * n) L) (g : Lists w d (3 * n) L) (hs : sizeN n L ≤ 1048576) :
    Calls Try.prog 15 #[.agg #[.int .i64 p, .slice a n c], .agg #[.int .i64 p, .slice d n e]] w fun e w' => e = .returned (.bool true) ∧ Below w.heap.size w w' := by
  have hne : (p != p) = false := by simp
  have HL := hide h
  have HG := hide g
  clear h g
  go_enter Try.func15, Try.ntmps15
  go_wp2_with fail
  have HB0 := hide (below_two w (.cells #[.int .i64 p, .slice a n c] 35) (.cells #[.int .i64 p, .slice d n e] 35))
  refine (eqTris_any _ _ _ _ _ L _ (HL.out.below HB0.out) (HG.out.below HB0.out) hs).mono ?_
  rintro e w1 ⟨rfl, hb1⟩
  have HB := hide (HB0.out.trans (hb1.mono HB0.out.size))
  clear hb1 HB0
  go_wp2_with fail
  go_ret
  exact ⟨rfl, HB.out⟩
end Go.Proofs.Ytedbihlpggficaa


/- What markTransS and markNet write: the lists of a net that lies in blocks of its own, one behind the other; nothing else. -/
namespace Go.Proofs.Ytedbihlpggficaa
open Go.RowKit

/-- Lists by their number, each in a block of its own between B and hi. -/
def PartF (w : World) (B hi n : Nat) (T : TypeId) (M : Nat → List Int) : Prop :=
  ∃ (C : Array Value) (f : Nat → Nat), w.heap[B]? = some (.cells C T (0, 0)) ∧ C.size = n ∧
    (∀ j, j < n → C[j]? = some (.slice (some ⟨f j, 0, none⟩) (M j).length (M j).length) ∧ B < f j ∧ f j < hi ∧ Blk w (some ⟨f j, 0, none⟩) (f j) (M j).length (M j)) ∧
    (∀ i j, i < j → j < n → f i < f j)

theorem PartL.bound {w : World} {B n : Nat} {T : TypeId} {L : List (List Int)} (h : PartL w B n n T L) : PartF w B w.heap.size n T (fun j => L.getD j []) := by
  obtain ⟨C, f, h1, h2, h3, h4⟩ := h
  refine ⟨C, f, h1, h2, fun j hj => ?_, h4⟩
  obtain ⟨e1, e2, e3⟩ := h3 j hj
  exact ⟨e1, e2, (Array.getElem?_eq_some_iff.mp e3).1, rfl, .inr ⟨rfl, e3⟩⟩

/-- Below lo all stands, and from hi on what was there. -/
structure Keeps (lo hi : Nat) (w w' : World) : Prop where
  bel : Below lo w w'
  top : ∀ k, hi ≤ k → k < w.heap.size → w'.heap[k]? = w.heap[k]?

theorem Keeps.refl (lo hi : Nat) (w : World) : Keeps lo hi w w := ⟨Below.refl _ _, fun _ _ _ => rfl⟩
theorem Keeps.trans {lo hi : Nat} {u v w : World} (h : Keeps lo hi u v) (g : Keeps lo hi v w) : Keeps lo hi u w :=
  ⟨h.bel.trans g.bel, fun k h1 h2 => (g.top k h1 (Nat.lt_of_lt_of_le h2 h.bel.size)).trans (h.top k h1 h2)⟩
theorem Keeps.of_only {lo hi b : Nat} {w w' : World} (h : Only b w w') (h1 : lo ≤ b) (h2 : b < hi) : Keeps lo hi w w' :=
  ⟨h.below h1, fun k hk _ => h.block k (by omega)⟩
theorem Keeps.of_below {lo hi : Nat} {w w' : World} (h : Below w.heap.size w w') (hl : lo ≤ w.heap.size) : Keeps lo hi w w' :=
  ⟨h.mono hl, fun k _ hk => h.block k hk⟩

theorem Blk.keeps {w w' : World} {a : Option Addr} {b n lo hi : Nat} {xs : List Int} (h : Blk w a b n xs) (hk : Keeps lo hi w w') (hb : hi ≤ b) : Blk w' a b n xs := by
  refine ⟨h.1, ?_⟩
  rcases h.2 with h0 | ⟨e, hh⟩
  · exact .inl h0
  · exact .inr ⟨e, (hk.top b hb (Array.getElem?_eq_some_iff.mp hh).1).trans hh⟩

theorem Blk.grow' {w w' : World} {a : Option Addr} {b n : Nat} {xs : List Int} (h : Blk w a b n xs) (hb : Below w.heap.size w w') : Blk w' a b n xs := by
  refine ⟨h.1, ?_⟩
  rcases h.2 with h0 | ⟨e, hh⟩
  · exact .inl h0
  · exact .inr ⟨e, (hb.block b (Array.getElem?_eq_some_iff.mp hh).1).trans hh⟩

theorem PartF.grow {w w' : World} {B hi n : Nat} {T : TypeId} {M : Nat → List Int} (h : PartF w B hi n T M) (hb : Below w.heap.size w w') : PartF w' B hi n T M := by
  obtain ⟨C, f, h1, h2, h3, h4⟩ := h
  refine ⟨C, f, (hb.block B (Array.getElem?_eq_some_iff.mp h1).1).trans h1, h2, fun j hj => ?_, h4⟩
  obtain ⟨e1, e2, e3, e4⟩ := h3 j hj
  exact ⟨e1, e2, e3, e4.grow' hb⟩

def updF (M : Nat → List Int) (j : Nat) (l : List Int) : Nat → List Int := fun i => if i = j then l else M i

theorem PartF.one {w : World} {B hi n : Nat} {T : TypeId} {M : Nat → List Int} (h : PartF w B hi n T M) {j : Nat} (hj : j < n) :
    ∃ b, w.cell? ⟨B, j, none⟩ = some (.slice (some ⟨b, 0, none⟩) (M j).length (M j).length) ∧ B < b ∧ b < hi ∧ Blk w (some ⟨b, 0, none⟩) b (M j).length (M j) ∧
      ∀ w' l, Blk w' (some ⟨b, 0, none⟩) b (M j).length l → Only b w w' → PartF w' B hi n T (updF M j l) := by
  obtain ⟨C, f, h1, h2, h3, h4⟩ := h
  obtain ⟨e1, e2, e3, e4⟩ := h3 j hj
  refine ⟨f j, by rw [cell_of_row w B j C T _ h1]; exact e1, e2, e3, e4, fun w' l hb ho => ?_⟩
  refine ⟨C, f, (ho.block B (by omega)).trans h1, h2, fun i hi' => ?_, h4⟩
  unfold updF
  by_cases hij : i = j
  · subst hij
    rw [if_pos rfl, hb.1]
    exact ⟨e1, e2, e3, hb⟩
  · rw [if_neg hij]
    obtain ⟨q1, q2, q3, q4⟩ := h3 i hi'
    have hne : f i ≠ f j := by
      rcases Nat.lt_or_gt_of_ne hij with h | h
      · have := h4 i j h hj; omega
      · have := h4 j i h hi'; omega
    exact ⟨q1, q2, q3, q4.only ho hne⟩

/-- How much the first k lists hold. -/
def cntF (M : Nat → List Int) : Nat → Nat
  | 0 => 0
  | k + 1 => cntF M k + (M k).length

theorem cntF_congr {M N : Nat → List Int} {k : Nat} (h : ∀ j, j < k → (M j).length = (N j).length) : cntF M k = cntF N k := by
  induction k with
  | zero => rfl
  | succ k ih => simp only [cntF]; rw [ih fun j hj => h j (by omega), h k (by omega)]

theorem cntF_mono {M : Nat → List Int} {j k : Nat} (h : j ≤ k) : cntF M j ≤ cntF M k := by
  induction k with
  | zero => have : j = 0 := by omega
            subst this; exact Nat.le_refl _
  | succ k ih =>
    by_cases e : j = k + 1
    · subst e; exact Nat.le_refl _
    · have := ih (by omega); simp only [cntF]; omega

/-- The first q lists are marked, from k0 on. -/
def markedF (k0 : Nat) (M : Nat → List Int) (q : Nat) : Nat → List Int := fun j => if j < q then seqL (k0 + cntF M j) (M j).length else M j

theorem markedF_len (k0 : Nat) (M : Nat → List Int) (q j : Nat) : (markedF k0 M q j).length = (M j).length := by
  unfold markedF; split
  · exact seqL_len _ _
  · rfl

theorem markedF_step (k0 : Nat) (M : Nat → List Int) (q : Nat) : updF (markedF k0 M q) q (seqL (k0 + cntF M q) (M q).length) = markedF k0 M (q + 1) := by
  funext j
  unfold updF markedF
  by_cases e : j = q
  · subst e; rw [if_pos rfl, if_pos (by omega)]
  · rw [if_neg e]
    by_cases h : j < q
    · rw [if_pos h, if_pos (by omega)]
    · rw [if_neg h, if_neg (by omega)]

theorem mark_step {w : World} {B hi n k0 q : Nat} {T : TypeId} {M : Nat → List Int} (h : PartF w B hi n T (markedF k0 M q)) (hq : q < n) (o : Nat) (ho : o = q) :
    ∃ b ln, Hid ((M q).length = ln) ∧ w.cell? ⟨B, o, none⟩ = some (.slice (some ⟨b, 0, none⟩) ln ln) ∧ Hid (Blk w (some ⟨b, 0, none⟩) b ln (M q)) ∧
      Hid (∀ w', Blk w' (some ⟨b, 0, none⟩) b ln (seqL (k0 + cntF M q) ln) → Only b w w' → PartF w' B hi n T (markedF k0 M (q + 1)) ∧ Keeps (B + 1) hi w w') := by
  obtain ⟨b, h1, h2, h3, h4, h5⟩ := h.one hq
  have e : markedF k0 M q q = M q := by unfold markedF; rw [if_neg (by omega)]
  rw [e] at h1 h4 h5
  subst ho
  refine ⟨b, _, rfl, h1, h4, fun w' hb ho => ⟨?_, Keeps.of_only ho (by omega) h3⟩⟩
  have := h5 w' _ hb ho
  rwa [markedF_step] at this

set_option maxHeartbeats 1000000 in
theorem markTris_any (B hi n c k0 : Nat) (T : TypeId) (M : Nat → List Int) (w : World) (h : PartF w B hi (3 * n) T M) (hs : cntF M (3 * n) ≤ 1048576) (hn : n ≤ 1048576) (hk0 : k0 ≤ 2097152) :
    Calls Try.prog 48 #[.slice (some ⟨B, 0, none⟩) n c, .int .i64 (k0 : Int)] w fun e w' => e = .returned (.int .i64 ((k0 + cntF M (3 * n) : Nat) : Int)) ∧ PartF w' B hi (3 * n) T (markedF k0 M (3 * n)) ∧ Keeps (B + 1) hi w w' := by
  have HP := hide h
  clear h
  go_enter Try.func48, Try.ntmps48
  go_wp2_with fail
  go_loopw [1, 5] (fun t i wr => ∃ k t' : Nat, k ≤ n ∧ i = .int .i64 k ∧ t = .int .i64 (t' : Int) ∧ Hid (t' = k0 + cntF M (3 * k)) ∧ Hid (PartF wr B hi (3 * n) T (markedF k0 M (3 * k))) ∧ Hid (Keeps (B + 1) hi w wr)) (fun _ i _ => n - (intOf i).toNat)
  case atStart => exact ⟨0, k0, Nat.zero_le _, rfl, rfl, rfl, by have := HP.out; exact (show markedF k0 M (3 * 0) = M from by funext j; unfold markedF; rw [if_neg (by omega)]) ▸ this, Keeps.refl _ _ _⟩
  case round =>
    obtain ⟨k, t0, hk, rfl, rfl, ht0, hp, hkp⟩ := hrel
    clear HP
    by_cases hlt : k < n
    rotate_left
    · have hk' : k = n := by omega
      subst hk'
      have HT := hide ht0.out.symm
      go_wp2_with fail
      go_ret
      exact ⟨by rw [HT.out]; rfl, hp.out, hkp.out⟩
    have HQ := hide (And.intro (cntF_mono (M := M) (show 3 * k + 1 + 1 + 1 ≤ 3 * n by omega)) (And.intro (show cntF M (3 * k + 1) = cntF M (3 * k) + (M (3 * k)).length from rfl) (And.intro (show cntF M (3 * k + 1 + 1) = cntF M (3 * k + 1) + (M (3 * k + 1)).length from rfl) (show cntF M (3 * k + 1 + 1 + 1) = cntF M (3 * k + 1 + 1) + (M (3 * k + 1 + 1)).length from rfl))))
    obtain ⟨b0, l0, hl0, hc0, hb0, st0⟩ := mark_step hp.out (show 3 * k < 3 * n by omega) (k * 3) (by omega)
    have HM0 := hide (mark_any _ b0 _ l0 t0 _ wr hb0.out (by have := HQ.out; have := hl0.out; omega) (by have := HQ.out; have := ht0.out; omega))
    go_wp2_with fail
    refine HM0.out.mono ?_
    rintro e w1 ⟨rfl, hbk, ho⟩
    rw [ht0.out] at hbk
    obtain ⟨p1, kp1⟩ := st0.out w1 hbk ho
    have HK1 := hide (hkp.out.trans kp1)
    obtain ⟨t1, ht1⟩ : ∃ t, Hid (t0 + l0 = t) := ⟨_, rfl⟩
    rw [ht1.out]
    have HT1 : Hid (t1 = k0 + cntF M (3 * k + 1)) := by show _ = _; have := HQ.out; have := hl0.out; have := ht0.out; have := ht1.out; omega
    obtain ⟨b1, l1, hl1, hc1, hb1, st1⟩ := mark_step p1 (show 3 * k + 1 < 3 * n by omega) (k * 3 + 1) (by omega)
    have HM1 := hide (mark_any _ b1 _ l1 t1 _ w1 hb1.out (by have := HQ.out; have := hl1.out; omega) (by have := HQ.out; have := HT1.out; omega))
    clear st0 HM0 hc0 hbk ho p1 kp1 hp hkp hb0
    go_wp2_with fail
    refine HM1.out.mono ?_
    rintro e w2 ⟨rfl, hbk, ho⟩
    rw [HT1.out] at hbk
    obtain ⟨p2, kp2⟩ := st1.out w2 hbk ho
    have HK2 := hide (HK1.out.trans kp2)
    obtain ⟨t2, ht2⟩ : ∃ t, Hid (t1 + l1 = t) := ⟨_, rfl⟩
    rw [ht2.out]
    have HT2 : Hid (t2 = k0 + cntF M (3 * k + 1 + 1)) := by show _ = _; have := HQ.out; have := hl1.out; have := HT1.out; have := ht2.out; omega
    obtain ⟨b2, l2, hl2, hc2, hb2, st2⟩ := mark_step p2 (show 3 * k + 1 + 1 < 3 * n by omega) (k * 3 + 2) (by omega)
    have HM2 := hide (mark_any _ b2 _ l2 t2 _ w2 hb2.out (by have := HQ.out; have := hl2.out; omega) (by have := HQ.out; have := HT2.out; omega))
    clear st1 HM1 hc1 hbk ho p2 kp2 HK1 hb1
    go_wp2_with fail
    refine HM2.out.mono ?_
    rintro e w3 ⟨rfl, hbk, ho⟩
    rw [HT2.out] at hbk
    obtain ⟨p3, kp3⟩ := st2.out w3 hbk ho
    have HK3 := hide (HK2.out.trans kp3)
    have e3 : 3 * (k + 1) = 3 * k + 1 + 1 + 1 := by omega
    have HP3 : Hid (PartF w3 B hi (3 * n) T (markedF k0 M (3 * (k + 1)))) := by
      show PartF w3 B hi (3 * n) T (markedF k0 M (3 * (k + 1)))
      rw [e3]; exact p3
    obtain ⟨t3, ht3⟩ : ∃ t, Hid (t2 + l2 = t) := ⟨_, rfl⟩
    rw [ht3.out]
    have HT3 : Hid (t3 = k0 + cntF M (3 * (k + 1))) := by
      show _ = _
      rw [e3]
      have := HQ.out; have := hl2.out; have := HT2.out; have := ht3.out; omega
    clear st2 HM2 hc2 hbk ho p3 kp3 HK2 e3 hb2
    go_wp2_with fail
    go_roundw
    case rel => exact ⟨k + 1, t3, by omega, by go_num, rfl, HT3, HP3, HK3⟩
    case measure => simp [intOf]; omega

set_option maxHeartbeats 400000 in
theorem markNet_any (p : Int) (B hi n c k0 : Nat) (T : TypeId) (M : Nat → List Int) (w : World) (h : PartF w B hi (3 * n) T M) (hs : cntF M (3 * n) ≤ 1048576) (hn : n ≤ 1048576) (hk0 : k0 ≤ 2097152) :
    Calls Try.prog 17 #[.agg #[.int .i64 p, .slice (some ⟨B, 0, none⟩) n c], .int .i64 (k0 : Int)] w fun e w' => e = .returned (.int .i64 ((k0 + cntF M (3 * n) : Nat) : Int)) ∧ PartF w' B hi (3 * n) T (markedF k0 M (3 * n)) ∧ Keeps (B + 1) hi w w' := by
  have hA := below_al w (.cells #[.int .i64 p, .slice (some ⟨B, 0, none⟩) n c] 35)
  have hlt : B < w.heap.size := by obtain ⟨C, f, h1, _⟩ := h; exact (Array.getElem?_eq_some_iff.mp h1).1
  have HT := hide (markTris_any B hi n c k0 T M _ (h.grow hA) hs hn hk0)
  have HK := hide (Keeps.of_below (lo := B + 1) (hi := hi) hA (by omega))
  obtain ⟨t0, ht0⟩ : ∃ t, Hid (k0 + cntF M (3 * n) = t) := ⟨_, rfl⟩
  rw [ht0.out] at HT ⊢
  clear h hA
  go_enter Try.func17, Try.ntmps17
  go_wp2_with fail
  refine HT.out.mono ?_
  rintro e w3 ⟨rfl, p3, kp3⟩
  have HP3 := hide p3
  have HK3 := hide (HK.out.trans kp3)
  clear p3 kp3 HT HK
  go_wp2_with fail
  go_ret
  exact ⟨rfl, HP3.out, HK3.out⟩
end Go.Proofs.Ytedbihlpggficaa


/- How a net that comes in is opened: a number and a slice whose lists can be read. -/
namespace Go.Proofs.Ytedbihlpggficaa
open Go.ChangeShapes Go.WideShapes Go.ChangeAt Go.RowKit Go.Deep Go.Joins

theorem row_of_ints {H : Type} {enc : TypeId × Value → H} {W : World} {base fuel : Nat} {v : Value} {x : DataW H × List MemPlace} (h : DataW.trod enc Try.prog W base (fun _ => true) true fuel 25 [v] = some x) :
    ∃ a n c xs, v = .slice a n c ∧ n ≤ maxLen ∧ Row W a n xs := by
  rcases open_ints Try.underlying25 Try.underlying3 (by kernel_rfl) h with ⟨hcs, _⟩ | ⟨y, l, c, zs, hcs, _, hl, hm, hz, _, hcell, _⟩
  · simp at hcs
    exact ⟨none, 0, 0, [], hcs, Nat.zero_le _, rfl, .inl rfl⟩
  · simp at hcs
    refine ⟨some y, l, c, zs.take l, hcs, by omega, ?_, ?_⟩
    · rw [List.length_take]; simp at hz; omega
    · by_cases h0 : l = 0
      · exact .inl h0
      · simp at hz
        obtain ⟨b, off, spot⟩ := y
        have hc := hcell 0 (by omega)
        have hspot : spot = none := by simpa [Addr.add] using World.cell?_spot hc
        subst hspot
        refine .inr ⟨b, off, rfl, ?_, fun i hi => ?_⟩
        · have := block_lt_of_cell hc; simpa [Addr.add] using this
        · have := hcell i (by omega)
          rw [List.getD_eq_getElem?_getD, List.getElem?_take_of_lt hi, ← List.getD_eq_getElem?_getD]
          rw [Addr.add_mid] at this
          exact this

set_option maxRecDepth 10000 in
theorem open_net {H : Type} {enc : TypeId × Value → H} {W : World} {base b0 : Nat} {r : Reach} {v : Value} {d : DataW H} {ps : List MemPlace} (hv : Value.okWide Try.prog W r b0 24 v) (h : DataW.Trod enc Try.prog W base (fun _ => true) true 24 v d ps) :
    ∃ p a n c L, v = .agg #[.int .i64 p, .slice a n c] ∧ n ≤ maxLen ∧ Lists W a (3 * n) L := by
  obtain ⟨v0, v1, y0, y1, m, rfl, _, _, h0, h1⟩ := open_agg2 Try.underlying24 (by kernel_rfl) (by kernel_rfl) hv h
  obtain ⟨p, hp, _, _⟩ := DataW.trod_int Try.underlying3 h0
  simp at hp
  subst hp
  have hC : Try.prog.cellsOf 127 = 3 := by kernel_rfl
  rcases open_slice Try.underlying22 h1 with ⟨hcs, _⟩ | ⟨a, len, cap, q, n', D, Pl, hcs, hb, hl, hm, hq, _, hel⟩
  · simp at hcs
    subst hcs
    exact ⟨p, none, 0, 0, [], rfl, Nat.zero_le _, rfl, .inl rfl⟩
  · simp at hcs
    subst hcs
    simp at hq
    subst hq
    rw [hC] at hel
    have key : ∀ i, i < len → ∃ (t : (Option Addr × Nat × Nat × List Int) × (Option Addr × Nat × Nat × List Int) × (Option Addr × Nat × Nat × List Int)),
        (W.cell? (a.add (i * 3)) = some (.slice t.1.1 t.1.2.1 t.1.2.2.1) ∧ t.1.2.1 ≤ maxLen ∧ Row W t.1.1 t.1.2.1 t.1.2.2.2) ∧
        (W.cell? ((a.add (i * 3)).add 1) = some (.slice t.2.1.1 t.2.1.2.1 t.2.1.2.2.1) ∧ t.2.1.2.1 ≤ maxLen ∧ Row W t.2.1.1 t.2.1.2.1 t.2.1.2.2.2) ∧
        (W.cell? ((a.add (i * 3)).add 2) = some (.slice t.2.2.1 t.2.2.2.1 t.2.2.2.2.1) ∧ t.2.2.2.1 ≤ maxLen ∧ Row W t.2.2.1 t.2.2.2.1 t.2.2.2.2.2) := by
      intro i hi
      obtain ⟨cs', hc1, hc2⟩ := hel i (by omega)
      obtain ⟨_, hlen, hcell⟩ := World.cells?_some hc1
      obtain ⟨y0, y1, y2, m', _, _, g0, g1, g2⟩ := trod_struct3 Try.underlying127 hc2
      match cs', hlen with
      | [u0, u1, u2], _ =>
        have k0 : Try.prog.cellsOf 25 = 1 := by kernel_rfl
        simp [k0] at g0 g1 g2
        obtain ⟨a0, n0, c0, x0, rfl, l0, r0⟩ := row_of_ints g0
        obtain ⟨a1, n1, c1, x1, rfl, l1, r1⟩ := row_of_ints g1
        obtain ⟨a2, n2, c2, x2, rfl, l2, r2⟩ := row_of_ints g2
        have w0 := hcell 0 (by omega)
        have w1 := hcell 1 (by omega)
        have w2 := hcell 2 (by omega)
        simp at w0 w1 w2
        refine ⟨((a0, n0, c0, x0), (a1, n1, c1, x1), (a2, n2, c2, x2)), ⟨by simpa [Addr.add] using w0, l0, r0⟩, ⟨w1, l1, r1⟩, ⟨w2, l2, r2⟩⟩
    obtain ⟨f, hf⟩ := choose_lt key
    refine ⟨p, some a, len, _, (List.range (3 * len)).map fun j => if j % 3 = 0 then (f (j / 3)).1.2.2.2 else if j % 3 = 1 then (f (j / 3)).2.1.2.2.2 else (f (j / 3)).2.2.2.2.2, rfl, by omega, by simp, ?_⟩
    by_cases h0 : len = 0
    · exact .inl (by omega)
    · obtain ⟨b, off, spot⟩ := a
      have hc := (hf 0 (by omega)).1.1
      have hspot : spot = none := by simpa [Addr.add] using World.cell?_spot hc
      subst hspot
      refine .inr ⟨b, off, rfl, ?_, fun j hj => ?_⟩
      · have := block_lt_of_cell hc; simpa [Addr.add] using this
      · have hj3 : j / 3 < len := by omega
        obtain ⟨q0, q1, q2⟩ := hf (j / 3) hj3
        simp only [Addr.add_mid] at q0 q1 q2
        simp only [List.getD_eq_getElem?_getD, List.getElem?_map, List.getElem?_range hj, Option.map_some, Option.getD_some]
        by_cases e0 : j % 3 = 0
        · rw [if_pos e0]
          have : off + j = off + j / 3 * 3 := by omega
          rw [this]; exact ⟨_, _, _, q0⟩
        · rw [if_neg e0]
          by_cases e1 : j % 3 = 1
          · rw [if_pos e1]
            have : off + j = off + j / 3 * 3 + 1 := by omega
            rw [this]; exact ⟨_, _, _, q1⟩
          · rw [if_neg e1]
            have : off + j = off + j / 3 * 3 + 2 := by omega
            rw [this]; exact ⟨_, _, _, q2⟩

theorem keep {v v' : World} {b : Nat} {C : Array Value} {t : TypeId} (h : v.heap[b]? = some (.cells C t (0, 0))) (hb : Below v.heap.size v v') : v'.heap[b]? = some (.cells C t (0, 0)) :=
  (hb.block b (Array.getElem?_eq_some_iff.mp h).1).trans h

theorem cells2 {v : World} {b : Nat} {x y : Value} {t : TypeId} (h : v.heap[b]? = some (.cells #[x, y] t (0, 0))) : v.cell? ⟨b, 0, none⟩ = some x ∧ v.cell? ⟨b, 1, none⟩ = some y :=
  ⟨cell_of_row v b 0 _ _ _ h, cell_of_row v b 1 _ _ _ h⟩

theorem row_lt {v : World} {b : Nat} {C : Array Value} {t : TypeId} (h : v.heap[b]? = some (.cells C t (0, 0))) : b < v.heap.size := (Array.getElem?_eq_some_iff.mp h).1
end Go.Proofs.Ytedbihlpggficaa
