/- Nets in memory: a slice of transitions read as its lists, three a transition; how an argument is opened to that; what the size functions answer. -/
import Derived.Test.YtbobppcnmpiacaaBase
import Derived.Deep.MidRow
import Derived.Deep.Slices
import Derived.Deep.Strs
import Derived.Lib.SmallJoins
import Derived.ProofKit
namespace Go.Proofs.Ytbobppcnmpiacaa
open Go.RowKit

/-- A row of slices of integers reads as the lists L. -/
def Lists (w : World) (a : Option Addr) (n : Nat) (L : List (List Int)) : Prop :=
  L.length = n ∧ (n = 0 ∨ ∃ b off, a = some ⟨b, off, none⟩ ∧ b < w.heap.size ∧ ∀ j, j < n → ∃ a' n' c', w.cell? ⟨b, off + j, none⟩ = some (.slice a' n' c') ∧ n' ≤ maxLen ∧ Row w a' n' (L.getD j []))

theorem Lists.below {w w' : World} {a : Option Addr} {n : Nat} {L : List (List Int)} (h : Lists w a n L) (hb : Below w.heap.size w w') : Lists w' a n L := by
  refine ⟨h.1, ?_⟩
  rcases h.2 with h0 | ⟨b, off, e, hl, hc⟩
  · exact .inl h0
  · refine .inr ⟨b, off, e, Nat.lt_of_lt_of_le hl hb.size, fun j hj => ?_⟩
    obtain ⟨a', n', c', h1, h2, h3⟩ := hc j hj
    exact ⟨a', n', c', (hb.cell (p := ⟨b, off + j, none⟩) hl).trans h1, h2, h3.below hb⟩

/-- The lists of a transition lie in three cells. -/
def Tri (w : World) (b o : Nat) (a0 a1 a2 : Option Addr) (n0 n1 n2 c0 c1 c2 : Nat) (x0 x1 x2 : List Int) : Prop :=
  w.rangeAt b o [.slice a0 n0 c0, .slice a1 n1 c1, .slice a2 n2 c2] ∧ n0 ≤ maxLen ∧ n1 ≤ maxLen ∧ n2 ≤ maxLen ∧ Row w a0 n0 x0 ∧ Row w a1 n1 x1 ∧ Row w a2 n2 x2

theorem Lists.tri {w : World} {a : Option Addr} {n : Nat} {L : List (List Int)} (h : Lists w a (3 * n) L) {k : Nat} (hk : k < n) :
    ∃ b off a0 n0 c0 a1 n1 c1 a2 n2 c2, a = some ⟨b, off, none⟩ ∧ b < w.heap.size ∧ Tri w b (off + k * 3) a0 a1 a2 n0 n1 n2 c0 c1 c2 (L.getD (3 * k) []) (L.getD (3 * k + 1) []) (L.getD (3 * k + 2) []) := by
  rcases h.2 with h0 | ⟨b, off, e, hl, hc⟩
  · omega
  · obtain ⟨a0, n0, c0, h1, h2, h3⟩ := hc (3 * k) (by omega)
    obtain ⟨a1, n1, c1, h4, h5, h6⟩ := hc (3 * k + 1) (by omega)
    obtain ⟨a2, n2, c2, h7, h8, h9⟩ := hc (3 * k + 2) (by omega)
    refine ⟨b, off, a0, n0, c0, a1, n1, c1, a2, n2, c2, e, hl, ?_, h2, h5, h8, h3, h6, h9⟩
    rw [Nat.mul_comm k 3]
    intro j v hv
    match j, hv with
    | 0, hv => simp at hv; subst hv; exact h1
    | 1, hv => simp at hv; subst hv; exact h4
    | 2, hv => simp at hv; subst hv; exact h7
    | (q + 3), hv => simp at hv

theorem below_al (w : World) (o : Obj) : Below w.heap.size w (w.alloc o) := (Below.refl _ _).alloc (Nat.le_refl _) _

/-- How much the lists hold. -/
def sizeL (L : List (List Int)) : Nat := (L.map List.length).sum

def sizeN (n : Nat) (L : List (List Int)) : Nat := n + sizeL L

theorem sizeL_take_succ (L : List (List Int)) (k : Nat) (h : k < L.length) : sizeL (L.take (k + 1)) = sizeL (L.take k) + (L.getD k []).length := by
  unfold sizeL
  rw [List.take_add_one, List.getElem?_eq_getElem h, List.map_append, List.sum_append]
  simp [List.getElem?_eq_getElem h]

theorem sizeL_take_le (L : List (List Int)) (k : Nat) : sizeL (L.take k) ≤ sizeL L := by
  conv => rhs; rw [← List.take_append_drop k L]
  unfold sizeL
  rw [List.map_append, List.sum_append]
  omega

/-- What a size function answers. -/
def leftOf (left : Int) (s : Nat) : Int := if (s : Int) ≤ left then left - s else -1

theorem ret_int {a b : Int} (h : a = b) : Ending.returned (.int .i64 a) = .returned (.int .i64 b) := by rw [h]

theorem leftOf_neg {left : Int} {s : Nat} (h : leftOf left s < 0) : left < s := by
  unfold leftOf at h; split at h <;> omega
theorem leftOf_pos {left : Int} {s : Nat} (h : ¬ leftOf left s < 0) : (s : Int) ≤ left ∧ leftOf left s = left - s := by
  unfold leftOf at *; split at h <;> first | omega | (rename_i h'; rw [if_pos h']; exact ⟨h', rfl⟩)

theorem leftOf_add {left : Int} {s t : Nat} (h : ¬ leftOf left s < 0) : leftOf (leftOf left s) t = leftOf left (s + t) := by
  have ⟨h1, h2⟩ := leftOf_pos h
  rw [h2]; unfold leftOf
  by_cases h3 : (t : Int) ≤ left - s
  · rw [if_pos h3, if_pos (by omega)]; omega
  · rw [if_neg h3, if_neg (by omega)]

theorem leftOf_neg_add {left : Int} {s : Nat} (t : Nat) (h : leftOf left s < 0) : leftOf left (s + t) = -1 := by
  have := leftOf_neg h
  unfold leftOf; rw [if_neg (by omega)]

theorem rangeAt_cells3 {w : World} {b o : Nat} {v0 v1 v2 : Value} (h : w.rangeAt b o [v0, v1, v2]) : w.cell? ⟨b, o, none⟩ = some v0 ∧ w.cell? ⟨b, o + 1, none⟩ = some v1 ∧ w.cell? ⟨b, o + 2, none⟩ = some v2 :=
  ⟨h 0 _ rfl, h 1 _ rfl, h 2 _ rfl⟩

end Go.Proofs.Ytbobppcnmpiacaa
