/- Contracts that the proof stands on, one behind the other. -/
import Derived.Test.YtajcmamapmeglaaRows
import Derived.WalkKit
import Derived.WalkSpells
import Derived.WalkLawsBesides
import Derived.Deep.OwnRows
import Derived.Deep.QuietTactic
import Derived.BigQuiet
import Derived.Deep.MidRow
import Derived.Deep.Slices
import Derived.Deep.Strs
import Derived.Lib.SmallJoins
import Derived.ProofKit
import Derived.Laws.Tables
import Derived.Laws.ResultCell
import Derived.Deep.RegionWith
/- Contracts of the smallest functions that the laws of chapter 1 go through, for every input in every memory: l1In, l1Places, goodPlaces, toIntS, eqIntS, l1All and the specification's GoodMark answer as the plain functions below say, and write into nothing that was there. -/
namespace Go.Proofs.Ytajcmamapmeglaa
open Go.RowKit

theorem hide {p : Prop} (h : p) : Hid p := h

/-- A slice of integers reads as the list xs. -/
def Row (w : World) (a : Option Addr) (n : Nat) (xs : List Int) : Prop :=
  xs.length = n ∧ (n = 0 ∨ ∃ b off, a = some ⟨b, off, none⟩ ∧ b < w.heap.size ∧ ∀ i, i < n → w.cell? ⟨b, off + i, none⟩ = some (.int .i64 (xs.getD i 0)))

theorem Row.at {w : World} {a : Option Addr} {n : Nat} {xs : List Int} (h : Row w a n xs) {k : Nat} (hk : k < n) :
    ∃ b off x, a = some ⟨b, off, none⟩ ∧ b < w.heap.size ∧ w.cell? ⟨b, off + k, none⟩ = some (.int .i64 x) ∧ Hid (xs[k]? = some x) := by
  rcases h.2 with h0 | ⟨b, off, e, hb, hc⟩
  · omega
  · have hl := h.1
    exact ⟨b, off, _, e, hb, hc k hk, by unfold Hid; simp [List.getElem?_eq_getElem (show k < xs.length by omega)]⟩

theorem Row.below {w w' : World} {a : Option Addr} {n : Nat} {xs : List Int} (h : Row w a n xs) (hb : Below w.heap.size w w') : Row w' a n xs := by
  refine ⟨h.1, ?_⟩
  rcases h.2 with h0 | ⟨b, off, e, hl, hc⟩
  · exact .inl h0
  · exact .inr ⟨b, off, e, Nat.lt_of_lt_of_le hl hb.size, fun i hi => (hb.cell (p := ⟨b, off + i, none⟩) hl).trans (hc i hi)⟩

theorem Row.drewN {w : World} {a : Option Addr} {n : Nat} {xs : List Int} (h : Row w a n xs) (q : Nat) : Row (w.drewN q) a n xs := h

theorem drewN_two (w : World) (q r : Nat) : (w.drewN q).drewN r = w.drewN (q + r) := by simp [World.drewN, Nat.add_assoc]

theorem below_drewN' (w : World) (q : Nat) : Below w.heap.size w (w.drewN q) := ⟨rfl, rfl, rfl, Nat.le_refl _, fun _ _ => rfl⟩

/-- The cells of a list of integers. -/
def cellsOf (xs : List Int) : Array Value := (xs.map (Value.int .i64)).toArray

theorem cellsOf_at (xs : List Int) (i : Nat) (h : i < xs.length) : (cellsOf xs)[i]? = some (.int .i64 (xs.getD i 0)) := by
  simp [cellsOf, List.getElem?_map, List.getElem?_eq_getElem h]

/-- A slice that lies from the head of a block of the call's own, not frozen, and is as long as the block. -/
def Own (B : Nat) (w : World) (a : Option Addr) (n : Nat) (xs : List Int) : Prop :=
  xs.length = n ∧ ∃ b, a = some ⟨b, 0, none⟩ ∧ B ≤ b ∧ w.heap[b]? = some (.cells (cellsOf xs) 3 (0, 0))

theorem Own.row {B : Nat} {w : World} {a : Option Addr} {n : Nat} {xs : List Int} (h : Own B w a n xs) : Row w a n xs := by
  obtain ⟨hl, b, e, hB, hh⟩ := h
  refine ⟨hl, .inr ⟨b, 0, e, ?_, fun i hi => ?_⟩⟩
  · exact (Array.getElem?_eq_some_iff.mp hh).1
  · rw [cell_of_row w b (0 + i) _ _ _ hh, Nat.zero_add]
    exact cellsOf_at xs i (by omega)

theorem Row.alloc {w : World} {a : Option Addr} {n : Nat} {xs : List Int} (h : Row w a n xs) (o : Obj) : Row (w.alloc o) a n xs :=
  h.below ((Below.refl _ _).alloc (Nat.le_refl _) _)

theorem row_new (w : World) (xs : List Int) (n b : Nat) (hl : xs.length = n) (hb : b = w.heap.size) : Row (w.alloc (.cells (cellsOf xs) 3)) (some ⟨b, 0, none⟩) n xs := by
  subst hb
  exact Own.row (B := 0) ⟨hl, _, rfl, Nat.zero_le _, heap_alloc_new _ _⟩

def inB (n lo hi : Int) : Bool := decide (lo ≤ n) && decide (n ≤ hi)

theorem in_any (n lo hi : Int) (w : World) :
    Calls Try.prog 126 #[.int .i64 n, .int .i64 lo, .int .i64 hi] w fun e w' => e = .returned (.bool (inB n lo hi)) ∧ w' = w := by
  unfold inB
  by_cases h1 : lo ≤ n
  · by_cases h2 : n ≤ hi
    all_goals
      go_enter Try.func126, Try.ntmps126
      go_wp2
      go_ret
      exact ⟨by simp [h1, h2], rfl⟩
  · go_enter Try.func126, Try.ntmps126
    go_wp2
    go_ret
    exact ⟨by simp; omega, rfl⟩

theorem places_any (n : Int) (w : World) :
    Calls Try.prog 117 #[.int .i64 n] w fun e w' => e = .returned (.bool (inB n 1 16)) ∧ w' = w := by
  go_enter Try.func117, Try.ntmps117
  go_wp2_with (go_at_call 126; refine (in_any _ _ _ _).mono ?_; rintro e w' ⟨rfl, rfl⟩)
  go_ret
  exact ⟨rfl, rfl⟩

theorem goodPlaces_any (n : Int) (w : World) :
    Calls Try.prog 132 #[.int .i64 n] w fun e w' => e = .returned (.bool (inB n 1 16)) ∧ w' = w := by
  unfold inB
  by_cases h1 : 1 ≤ n
  · by_cases h2 : n ≤ 16
    all_goals
      go_enter Try.func132, Try.ntmps132
      go_wp2
      go_ret
      exact ⟨by simp [h1, h2], rfl⟩
  · go_enter Try.func132, Try.ntmps132
    go_wp2
    go_ret
    exact ⟨by simp; omega, rfl⟩

/-- The first k numbers of two lists are the same. -/
def Upto (xs ys : List Int) (k : Nat) : Prop := xs.take k = ys.take k

theorem Upto.step {xs ys : List Int} {k : Nat} {x : Int} (h : Upto xs ys k) (h1 : Hid (xs[k]? = some x)) (h2 : Hid (ys[k]? = some x)) : Upto xs ys (k + 1) := by
  unfold Upto at *
  rw [List.take_add_one, List.take_add_one, h, h1.out, h2.out]

def sameB (xs ys : List Int) : Bool := decide (xs = ys)

theorem sameB_self (xs : List Int) : sameB xs xs = true := by simp [sameB]

theorem Upto.done {xs ys : List Int} {n : Nat} (h : Upto xs ys n) (h1 : xs.length = n) (h2 : ys.length = n) : sameB xs ys = true := by
  unfold Upto at h
  rw [List.take_of_length_le (by omega), List.take_of_length_le (by omega)] at h
  simp [sameB, h]

theorem sameB_len {xs ys : List Int} (h : xs.length ≠ ys.length) : sameB xs ys = false := by
  simp only [sameB, decide_eq_false_iff_not]
  intro e; rw [e] at h; exact h rfl

theorem sameB_ne {xs ys : List Int} {k : Nat} {x y : Int} (h1 : Hid (xs[k]? = some x)) (h2 : Hid (ys[k]? = some y)) (h : ¬ x = y) : sameB xs ys = false := by
  simp only [sameB, decide_eq_false_iff_not]
  intro e; rw [e, Hid, h2.out] at h1; simp at h1; exact h h1.symm

theorem ret_bool {a b : Bool} (h : a = b) : Ending.returned (.bool a) = .returned (.bool b) := by rw [h]

theorem Try.info3 : (Try.prog.info? 3).map (fun i => (i.zero, i.size, i.bytes)) = some (some (.int .i64 0), 1, 8) := by kernel_rfl

/-- The first k cells hold the first k numbers. -/
def Fill (xs : List Int) (n k : Nat) (cs : Array Value) : Prop := cs.size = n ∧ ∀ i, i < k → cs[i]? = some (.int .i64 (xs.getD i 0))

theorem Fill.step {xs : List Int} {n k : Nat} {cs : Array Value} {x : Int} (h : Fill xs n k cs) (hk : k < n) (hx : Hid (xs[k]? = some x)) : Fill xs n (k + 1) (cs.setIfInBounds k (.int .i64 x)) := by
  obtain ⟨h1, h2⟩ := h
  refine ⟨by simp [h1], fun i hi => ?_⟩
  rw [Array.getElem?_setIfInBounds]
  by_cases e : k = i
  · subst e; rw [if_pos rfl, if_pos (by omega)]; simp [hx.out]
  · rw [if_neg e]; exact h2 i (by omega)

theorem Fill.done {xs : List Int} {n : Nat} {cs : Array Value} (h : Fill xs n n cs) (hx : xs.length = n) : cs = cellsOf xs := by
  obtain ⟨h1, h2⟩ := h
  apply Array.ext_getElem?
  intro i
  by_cases hi : i < n
  · rw [h2 i hi, cellsOf_at xs i (by omega)]
  · rw [Array.getElem?_eq_none (by omega), Array.getElem?_eq_none (by simp [cellsOf]; omega)]

end Go.Proofs.Ytajcmamapmeglaa


/- Nets in memory: a slice of transitions read as its lists, three a transition; how an argument is opened to that; what the size functions answer. -/
namespace Go.Proofs.Ytajcmamapmeglaa
open Go.RowKit

/-- A row of slices of integers reads as the lists L. -/
def Lists (w : World) (a : Option Addr) (n : Nat) (L : List (List Int)) : Prop :=
  L.length = n ∧ (n = 0 ∨ ∃ b off, a = some ⟨b, off, none⟩ ∧ b < w.heap.size ∧ ∀ j, j < n → ∃ a' n' c', w.cell? ⟨b, off + j, none⟩ = some (.slice a' n' c') ∧ n' ≤ maxLen ∧ Row w a' n' (L.getD j []))

theorem Lists.below {w w' : World} {a : Option Addr} {n : Nat} {L : List (List Int)} (h : Lists w a n L) (hb : Below w.heap.size w w') : Lists w' a n L := by
  refine ⟨h.1, ?_⟩
  rcases h.2 with h0 | ⟨b, off, e, hl, hc⟩
  · exact .inl h0
  · refine .inr ⟨b, off, e, Nat.lt_of_lt_of_le hl hb.size, fun j hj => ?_⟩
    obtain ⟨a', n', c', h1, h2, h3⟩ := hc j hj
    exact ⟨a', n', c', (hb.cell (p := ⟨b, off + j, none⟩) hl).trans h1, h2, h3.below hb⟩

/-- The lists of a transition lie in three cells. -/
def Tri (w : World) (b o : Nat) (a0 a1 a2 : Option Addr) (n0 n1 n2 c0 c1 c2 : Nat) (x0 x1 x2 : List Int) : Prop :=
  w.rangeAt b o [.slice a0 n0 c0, .slice a1 n1 c1, .slice a2 n2 c2] ∧ n0 ≤ maxLen ∧ n1 ≤ maxLen ∧ n2 ≤ maxLen ∧ Row w a0 n0 x0 ∧ Row w a1 n1 x1 ∧ Row w a2 n2 x2

theorem Lists.tri {w : World} {a : Option Addr} {n : Nat} {L : List (List Int)} (h : Lists w a (3 * n) L) {k : Nat} (hk : k < n) :
    ∃ b off a0 n0 c0 a1 n1 c1 a2 n2 c2, a = some ⟨b, off, none⟩ ∧ b < w.heap.size ∧ Tri w b (off + k * 3) a0 a1 a2 n0 n1 n2 c0 c1 c2 (L.getD (3 * k) []) (L.getD (3 * k + 1) []) (L.getD (3 * k + 2) []) := by
  rcases h.2 with h0 | ⟨b, off, e, hl, hc⟩
  · omega
  · obtain ⟨a0, n0, c0, h1, h2, h3⟩ := hc (3 * k) (by omega)
    obtain ⟨a1, n1, c1, h4, h5, h6⟩ := hc (3 * k + 1) (by omega)
    obtain ⟨a2, n2, c2, h7, h8, h9⟩ := hc (3 * k + 2) (by omega)
    refine ⟨b, off, a0, n0, c0, a1, n1, c1, a2, n2, c2, e, hl, ?_, h2, h5, h8, h3, h6, h9⟩
    rw [Nat.mul_comm k 3]
    intro j v hv
    match j, hv with
    | 0, hv => simp at hv; subst hv; exact h1
    | 1, hv => simp at hv; subst hv; exact h4
    | 2, hv => simp at hv; subst hv; exact h7
    | (q + 3), hv => simp at hv

theorem below_al (w : World) (o : Obj) : Below w.heap.size w (w.alloc o) := (Below.refl _ _).alloc (Nat.le_refl _) _

/-- How much the lists hold. -/
def sizeL (L : List (List Int)) : Nat := (L.map List.length).sum

def sizeN (n : Nat) (L : List (List Int)) : Nat := n + sizeL L

theorem sizeL_take_succ (L : List (List Int)) (k : Nat) (h : k < L.length) : sizeL (L.take (k + 1)) = sizeL (L.take k) + (L.getD k []).length := by
  unfold sizeL
  rw [List.take_add_one, List.getElem?_eq_getElem h, List.map_append, List.sum_append]
  simp [List.getElem?_eq_getElem h]

theorem sizeL_take_le (L : List (List Int)) (k : Nat) : sizeL (L.take k) ≤ sizeL L := by
  conv => rhs; rw [← List.take_append_drop k L]
  unfold sizeL
  rw [List.map_append, List.sum_append]
  omega

/-- What a size function answers. -/
def leftOf (left : Int) (s : Nat) : Int := if (s : Int) ≤ left then left - s else -1

theorem ret_int {a b : Int} (h : a = b) : Ending.returned (.int .i64 a) = .returned (.int .i64 b) := by rw [h]

theorem leftOf_neg {left : Int} {s : Nat} (h : leftOf left s < 0) : left < s := by
  unfold leftOf at h; split at h <;> omega
theorem leftOf_pos {left : Int} {s : Nat} (h : ¬ leftOf left s < 0) : (s : Int) ≤ left ∧ leftOf left s = left - s := by
  unfold leftOf at *; split at h <;> first | omega | (rename_i h'; rw [if_pos h']; exact ⟨h', rfl⟩)

theorem leftOf_add {left : Int} {s t : Nat} (h : ¬ leftOf left s < 0) : leftOf (leftOf left s) t = leftOf left (s + t) := by
  have ⟨h1, h2⟩ := leftOf_pos h
  rw [h2]; unfold leftOf
  by_cases h3 : (t : Int) ≤ left - s
  · rw [if_pos h3, if_pos (by omega)]; omega
  · rw [if_neg h3, if_neg (by omega)]

theorem leftOf_neg_add {left : Int} {s : Nat} (t : Nat) (h : leftOf left s < 0) : leftOf left (s + t) = -1 := by
  have := leftOf_neg h
  unfold leftOf; rw [if_neg (by omega)]

theorem rangeAt_cells3 {w : World} {b o : Nat} {v0 v1 v2 : Value} (h : w.rangeAt b o [v0, v1, v2]) : w.cell? ⟨b, o, none⟩ = some v0 ∧ w.cell? ⟨b, o + 1, none⟩ = some v1 ∧ w.cell? ⟨b, o + 2, none⟩ = some v2 :=
  ⟨h 0 _ rfl, h 1 _ rfl, h 2 _ rfl⟩

end Go.Proofs.Ytajcmamapmeglaa


/- What toTrans, toTransS and toNet make: a net of the same lists, all in blocks of their own; and what eqTrans, eqTransS and eqNet answer. -/
namespace Go.Proofs.Ytajcmamapmeglaa
open Go.RowKit

/-- Three lists in blocks of their own. -/
def Tri3 (w w' : World) (e : Ending) (x0 x1 x2 : List Int) : Prop :=
  ∃ b0 b1 b2, e = .returned (.agg #[.slice (some ⟨b0, 0, none⟩) x0.length x0.length, .slice (some ⟨b1, 0, none⟩) x1.length x1.length, .slice (some ⟨b2, 0, none⟩) x2.length x2.length]) ∧ w.heap.size ≤ b0 ∧ b0 < b1 ∧ b1 < b2 ∧ b2 < w'.heap.size ∧
    w'.heap[b0]? = some (.cells (cellsOf x0) 3 (0, 0)) ∧ w'.heap[b1]? = some (.cells (cellsOf x1) 3 (0, 0)) ∧ w'.heap[b2]? = some (.cells (cellsOf x2) 3 (0, 0)) ∧ Below w.heap.size w w'

theorem heap_al_old (w : World) (o : Obj) (k : Nat) (h : k < w.heap.size) : (w.alloc o).heap[k]? = w.heap[k]? := (below_al w o).block k h

theorem tri3_of (w v : World) (x0 x1 x2 : List Int) (hb : Below w.heap.size w v) :
    Tri3 w (((v.alloc (.cells (cellsOf x0) 3)).alloc (.cells (cellsOf x1) 3)).alloc (.cells (cellsOf x2) 3)) (.returned (.agg #[.slice (some ⟨v.heap.size, 0, none⟩) x0.length x0.length, .slice (some ⟨v.heap.size + 1, 0, none⟩) x1.length x1.length, .slice (some ⟨v.heap.size + 1 + 1, 0, none⟩) x2.length x2.length])) x0 x1 x2 := by
  have hs := hb.size
  refine ⟨_, _, _, rfl, hs, by omega, by omega, by simp, ?_, ?_, ?_, ?_⟩
  · rw [heap_al_old _ _ _ (by simp; omega), heap_al_old _ _ _ (by simp)]; exact heap_alloc_new _ _
  · rw [heap_al_old _ _ _ (by simp)]
    have := heap_alloc_new (v.alloc (.cells (cellsOf x0) 3)) (.cells (cellsOf x1) 3)
    simpa using this
  · have := heap_alloc_new ((v.alloc (.cells (cellsOf x0) 3)).alloc (.cells (cellsOf x1) 3)) (.cells (cellsOf x2) 3)
    simpa using this
  · exact ((hb.alloc hs _).alloc (by simp; omega) _).alloc (by simp; omega) _

theorem run_make_many {P : Program} (t e : TypeId) (z : Value) (size bytes : Nat) (ht : P.underlying t = some (.slice e)) (hinfo : (P.info? e).map (fun i => (i.zero, i.size, i.bytes)) = some (some z, size, bytes))
    (kl kc : IntKind) (n : Nat) (hbytes : bytes * n ≤ 281474976710656) (h63 : n ≤ 9223372036854775807) (w : World) :
    (Instr.makeSlice t (.int kl (n : Int)) (.int kc (n : Int))).run P w = .ok (.slice (some ⟨w.heap.size, 0, none⟩) n n) (w.alloc (.cells (madeCells z.cells (n * size)) e)) := by
  obtain ⟨i, hi, hzz⟩ := Option.map_eq_some_iff.1 hinfo
  simp only [Prod.mk.injEq] at hzz
  obtain ⟨hz, hs, hb⟩ := hzz
  have hb' : (i.bytes : Int) * (n : Int) ≤ 281474976710656 := by
    rw [hb]
    have h : ((bytes * n : Nat) : Int) ≤ 281474976710656 := by omega
    rwa [Int.natCast_mul] at h
  have hr := run_make (P := P) w t e i z ht hi hz kl kc n n (by omega) (Int.le_refl _) hb' (by omega)
  simp only [Int.toNat_natCast, hs] at hr
  exact hr

theorem Try.info106 : (Try.prog.info? 106).map (fun i => (i.zero, i.size, i.bytes)) = some (some (.agg #[.slice none 0 0, .slice none 0 0, .slice none 0 0]), 3, 72) := by kernel_rfl

/-- The first k of n lists lie in blocks of their own, rising, behind the block B that leads to them. -/
def PartL (w : World) (B n k : Nat) (T : TypeId) (L : List (List Int)) : Prop :=
  ∃ (C : Array Value) (f : Nat → Nat), w.heap[B]? = some (.cells C T (0, 0)) ∧ C.size = n ∧
    (∀ j, j < k → C[j]? = some (.slice (some ⟨f j, 0, none⟩) (L.getD j []).length (L.getD j []).length) ∧ B < f j ∧ w.heap[f j]? = some (.cells (cellsOf (L.getD j [])) 3 (0, 0))) ∧
    (∀ i j, i < j → j < k → f i < f j)

theorem PartL.grow {w w' : World} {B n k : Nat} {T : TypeId} {L : List (List Int)} (h : PartL w B n k T L) (hb : Below w.heap.size w w') : PartL w' B n k T L := by
  obtain ⟨C, f, h1, h2, h3, h4⟩ := h
  refine ⟨C, f, (hb.block B (Array.getElem?_eq_some_iff.mp h1).1).trans h1, h2, fun j hj => ?_, h4⟩
  obtain ⟨e1, e2, e3⟩ := h3 j hj
  exact ⟨e1, e2, (hb.block _ (Array.getElem?_eq_some_iff.mp e3).1).trans e3⟩

theorem heap_set3_same {w : World} {B o : Nat} {C : Array Value} {T : TypeId} (h : w.heap[B]? = some (.cells C T (0, 0))) (v0 v1 v2 : Value) :
    (w.setCells B o [v0, v1, v2]).heap[B]? = some (.cells (((C.setIfInBounds o v0).setIfInBounds (o + 1) v1).setIfInBounds (o + 1 + 1) v2) T (0, 0)) := by
  simp only [World.setCells]
  exact heap_setCell_same _ _ _ _ _ _ (heap_setCell_same _ _ _ _ _ _ (heap_setCell_same _ _ _ _ _ _ h))

theorem heap_set3_other (w : World) (B o k : Nat) (v0 v1 v2 : Value) (h : k ≠ B) : (w.setCells B o [v0, v1, v2]).heap[k]? = w.heap[k]? := by
  simp only [World.setCells]
  rw [Below.heap_setCell _ _ _ _ h, Below.heap_setCell _ _ _ _ h, Below.heap_setCell _ _ _ _ h]

theorem size_set3 (w : World) (B o : Nat) (v0 v1 v2 : Value) : (w.setCells B o [v0, v1, v2]).heap.size = w.heap.size := by simp [World.setCells, World.setCell]

theorem below_set3 {D : Nat} {a w : World} (h : Below D a w) {B : Nat} (hB : D ≤ B) (o : Nat) (v0 v1 v2 : Value) : Below D a (w.setCells B o [v0, v1, v2]) := by
  simp only [World.setCells]
  exact ((h.setCell (p := ⟨B, o, none⟩) hB v0).setCell (p := ⟨B, o + 1, none⟩) hB v1).setCell (p := ⟨B, o + 1 + 1, none⟩) hB v2

theorem there_of_row {w : World} {B o m : Nat} {C : Array Value} {T : TypeId} (h : w.heap[B]? = some (.cells C T (0, 0))) (hm : o + m ≤ C.size) : w.there B o m := fun j hj =>
  ⟨by rw [cell_of_row w B (o + j) C T _ h, Array.getElem?_eq_getElem (by omega)]; rfl, frozen_of_row w B (o + j) C _ h⟩

theorem wpList_store3 {P : Program} {ops : Array Oper} {rest : List Oper} {op : Oper} {a : Act} {w : World} {Q : Exit → Act → World → Prop} (hgd : op.guard = none) (ty : TypeId) (x y : Operand) (ho : op.op = .store ty x y)
    (b o : Nat) (v0 v1 v2 : Value) (hx : a.eval x = .pointer (some ⟨b, o, none⟩)) (hy : a.eval y = .agg #[v0, v1, v2]) (ht : w.there b o 3) (hi : (P.info? ty).map (·.size) = some 3) (h0 : v0.oneCell' = true) (h1 : v1.oneCell' = true) (h2 : v2.oneCell' = true)
    (h : wpList P ops Q rest (a.put op.dst undef) (w.setCells b o [v0, v1, v2])) : wpList P ops Q (op :: rest) a w :=
  wpList_store_mid hgd ty x y ho b o #[v0, v1, v2] hx hy ht hi (by simp [h0, h1, h2]) h

theorem Try.size106 : (Try.prog.info? 106).map (·.size) = some 3 := by kernel_rfl

theorem PartL.step {v w : World} {B n k b0 b1 b2 : Nat} {T : TypeId} {L : List (List Int)} {x0 x1 x2 : List Int} (h : PartL v B (3 * n) (3 * k) T L) (hk : k < n) (hb : Below v.heap.size v w)
    (h0 : v.heap.size ≤ b0) (h01 : b0 < b1) (h12 : b1 < b2) (g0 : w.heap[b0]? = some (.cells (cellsOf x0) 3 (0, 0))) (g1 : w.heap[b1]? = some (.cells (cellsOf x1) 3 (0, 0))) (g2 : w.heap[b2]? = some (.cells (cellsOf x2) 3 (0, 0)))
    (e0 : L.getD (3 * k) [] = x0) (e1 : L.getD (3 * k + 1) [] = x1) (e2 : L.getD (3 * k + 2) [] = x2) :
    PartL (w.setCells B (k * 3) [.slice (some ⟨b0, 0, none⟩) x0.length x0.length, .slice (some ⟨b1, 0, none⟩) x1.length x1.length, .slice (some ⟨b2, 0, none⟩) x2.length x2.length]) B (3 * n) (3 * (k + 1)) T L := by
  obtain ⟨C, f, h1, h2, h3, h4⟩ := h
  have hB := (Array.getElem?_eq_some_iff.mp h1).1
  have hold : ∀ j, j < 3 * k → f j < v.heap.size := fun j hj => (Array.getElem?_eq_some_iff.mp (h3 j hj).2.2).1
  refine ⟨_, fun j => if j < 3 * k then f j else if j = 3 * k then b0 else if j = 3 * k + 1 then b1 else b2, heap_set3_same ((hb.block B hB).trans h1) _ _ _, by simp [h2], fun j hj => ?_, fun i j hij hj => ?_⟩
  · by_cases hj3 : j < 3 * k
    · obtain ⟨q1, q2, q3⟩ := h3 j hj3
      simp only [if_pos hj3]
      refine ⟨?_, q2, ?_⟩
      · rw [Array.getElem?_setIfInBounds_ne (by omega), Array.getElem?_setIfInBounds_ne (by omega), Array.getElem?_setIfInBounds_ne (by omega)]; exact q1
      · rw [heap_set3_other _ _ _ _ _ _ _ (by omega)]; exact (hb.block _ (hold j hj3)).trans q3
    · simp only [if_neg hj3]
      obtain rfl | rfl | rfl : j = 3 * k ∨ j = 3 * k + 1 ∨ j = 3 * k + 2 := by omega
      · rw [if_pos rfl, e0]
        refine ⟨?_, by omega, ?_⟩
        · rw [Array.getElem?_setIfInBounds_ne (by omega), Array.getElem?_setIfInBounds_ne (by omega), Array.getElem?_setIfInBounds, if_pos (by omega), if_pos (by omega)]
        · rw [heap_set3_other _ _ _ _ _ _ _ (by omega)]; exact g0
      · rw [if_neg (by omega), if_pos rfl, e1]
        refine ⟨?_, by omega, ?_⟩
        · rw [Array.getElem?_setIfInBounds_ne (by omega), Array.getElem?_setIfInBounds, if_pos (by omega), if_pos (by simp; omega)]
        · rw [heap_set3_other _ _ _ _ _ _ _ (by omega)]; exact g1
      · rw [if_neg (by omega), if_neg (by omega), e2]
        refine ⟨?_, by omega, ?_⟩
        · rw [Array.getElem?_setIfInBounds, if_pos (by omega), if_pos (by simp; omega)]
        · rw [heap_set3_other _ _ _ _ _ _ _ (by omega)]; exact g2
  · have := h4 i j hij
    by_cases hi3 : i < 3 * k
    · have := hold i hi3
      simp only [if_pos hi3]
      repeat' split
      all_goals omega
    · simp only [if_neg hi3, if_neg (show ¬ j < 3 * k by omega)]
      repeat' split
      all_goals omega

theorem len_le (L : List (List Int)) (j : Nat) : (L.getD j []).length ≤ sizeL L := by
  by_cases h : j < L.length
  · have h1 := sizeL_take_succ L j h
    have h2 := sizeL_take_le L (j + 1)
    omega
  · simp [List.getD_eq_getElem?_getD, List.getElem?_eq_none (show L.length ≤ j by omega)]

end Go.Proofs.Ytajcmamapmeglaa


/- What tokensOf answers for a list of as many numbers as there are places: the array of its numbers and true just where each is in 0..50; nothing that was there is written. -/
namespace Go.Proofs.Ytajcmamapmeglaa
open Go.RowKit

/-- The array of sixteen small numbers. -/
def tokF (f : Nat → Int) : Array Value := Array.ofFn (n := 16) fun i => .int .u8 (f i.val)

theorem tokF_size (f : Nat → Int) : (tokF f).size = 16 := by simp [tokF]

theorem tokF_at (f : Nat → Int) (i : Nat) (h : i < 16) : (tokF f)[i]? = some (.int .u8 (f i)) := by
  simp [tokF, h]

theorem tokF_one (f : Nat → Int) : (tokF f).all (·.oneCell') = true := by
  rw [Array.all_eq_true]
  intro i hi
  simp [tokF, Value.oneCell']

theorem tokF_set (f g : Nat → Int) (k : Nat) (x : Int) (hx : g k = x) (he : ∀ i, i ≠ k → g i = f i) : (tokF f).setIfInBounds k (.int .u8 x) = tokF g := by
  apply Array.ext_getElem?
  intro i
  rw [Array.getElem?_setIfInBounds]
  by_cases hi : i < 16
  · rw [tokF_at _ _ hi, tokF_at _ _ hi]
    by_cases e : k = i
    · subst e; rw [if_pos rfl, if_pos (by simpa [tokF_size] using hi), hx]
    · rw [if_neg e, he i (by omega)]
  · rw [Array.getElem?_eq_none (xs := tokF g) (by simp [tokF_size]; omega)]
    split
    · rw [if_neg (by simp [tokF_size]; omega)]
    · exact Array.getElem?_eq_none (by simp [tokF_size]; omega)

/-- The first k numbers of a list, and noughts behind them. -/
def fOf (xs : List Int) (k : Nat) : Nat → Int := fun i => if i < k then xs.getD i 0 else 0

def packOf (xs : List Int) (k : Nat) : Array Value := tokF (fOf xs k)

theorem packOf_size (xs : List Int) (k : Nat) : (packOf xs k).size = 16 := tokF_size _

theorem packOf_at (xs : List Int) (k i : Nat) (h : i < 16) : (packOf xs k)[i]? = some (.int .u8 (if i < k then xs.getD i 0 else 0)) := tokF_at _ _ h

theorem packOf_zero (xs : List Int) : packOf xs 0 = #[.int .u8 0, .int .u8 0, .int .u8 0, .int .u8 0, .int .u8 0, .int .u8 0, .int .u8 0, .int .u8 0, .int .u8 0, .int .u8 0, .int .u8 0, .int .u8 0, .int .u8 0, .int .u8 0, .int .u8 0, .int .u8 0] := by
  rfl

theorem packOf_step (xs : List Int) (k : Nat) (x : Int) (hx : Hid (xs[k]? = some x)) : (packOf xs k).setIfInBounds k (.int .u8 x) = packOf xs (k + 1) := by
  refine tokF_set _ _ k x ?_ fun i hi => ?_
  · simp [fOf, hx.out]
  · unfold fOf
    by_cases h : i < k
    · rw [if_pos h, if_pos (by omega)]
    · rw [if_neg h, if_neg (by omega)]

def allB (xs : List Int) (lo hi : Int) : Bool := xs.all fun x => inB x lo hi
def goodB (p : Int) (xs : List Int) : Bool := inB p 1 16 && decide ((xs.length : Int) = p) && allB xs 0 50

theorem allB_take_succ (xs : List Int) (k : Nat) (x : Int) (h : Hid (xs[k]? = some x)) (hu : allB (xs.take k) 0 50 = true) (h0 : ¬ x < 0) (h50 : ¬ 50 < x) : allB (xs.take (k + 1)) 0 50 = true := by
  unfold allB at *
  rw [List.take_add_one, h.out, List.all_append, hu]
  simp [inB]; omega

theorem allB_not (xs : List Int) (k : Nat) (x : Int) (h : Hid (xs[k]? = some x)) (hx : x < 0 ∨ 50 < x) : allB xs 0 50 = false := by
  unfold allB
  rw [List.all_eq_false]
  exact ⟨x, List.mem_of_getElem? h.out, by simp [inB]; omega⟩

/-- How a call of tokensOf ends. -/
def TokEnd (g : Bool) (xs : List Int) (n : Nat) (w : World) (e : Ending) (w' : World) : Prop :=
  ∃ m, e = .returned (.tuple #[.agg (packOf xs m), .bool g]) ∧ Hid (g = true → m = n) ∧ Below w.heap.size w w'

theorem tokEnd_yes {g : Bool} {xs : List Int} {n : Nat} {w w' : World} (h : g = true) (hb : Below w.heap.size w w') : TokEnd g xs n w (.returned (.tuple #[.agg (packOf xs n), .bool true])) w' := by
  subst h; exact ⟨n, rfl, fun _ => rfl, hb⟩

theorem tokEnd_no {g : Bool} {xs : List Int} {n : Nat} {w w' : World} (h : g = false) (hb : Below w.heap.size w w') : TokEnd g xs n w (.returned (.tuple #[.agg #[.int .u8 0, .int .u8 0, .int .u8 0, .int .u8 0, .int .u8 0, .int .u8 0, .int .u8 0, .int .u8 0, .int .u8 0, .int .u8 0, .int .u8 0, .int .u8 0, .int .u8 0, .int .u8 0, .int .u8 0, .int .u8 0], .bool false])) w' := by
  subst h; exact ⟨0, by rw [packOf_zero], fun h => by simp at h, hb⟩

theorem below_two (w : World) (A B : Obj) : Below w.heap.size w ((w.alloc A).alloc B) :=
  ((Below.refl _ _).alloc (Nat.le_refl _) _).alloc (by simp) _

theorem below_setRow {B : Nat} {a w : World} (h : Below B a w) (g : Nat) (hg : B ≤ g) (cs : Array Value) : Below B a (w.setRow g cs) := by
  refine h.trans ⟨rfl, rfl, rfl, by simp, fun k hk => ?_⟩
  simp only [World.setRow, Array.getElem?_modify]
  rw [if_neg (by omega)]

theorem packOf_one (xs : List Int) (k : Nat) : (packOf xs k).all (·.oneCell') = true := tokF_one _

theorem Try.size74 : (Try.prog.info? 74).map (·.size) = some 16 := by kernel_rfl

theorem setRow_at (w : World) (A : Array Value) (B : Obj) (t : TypeId) (cs : Array Value) : (((w.alloc (.cells A t)).alloc B).setRow w.heap.size cs).heap[w.heap.size]? = some (.cells cs t (0, 0)) := by
  simp only [World.setRow, Array.getElem?_modify]
  rw [if_pos trivial, heap_alloc2_old]
  rfl

set_option maxRecDepth 10000 in
set_option maxHeartbeats 1000000 in
theorem tokens_run (g : Bool) (p : Int) (a : Option Addr) (n ca : Nat) (xs : List Int) (w : World) (ha : Row w a n xs) (hp : inB p 1 16 = true) (hnp : Hid ((n : Int) = p)) (h16 : n ≤ 16) (hg : Hid (g = allB xs 0 50)) :
    Calls Try.prog 85 #[.int .i64 p, .slice a n ca] w fun e w' => TokEnd g xs n w e w' := by
  have hd : ((n : Int) != p) = false := by simp [hnp.out]
  go_enter Try.func85, Try.ntmps85
  go_wp2_with (go_at_call 132; refine (goodPlaces_any _ _).mono ?_; rintro e w' ⟨rfl, rfl⟩)
  clear hp hd
  go_loopw [21] (fun i wr => ∃ k : Nat, k ≤ n ∧ i = .int .i64 k ∧ Hid (allB (xs.take k) 0 50 = true) ∧ wr = (w.alloc (.cells #[.int .u8 0, .int .u8 0, .int .u8 0, .int .u8 0, .int .u8 0, .int .u8 0, .int .u8 0, .int .u8 0, .int .u8 0, .int .u8 0, .int .u8 0, .int .u8 0, .int .u8 0, .int .u8 0, .int .u8 0, .int .u8 0] 74)).alloc (.cells (packOf xs k) 74)) (fun i _ => n - (intOf i).toNat)
  case atStart => exact ⟨0, Nat.zero_le _, rfl, rfl, by rw [packOf_zero]⟩
  case round =>
    obtain ⟨k, hk, rfl, hu, rfl⟩ := hrel
    by_cases hlt : k < n
    · obtain ⟨b1, o1, x, rfl, hl1, hc1, H1⟩ := ha.at hlt
      clear ha
      by_cases h0 : x < 0
      · have HG : Hid (g = false) := by rw [hg.out]; exact allB_not xs k x H1 (.inl h0)
        go_wp2
        exact bodyPost_ret (v := .tuple #[.agg #[.int .u8 0, .int .u8 0, .int .u8 0, .int .u8 0, .int .u8 0, .int .u8 0, .int .u8 0, .int .u8 0, .int .u8 0, .int .u8 0, .int .u8 0, .int .u8 0, .int .u8 0, .int .u8 0, .int .u8 0, .int .u8 0], .bool false]) (by simp [results, Try.results85, go_sem]) rfl (tokEnd_no HG.out (below_two _ _ _))
      · by_cases h50 : 50 < x
        · have HG : Hid (g = false) := by rw [hg.out]; exact allB_not xs k x H1 (.inr h50)
          go_wp2
          exact bodyPost_ret (v := .tuple #[.agg #[.int .u8 0, .int .u8 0, .int .u8 0, .int .u8 0, .int .u8 0, .int .u8 0, .int .u8 0, .int .u8 0, .int .u8 0, .int .u8 0, .int .u8 0, .int .u8 0, .int .u8 0, .int .u8 0, .int .u8 0, .int .u8 0], .bool false]) (by simp [results, Try.results85, go_sem]) rfl (tokEnd_no HG.out (below_two _ _ _))
        · have HU : Hid (allB (xs.take (k + 1)) 0 50 = true) := allB_take_succ xs k x H1 hu.out h0 h50
          have hst := packOf_step xs k x H1
          have hat := packOf_at xs k k (by omega)
          rw [if_neg (by omega)] at hat
          clear H1 hu
          go_wp2
          go_roundw
          case rel => exact ⟨k + 1, by omega, by go_num, HU, rfl⟩
          case measure => simp [intOf]; omega
    · have hk' : k = n := by omega
      subst hk'
      have HG : Hid (g = true) := by
        show g = true
        rw [hg.out, ← hu.out, List.take_of_length_le (by have := ha.1; omega)]
      have hg1 := heap_alloc2_new w (.cells #[.int .u8 0, .int .u8 0, .int .u8 0, .int .u8 0, .int .u8 0, .int .u8 0, .int .u8 0, .int .u8 0, .int .u8 0, .int .u8 0, .int .u8 0, .int .u8 0, .int .u8 0, .int .u8 0, .int .u8 0, .int .u8 0] 74) (.cells (packOf xs k) 74)
      have hg0 := heap_alloc2_old w (.cells #[.int .u8 0, .int .u8 0, .int .u8 0, .int .u8 0, .int .u8 0, .int .u8 0, .int .u8 0, .int .u8 0, .int .u8 0, .int .u8 0, .int .u8 0, .int .u8 0, .int .u8 0, .int .u8 0, .int .u8 0, .int .u8 0] 74) (.cells (packOf xs k) 74)
      clear ha hg hnp hu
      go_wp2_with (first
        | refine wpList_load_row rfl 74 _ rfl (w.heap.size + 1) rfl 74 (packOf xs k) (0, 0) _ hg1 Try.underlying74 rfl (by rw [packOf_size]; exact Try.size74) ?_
        | refine wpList_store_row rfl 74 _ _ rfl w.heap.size (packOf xs k) rfl rfl 74 _ hg0 (by rw [packOf_size]; exact Try.size74) (by rw [packOf_size]; rfl) (packOf_one xs k) ?_)
      refine bodyPost_ret (v := .tuple #[.agg (packOf xs k), .bool true]) ?_ rfl (tokEnd_yes HG.out (below_setRow (below_two _ _ _) _ (Nat.le_refl _) _))
      refine (results_cell_tmp Try.results85 _ _ _).trans ?_
      show ((loadVar 74 ⟨w.heap.size, 0, none⟩).run Try.prog _).andThen _ = _
      rw [run_loadVar_row _ _ 74 74 (packOf xs k) (0, 0) _ (setRow_at _ _ _ _ _) Try.underlying74 rfl (by rw [packOf_size]; exact Try.size74)]
      rfl
end Go.Proofs.Ytajcmamapmeglaa


/- What toNet makes, and that eqTrans, eqTransS and eqNet answer true for nets that read the same. -/
namespace Go.Proofs.Ytajcmamapmeglaa
open Go.RowKit

theorem PartL.lists {w : World} {B n : Nat} {T : TypeId} {L : List (List Int)} (h : PartL w B (3 * n) (3 * n) T L) (hl : L.length = 3 * n) (hs : sizeN n L ≤ 1048576) : Lists w (some ⟨B, 0, none⟩) (3 * n) L := by
  obtain ⟨C, f, h1, h2, h3, h4⟩ := h
  refine ⟨hl, .inr ⟨B, 0, rfl, (Array.getElem?_eq_some_iff.mp h1).1, fun j hj => ?_⟩⟩
  obtain ⟨e1, e2, e3⟩ := h3 j hj
  refine ⟨_, _, _, by rw [cell_of_row w B (0 + j) C T _ h1, Nat.zero_add]; exact e1, ?_, Own.row (B := 0) ⟨rfl, _, rfl, Nat.zero_le _, e3⟩⟩
  have := len_le L j
  unfold sizeN at hs; unfold maxLen; omega

theorem PartL.set_low {w : World} {B n k g : Nat} {T : TypeId} {L : List (List Int)} (h : PartL w B n k T L) (hg : g < B) (o : Nat) (v : Value) : PartL (w.setCell ⟨g, o, none⟩ v) B n k T L := by
  obtain ⟨C, f, h1, h2, h3, h4⟩ := h
  refine ⟨C, f, (Below.heap_setCell _ _ _ _ (show B ≠ g by omega)).trans h1, h2, fun j hj => ?_, h4⟩
  obtain ⟨e1, e2, e3⟩ := h3 j hj
  exact ⟨e1, e2, (Below.heap_setCell _ _ _ _ (show f j ≠ g by omega)).trans e3⟩

theorem below_drew2 (w : World) (o1 o2 : Obj) (q : Nat) : Below w.heap.size w (((w.alloc o1).alloc o2).drewN q) := (below_two w _ _).trans ((below_drewN' _ _).mono (by simp; omega))

end Go.Proofs.Ytajcmamapmeglaa


/- When a net is good, as the specification reckons it: l1Rising and the specification's GoodNet, for every net in memory. -/
namespace Go.Proofs.Ytajcmamapmeglaa
open Go.RowKit

/-- Numbers that rise, from lo to hi. -/
def riseB : List Int → Int → Int → Bool
  | [], _, _ => true
  | x :: xs, lo, hi => decide (lo ≤ x) && decide (x ≤ hi) && riseB xs (x + 1) hi

/-- As many as the first k rise; then the least that may follow. -/
theorem riseB_append (xs ys : List Int) (lo hi : Int) : riseB (xs ++ ys) lo hi = (riseB xs lo hi && riseB ys (xs.getLast?.elim lo (· + 1)) hi) := by
  induction xs generalizing lo with
  | nil => simp [riseB]
  | cons x r ih =>
    simp only [List.cons_append, riseB, ih]
    have : (x :: r).getLast?.elim lo (· + 1) = r.getLast?.elim (x + 1) (· + 1) := by
      cases r with
      | nil => rfl
      | cons y r' =>
        obtain ⟨z, hz⟩ : ∃ z, (y :: r').getLast? = some z := ⟨_, List.getLast?_eq_some_getLast (by simp)⟩
        rw [List.getLast?_cons_cons, hz]; rfl
    rw [this]
    simp [Bool.and_assoc]

/-- What the first k numbers ask of the next. -/
def nextLo (xs : List Int) (k : Nat) (lo : Int) : Int := if k = 0 then lo else xs.getD (k - 1) 0 + 1

theorem nextLo_take (xs : List Int) (k : Nat) (lo : Int) (hk : k ≤ xs.length) : (xs.take k).getLast?.elim lo (· + 1) = nextLo xs k lo := by
  unfold nextLo
  by_cases h : k = 0
  · subst h; simp
  · rw [if_neg h, List.getLast?_take]
    simp [h, List.getElem?_eq_getElem (show k - 1 < xs.length by omega)]

theorem riseB_step {xs : List Int} {k : Nat} {x lo hi : Int} (h : riseB (xs.take k) lo hi = true) (hx : xs[k]? = some x) : riseB (xs.take (k + 1)) lo hi = (decide (nextLo xs k lo ≤ x) && decide (x ≤ hi)) := by
  have hk : k < xs.length := (List.getElem?_eq_some_iff.mp hx).1
  rw [List.take_add_one, hx, riseB_append, h, nextLo_take xs k lo (by omega)]
  simp [riseB]

theorem riseB_no {xs : List Int} {k : Nat} {lo hi : Int} (h : riseB (xs.take k) lo hi = false) : riseB xs lo hi = false := by
  conv => lhs; rw [← List.take_append_drop k xs]
  rw [riseB_append, h]; rfl

theorem riseB_take {xs : List Int} {k : Nat} {lo hi : Int} (h : riseB xs lo hi = true) : riseB (xs.take k) lo hi = true := by
  cases hq : riseB (xs.take k) lo hi with
  | true => rfl
  | false => rw [riseB_no hq] at h; exact h

/-- What is next is no less than lo, where the first ones rise. -/
theorem nextLo_ge {xs : List Int} {k : Nat} {lo hi : Int} (h : riseB (xs.take k) lo hi = true) (hk : k ≤ xs.length) : lo ≤ nextLo xs k lo := by
  induction k with
  | zero => simp [nextLo]
  | succ k ih =>
    have hk' : k < xs.length := by omega
    have h0 : riseB (xs.take k) lo hi = true := by
      have := riseB_take (k := k) h
      rwa [List.take_take, Nat.min_eq_left (by omega)] at this
    rw [riseB_step h0 (List.getElem?_eq_getElem hk')] at h
    simp at h
    have := ih h0 (by omega)
    simp only [nextLo, Nat.add_one_ne_zero, if_false, Nat.add_sub_cancel]
    rw [List.getD_eq_getElem?_getD, List.getElem?_eq_getElem hk']
    simp; omega

theorem riseB_done {xs : List Int} {n : Nat} {lo hi : Int} (h : riseB (xs.take n) lo hi = true) (hl : xs.length = n) : riseB xs lo hi = true := by
  rwa [List.take_of_length_le (by omega)] at h

set_option maxHeartbeats 1000000 in
theorem rising_any (a : Option Addr) (n ca : Nat) (xs : List Int) (lo hi : Int) (w : World) (ha : Row w a n xs) (hn : n ≤ 1048576) :
    Calls Try.prog 137 #[.slice a n ca, .int .i64 lo, .int .i64 hi] w fun e w' => e = .returned (.bool (riseB xs lo hi)) ∧ w' = w := by
  go_enter Try.func137, Try.ntmps137
  go_wp2_with fail
  go_loop [11] (fun i => ∃ k : Nat, k ≤ n ∧ i = .int .i64 k ∧ Hid (riseB (xs.take k) lo hi = true)) (fun i => n - (intOf i).toNat)
  case atStart => exact ⟨0, Nat.zero_le _, rfl, rfl⟩
  case round =>
    obtain ⟨k, hk, rfl, hu⟩ := hrel
    by_cases hlt : k < n
    · obtain ⟨b1, o1, x, rfl, hl1, hc1, H1⟩ := ha.at hlt
      have HS := hide (riseB_step hu.out H1.out)
      have HGE := hide (nextLo_ge hu.out (show k ≤ xs.length by have := ha.1; omega))
      by_cases hi' : inB x lo hi = true
      · have HI : Hid (lo ≤ x ∧ x ≤ hi) := by simpa [inB, Hid] using hi'
        by_cases h0 : k = 0
        · subst h0
          have HU : Hid (riseB (xs.take (0 + 1)) lo hi = true) := by
            show riseB (xs.take (0 + 1)) lo hi = true
            rw [HS.out]; simp [nextLo, HI.out.1, HI.out.2]
          rw [Nat.add_zero] at hc1
          clear ha hu HS HGE H1
          go_wp2_with (go_at_call 126; refine (in_any _ _ _ _).mono ?_; rintro e w' ⟨rfl, rfl⟩)
          go_round
          case rel => exact ⟨0 + 1, by omega, by go_num, HU⟩
          case measure => simp [intOf]; omega
        · obtain ⟨j, rfl⟩ : ∃ j, k = j + 1 := ⟨k - 1, by omega⟩
          obtain ⟨b2, o2, y, he, hl2, hc2, H2⟩ := ha.at (show j < n by omega)
          simp only [Option.some.injEq, Addr.mk.injEq] at he
          obtain ⟨rfl, rfl, _⟩ := he
          have hnx : nextLo xs (j + 1) lo = y + 1 := by
            simp only [nextLo, Nat.add_one_ne_zero, if_false, Nat.add_sub_cancel]
            rw [List.getD_eq_getElem?_getD, H2.out]; rfl
          have hz : (0 : Int) < ((j + 1 : Nat) : Int) := by omega
          have hj : ((j + 1 : Nat) : Int) - 1 = ((j : Nat) : Int) := by omega
          have hjn : ((j : Nat) : Int) < (n : Int) := by omega
          by_cases hyx : y < x
          · have HU : Hid (riseB (xs.take (j + 1 + 1)) lo hi = true) := by
              show riseB (xs.take (j + 1 + 1)) lo hi = true
              rw [HS.out, hnx]; have := HI.out; simp; omega
            clear ha hu HS HGE H1 H2 hnx
            go_wp2_with (go_at_call 126; refine (in_any _ _ _ _).mono ?_; rintro e w' ⟨rfl, rfl⟩)
            go_round
            case rel => exact ⟨j + 1 + 1, by omega, by go_num, HU⟩
            case measure => simp [intOf]; omega
          · have HN : Hid (riseB xs lo hi = false) := by
              refine riseB_no (k := j + 1 + 1) ?_
              rw [HS.out, hnx]; simp; omega
            clear ha hu HS HGE H1 H2 hnx
            go_wp2_with (go_at_call 126; refine (in_any _ _ _ _).mono ?_; rintro e w' ⟨rfl, rfl⟩)
            go_ret
            exact ⟨ret_bool HN.out.symm, rfl⟩
      · have hi'' : inB x lo hi = false := by simpa using hi'
        have HN : Hid (riseB xs lo hi = false) := by
          refine riseB_no (k := k + 1) ?_
          rw [HS.out]
          have h1 := HGE.out
          simp [inB] at hi'
          simp; intro h2; omega
        clear ha hu HS HGE H1 hi'
        go_wp2_with (go_at_call 126; refine (in_any _ _ _ _).mono ?_; rintro e w' ⟨rfl, rfl⟩)
        go_ret
        exact ⟨ret_bool HN.out.symm, rfl⟩
    · have hk' : k = n := by omega
      subst hk'
      have HA := hide (riseB_done hu.out ha.1)
      go_wp2_with fail
      go_ret
      exact ⟨ret_bool HA.out.symm, rfl⟩
end Go.Proofs.Ytajcmamapmeglaa


/- When a net is good, by the specification: GoodNet for every net in memory. -/
namespace Go.Proofs.Ytajcmamapmeglaa
open Go.RowKit

def triOk (p : Int) (L : List (List Int)) (i : Nat) : Bool :=
  !(L.getD (3 * i) []).isEmpty && riseB (L.getD (3 * i) []) 0 (p - 1) && riseB (L.getD (3 * i + 1) []) 0 (p - 1) && riseB (L.getD (3 * i + 2) []) 0 (p - 1)

def netOk (p : Int) (n : Nat) (L : List (List Int)) : Bool := inB p 1 16 && decide (n ≤ 24) && (List.range n).all (triOk p L)

theorem triOk_no0 {p : Int} {L : List (List Int)} {i : Nat} (h : L.getD (3 * i) [] = []) : triOk p L i = false := by unfold triOk; rw [h]; rfl
theorem triOk_no1 {p : Int} {L : List (List Int)} {i : Nat} {x : List Int} (h : L.getD (3 * i) [] = x) (hr : riseB x 0 (p - 1) = false) : triOk p L i = false := by unfold triOk; rw [h, hr]; simp
theorem triOk_no2 {p : Int} {L : List (List Int)} {i : Nat} {x : List Int} (h : L.getD (3 * i + 1) [] = x) (hr : riseB x 0 (p - 1) = false) : triOk p L i = false := by unfold triOk; rw [h, hr]; simp
theorem triOk_no3 {p : Int} {L : List (List Int)} {i : Nat} {x : List Int} (h : L.getD (3 * i + 2) [] = x) (hr : riseB x 0 (p - 1) = false) : triOk p L i = false := by unfold triOk; rw [h, hr]; simp
theorem triOk_yes {p : Int} {L : List (List Int)} {i : Nat} {x y z : List Int} (h : L.getD (3 * i) [] = x) (h1 : L.getD (3 * i + 1) [] = y) (h2 : L.getD (3 * i + 2) [] = z) (hx : x ≠ []) (hr : riseB x 0 (p - 1) = true) (hr1 : riseB y 0 (p - 1) = true) (hr2 : riseB z 0 (p - 1) = true) : triOk p L i = true := by
  unfold triOk; rw [h, h1, h2, hr, hr1, hr2]; cases x <;> simp_all

theorem netOk_no {p : Int} {n i : Nat} {L : List (List Int)} (hi : i < n) (h : triOk p L i = false) : netOk p n L = false := by
  unfold netOk
  have : (List.range n).all (triOk p L) = false := by rw [List.all_eq_false]; exact ⟨i, by simpa using hi, by simp [h]⟩
  rw [this]; simp

theorem netOk_yes {p : Int} {n : Nat} {L : List (List Int)} (hp : inB p 1 16 = true) (hn : n ≤ 24) (h : (List.range n).all (triOk p L) = true) : netOk p n L = true := by
  unfold netOk; rw [hp, h]; simpa using hn

theorem all_range_succ {f : Nat → Bool} {k : Nat} (h : (List.range k).all f = true) (hk : f k = true) : (List.range (k + 1)).all f = true := by
  rw [List.range_succ, List.all_append, h]; simp [hk]

set_option maxHeartbeats 2000000 in
theorem goodNetS_any (p : Int) (a : Option Addr) (n c : Nat) (L : List (List Int)) (w : World) (h : Lists w a (3 * n) L) (hs : sizeN n L ≤ 1048576) :
    Calls Try.prog 124 #[.agg #[.int .i64 p, .slice a n c]] w fun e w' => e = .returned (.bool (netOk p n L)) ∧ Below w.heap.size w w' := by
  have HL := hide (h.below (below_al w (.cells #[.int .i64 p, .slice a n c] 26)))
  clear h
  by_cases hp : inB p 1 16 = true
  · by_cases hn : n ≤ 24
    · have hp1 : 1 ≤ p ∧ p ≤ 16 := by simpa [inB] using hp
      obtain ⟨hp2, hp3⟩ := hp1
      go_enter Try.func124, Try.ntmps124
      go_wp2_with (go_at_call 117; refine (places_any _ _).mono ?_; rintro e w' ⟨rfl, rfl⟩)
      have HW := hide (below_al w (.cells #[.int .i64 p, .slice a n c] 26))
      have HC0 := hide (cell_of_row (w.alloc (.cells #[.int .i64 p, .slice a n c] 26)) w.heap.size 0 _ _ _ (heap_alloc_new _ _))
      have hsz : w.heap.size < (w.alloc (.cells #[.int .i64 p, .slice a n c] 26)).heap.size := by simp
      generalize w.alloc (.cells #[.int .i64 p, .slice a n c] 26) = w1 at *
      go_loopw [18] (fun i wr => ∃ k : Nat, k ≤ n ∧ i = .int .i64 k ∧ Hid ((List.range k).all (triOk p L) = true) ∧ Hid (Below w1.heap.size w1 wr)) (fun i _ => n - (intOf i).toNat)
      case atStart => exact ⟨0, Nat.zero_le _, rfl, rfl, Below.refl _ _⟩
      case round =>
        obtain ⟨k, hk, rfl, hu, hbw⟩ := hrel
        by_cases hlt : k < n
        · obtain ⟨b, off, a0, n0, c0, a1, n1, c1, a2, n2, c2, rfl, hb, hr, m0, m1, m2, r0, r1, r2⟩ := (HL.out.below hbw.out).tri hlt
          obtain ⟨hc0, hc1, hc2⟩ := rangeAt_cells3 hr
          have hl0 := len_le L (3 * k)
          have hl1 := len_le L (3 * k + 1)
          have hl2 := len_le L (3 * k + 2)
          have hs' : n + sizeL L ≤ 1048576 := hs
          obtain ⟨x0, hx0⟩ : ∃ x, Hid (L.getD (3 * k) [] = x) := ⟨_, rfl⟩
          obtain ⟨x1, hx1⟩ : ∃ x, Hid (L.getD (3 * k + 1) [] = x) := ⟨_, rfl⟩
          obtain ⟨x2, hx2⟩ : ∃ x, Hid (L.getD (3 * k + 2) [] = x) := ⟨_, rfl⟩
          rw [hx0.out] at r0 hl0
          rw [hx1.out] at r1 hl1
          rw [hx2.out] at r2 hl2
          have q0 : n0 ≤ 1048576 := by have := r0.1; omega
          have q1 : n1 ≤ 1048576 := by have := r1.1; omega
          have q2 : n2 ≤ 1048576 := by have := r2.1; omega
          have hcp : wr.cell? ⟨w.heap.size, 0, none⟩ = some (.int .i64 p) := (hbw.out.cell (p := ⟨w.heap.size, 0, none⟩) hsz).trans HC0.out
          have hpw : w.heap.size < wr.heap.size := by have := hbw.out.size; omega
          have HB := hide (HW.out.trans ((hbw.out.trans ((below_al wr (.cells #[.slice a0 n0 c0, .slice a1 n1 c1, .slice a2 n2 c2] 106)).mono hbw.out.size)).mono (by omega)))
          have HB' := hide (hbw.out.trans ((below_al wr (.cells #[.slice a0 n0 c0, .slice a1 n1 c1, .slice a2 n2 c2] 106)).mono hbw.out.size))
          have R0 := hide (r0.alloc (.cells #[.slice a0 n0 c0, .slice a1 n1 c1, .slice a2 n2 c2] 106))
          have R1 := hide (r1.alloc (.cells #[.slice a0 n0 c0, .slice a1 n1 c1, .slice a2 n2 c2] 106))
          have R2 := hide (r2.alloc (.cells #[.slice a0 n0 c0, .slice a1 n1 c1, .slice a2 n2 c2] 106))
          clear hr r0 r1 r2 hl0 hl1 hl2 hs' m0 m1 m2 hs hn
          by_cases hz : n0 = 0
          · subst hz
            have HN : Hid (netOk p n L = false) := netOk_no hlt (triOk_no0 (hx0.out.trans (List.length_eq_zero_iff.mp R0.out.1)))
            clear R0 R1 R2 hx0 hx1 hx2 hu HB'
            go_wp2_with fail
            go_ret
            exact ⟨ret_bool HN.out.symm, HB.out⟩
          have hz' : (n0 : Int) ≠ 0 := by omega
          by_cases g0 : riseB x0 0 (p - 1) = true
          rotate_left
          · have g0' : riseB x0 0 (p - 1) = false := by simpa using g0
            have HN : Hid (netOk p n L = false) := netOk_no hlt (triOk_no1 hx0.out g0')
            clear R1 R2 hx0 hx1 hx2 hu HB' g0
            go_wp2_with fail
            refine (rising_any _ _ _ x0 _ _ _ R0.out q0).mono ?_
            rintro e w' ⟨rfl, rfl⟩
            go_wp2_with fail
            go_ret
            exact ⟨ret_bool HN.out.symm, HB.out⟩
          by_cases g1 : riseB x1 0 (p - 1) = true
          rotate_left
          · have g1' : riseB x1 0 (p - 1) = false := by simpa using g1
            have HN : Hid (netOk p n L = false) := netOk_no hlt (triOk_no2 hx1.out g1')
            clear R2 hx0 hx1 hx2 hu HB' g1
            go_wp2_with fail
            refine (rising_any _ _ _ x0 _ _ _ R0.out q0).mono ?_
            rintro e w' ⟨rfl, rfl⟩
            go_wp2_with fail
            refine (rising_any _ _ _ x1 _ _ _ R1.out q1).mono ?_
            rintro e w' ⟨rfl, rfl⟩
            go_wp2_with fail
            go_ret
            exact ⟨ret_bool HN.out.symm, HB.out⟩
          by_cases g2 : riseB x2 0 (p - 1) = true
          rotate_left
          · have g2' : riseB x2 0 (p - 1) = false := by simpa using g2
            have HN : Hid (netOk p n L = false) := netOk_no hlt (triOk_no3 hx2.out g2')
            clear hx0 hx1 hx2 hu HB' g2
            go_wp2_with fail
            refine (rising_any _ _ _ x0 _ _ _ R0.out q0).mono ?_
            rintro e w' ⟨rfl, rfl⟩
            go_wp2_with fail
            refine (rising_any _ _ _ x1 _ _ _ R1.out q1).mono ?_
            rintro e w' ⟨rfl, rfl⟩
            go_wp2_with fail
            refine (rising_any _ _ _ x2 _ _ _ R2.out q2).mono ?_
            rintro e w' ⟨rfl, rfl⟩
            go_wp2_with fail
            go_ret
            exact ⟨ret_bool HN.out.symm, HB.out⟩
          have HU : Hid ((List.range (k + 1)).all (triOk p L) = true) := all_range_succ hu.out (triOk_yes hx0.out hx1.out hx2.out (fun e => hz (by rw [← R0.out.1, e]; rfl)) g0 g1 g2)
          clear hx0 hx1 hx2 hu HB
          go_wp2_with fail
          refine (rising_any _ _ _ x0 _ _ _ R0.out q0).mono ?_
          rintro e w' ⟨rfl, rfl⟩
          go_wp2_with fail
          refine (rising_any _ _ _ x1 _ _ _ R1.out q1).mono ?_
          rintro e w' ⟨rfl, rfl⟩
          go_wp2_with fail
          refine (rising_any _ _ _ x2 _ _ _ R2.out q2).mono ?_
          rintro e w' ⟨rfl, rfl⟩
          go_wp2_with fail
          go_roundw
          case rel => exact ⟨k + 1, by omega, by go_num, HU, HB'⟩
          case measure => simp [intOf]; omega
        · have hk' : k = n := by omega
          subst hk'
          have HN : Hid (netOk p k L = true) := netOk_yes hp hn hu.out
          have HB := hide (HW.out.trans (hbw.out.mono (by omega)))
          go_wp2_with fail
          go_ret
          exact ⟨ret_bool HN.out.symm, HB.out⟩
    · have HN : Hid (netOk p n L = false) := by show netOk p n L = false; unfold netOk; simp [hn]
      have hn' : (24 : Int) < (n : Int) := by omega
      go_enter Try.func124, Try.ntmps124
      go_wp2_with (go_at_call 117; refine (places_any _ _).mono ?_; rintro e w' ⟨rfl, rfl⟩)
      go_ret
      exact ⟨ret_bool HN.out.symm, below_al _ _⟩
  · have hp' : inB p 1 16 = false := by simpa using hp
    have HN : Hid (netOk p n L = false) := by show netOk p n L = false; unfold netOk; simp [hp']
    clear hp
    go_enter Try.func124, Try.ntmps124
    go_wp2_with (go_at_call 117; refine (places_any _ _).mono ?_; rintro e w' ⟨rfl, rfl⟩)
    go_ret
    exact ⟨ret_bool HN.out.symm, below_al _ _⟩
end Go.Proofs.Ytajcmamapmeglaa
