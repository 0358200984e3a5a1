/- TurnNet of the program. -/
import Derived.Test.YtbobppcnmpiacaaTv
namespace Go.Proofs.Ytbobppcnmpiacaa
open Go.RowKit

def turnL (n : Nat) (L : List (List Int)) : List (List Int) := (List.range (3 * n)).map (turnF L n)

theorem turnL_get (n : Nat) (L : List (List Int)) : (fun j => (turnL n L).getD j []) = turnF L n := by
  funext j
  unfold turnL
  by_cases h : j < 3 * n
  · simp [List.getD_eq_getElem?_getD, h]
  · rw [turnF_far (by omega)]
    simp [List.getD_eq_getElem?_getD, h]

theorem riseB_len {xs : List Int} {lo hi : Int} (h : riseB xs lo hi = true) : xs ≠ [] → (xs.length : Int) ≤ hi + 1 - lo := by
  induction xs generalizing lo with
  | nil => intro hx; exact absurd rfl hx
  | cons x r ih =>
    intro _
    simp [riseB] at h
    by_cases hr : r = []
    · subst hr; simp; omega
    · have := ih h.2 hr
      simp; omega

theorem turnL_len (n : Nat) (L : List (List Int)) : (turnL n L).length = 3 * n := by simp [turnL]

theorem getLen16 {p : Int} {n : Nat} {L : List (List Int)} (h : netOk p n L = true) (j : Nat) (hj : j < 3 * n) : (L.getD j []).length ≤ 16 := by
  unfold netOk at h
  simp only [Bool.and_eq_true] at h
  have hp : p ≤ 16 := by have := h.1.1; unfold inB at this; simp at this; omega
  have ht := List.all_eq_true.mp h.2 (j / 3) (by simp; omega)
  unfold triOk at ht
  simp only [Bool.and_eq_true] at ht
  have key : ∀ xs, riseB xs 0 (p - 1) = true → xs.length ≤ 16 := by
    intro xs hx
    by_cases he : xs = []
    · subst he; simp
    · have := riseB_len hx he; omega
  have h3 : j = 3 * (j / 3) ∨ j = 3 * (j / 3) + 1 ∨ j = 3 * (j / 3) + 2 := by omega
  rcases h3 with e | e | e
  · rw [e]; exact key _ ht.1.1.2
  · rw [e]; exact key _ ht.1.2
  · rw [e]; exact key _ ht.2

theorem sum16 (l : List Nat) (h : ∀ x ∈ l, x ≤ 16) : l.sum ≤ 16 * l.length := by
  induction l with
  | nil => simp
  | cons x r ih =>
    have h1 := h x (by simp)
    have h2 := ih fun y hy => h y (by simp [hy])
    simp only [List.sum_cons, List.length_cons]; omega

theorem turnL_size {p : Int} {n : Nat} {L : List (List Int)} (h : netOk p n L = true) : sizeN n (turnL n L) ≤ 1048576 := by
  have hn := netN h
  have : sizeL (turnL n L) ≤ 16 * (3 * n) := by
    unfold sizeL
    have := sum16 ((turnL n L).map List.length) (by
      intro x hx
      simp only [turnL, List.map_map, List.mem_map, List.mem_range, Function.comp] at hx
      obtain ⟨j, hj, rfl⟩ := hx
      unfold turnF
      rw [if_pos hj]
      by_cases e0 : j % 3 = 0
      · rw [if_pos e0]; exact getLen16 h _ (by omega)
      · rw [if_neg e0]
        by_cases e1 : j % 3 = 1
        · rw [if_pos e1]; exact getLen16 h _ (by omega)
        · rw [if_neg e1]; simp)
    simpa [turnL_len] using this
  unfold sizeN; omega

def turnOk (p : Int) (n : Nat) (L : List (List Int)) : Bool := netOk p n L && !resB n L && netOk p n (turnL n L)

/-- How TurnNet ends. -/
def TuEnd (g : Bool) (p : Int) (n : Nat) (L : List (List Int)) (w : World) (e : Ending) (w' : World) : Prop :=
  ∃ (a : Option Addr) (B lo hi c : Nat), e = .returned (.tuple #[.agg #[.int .i64 (if g then p else 0), .slice a (if g then n else 0) c], .bool g]) ∧ (g = true → NetG w' a B lo hi n (turnF L n)) ∧ w.heap.size ≤ B ∧ w.heap.size ≤ lo ∧ hi ≤ w'.heap.size ∧ Below w.heap.size w w'

theorem tuEnd_no {p : Int} {n : Nat} {L : List (List Int)} {w w' : World} (hb : Below w.heap.size w w') : TuEnd false p n L w (.returned (.tuple #[.agg #[.int .i64 0, .slice none 0 0], .bool false])) w' :=
  ⟨none, w.heap.size, w.heap.size, 0, 0, rfl, fun h => by simp at h, Nat.le_refl _, Nat.le_refl _, Nat.zero_le _, hb⟩

/-- Cells that a later world still has. -/
theorem keep3 {W W' : World} {a1 a2 a3 : Addr} {v1 v2 v3 : Value} (hb : Below W.heap.size W W') (h : W.cell? a1 = some v1 ∧ W.cell? a2 = some v2 ∧ W.cell? a3 = some v3) : W'.cell? a1 = some v1 ∧ W'.cell? a2 = some v2 ∧ W'.cell? a3 = some v3 :=
  ⟨(hb.cell (World.block_lt_of_cell? _ _ h.1)).trans h.1, (hb.cell (World.block_lt_of_cell? _ _ h.2.1)).trans h.2.1, (hb.cell (World.block_lt_of_cell? _ _ h.2.2)).trans h.2.2⟩

theorem keep3_set {W : World} {M o0 o1 o2 b1 b2 b3 x1 x2 x3 : Nat} {v1 v2 v3 u0 u1 u2 : Value} (h1 : b1 ≠ M) (h2 : b2 ≠ M) (h3 : b3 ≠ M) (h : W.cell? ⟨b1, x1, none⟩ = some v1 ∧ W.cell? ⟨b2, x2, none⟩ = some v2 ∧ W.cell? ⟨b3, x3, none⟩ = some v3) :
    (((W.setCell ⟨M, o0, none⟩ u0).setCell ⟨M, o1, none⟩ u1).setCell ⟨M, o2, none⟩ u2).cell? ⟨b1, x1, none⟩ = some v1 ∧ (((W.setCell ⟨M, o0, none⟩ u0).setCell ⟨M, o1, none⟩ u1).setCell ⟨M, o2, none⟩ u2).cell? ⟨b2, x2, none⟩ = some v2 ∧ (((W.setCell ⟨M, o0, none⟩ u0).setCell ⟨M, o1, none⟩ u1).setCell ⟨M, o2, none⟩ u2).cell? ⟨b3, x3, none⟩ = some v3 := by
  have far : ∀ (b x : Nat), b ≠ M → (((W.setCell ⟨M, o0, none⟩ u0).setCell ⟨M, o1, none⟩ u1).setCell ⟨M, o2, none⟩ u2).cell? ⟨b, x, none⟩ = W.cell? ⟨b, x, none⟩ := fun b x hb => by
    rw [World.cell?_setCell_far _ _ _ _ (fun e => hb e.symm), World.cell?_setCell_far _ _ _ _ (fun e => hb e.symm), World.cell?_setCell_far _ _ _ _ (fun e => hb e.symm)]
  exact ⟨(far _ _ h1).trans h.1, (far _ _ h2).trans h.2.1, (far _ _ h3).trans h.2.2⟩

theorem PartG.high {w w' : World} {B lo hi n D : Nat} {T : TypeId} {M : Nat → List Int} (h : PartG w B lo hi n T M) (hh : ∀ k, D ≤ k → w'.heap[k]? = w.heap[k]?) (hB : D ≤ B) (hlo : D ≤ lo) : PartG w' B lo hi n T M := by
  obtain ⟨C, A, f, cap, h1, h2, h3, h4⟩ := h
  refine ⟨C, A, f, cap, (hh B hB).trans h1, h2, fun j hj => ?_, h4⟩
  obtain ⟨e1, e2, e3⟩ := h3 j hj
  refine ⟨e1, ?_, e3⟩
  by_cases he : M j = []
  · rw [he]; exact ⟨rfl, .inl rfl⟩
  · rcases e2 with ⟨q, h0 | ⟨e, cur, q1, q2, q3⟩⟩
    · exact ⟨q, .inl h0⟩
    · exact ⟨q, .inr ⟨e, cur, (hh _ (by have := (e3 he).1; omega)).trans q1, q2, q3⟩⟩

theorem high_set2 (w : World) (D b o0 o1 : Nat) (v0 v1 : Value) (h : b < D) : ∀ k, D ≤ k → ((w.setCell ⟨b, o0, none⟩ v0).setCell ⟨b, o1, none⟩ v1).heap[k]? = w.heap[k]? := fun k hk => by
  rw [Below.heap_setCell _ _ _ _ (show k ≠ b by omega), Below.heap_setCell _ _ _ _ (show k ≠ b by omega)]

theorem turnOk_net {p : Int} {n : Nat} {L : List (List Int)} (h : netOk p n L = false) : turnOk p n L = false := by unfold turnOk; rw [h]; rfl
theorem turnOk_res {p : Int} {n : Nat} {L : List (List Int)} (h : resB n L = true) : turnOk p n L = false := by unfold turnOk; rw [h]; simp
theorem turnOk_last {p : Int} {n : Nat} {L : List (List Int)} (h : netOk p n L = true) (h2 : resB n L = false) : turnOk p n L = netOk p n (turnL n L) := by unfold turnOk; rw [h, h2]; rfl

theorem tuEnd_yes {p : Int} {n : Nat} {L : List (List Int)} {w w' : World} {a : Option Addr} {B lo hi c : Nat} (hg : NetG w' a B lo hi n (turnF L n)) (hB : w.heap.size ≤ B) (hlo : w.heap.size ≤ lo) (hhi : hi ≤ w'.heap.size) (hb : Below w.heap.size w w') : TuEnd true p n L w (.returned (.tuple #[.agg #[.int .i64 p, .slice a n c], .bool true])) w' :=
  ⟨a, B, lo, hi, c, rfl, fun _ => hg, hB, hlo, hhi, hb⟩

theorem turn_sets {p : Int} {n k : Nat} {L : List (List Int)} (h : netOk p n L = true) (hk : k < n) {s0 s1 : Nat} (e0 : maskL (L.getD (3 * k) []) = s0) (e1 : maskL (L.getD (3 * k + 1) []) = s1) :
    s0 < 2 ^ 16 ∧ s1 < 2 ^ 16 ∧ nums2 s0.testBit 16 = L.getD (3 * k) [] ∧ nums2 s1.testBit 16 = L.getD (3 * k + 1) [] := by
  unfold netOk at h
  simp only [Bool.and_eq_true] at h
  have hp : p ≤ 16 := by have := h.1.1; unfold inB at this; simp at this; omega
  have ht := List.all_eq_true.mp h.2 k (by simpa using hk)
  unfold triOk at ht
  simp only [Bool.and_eq_true] at ht
  have key : ∀ xs, riseB xs 0 (p - 1) = true → maskL xs < 2 ^ 16 := fun xs hx => maskL_lt _ fun x hm => by have := riseB_mem hx x hm; omega
  subst e0 e1
  exact ⟨key _ ht.1.1.2, key _ ht.1.2, nums2_mask hp ht.1.1.2, nums2_mask hp ht.1.2⟩

theorem partG_made {W : World} {M lo hi n : Nat} {T : TypeId} (L : List (List Int)) (h : W.heap[M]? = some (.cells (madeCells #[.slice none 0 0, .slice none 0 0, .slice none 0 0] (n * 3)) T (0, 0))) : PartG W M lo hi (3 * n) T (turnF L 0) := by
  refine ⟨madeCells #[.slice none 0 0, .slice none 0 0, .slice none 0 0] (n * 3), fun _ => none, fun _ => 0, fun _ => 0, h, by rw [size_madeCells]; omega, fun j hj => ?_, fun i j _ _ hx => ?_⟩
  · rw [turnF_far (by omega)]
    exact ⟨madeNil3 n j hj, ⟨rfl, .inl rfl⟩, fun hx => absurd rfl hx⟩
  · rw [turnF_far (by omega)] at hx; exact absurd rfl hx

/-- The world behind the region that makes the two blocks. -/
theorem TuInv.first1 (w3 : World) (p : Int) (n : Nat) (L : List (List Int)) : TuInv w3 ((w3.alloc (.cells (madeCells #[.slice none 0 0, .slice none 0 0, .slice none 0 0] (n * 3)) 39)).alloc (.cells #[.int .i64 p, .slice (some ⟨w3.heap.size, 0, none⟩) n n] 26)).drew (w3.heap.size + 1) w3.heap.size p n 0 L := by
  refine ⟨?_, partG_made L ?_, ?_, by omega, by omega, by omega⟩
  · have := heap_alloc_new (w3.alloc (.cells (madeCells #[.slice none 0 0, .slice none 0 0, .slice none 0 0] (n * 3)) 39)) (.cells #[.int .i64 p, .slice (some ⟨w3.heap.size, 0, none⟩) n n] 26)
    rw [show (w3.alloc (.cells (madeCells #[.slice none 0 0, .slice none 0 0, .slice none 0 0] (n * 3)) 39)).heap.size = w3.heap.size + 1 by simp] at this
    exact this
  · show ((w3.alloc _).alloc _).heap[w3.heap.size]? = _
    rw [heap_al_old _ _ _ (by simp)]; exact heap_alloc_new _ _
  · exact (below_two w3 _ _).drew

theorem TuInv.first2 (w3 : World) (p : Int) (n : Nat) (L : List (List Int)) : TuInv w3 ((w3.alloc (.cells #[.int .i64 p, .slice (some ⟨w3.heap.size + 1, 0, none⟩) n n] 26)).alloc (.cells (madeCells #[.slice none 0 0, .slice none 0 0, .slice none 0 0] (n * 3)) 39)).drew w3.heap.size (w3.heap.size + 1) p n 0 L := by
  refine ⟨?_, partG_made L ?_, ?_, by omega, by omega, by omega⟩
  · show ((w3.alloc _).alloc _).heap[w3.heap.size]? = _
    rw [heap_al_old _ _ _ (by simp)]; exact heap_alloc_new _ _
  · have := heap_alloc_new (w3.alloc (.cells #[.int .i64 p, .slice (some ⟨w3.heap.size + 1, 0, none⟩) n n] 26)) (.cells (madeCells #[.slice none 0 0, .slice none 0 0, .slice none 0 0] (n * 3)) 39)
    rw [show (w3.alloc (.cells #[.int .i64 p, .slice (some ⟨w3.heap.size + 1, 0, none⟩) n n] 26)).heap.size = w3.heap.size + 1 by simp] at this
    exact this
  · exact (below_two w3 _ _).drew
end Go.Proofs.Ytbobppcnmpiacaa
