/- What markIntS writes, what heldIntS answers, and what the list of an array is, for slices that lie from the head of a block of their own; nothing else that was there is written. -/
import Derived.Test.YtnknhjiofpjbbaaTok
namespace Go.Proofs.Ytnknhjiofpjbbaa
open Go.RowKit

/-- Nothing but the block b has turned, and no block is new. -/
structure Only (b : Nat) (w w' : World) : Prop where
  os : w'.os = w.os
  tape : w'.tape = w.tape
  output : w'.output = w.output
  size : w'.heap.size = w.heap.size
  block : ∀ k, k ≠ b → w'.heap[k]? = w.heap[k]?

theorem Only.refl (b : Nat) (w : World) : Only b w w := ⟨rfl, rfl, rfl, rfl, fun _ _ => rfl⟩
theorem Only.below {b B : Nat} {w w' : World} (h : Only b w w') (hb : B ≤ b) : Below B w w' := ⟨h.os, h.tape, h.output, Nat.le_of_eq h.size.symm, fun k hk => h.block k (by omega)⟩
theorem Only.setCell {b : Nat} {w w' : World} (h : Only b w w') (o : Nat) (v : Value) : Only b w (w'.setCell ⟨b, o, none⟩ v) :=
  ⟨h.os, h.tape, h.output, by rw [← h.size]; simp [World.setCell], fun k hk => (Below.heap_setCell _ _ _ _ hk).trans (h.block k hk)⟩

/-- A slice that lies from the head of the block b, as long as it is; or an empty one. -/
def Blk (w : World) (a : Option Addr) (b n : Nat) (xs : List Int) : Prop :=
  xs.length = n ∧ (n = 0 ∨ (a = some ⟨b, 0, none⟩ ∧ w.heap[b]? = some (.cells (cellsOf xs) 3 (0, 0))))

theorem Blk.row {w : World} {a : Option Addr} {b n : Nat} {xs : List Int} (h : Blk w a b n xs) : Row w a n xs := by
  rcases h.2 with h0 | ⟨e, hh⟩
  · exact ⟨h.1, .inl h0⟩
  · exact Own.row (B := 0) ⟨h.1, b, e, Nat.zero_le _, hh⟩

theorem Blk.below {w w' : World} {a : Option Addr} {b n B : Nat} {xs : List Int} (h : Blk w a b n xs) (hb : Below B w w') (hB : b < B) : Blk w' a b n xs := by
  refine ⟨h.1, ?_⟩
  rcases h.2 with h0 | ⟨e, hh⟩
  · exact .inl h0
  · exact .inr ⟨e, (hb.block b hB).trans hh⟩

theorem Blk.only {w w' : World} {a : Option Addr} {b c n : Nat} {xs : List Int} (h : Blk w a b n xs) (hb : Only c w w') (hB : b ≠ c) : Blk w' a b n xs := by
  refine ⟨h.1, ?_⟩
  rcases h.2 with h0 | ⟨e, hh⟩
  · exact .inl h0
  · exact .inr ⟨e, (hb.block b hB).trans hh⟩

/-- k, k + 1, and so on. -/
def seqL (k n : Nat) : List Int := (List.range n).map fun i => ((k + i : Nat) : Int)

theorem seqL_len (k n : Nat) : (seqL k n).length = n := by simp [seqL]
theorem seqL_at (k n i : Nat) (h : i < n) : (seqL k n).getD i 0 = ((k + i : Nat) : Int) := by simp [seqL, h]

theorem set_fill {xs : List Int} {n k : Nat} {cs : Array Value} {x : Int} (h : Fill xs n k cs) (hk : k < n) (hx : xs.getD k 0 = x) : Fill xs n (k + 1) (cs.setIfInBounds k (.int .i64 x)) := by
  obtain ⟨h1, h2⟩ := h
  refine ⟨by simp [h1], fun i hi => ?_⟩
  rw [Array.getElem?_setIfInBounds]
  by_cases e : k = i
  · subst e; rw [if_pos rfl, if_pos (by omega), hx]
  · rw [if_neg e]; exact h2 i (by omega)

set_option maxHeartbeats 400000 in
theorem mark_any (a : Option Addr) (b n c k0 : Nat) (xs : List Int) (w : World) (h : Blk w a b n xs) (hn : n ≤ 1048576) (hk0 : k0 ≤ 4194304) :
    Calls Try.prog 21 #[.slice a n c, .int .i64 (k0 : Int)] w fun e w' => e = .returned (.int .i64 ((k0 + n : Nat) : Int)) ∧ Blk w' a b n (seqL k0 n) ∧ Only b w w' := by
  have HB := hide h
  clear h
  go_enter Try.func21, Try.ntmps21
  go_wp2
  go_loopw [1, 5] (fun t i wr => ∃ k : Nat, k ≤ n ∧ i = .int .i64 k ∧ t = .int .i64 ((k0 + k : Nat) : Int) ∧ Only b w wr ∧ (n = 0 ∨ (a = some ⟨b, 0, none⟩ ∧ ∃ cs, Fill (seqL k0 n) n k cs ∧ wr.heap[b]? = some (.cells cs 3 (0, 0))))) (fun _ i _ => n - (intOf i).toNat)
  case atStart =>
    refine ⟨0, Nat.zero_le _, rfl, rfl, Only.refl _ _, ?_⟩
    rcases HB.out.2 with h0 | ⟨e, hh⟩
    · exact .inl h0
    · exact .inr ⟨e, _, ⟨by have := HB.out.1; simp [cellsOf]; omega, fun i hi => absurd hi (by omega)⟩, hh⟩
  case round =>
    obtain ⟨k, hk, rfl, rfl, ho, hd⟩ := hrel
    by_cases hlt : k < n
    · obtain ⟨rfl, cs, hf, hh⟩ : a = some ⟨b, 0, none⟩ ∧ ∃ cs, Fill (seqL k0 n) n k cs ∧ wr.heap[b]? = some (.cells cs 3 (0, 0)) := by
        rcases hd with h0 | h
        · omega
        · exact h
      have HF := hide (set_fill hf hlt (seqL_at k0 n k hlt))
      have hsz := hf.1
      obtain ⟨v0, hv0⟩ : ∃ v0, wr.cell? ⟨b, k, none⟩ = some v0 := ⟨_, by rw [cell_of_row wr b k cs _ _ hh]; exact Array.getElem?_eq_getElem (by omega)⟩
      have hfr := frozen_of_row wr b k cs _ hh
      have HH := hide (heap_setCell_same wr b k cs _ (.int .i64 ((k0 + k : Nat) : Int)) hh)
      have HO := hide (ho.setCell k (.int .i64 ((k0 + k : Nat) : Int)))
      have hb1 : ((k0 + k : Nat) : Int) ≤ 5242880 := by omega
      have hb0 : (0 : Int) ≤ ((k0 + k : Nat) : Int) := by omega
      obtain ⟨t, ht⟩ : ∃ t : Nat, Hid (k0 + k = t) := ⟨_, rfl⟩
      rw [ht.out] at hb1 hb0 HF HH HO ⊢
      clear hd ho hf hh HB
      go_wp2
      go_roundw
      case rel => exact ⟨k + 1, by omega, by go_num, by rw [show k0 + (k + 1) = t + 1 by have := ht.out; omega]; go_num, HO.out, by first | exact .inr ⟨rfl, _, HF.out, HH.out⟩ | exact .inr ⟨trivial, _, HF.out, HH.out⟩⟩
      case measure => simp [intOf]; omega
    · have hk' : k = n := by omega
      subst hk'
      have HD := hide hd
      have HO := hide ho
      clear hd ho
      go_wp2
      go_ret
      refine ⟨rfl, ⟨seqL_len _ _, ?_⟩, HO.out⟩
      rcases HD.out with h0 | ⟨e, cs, hf, hh⟩
      · exact .inl h0
      · exact .inr ⟨e, by rw [hh, hf.done (seqL_len _ _)]⟩

set_option maxHeartbeats 400000 in
theorem held_any (a : Option Addr) (n c k0 : Nat) (w : World) (h : Row w a n (seqL k0 n)) (hn : n ≤ 1048576) (hk0 : k0 ≤ 4194304) :
    Calls Try.prog 22 #[.slice a n c, .int .i64 (k0 : Int)] w fun e w' => e = .returned (.int .i64 ((k0 + n : Nat) : Int)) ∧ w' = w := by
  go_enter Try.func22, Try.ntmps22
  go_wp2
  go_loop [1, 5] (fun t i => ∃ k : Nat, k ≤ n ∧ i = .int .i64 k ∧ t = .int .i64 ((k0 + k : Nat) : Int)) (fun _ i => n - (intOf i).toNat)
  case atStart => exact ⟨0, Nat.zero_le _, rfl, rfl⟩
  case round =>
    obtain ⟨k, hk, rfl, rfl⟩ := hrel
    by_cases hlt : k < n
    · obtain ⟨b1, o1, x, rfl, hl1, hc1, H1⟩ := h.at hlt
      have hx : x = ((k0 + k : Nat) : Int) := by
        have := seqL_at k0 n k hlt
        rw [List.getD_eq_getElem?_getD, H1.out] at this
        simpa using this
      subst hx
      clear h H1
      have hb1 : ((k0 + k : Nat) : Int) ≤ 5242880 := by omega
      have hb0 : (0 : Int) ≤ ((k0 + k : Nat) : Int) := by omega
      obtain ⟨t, ht⟩ : ∃ t : Nat, Hid (k0 + k = t) := ⟨_, rfl⟩
      rw [ht.out] at hb1 hb0 hc1 ⊢
      have hne : ((t : Int) != (t : Int)) = false := by simp
      go_wp2
      go_round
      case rel => exact ⟨k + 1, by omega, by go_num, by rw [show k0 + (k + 1) = t + 1 by have := ht.out; omega]; go_num⟩
      case measure => simp [intOf]; omega
    · have hk' : k = n := by omega
      subst hk'
      go_wp2
      go_ret
      exact ⟨rfl, rfl⟩

/-- The first n numbers of an array. -/
def listF (f : Nat → Int) (n : Nat) : List Int := (List.range n).map f

theorem listF_len (f : Nat → Int) (n : Nat) : (listF f n).length = n := by simp [listF]
theorem listF_at (f : Nat → Int) (n i : Nat) (h : i < n) : (listF f n).getD i 0 = f i := by simp [listF, h]

set_option maxHeartbeats 400000 in
theorem list_any (f : Nat → Int) (n : Nat) (w : World) (hn : n ≤ 16) (hs : ∀ i, 0 ≤ f i ∧ f i ≤ 255) :
    Calls Try.prog 75 #[.agg (tokF f), .int .i64 (n : Int)] w fun e w' =>
      e = .returned (.slice (some ⟨w.heap.size + 1, 0, none⟩) n n) ∧ w' = (w.alloc (.cells (tokF f) 106)).alloc (.cells (cellsOf (listF f n)) 3) := by
  have hmk := run_make_row' (P := Try.prog) 38 3 (.int .i64 0) 8 Try.underlying38 Try.info3 rfl .i64 .i64 n (by omega) (by omega)
  go_enter Try.func75, Try.ntmps75
  go_wp2
  go_loopw [11] (fun i wr => ∃ k : Nat, k ≤ n ∧ i = .int .i64 k ∧ ∃ cs, Fill (listF f n) n k cs ∧ wr = (w.alloc (.cells (tokF f) 106)).alloc (.cells cs 3)) (fun i _ => n - (intOf i).toNat)
  case atStart => exact ⟨0, Nat.zero_le _, rfl, _, ⟨size_madeCells _ _, fun i hi => absurd hi (by omega)⟩, rfl⟩
  case round =>
    obtain ⟨k, hk, rfl, cs, hf, rfl⟩ := hrel
    by_cases hlt : k < n
    · have HF := hide (set_fill hf hlt (listF_at f n k hlt))
      have hsz := hf.1
      obtain ⟨v0, hv0⟩ : ∃ v0, cs[k]? = some v0 := ⟨_, Array.getElem?_eq_getElem (by omega)⟩
      have hat := tokF_at f k (by omega)
      have hx := hs k
      have hi1 : ((k : Int)) < 16 := by omega
      obtain ⟨x, hxq⟩ : ∃ x, Hid (f k = x) := ⟨_, rfl⟩
      rw [hxq.out] at hat hx HF
      clear hf hmk hs
      go_wp2
      go_roundw
      case rel => exact ⟨k + 1, by omega, by go_num, _, HF.out, rfl⟩
      case measure => simp [intOf]; omega
    · have hk' : k = n := by omega
      subst hk'
      have HF := hf.done (listF_len _ _)
      clear hmk hf
      subst HF
      go_wp2
      go_ret
      exact ⟨rfl, rfl⟩
end Go.Proofs.Ytnknhjiofpjbbaa
