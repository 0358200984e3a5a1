/- Contracts that the proof stands on, one behind the other. -/
import Derived.Test.YtdhnhpjcoeglmaaRows
import Derived.WalkKit
import Derived.WalkSpells
import Derived.WalkLawsBesides
import Derived.Deep.OwnRows
import Derived.Deep.QuietTactic
import Derived.BigQuiet
import Derived.Laws.Tables
import Derived.Laws.ResultCell
import Derived.Deep.MidRow
import Derived.Deep.Slices
import Derived.Deep.Strs
import Derived.Lib.SmallJoins
import Derived.ProofKit
import Derived.Deep.RegionWith
import Derived.OpenShut
import Derived.ChangeOld
import Derived.Below
/- Contracts of the smallest functions that the laws of chapter 1 go through, for every input in every memory: l1In, l1Places, goodPlaces, toIntS, eqIntS, l1All and the specification's GoodMark answer as the plain functions below say, and write into nothing that was there. -/
namespace Go.Proofs.Ytdhnhpjcoeglmaa
open Go.RowKit

theorem hide {p : Prop} (h : p) : Hid p := h

/-- A slice of integers reads as the list xs. -/
def Row (w : World) (a : Option Addr) (n : Nat) (xs : List Int) : Prop :=
  xs.length = n ∧ (n = 0 ∨ ∃ b off, a = some ⟨b, off, none⟩ ∧ b < w.heap.size ∧ ∀ i, i < n → w.cell? ⟨b, off + i, none⟩ = some (.int .i64 (xs.getD i 0)))

theorem Row.at {w : World} {a : Option Addr} {n : Nat} {xs : List Int} (h : Row w a n xs) {k : Nat} (hk : k < n) :
    ∃ b off x, a = some ⟨b, off, none⟩ ∧ b < w.heap.size ∧ w.cell? ⟨b, off + k, none⟩ = some (.int .i64 x) ∧ Hid (xs[k]? = some x) := by
  rcases h.2 with h0 | ⟨b, off, e, hb, hc⟩
  · omega
  · have hl := h.1
    exact ⟨b, off, _, e, hb, hc k hk, by unfold Hid; simp [List.getElem?_eq_getElem (show k < xs.length by omega)]⟩

theorem Row.below {w w' : World} {a : Option Addr} {n : Nat} {xs : List Int} (h : Row w a n xs) (hb : Below w.heap.size w w') : Row w' a n xs := by
  refine ⟨h.1, ?_⟩
  rcases h.2 with h0 | ⟨b, off, e, hl, hc⟩
  · exact .inl h0
  · exact .inr ⟨b, off, e, Nat.lt_of_lt_of_le hl hb.size, fun i hi => (hb.cell (p := ⟨b, off + i, none⟩) hl).trans (hc i hi)⟩

theorem Row.drewN {w : World} {a : Option Addr} {n : Nat} {xs : List Int} (h : Row w a n xs) (q : Nat) : Row (w.drewN q) a n xs := h

theorem drewN_two (w : World) (q r : Nat) : (w.drewN q).drewN r = w.drewN (q + r) := by simp [World.drewN, Nat.add_assoc]

theorem below_drewN' (w : World) (q : Nat) : Below w.heap.size w (w.drewN q) := ⟨rfl, rfl, rfl, Nat.le_refl _, fun _ _ => rfl⟩

/-- The cells of a list of integers. -/
def cellsOf (xs : List Int) : Array Value := (xs.map (Value.int .i64)).toArray

theorem cellsOf_at (xs : List Int) (i : Nat) (h : i < xs.length) : (cellsOf xs)[i]? = some (.int .i64 (xs.getD i 0)) := by
  simp [cellsOf, List.getElem?_map, List.getElem?_eq_getElem h]

/-- A slice that lies from the head of a block of the call's own, not frozen, and is as long as the block. -/
def Own (B : Nat) (w : World) (a : Option Addr) (n : Nat) (xs : List Int) : Prop :=
  xs.length = n ∧ ∃ b, a = some ⟨b, 0, none⟩ ∧ B ≤ b ∧ w.heap[b]? = some (.cells (cellsOf xs) 3 (0, 0))

theorem Own.row {B : Nat} {w : World} {a : Option Addr} {n : Nat} {xs : List Int} (h : Own B w a n xs) : Row w a n xs := by
  obtain ⟨hl, b, e, hB, hh⟩ := h
  refine ⟨hl, .inr ⟨b, 0, e, ?_, fun i hi => ?_⟩⟩
  · exact (Array.getElem?_eq_some_iff.mp hh).1
  · rw [cell_of_row w b (0 + i) _ _ _ hh, Nat.zero_add]
    exact cellsOf_at xs i (by omega)

theorem Row.alloc {w : World} {a : Option Addr} {n : Nat} {xs : List Int} (h : Row w a n xs) (o : Obj) : Row (w.alloc o) a n xs :=
  h.below ((Below.refl _ _).alloc (Nat.le_refl _) _)

theorem row_new (w : World) (xs : List Int) (n b : Nat) (hl : xs.length = n) (hb : b = w.heap.size) : Row (w.alloc (.cells (cellsOf xs) 3)) (some ⟨b, 0, none⟩) n xs := by
  subst hb
  exact Own.row (B := 0) ⟨hl, _, rfl, Nat.zero_le _, heap_alloc_new _ _⟩

def inB (n lo hi : Int) : Bool := decide (lo ≤ n) && decide (n ≤ hi)

theorem in_any (n lo hi : Int) (w : World) :
    Calls Try.prog 74 #[.int .i64 n, .int .i64 lo, .int .i64 hi] w fun e w' => e = .returned (.bool (inB n lo hi)) ∧ w' = w := by
  unfold inB
  by_cases h1 : lo ≤ n
  · by_cases h2 : n ≤ hi
    all_goals
      go_enter Try.func74, Try.ntmps74
      go_wp2
      go_ret
      exact ⟨by simp [h1, h2], rfl⟩
  · go_enter Try.func74, Try.ntmps74
    go_wp2
    go_ret
    exact ⟨by simp; omega, rfl⟩

theorem places_any (n : Int) (w : World) :
    Calls Try.prog 133 #[.int .i64 n] w fun e w' => e = .returned (.bool (inB n 1 16)) ∧ w' = w := by
  go_enter Try.func133, Try.ntmps133
  go_wp2_with (go_at_call 74; refine (in_any _ _ _ _).mono ?_; rintro e w' ⟨rfl, rfl⟩)
  go_ret
  exact ⟨rfl, rfl⟩

theorem goodPlaces_any (n : Int) (w : World) :
    Calls Try.prog 140 #[.int .i64 n] w fun e w' => e = .returned (.bool (inB n 1 16)) ∧ w' = w := by
  unfold inB
  by_cases h1 : 1 ≤ n
  · by_cases h2 : n ≤ 16
    all_goals
      go_enter Try.func140, Try.ntmps140
      go_wp2
      go_ret
      exact ⟨by simp [h1, h2], rfl⟩
  · go_enter Try.func140, Try.ntmps140
    go_wp2
    go_ret
    exact ⟨by simp; omega, rfl⟩

/-- The first k numbers of two lists are the same. -/
def Upto (xs ys : List Int) (k : Nat) : Prop := xs.take k = ys.take k

theorem Upto.step {xs ys : List Int} {k : Nat} {x : Int} (h : Upto xs ys k) (h1 : Hid (xs[k]? = some x)) (h2 : Hid (ys[k]? = some x)) : Upto xs ys (k + 1) := by
  unfold Upto at *
  rw [List.take_add_one, List.take_add_one, h, h1.out, h2.out]

def sameB (xs ys : List Int) : Bool := decide (xs = ys)

theorem sameB_self (xs : List Int) : sameB xs xs = true := by simp [sameB]

theorem Upto.done {xs ys : List Int} {n : Nat} (h : Upto xs ys n) (h1 : xs.length = n) (h2 : ys.length = n) : sameB xs ys = true := by
  unfold Upto at h
  rw [List.take_of_length_le (by omega), List.take_of_length_le (by omega)] at h
  simp [sameB, h]

theorem sameB_len {xs ys : List Int} (h : xs.length ≠ ys.length) : sameB xs ys = false := by
  simp only [sameB, decide_eq_false_iff_not]
  intro e; rw [e] at h; exact h rfl

theorem sameB_ne {xs ys : List Int} {k : Nat} {x y : Int} (h1 : Hid (xs[k]? = some x)) (h2 : Hid (ys[k]? = some y)) (h : ¬ x = y) : sameB xs ys = false := by
  simp only [sameB, decide_eq_false_iff_not]
  intro e; rw [e, Hid, h2.out] at h1; simp at h1; exact h h1.symm

theorem ret_bool {a b : Bool} (h : a = b) : Ending.returned (.bool a) = .returned (.bool b) := by rw [h]

theorem Try.info3 : (Try.prog.info? 3).map (fun i => (i.zero, i.size, i.bytes)) = some (some (.int .i64 0), 1, 8) := by kernel_rfl

/-- The first k cells hold the first k numbers. -/
def Fill (xs : List Int) (n k : Nat) (cs : Array Value) : Prop := cs.size = n ∧ ∀ i, i < k → cs[i]? = some (.int .i64 (xs.getD i 0))

theorem Fill.step {xs : List Int} {n k : Nat} {cs : Array Value} {x : Int} (h : Fill xs n k cs) (hk : k < n) (hx : Hid (xs[k]? = some x)) : Fill xs n (k + 1) (cs.setIfInBounds k (.int .i64 x)) := by
  obtain ⟨h1, h2⟩ := h
  refine ⟨by simp [h1], fun i hi => ?_⟩
  rw [Array.getElem?_setIfInBounds]
  by_cases e : k = i
  · subst e; rw [if_pos rfl, if_pos (by omega)]; simp [hx.out]
  · rw [if_neg e]; exact h2 i (by omega)

theorem Fill.done {xs : List Int} {n : Nat} {cs : Array Value} (h : Fill xs n n cs) (hx : xs.length = n) : cs = cellsOf xs := by
  obtain ⟨h1, h2⟩ := h
  apply Array.ext_getElem?
  intro i
  by_cases hi : i < n
  · rw [h2 i hi, cellsOf_at xs i (by omega)]
  · rw [Array.getElem?_eq_none (by omega), Array.getElem?_eq_none (by simp [cellsOf]; omega)]

end Go.Proofs.Ytdhnhpjcoeglmaa


/- What tokensOf answers for a list of as many numbers as there are places: the array of its numbers and true just where each is in 0..50; nothing that was there is written. -/
namespace Go.Proofs.Ytdhnhpjcoeglmaa
open Go.RowKit

/-- The array of sixteen small numbers. -/
def tokF (f : Nat → Int) : Array Value := Array.ofFn (n := 16) fun i => .int .u8 (f i.val)

theorem tokF_size (f : Nat → Int) : (tokF f).size = 16 := by simp [tokF]

theorem tokF_at (f : Nat → Int) (i : Nat) (h : i < 16) : (tokF f)[i]? = some (.int .u8 (f i)) := by
  simp [tokF, h]

theorem tokF_one (f : Nat → Int) : (tokF f).all (·.oneCell') = true := by
  rw [Array.all_eq_true]
  intro i hi
  simp [tokF, Value.oneCell']

theorem tokF_set (f g : Nat → Int) (k : Nat) (x : Int) (hx : g k = x) (he : ∀ i, i ≠ k → g i = f i) : (tokF f).setIfInBounds k (.int .u8 x) = tokF g := by
  apply Array.ext_getElem?
  intro i
  rw [Array.getElem?_setIfInBounds]
  by_cases hi : i < 16
  · rw [tokF_at _ _ hi, tokF_at _ _ hi]
    by_cases e : k = i
    · subst e; rw [if_pos rfl, if_pos (by simpa [tokF_size] using hi), hx]
    · rw [if_neg e, he i (by omega)]
  · rw [Array.getElem?_eq_none (xs := tokF g) (by simp [tokF_size]; omega)]
    split
    · rw [if_neg (by simp [tokF_size]; omega)]
    · exact Array.getElem?_eq_none (by simp [tokF_size]; omega)

/-- The first k numbers of a list, and noughts behind them. -/
def fOf (xs : List Int) (k : Nat) : Nat → Int := fun i => if i < k then xs.getD i 0 else 0

def packOf (xs : List Int) (k : Nat) : Array Value := tokF (fOf xs k)

theorem packOf_size (xs : List Int) (k : Nat) : (packOf xs k).size = 16 := tokF_size _

theorem packOf_at (xs : List Int) (k i : Nat) (h : i < 16) : (packOf xs k)[i]? = some (.int .u8 (if i < k then xs.getD i 0 else 0)) := tokF_at _ _ h

theorem packOf_zero (xs : List Int) : packOf xs 0 = #[.int .u8 0, .int .u8 0, .int .u8 0, .int .u8 0, .int .u8 0, .int .u8 0, .int .u8 0, .int .u8 0, .int .u8 0, .int .u8 0, .int .u8 0, .int .u8 0, .int .u8 0, .int .u8 0, .int .u8 0, .int .u8 0] := by
  rfl

theorem packOf_step (xs : List Int) (k : Nat) (x : Int) (hx : Hid (xs[k]? = some x)) : (packOf xs k).setIfInBounds k (.int .u8 x) = packOf xs (k + 1) := by
  refine tokF_set _ _ k x ?_ fun i hi => ?_
  · simp [fOf, hx.out]
  · unfold fOf
    by_cases h : i < k
    · rw [if_pos h, if_pos (by omega)]
    · rw [if_neg h, if_neg (by omega)]

def allB (xs : List Int) (lo hi : Int) : Bool := xs.all fun x => inB x lo hi
def goodB (p : Int) (xs : List Int) : Bool := inB p 1 16 && decide ((xs.length : Int) = p) && allB xs 0 50

theorem allB_take_succ (xs : List Int) (k : Nat) (x : Int) (h : Hid (xs[k]? = some x)) (hu : allB (xs.take k) 0 50 = true) (h0 : ¬ x < 0) (h50 : ¬ 50 < x) : allB (xs.take (k + 1)) 0 50 = true := by
  unfold allB at *
  rw [List.take_add_one, h.out, List.all_append, hu]
  simp [inB]; omega

theorem allB_not (xs : List Int) (k : Nat) (x : Int) (h : Hid (xs[k]? = some x)) (hx : x < 0 ∨ 50 < x) : allB xs 0 50 = false := by
  unfold allB
  rw [List.all_eq_false]
  exact ⟨x, List.mem_of_getElem? h.out, by simp [inB]; omega⟩

/-- How a call of tokensOf ends. -/
def TokEnd (g : Bool) (xs : List Int) (n : Nat) (w : World) (e : Ending) (w' : World) : Prop :=
  ∃ m, e = .returned (.tuple #[.agg (packOf xs m), .bool g]) ∧ Hid (g = true → m = n) ∧ Below w.heap.size w w'

theorem tokEnd_yes {g : Bool} {xs : List Int} {n : Nat} {w w' : World} (h : g = true) (hb : Below w.heap.size w w') : TokEnd g xs n w (.returned (.tuple #[.agg (packOf xs n), .bool true])) w' := by
  subst h; exact ⟨n, rfl, fun _ => rfl, hb⟩

theorem tokEnd_no {g : Bool} {xs : List Int} {n : Nat} {w w' : World} (h : g = false) (hb : Below w.heap.size w w') : TokEnd g xs n w (.returned (.tuple #[.agg #[.int .u8 0, .int .u8 0, .int .u8 0, .int .u8 0, .int .u8 0, .int .u8 0, .int .u8 0, .int .u8 0, .int .u8 0, .int .u8 0, .int .u8 0, .int .u8 0, .int .u8 0, .int .u8 0, .int .u8 0, .int .u8 0], .bool false])) w' := by
  subst h; exact ⟨0, by rw [packOf_zero], fun h => by simp at h, hb⟩

theorem below_two (w : World) (A B : Obj) : Below w.heap.size w ((w.alloc A).alloc B) :=
  ((Below.refl _ _).alloc (Nat.le_refl _) _).alloc (by simp) _

theorem below_setRow {B : Nat} {a w : World} (h : Below B a w) (g : Nat) (hg : B ≤ g) (cs : Array Value) : Below B a (w.setRow g cs) := by
  refine h.trans ⟨rfl, rfl, rfl, by simp, fun k hk => ?_⟩
  simp only [World.setRow, Array.getElem?_modify]
  rw [if_neg (by omega)]

theorem packOf_one (xs : List Int) (k : Nat) : (packOf xs k).all (·.oneCell') = true := tokF_one _

theorem Try.size93 : (Try.prog.info? 93).map (·.size) = some 16 := by kernel_rfl

theorem setRow_at (w : World) (A : Array Value) (B : Obj) (t : TypeId) (cs : Array Value) : (((w.alloc (.cells A t)).alloc B).setRow w.heap.size cs).heap[w.heap.size]? = some (.cells cs t (0, 0)) := by
  simp only [World.setRow, Array.getElem?_modify]
  rw [if_pos trivial, heap_alloc2_old]
  rfl

set_option maxRecDepth 10000 in
set_option maxHeartbeats 1000000 in
theorem tokens_run (g : Bool) (p : Int) (a : Option Addr) (n ca : Nat) (xs : List Int) (w : World) (ha : Row w a n xs) (hp : inB p 1 16 = true) (hnp : Hid ((n : Int) = p)) (h16 : n ≤ 16) (hg : Hid (g = allB xs 0 50)) :
    Calls Try.prog 112 #[.int .i64 p, .slice a n ca] w fun e w' => TokEnd g xs n w e w' := by
  have hd : ((n : Int) != p) = false := by simp [hnp.out]
  go_enter Try.func112, Try.ntmps112
  go_wp2_with (go_at_call 140; refine (goodPlaces_any _ _).mono ?_; rintro e w' ⟨rfl, rfl⟩)
  clear hp hd
  go_loopw [21] (fun i wr => ∃ k : Nat, k ≤ n ∧ i = .int .i64 k ∧ Hid (allB (xs.take k) 0 50 = true) ∧ wr = (w.alloc (.cells #[.int .u8 0, .int .u8 0, .int .u8 0, .int .u8 0, .int .u8 0, .int .u8 0, .int .u8 0, .int .u8 0, .int .u8 0, .int .u8 0, .int .u8 0, .int .u8 0, .int .u8 0, .int .u8 0, .int .u8 0, .int .u8 0] 93)).alloc (.cells (packOf xs k) 93)) (fun i _ => n - (intOf i).toNat)
  case atStart => exact ⟨0, Nat.zero_le _, rfl, rfl, by rw [packOf_zero]⟩
  case round =>
    obtain ⟨k, hk, rfl, hu, rfl⟩ := hrel
    by_cases hlt : k < n
    · obtain ⟨b1, o1, x, rfl, hl1, hc1, H1⟩ := ha.at hlt
      clear ha
      by_cases h0 : x < 0
      · have HG : Hid (g = false) := by rw [hg.out]; exact allB_not xs k x H1 (.inl h0)
        go_wp2
        exact bodyPost_ret (v := .tuple #[.agg #[.int .u8 0, .int .u8 0, .int .u8 0, .int .u8 0, .int .u8 0, .int .u8 0, .int .u8 0, .int .u8 0, .int .u8 0, .int .u8 0, .int .u8 0, .int .u8 0, .int .u8 0, .int .u8 0, .int .u8 0, .int .u8 0], .bool false]) (by simp [results, Try.results112, go_sem]) rfl (tokEnd_no HG.out (below_two _ _ _))
      · by_cases h50 : 50 < x
        · have HG : Hid (g = false) := by rw [hg.out]; exact allB_not xs k x H1 (.inr h50)
          go_wp2
          exact bodyPost_ret (v := .tuple #[.agg #[.int .u8 0, .int .u8 0, .int .u8 0, .int .u8 0, .int .u8 0, .int .u8 0, .int .u8 0, .int .u8 0, .int .u8 0, .int .u8 0, .int .u8 0, .int .u8 0, .int .u8 0, .int .u8 0, .int .u8 0, .int .u8 0], .bool false]) (by simp [results, Try.results112, go_sem]) rfl (tokEnd_no HG.out (below_two _ _ _))
        · have HU : Hid (allB (xs.take (k + 1)) 0 50 = true) := allB_take_succ xs k x H1 hu.out h0 h50
          have hst := packOf_step xs k x H1
          have hat := packOf_at xs k k (by omega)
          rw [if_neg (by omega)] at hat
          clear H1 hu
          go_wp2
          go_roundw
          case rel => exact ⟨k + 1, by omega, by go_num, HU, rfl⟩
          case measure => simp [intOf]; omega
    · have hk' : k = n := by omega
      subst hk'
      have HG : Hid (g = true) := by
        show g = true
        rw [hg.out, ← hu.out, List.take_of_length_le (by have := ha.1; omega)]
      have hg1 := heap_alloc2_new w (.cells #[.int .u8 0, .int .u8 0, .int .u8 0, .int .u8 0, .int .u8 0, .int .u8 0, .int .u8 0, .int .u8 0, .int .u8 0, .int .u8 0, .int .u8 0, .int .u8 0, .int .u8 0, .int .u8 0, .int .u8 0, .int .u8 0] 93) (.cells (packOf xs k) 93)
      have hg0 := heap_alloc2_old w (.cells #[.int .u8 0, .int .u8 0, .int .u8 0, .int .u8 0, .int .u8 0, .int .u8 0, .int .u8 0, .int .u8 0, .int .u8 0, .int .u8 0, .int .u8 0, .int .u8 0, .int .u8 0, .int .u8 0, .int .u8 0, .int .u8 0] 93) (.cells (packOf xs k) 93)
      clear ha hg hnp hu
      go_wp2_with (first
        | refine wpList_load_row rfl 93 _ rfl (w.heap.size + 1) rfl 93 (packOf xs k) (0, 0) _ hg1 Try.underlying93 rfl (by rw [packOf_size]; exact Try.size93) ?_
        | refine wpList_store_row rfl 93 _ _ rfl w.heap.size (packOf xs k) rfl rfl 93 _ hg0 (by rw [packOf_size]; exact Try.size93) (by rw [packOf_size]; rfl) (packOf_one xs k) ?_)
      refine bodyPost_ret (v := .tuple #[.agg (packOf xs k), .bool true]) ?_ rfl (tokEnd_yes HG.out (below_setRow (below_two _ _ _) _ (Nat.le_refl _) _))
      refine (results_cell_tmp Try.results112 _ _ _).trans ?_
      show ((loadVar 93 ⟨w.heap.size, 0, none⟩).run Try.prog _).andThen _ = _
      rw [run_loadVar_row _ _ 93 93 (packOf xs k) (0, 0) _ (setRow_at _ _ _ _ _) Try.underlying93 rfl (by rw [packOf_size]; exact Try.size93)]
      rfl
end Go.Proofs.Ytdhnhpjcoeglmaa


/- What markIntS writes, what heldIntS answers, and what the list of an array is, for slices that lie from the head of a block of their own; nothing else that was there is written. -/
namespace Go.Proofs.Ytdhnhpjcoeglmaa
open Go.RowKit

/-- Nothing but the block b has turned, and no block is new. -/
structure Only (b : Nat) (w w' : World) : Prop where
  os : w'.os = w.os
  tape : w'.tape = w.tape
  output : w'.output = w.output
  size : w'.heap.size = w.heap.size
  block : ∀ k, k ≠ b → w'.heap[k]? = w.heap[k]?

theorem Only.refl (b : Nat) (w : World) : Only b w w := ⟨rfl, rfl, rfl, rfl, fun _ _ => rfl⟩
theorem Only.below {b B : Nat} {w w' : World} (h : Only b w w') (hb : B ≤ b) : Below B w w' := ⟨h.os, h.tape, h.output, Nat.le_of_eq h.size.symm, fun k hk => h.block k (by omega)⟩
theorem Only.setCell {b : Nat} {w w' : World} (h : Only b w w') (o : Nat) (v : Value) : Only b w (w'.setCell ⟨b, o, none⟩ v) :=
  ⟨h.os, h.tape, h.output, by rw [← h.size]; simp [World.setCell], fun k hk => (Below.heap_setCell _ _ _ _ hk).trans (h.block k hk)⟩

/-- A slice that lies from the head of the block b, as long as it is; or an empty one. -/
def Blk (w : World) (a : Option Addr) (b n : Nat) (xs : List Int) : Prop :=
  xs.length = n ∧ (n = 0 ∨ (a = some ⟨b, 0, none⟩ ∧ w.heap[b]? = some (.cells (cellsOf xs) 3 (0, 0))))

theorem Blk.row {w : World} {a : Option Addr} {b n : Nat} {xs : List Int} (h : Blk w a b n xs) : Row w a n xs := by
  rcases h.2 with h0 | ⟨e, hh⟩
  · exact ⟨h.1, .inl h0⟩
  · exact Own.row (B := 0) ⟨h.1, b, e, Nat.zero_le _, hh⟩

theorem Blk.below {w w' : World} {a : Option Addr} {b n B : Nat} {xs : List Int} (h : Blk w a b n xs) (hb : Below B w w') (hB : b < B) : Blk w' a b n xs := by
  refine ⟨h.1, ?_⟩
  rcases h.2 with h0 | ⟨e, hh⟩
  · exact .inl h0
  · exact .inr ⟨e, (hb.block b hB).trans hh⟩

theorem Blk.only {w w' : World} {a : Option Addr} {b c n : Nat} {xs : List Int} (h : Blk w a b n xs) (hb : Only c w w') (hB : b ≠ c) : Blk w' a b n xs := by
  refine ⟨h.1, ?_⟩
  rcases h.2 with h0 | ⟨e, hh⟩
  · exact .inl h0
  · exact .inr ⟨e, (hb.block b hB).trans hh⟩

/-- k, k + 1, and so on. -/
def seqL (k n : Nat) : List Int := (List.range n).map fun i => ((k + i : Nat) : Int)

theorem seqL_len (k n : Nat) : (seqL k n).length = n := by simp [seqL]
theorem seqL_at (k n i : Nat) (h : i < n) : (seqL k n).getD i 0 = ((k + i : Nat) : Int) := by simp [seqL, h]

theorem set_fill {xs : List Int} {n k : Nat} {cs : Array Value} {x : Int} (h : Fill xs n k cs) (hk : k < n) (hx : xs.getD k 0 = x) : Fill xs n (k + 1) (cs.setIfInBounds k (.int .i64 x)) := by
  obtain ⟨h1, h2⟩ := h
  refine ⟨by simp [h1], fun i hi => ?_⟩
  rw [Array.getElem?_setIfInBounds]
  by_cases e : k = i
  · subst e; rw [if_pos rfl, if_pos (by omega), hx]
  · rw [if_neg e]; exact h2 i (by omega)

/-- The first n numbers of an array. -/
def listF (f : Nat → Int) (n : Nat) : List Int := (List.range n).map f

theorem listF_len (f : Nat → Int) (n : Nat) : (listF f n).length = n := by simp [listF]
theorem listF_at (f : Nat → Int) (n i : Nat) (h : i < n) : (listF f n).getD i 0 = f i := by simp [listF, h]

set_option maxHeartbeats 400000 in
theorem list_any (f : Nat → Int) (n : Nat) (w : World) (hn : n ≤ 16) (hs : ∀ i, 0 ≤ f i ∧ f i ≤ 255) :
    Calls Try.prog 70 #[.agg (tokF f), .int .i64 (n : Int)] w fun e w' =>
      e = .returned (.slice (some ⟨w.heap.size + 1, 0, none⟩) n n) ∧ w' = (w.alloc (.cells (tokF f) 93)).alloc (.cells (cellsOf (listF f n)) 3) := by
  have hmk := run_make_row' (P := Try.prog) 31 3 (.int .i64 0) 8 Try.underlying31 Try.info3 rfl .i64 .i64 n (by omega) (by omega)
  go_enter Try.func70, Try.ntmps70
  go_wp2
  go_loopw [11] (fun i wr => ∃ k : Nat, k ≤ n ∧ i = .int .i64 k ∧ ∃ cs, Fill (listF f n) n k cs ∧ wr = (w.alloc (.cells (tokF f) 93)).alloc (.cells cs 3)) (fun i _ => n - (intOf i).toNat)
  case atStart => exact ⟨0, Nat.zero_le _, rfl, _, ⟨size_madeCells _ _, fun i hi => absurd hi (by omega)⟩, rfl⟩
  case round =>
    obtain ⟨k, hk, rfl, cs, hf, rfl⟩ := hrel
    by_cases hlt : k < n
    · have HF := hide (set_fill hf hlt (listF_at f n k hlt))
      have hsz := hf.1
      obtain ⟨v0, hv0⟩ : ∃ v0, cs[k]? = some v0 := ⟨_, Array.getElem?_eq_getElem (by omega)⟩
      have hat := tokF_at f k (by omega)
      have hx := hs k
      have hi1 : ((k : Int)) < 16 := by omega
      obtain ⟨x, hxq⟩ : ∃ x, Hid (f k = x) := ⟨_, rfl⟩
      rw [hxq.out] at hat hx HF
      clear hf hmk hs
      go_wp2
      go_roundw
      case rel => exact ⟨k + 1, by omega, by go_num, _, HF.out, rfl⟩
      case measure => simp [intOf]; omega
    · have hk' : k = n := by omega
      subst hk'
      have HF := hf.done (listF_len _ _)
      clear hmk hf
      subst HF
      go_wp2
      go_ret
      exact ⟨rfl, rfl⟩
end Go.Proofs.Ytdhnhpjcoeglmaa


/- Nets in memory: a slice of transitions read as its lists, three a transition; how an argument is opened to that; what the size functions answer. -/
namespace Go.Proofs.Ytdhnhpjcoeglmaa
open Go.RowKit

/-- A row of slices of integers reads as the lists L. -/
def Lists (w : World) (a : Option Addr) (n : Nat) (L : List (List Int)) : Prop :=
  L.length = n ∧ (n = 0 ∨ ∃ b off, a = some ⟨b, off, none⟩ ∧ b < w.heap.size ∧ ∀ j, j < n → ∃ a' n' c', w.cell? ⟨b, off + j, none⟩ = some (.slice a' n' c') ∧ n' ≤ maxLen ∧ Row w a' n' (L.getD j []))

theorem Lists.below {w w' : World} {a : Option Addr} {n : Nat} {L : List (List Int)} (h : Lists w a n L) (hb : Below w.heap.size w w') : Lists w' a n L := by
  refine ⟨h.1, ?_⟩
  rcases h.2 with h0 | ⟨b, off, e, hl, hc⟩
  · exact .inl h0
  · refine .inr ⟨b, off, e, Nat.lt_of_lt_of_le hl hb.size, fun j hj => ?_⟩
    obtain ⟨a', n', c', h1, h2, h3⟩ := hc j hj
    exact ⟨a', n', c', (hb.cell (p := ⟨b, off + j, none⟩) hl).trans h1, h2, h3.below hb⟩

/-- The lists of a transition lie in three cells. -/
def Tri (w : World) (b o : Nat) (a0 a1 a2 : Option Addr) (n0 n1 n2 c0 c1 c2 : Nat) (x0 x1 x2 : List Int) : Prop :=
  w.rangeAt b o [.slice a0 n0 c0, .slice a1 n1 c1, .slice a2 n2 c2] ∧ n0 ≤ maxLen ∧ n1 ≤ maxLen ∧ n2 ≤ maxLen ∧ Row w a0 n0 x0 ∧ Row w a1 n1 x1 ∧ Row w a2 n2 x2

theorem Lists.tri {w : World} {a : Option Addr} {n : Nat} {L : List (List Int)} (h : Lists w a (3 * n) L) {k : Nat} (hk : k < n) :
    ∃ b off a0 n0 c0 a1 n1 c1 a2 n2 c2, a = some ⟨b, off, none⟩ ∧ b < w.heap.size ∧ Tri w b (off + k * 3) a0 a1 a2 n0 n1 n2 c0 c1 c2 (L.getD (3 * k) []) (L.getD (3 * k + 1) []) (L.getD (3 * k + 2) []) := by
  rcases h.2 with h0 | ⟨b, off, e, hl, hc⟩
  · omega
  · obtain ⟨a0, n0, c0, h1, h2, h3⟩ := hc (3 * k) (by omega)
    obtain ⟨a1, n1, c1, h4, h5, h6⟩ := hc (3 * k + 1) (by omega)
    obtain ⟨a2, n2, c2, h7, h8, h9⟩ := hc (3 * k + 2) (by omega)
    refine ⟨b, off, a0, n0, c0, a1, n1, c1, a2, n2, c2, e, hl, ?_, h2, h5, h8, h3, h6, h9⟩
    rw [Nat.mul_comm k 3]
    intro j v hv
    match j, hv with
    | 0, hv => simp at hv; subst hv; exact h1
    | 1, hv => simp at hv; subst hv; exact h4
    | 2, hv => simp at hv; subst hv; exact h7
    | (q + 3), hv => simp at hv

theorem below_al (w : World) (o : Obj) : Below w.heap.size w (w.alloc o) := (Below.refl _ _).alloc (Nat.le_refl _) _

/-- How much the lists hold. -/
def sizeL (L : List (List Int)) : Nat := (L.map List.length).sum

def sizeN (n : Nat) (L : List (List Int)) : Nat := n + sizeL L

theorem sizeL_take_succ (L : List (List Int)) (k : Nat) (h : k < L.length) : sizeL (L.take (k + 1)) = sizeL (L.take k) + (L.getD k []).length := by
  unfold sizeL
  rw [List.take_add_one, List.getElem?_eq_getElem h, List.map_append, List.sum_append]
  simp [List.getElem?_eq_getElem h]

theorem sizeL_take_le (L : List (List Int)) (k : Nat) : sizeL (L.take k) ≤ sizeL L := by
  conv => rhs; rw [← List.take_append_drop k L]
  unfold sizeL
  rw [List.map_append, List.sum_append]
  omega

/-- What a size function answers. -/
def leftOf (left : Int) (s : Nat) : Int := if (s : Int) ≤ left then left - s else -1

theorem ret_int {a b : Int} (h : a = b) : Ending.returned (.int .i64 a) = .returned (.int .i64 b) := by rw [h]

theorem leftOf_neg {left : Int} {s : Nat} (h : leftOf left s < 0) : left < s := by
  unfold leftOf at h; split at h <;> omega
theorem leftOf_pos {left : Int} {s : Nat} (h : ¬ leftOf left s < 0) : (s : Int) ≤ left ∧ leftOf left s = left - s := by
  unfold leftOf at *; split at h <;> first | omega | (rename_i h'; rw [if_pos h']; exact ⟨h', rfl⟩)

theorem leftOf_add {left : Int} {s t : Nat} (h : ¬ leftOf left s < 0) : leftOf (leftOf left s) t = leftOf left (s + t) := by
  have ⟨h1, h2⟩ := leftOf_pos h
  rw [h2]; unfold leftOf
  by_cases h3 : (t : Int) ≤ left - s
  · rw [if_pos h3, if_pos (by omega)]; omega
  · rw [if_neg h3, if_neg (by omega)]

theorem leftOf_neg_add {left : Int} {s : Nat} (t : Nat) (h : leftOf left s < 0) : leftOf left (s + t) = -1 := by
  have := leftOf_neg h
  unfold leftOf; rw [if_neg (by omega)]

theorem rangeAt_cells3 {w : World} {b o : Nat} {v0 v1 v2 : Value} (h : w.rangeAt b o [v0, v1, v2]) : w.cell? ⟨b, o, none⟩ = some v0 ∧ w.cell? ⟨b, o + 1, none⟩ = some v1 ∧ w.cell? ⟨b, o + 2, none⟩ = some v2 :=
  ⟨h 0 _ rfl, h 1 _ rfl, h 2 _ rfl⟩

end Go.Proofs.Ytdhnhpjcoeglmaa


/- What toTrans, toTransS and toNet make: a net of the same lists, all in blocks of their own; and what eqTrans, eqTransS and eqNet answer. -/
namespace Go.Proofs.Ytdhnhpjcoeglmaa
open Go.RowKit

/-- Three lists in blocks of their own. -/
def Tri3 (w w' : World) (e : Ending) (x0 x1 x2 : List Int) : Prop :=
  ∃ b0 b1 b2, e = .returned (.agg #[.slice (some ⟨b0, 0, none⟩) x0.length x0.length, .slice (some ⟨b1, 0, none⟩) x1.length x1.length, .slice (some ⟨b2, 0, none⟩) x2.length x2.length]) ∧ w.heap.size ≤ b0 ∧ b0 < b1 ∧ b1 < b2 ∧ b2 < w'.heap.size ∧
    w'.heap[b0]? = some (.cells (cellsOf x0) 3 (0, 0)) ∧ w'.heap[b1]? = some (.cells (cellsOf x1) 3 (0, 0)) ∧ w'.heap[b2]? = some (.cells (cellsOf x2) 3 (0, 0)) ∧ Below w.heap.size w w'

theorem heap_al_old (w : World) (o : Obj) (k : Nat) (h : k < w.heap.size) : (w.alloc o).heap[k]? = w.heap[k]? := (below_al w o).block k h

theorem tri3_of (w v : World) (x0 x1 x2 : List Int) (hb : Below w.heap.size w v) :
    Tri3 w (((v.alloc (.cells (cellsOf x0) 3)).alloc (.cells (cellsOf x1) 3)).alloc (.cells (cellsOf x2) 3)) (.returned (.agg #[.slice (some ⟨v.heap.size, 0, none⟩) x0.length x0.length, .slice (some ⟨v.heap.size + 1, 0, none⟩) x1.length x1.length, .slice (some ⟨v.heap.size + 1 + 1, 0, none⟩) x2.length x2.length])) x0 x1 x2 := by
  have hs := hb.size
  refine ⟨_, _, _, rfl, hs, by omega, by omega, by simp, ?_, ?_, ?_, ?_⟩
  · rw [heap_al_old _ _ _ (by simp; omega), heap_al_old _ _ _ (by simp)]; exact heap_alloc_new _ _
  · rw [heap_al_old _ _ _ (by simp)]
    have := heap_alloc_new (v.alloc (.cells (cellsOf x0) 3)) (.cells (cellsOf x1) 3)
    simpa using this
  · have := heap_alloc_new ((v.alloc (.cells (cellsOf x0) 3)).alloc (.cells (cellsOf x1) 3)) (.cells (cellsOf x2) 3)
    simpa using this
  · exact ((hb.alloc hs _).alloc (by simp; omega) _).alloc (by simp; omega) _

theorem run_make_many {P : Program} (t e : TypeId) (z : Value) (size bytes : Nat) (ht : P.underlying t = some (.slice e)) (hinfo : (P.info? e).map (fun i => (i.zero, i.size, i.bytes)) = some (some z, size, bytes))
    (kl kc : IntKind) (n : Nat) (hbytes : bytes * n ≤ 281474976710656) (h63 : n ≤ 9223372036854775807) (w : World) :
    (Instr.makeSlice t (.int kl (n : Int)) (.int kc (n : Int))).run P w = .ok (.slice (some ⟨w.heap.size, 0, none⟩) n n) (w.alloc (.cells (madeCells z.cells (n * size)) e)) := by
  obtain ⟨i, hi, hzz⟩ := Option.map_eq_some_iff.1 hinfo
  simp only [Prod.mk.injEq] at hzz
  obtain ⟨hz, hs, hb⟩ := hzz
  have hb' : (i.bytes : Int) * (n : Int) ≤ 281474976710656 := by
    rw [hb]
    have h : ((bytes * n : Nat) : Int) ≤ 281474976710656 := by omega
    rwa [Int.natCast_mul] at h
  have hr := run_make (P := P) w t e i z ht hi hz kl kc n n (by omega) (Int.le_refl _) hb' (by omega)
  simp only [Int.toNat_natCast, hs] at hr
  exact hr

theorem Try.info78 : (Try.prog.info? 78).map (fun i => (i.zero, i.size, i.bytes)) = some (some (.agg #[.slice none 0 0, .slice none 0 0, .slice none 0 0]), 3, 72) := by kernel_rfl

/-- The first k of n lists lie in blocks of their own, rising, behind the block B that leads to them. -/
def PartL (w : World) (B n k : Nat) (T : TypeId) (L : List (List Int)) : Prop :=
  ∃ (C : Array Value) (f : Nat → Nat), w.heap[B]? = some (.cells C T (0, 0)) ∧ C.size = n ∧
    (∀ j, j < k → C[j]? = some (.slice (some ⟨f j, 0, none⟩) (L.getD j []).length (L.getD j []).length) ∧ B < f j ∧ w.heap[f j]? = some (.cells (cellsOf (L.getD j [])) 3 (0, 0))) ∧
    (∀ i j, i < j → j < k → f i < f j)

theorem PartL.grow {w w' : World} {B n k : Nat} {T : TypeId} {L : List (List Int)} (h : PartL w B n k T L) (hb : Below w.heap.size w w') : PartL w' B n k T L := by
  obtain ⟨C, f, h1, h2, h3, h4⟩ := h
  refine ⟨C, f, (hb.block B (Array.getElem?_eq_some_iff.mp h1).1).trans h1, h2, fun j hj => ?_, h4⟩
  obtain ⟨e1, e2, e3⟩ := h3 j hj
  exact ⟨e1, e2, (hb.block _ (Array.getElem?_eq_some_iff.mp e3).1).trans e3⟩

theorem heap_set3_same {w : World} {B o : Nat} {C : Array Value} {T : TypeId} (h : w.heap[B]? = some (.cells C T (0, 0))) (v0 v1 v2 : Value) :
    (w.setCells B o [v0, v1, v2]).heap[B]? = some (.cells (((C.setIfInBounds o v0).setIfInBounds (o + 1) v1).setIfInBounds (o + 1 + 1) v2) T (0, 0)) := by
  simp only [World.setCells]
  exact heap_setCell_same _ _ _ _ _ _ (heap_setCell_same _ _ _ _ _ _ (heap_setCell_same _ _ _ _ _ _ h))

theorem heap_set3_other (w : World) (B o k : Nat) (v0 v1 v2 : Value) (h : k ≠ B) : (w.setCells B o [v0, v1, v2]).heap[k]? = w.heap[k]? := by
  simp only [World.setCells]
  rw [Below.heap_setCell _ _ _ _ h, Below.heap_setCell _ _ _ _ h, Below.heap_setCell _ _ _ _ h]

theorem size_set3 (w : World) (B o : Nat) (v0 v1 v2 : Value) : (w.setCells B o [v0, v1, v2]).heap.size = w.heap.size := by simp [World.setCells, World.setCell]

theorem below_set3 {D : Nat} {a w : World} (h : Below D a w) {B : Nat} (hB : D ≤ B) (o : Nat) (v0 v1 v2 : Value) : Below D a (w.setCells B o [v0, v1, v2]) := by
  simp only [World.setCells]
  exact ((h.setCell (p := ⟨B, o, none⟩) hB v0).setCell (p := ⟨B, o + 1, none⟩) hB v1).setCell (p := ⟨B, o + 1 + 1, none⟩) hB v2

theorem there_of_row {w : World} {B o m : Nat} {C : Array Value} {T : TypeId} (h : w.heap[B]? = some (.cells C T (0, 0))) (hm : o + m ≤ C.size) : w.there B o m := fun j hj =>
  ⟨by rw [cell_of_row w B (o + j) C T _ h, Array.getElem?_eq_getElem (by omega)]; rfl, frozen_of_row w B (o + j) C _ h⟩

theorem wpList_store3 {P : Program} {ops : Array Oper} {rest : List Oper} {op : Oper} {a : Act} {w : World} {Q : Exit → Act → World → Prop} (hgd : op.guard = none) (ty : TypeId) (x y : Operand) (ho : op.op = .store ty x y)
    (b o : Nat) (v0 v1 v2 : Value) (hx : a.eval x = .pointer (some ⟨b, o, none⟩)) (hy : a.eval y = .agg #[v0, v1, v2]) (ht : w.there b o 3) (hi : (P.info? ty).map (·.size) = some 3) (h0 : v0.oneCell' = true) (h1 : v1.oneCell' = true) (h2 : v2.oneCell' = true)
    (h : wpList P ops Q rest (a.put op.dst undef) (w.setCells b o [v0, v1, v2])) : wpList P ops Q (op :: rest) a w :=
  wpList_store_mid hgd ty x y ho b o #[v0, v1, v2] hx hy ht hi (by simp [h0, h1, h2]) h

theorem Try.size78 : (Try.prog.info? 78).map (·.size) = some 3 := by kernel_rfl

theorem PartL.step {v w : World} {B n k b0 b1 b2 : Nat} {T : TypeId} {L : List (List Int)} {x0 x1 x2 : List Int} (h : PartL v B (3 * n) (3 * k) T L) (hk : k < n) (hb : Below v.heap.size v w)
    (h0 : v.heap.size ≤ b0) (h01 : b0 < b1) (h12 : b1 < b2) (g0 : w.heap[b0]? = some (.cells (cellsOf x0) 3 (0, 0))) (g1 : w.heap[b1]? = some (.cells (cellsOf x1) 3 (0, 0))) (g2 : w.heap[b2]? = some (.cells (cellsOf x2) 3 (0, 0)))
    (e0 : L.getD (3 * k) [] = x0) (e1 : L.getD (3 * k + 1) [] = x1) (e2 : L.getD (3 * k + 2) [] = x2) :
    PartL (w.setCells B (k * 3) [.slice (some ⟨b0, 0, none⟩) x0.length x0.length, .slice (some ⟨b1, 0, none⟩) x1.length x1.length, .slice (some ⟨b2, 0, none⟩) x2.length x2.length]) B (3 * n) (3 * (k + 1)) T L := by
  obtain ⟨C, f, h1, h2, h3, h4⟩ := h
  have hB := (Array.getElem?_eq_some_iff.mp h1).1
  have hold : ∀ j, j < 3 * k → f j < v.heap.size := fun j hj => (Array.getElem?_eq_some_iff.mp (h3 j hj).2.2).1
  refine ⟨_, fun j => if j < 3 * k then f j else if j = 3 * k then b0 else if j = 3 * k + 1 then b1 else b2, heap_set3_same ((hb.block B hB).trans h1) _ _ _, by simp [h2], fun j hj => ?_, fun i j hij hj => ?_⟩
  · by_cases hj3 : j < 3 * k
    · obtain ⟨q1, q2, q3⟩ := h3 j hj3
      simp only [if_pos hj3]
      refine ⟨?_, q2, ?_⟩
      · rw [Array.getElem?_setIfInBounds_ne (by omega), Array.getElem?_setIfInBounds_ne (by omega), Array.getElem?_setIfInBounds_ne (by omega)]; exact q1
      · rw [heap_set3_other _ _ _ _ _ _ _ (by omega)]; exact (hb.block _ (hold j hj3)).trans q3
    · simp only [if_neg hj3]
      obtain rfl | rfl | rfl : j = 3 * k ∨ j = 3 * k + 1 ∨ j = 3 * k + 2 := by omega
      · rw [if_pos rfl, e0]
        refine ⟨?_, by omega, ?_⟩
        · rw [Array.getElem?_setIfInBounds_ne (by omega), Array.getElem?_setIfInBounds_ne (by omega), Array.getElem?_setIfInBounds, if_pos (by omega), if_pos (by omega)]
        · rw [heap_set3_other _ _ _ _ _ _ _ (by omega)]; exact g0
      · rw [if_neg (by omega), if_pos rfl, e1]
        refine ⟨?_, by omega, ?_⟩
        · rw [Array.getElem?_setIfInBounds_ne (by omega), Array.getElem?_setIfInBounds, if_pos (by omega), if_pos (by simp; omega)]
        · rw [heap_set3_other _ _ _ _ _ _ _ (by omega)]; exact g1
      · rw [if_neg (by omega), if_neg (by omega), e2]
        refine ⟨?_, by omega, ?_⟩
        · rw [Array.getElem?_setIfInBounds, if_pos (by omega), if_pos (by simp; omega)]
        · rw [heap_set3_other _ _ _ _ _ _ _ (by omega)]; exact g2
  · have := h4 i j hij
    by_cases hi3 : i < 3 * k
    · have := hold i hi3
      simp only [if_pos hi3]
      repeat' split
      all_goals omega
    · simp only [if_neg hi3, if_neg (show ¬ j < 3 * k by omega)]
      repeat' split
      all_goals omega

theorem len_le (L : List (List Int)) (j : Nat) : (L.getD j []).length ≤ sizeL L := by
  by_cases h : j < L.length
  · have h1 := sizeL_take_succ L j h
    have h2 := sizeL_take_le L (j + 1)
    omega
  · simp [List.getD_eq_getElem?_getD, List.getElem?_eq_none (show L.length ≤ j by omega)]

end Go.Proofs.Ytdhnhpjcoeglmaa


/- What toNet makes, and that eqTrans, eqTransS and eqNet answer true for nets that read the same. -/
namespace Go.Proofs.Ytdhnhpjcoeglmaa
open Go.RowKit

theorem PartL.lists {w : World} {B n : Nat} {T : TypeId} {L : List (List Int)} (h : PartL w B (3 * n) (3 * n) T L) (hl : L.length = 3 * n) (hs : sizeN n L ≤ 1048576) : Lists w (some ⟨B, 0, none⟩) (3 * n) L := by
  obtain ⟨C, f, h1, h2, h3, h4⟩ := h
  refine ⟨hl, .inr ⟨B, 0, rfl, (Array.getElem?_eq_some_iff.mp h1).1, fun j hj => ?_⟩⟩
  obtain ⟨e1, e2, e3⟩ := h3 j hj
  refine ⟨_, _, _, by rw [cell_of_row w B (0 + j) C T _ h1, Nat.zero_add]; exact e1, ?_, Own.row (B := 0) ⟨rfl, _, rfl, Nat.zero_le _, e3⟩⟩
  have := len_le L j
  unfold sizeN at hs; unfold maxLen; omega

theorem PartL.set_low {w : World} {B n k g : Nat} {T : TypeId} {L : List (List Int)} (h : PartL w B n k T L) (hg : g < B) (o : Nat) (v : Value) : PartL (w.setCell ⟨g, o, none⟩ v) B n k T L := by
  obtain ⟨C, f, h1, h2, h3, h4⟩ := h
  refine ⟨C, f, (Below.heap_setCell _ _ _ _ (show B ≠ g by omega)).trans h1, h2, fun j hj => ?_, h4⟩
  obtain ⟨e1, e2, e3⟩ := h3 j hj
  exact ⟨e1, e2, (Below.heap_setCell _ _ _ _ (show f j ≠ g by omega)).trans e3⟩

theorem below_drew2 (w : World) (o1 o2 : Obj) (q : Nat) : Below w.heap.size w (((w.alloc o1).alloc o2).drewN q) := (below_two w _ _).trans ((below_drewN' _ _).mono (by simp; omega))

end Go.Proofs.Ytdhnhpjcoeglmaa


/- What markTransS and markNet write: the lists of a net that lies in blocks of its own, one behind the other; nothing else. -/
namespace Go.Proofs.Ytdhnhpjcoeglmaa
open Go.RowKit

/-- Lists by their number, each in a block of its own between B and hi. -/
def PartF (w : World) (B hi n : Nat) (T : TypeId) (M : Nat → List Int) : Prop :=
  ∃ (C : Array Value) (f : Nat → Nat), w.heap[B]? = some (.cells C T (0, 0)) ∧ C.size = n ∧
    (∀ j, j < n → C[j]? = some (.slice (some ⟨f j, 0, none⟩) (M j).length (M j).length) ∧ B < f j ∧ f j < hi ∧ Blk w (some ⟨f j, 0, none⟩) (f j) (M j).length (M j)) ∧
    (∀ i j, i < j → j < n → f i < f j)

theorem PartL.bound {w : World} {B n : Nat} {T : TypeId} {L : List (List Int)} (h : PartL w B n n T L) : PartF w B w.heap.size n T (fun j => L.getD j []) := by
  obtain ⟨C, f, h1, h2, h3, h4⟩ := h
  refine ⟨C, f, h1, h2, fun j hj => ?_, h4⟩
  obtain ⟨e1, e2, e3⟩ := h3 j hj
  exact ⟨e1, e2, (Array.getElem?_eq_some_iff.mp e3).1, rfl, .inr ⟨rfl, e3⟩⟩

/-- Below lo all stands, and from hi on what was there. -/
structure Keeps (lo hi : Nat) (w w' : World) : Prop where
  bel : Below lo w w'
  top : ∀ k, hi ≤ k → k < w.heap.size → w'.heap[k]? = w.heap[k]?

theorem Keeps.refl (lo hi : Nat) (w : World) : Keeps lo hi w w := ⟨Below.refl _ _, fun _ _ _ => rfl⟩
theorem Keeps.trans {lo hi : Nat} {u v w : World} (h : Keeps lo hi u v) (g : Keeps lo hi v w) : Keeps lo hi u w :=
  ⟨h.bel.trans g.bel, fun k h1 h2 => (g.top k h1 (Nat.lt_of_lt_of_le h2 h.bel.size)).trans (h.top k h1 h2)⟩
theorem Keeps.of_only {lo hi b : Nat} {w w' : World} (h : Only b w w') (h1 : lo ≤ b) (h2 : b < hi) : Keeps lo hi w w' :=
  ⟨h.below h1, fun k hk _ => h.block k (by omega)⟩
theorem Keeps.of_below {lo hi : Nat} {w w' : World} (h : Below w.heap.size w w') (hl : lo ≤ w.heap.size) : Keeps lo hi w w' :=
  ⟨h.mono hl, fun k _ hk => h.block k hk⟩

theorem Blk.keeps {w w' : World} {a : Option Addr} {b n lo hi : Nat} {xs : List Int} (h : Blk w a b n xs) (hk : Keeps lo hi w w') (hb : hi ≤ b) : Blk w' a b n xs := by
  refine ⟨h.1, ?_⟩
  rcases h.2 with h0 | ⟨e, hh⟩
  · exact .inl h0
  · exact .inr ⟨e, (hk.top b hb (Array.getElem?_eq_some_iff.mp hh).1).trans hh⟩

theorem Blk.grow' {w w' : World} {a : Option Addr} {b n : Nat} {xs : List Int} (h : Blk w a b n xs) (hb : Below w.heap.size w w') : Blk w' a b n xs := by
  refine ⟨h.1, ?_⟩
  rcases h.2 with h0 | ⟨e, hh⟩
  · exact .inl h0
  · exact .inr ⟨e, (hb.block b (Array.getElem?_eq_some_iff.mp hh).1).trans hh⟩

theorem PartF.grow {w w' : World} {B hi n : Nat} {T : TypeId} {M : Nat → List Int} (h : PartF w B hi n T M) (hb : Below w.heap.size w w') : PartF w' B hi n T M := by
  obtain ⟨C, f, h1, h2, h3, h4⟩ := h
  refine ⟨C, f, (hb.block B (Array.getElem?_eq_some_iff.mp h1).1).trans h1, h2, fun j hj => ?_, h4⟩
  obtain ⟨e1, e2, e3, e4⟩ := h3 j hj
  exact ⟨e1, e2, e3, e4.grow' hb⟩

def updF (M : Nat → List Int) (j : Nat) (l : List Int) : Nat → List Int := fun i => if i = j then l else M i

theorem PartF.one {w : World} {B hi n : Nat} {T : TypeId} {M : Nat → List Int} (h : PartF w B hi n T M) {j : Nat} (hj : j < n) :
    ∃ b, w.cell? ⟨B, j, none⟩ = some (.slice (some ⟨b, 0, none⟩) (M j).length (M j).length) ∧ B < b ∧ b < hi ∧ Blk w (some ⟨b, 0, none⟩) b (M j).length (M j) ∧
      ∀ w' l, Blk w' (some ⟨b, 0, none⟩) b (M j).length l → Only b w w' → PartF w' B hi n T (updF M j l) := by
  obtain ⟨C, f, h1, h2, h3, h4⟩ := h
  obtain ⟨e1, e2, e3, e4⟩ := h3 j hj
  refine ⟨f j, by rw [cell_of_row w B j C T _ h1]; exact e1, e2, e3, e4, fun w' l hb ho => ?_⟩
  refine ⟨C, f, (ho.block B (by omega)).trans h1, h2, fun i hi' => ?_, h4⟩
  unfold updF
  by_cases hij : i = j
  · subst hij
    rw [if_pos rfl, hb.1]
    exact ⟨e1, e2, e3, hb⟩
  · rw [if_neg hij]
    obtain ⟨q1, q2, q3, q4⟩ := h3 i hi'
    have hne : f i ≠ f j := by
      rcases Nat.lt_or_gt_of_ne hij with h | h
      · have := h4 i j h hj; omega
      · have := h4 j i h hi'; omega
    exact ⟨q1, q2, q3, q4.only ho hne⟩

/-- How much the first k lists hold. -/
def cntF (M : Nat → List Int) : Nat → Nat
  | 0 => 0
  | k + 1 => cntF M k + (M k).length

theorem cntF_congr {M N : Nat → List Int} {k : Nat} (h : ∀ j, j < k → (M j).length = (N j).length) : cntF M k = cntF N k := by
  induction k with
  | zero => rfl
  | succ k ih => simp only [cntF]; rw [ih fun j hj => h j (by omega), h k (by omega)]

theorem cntF_mono {M : Nat → List Int} {j k : Nat} (h : j ≤ k) : cntF M j ≤ cntF M k := by
  induction k with
  | zero => have : j = 0 := by omega
            subst this; exact Nat.le_refl _
  | succ k ih =>
    by_cases e : j = k + 1
    · subst e; exact Nat.le_refl _
    · have := ih (by omega); simp only [cntF]; omega

/-- The first q lists are marked, from k0 on. -/
def markedF (k0 : Nat) (M : Nat → List Int) (q : Nat) : Nat → List Int := fun j => if j < q then seqL (k0 + cntF M j) (M j).length else M j

theorem markedF_len (k0 : Nat) (M : Nat → List Int) (q j : Nat) : (markedF k0 M q j).length = (M j).length := by
  unfold markedF; split
  · exact seqL_len _ _
  · rfl

theorem markedF_step (k0 : Nat) (M : Nat → List Int) (q : Nat) : updF (markedF k0 M q) q (seqL (k0 + cntF M q) (M q).length) = markedF k0 M (q + 1) := by
  funext j
  unfold updF markedF
  by_cases e : j = q
  · subst e; rw [if_pos rfl, if_pos (by omega)]
  · rw [if_neg e]
    by_cases h : j < q
    · rw [if_pos h, if_pos (by omega)]
    · rw [if_neg h, if_neg (by omega)]

theorem mark_step {w : World} {B hi n k0 q : Nat} {T : TypeId} {M : Nat → List Int} (h : PartF w B hi n T (markedF k0 M q)) (hq : q < n) (o : Nat) (ho : o = q) :
    ∃ b ln, Hid ((M q).length = ln) ∧ w.cell? ⟨B, o, none⟩ = some (.slice (some ⟨b, 0, none⟩) ln ln) ∧ Hid (Blk w (some ⟨b, 0, none⟩) b ln (M q)) ∧
      Hid (∀ w', Blk w' (some ⟨b, 0, none⟩) b ln (seqL (k0 + cntF M q) ln) → Only b w w' → PartF w' B hi n T (markedF k0 M (q + 1)) ∧ Keeps (B + 1) hi w w') := by
  obtain ⟨b, h1, h2, h3, h4, h5⟩ := h.one hq
  have e : markedF k0 M q q = M q := by unfold markedF; rw [if_neg (by omega)]
  rw [e] at h1 h4 h5
  subst ho
  refine ⟨b, _, rfl, h1, h4, fun w' hb ho => ⟨?_, Keeps.of_only ho (by omega) h3⟩⟩
  have := h5 w' _ hb ho
  rwa [markedF_step] at this

end Go.Proofs.Ytdhnhpjcoeglmaa


/- How a net that comes in is opened: a number and a slice whose lists can be read. -/
namespace Go.Proofs.Ytdhnhpjcoeglmaa
open Go.ChangeShapes Go.WideShapes Go.ChangeAt Go.RowKit Go.Deep Go.Joins

theorem row_of_ints {H : Type} {enc : TypeId × Value → H} {W : World} {base fuel : Nat} {v : Value} {x : DataW H × List MemPlace} (h : DataW.trod enc Try.prog W base (fun _ => true) true fuel 31 [v] = some x) :
    ∃ a n c xs, v = .slice a n c ∧ n ≤ maxLen ∧ Row W a n xs := by
  rcases open_ints Try.underlying31 Try.underlying3 (by kernel_rfl) h with ⟨hcs, _⟩ | ⟨y, l, c, zs, hcs, _, hl, hm, hz, _, hcell, _⟩
  · simp at hcs
    exact ⟨none, 0, 0, [], hcs, Nat.zero_le _, rfl, .inl rfl⟩
  · simp at hcs
    refine ⟨some y, l, c, zs.take l, hcs, by omega, ?_, ?_⟩
    · rw [List.length_take]; simp at hz; omega
    · by_cases h0 : l = 0
      · exact .inl h0
      · simp at hz
        obtain ⟨b, off, spot⟩ := y
        have hc := hcell 0 (by omega)
        have hspot : spot = none := by simpa [Addr.add] using World.cell?_spot hc
        subst hspot
        refine .inr ⟨b, off, rfl, ?_, fun i hi => ?_⟩
        · have := block_lt_of_cell hc; simpa [Addr.add] using this
        · have := hcell i (by omega)
          rw [List.getD_eq_getElem?_getD, List.getElem?_take_of_lt hi, ← List.getD_eq_getElem?_getD]
          rw [Addr.add_mid] at this
          exact this

theorem keep {v v' : World} {b : Nat} {C : Array Value} {t : TypeId} (h : v.heap[b]? = some (.cells C t (0, 0))) (hb : Below v.heap.size v v') : v'.heap[b]? = some (.cells C t (0, 0)) :=
  (hb.block b (Array.getElem?_eq_some_iff.mp h).1).trans h

theorem cells2 {v : World} {b : Nat} {x y : Value} {t : TypeId} (h : v.heap[b]? = some (.cells #[x, y] t (0, 0))) : v.cell? ⟨b, 0, none⟩ = some x ∧ v.cell? ⟨b, 1, none⟩ = some y :=
  ⟨cell_of_row v b 0 _ _ _ h, cell_of_row v b 1 _ _ _ h⟩

theorem row_lt {v : World} {b : Nat} {C : Array Value} {t : TypeId} (h : v.heap[b]? = some (.cells C t (0, 0))) : b < v.heap.size := (Array.getElem?_eq_some_iff.mp h).1
end Go.Proofs.Ytdhnhpjcoeglmaa


/- What the second half of a law over a net and a list keeps in mind: the net and the list handed in, the list answered, each in blocks of their own, and the specification's answer, while memory grows and blocks are marked. -/
namespace Go.Proofs.Ytdhnhpjcoeglmaa
open Go.RowKit

theorem PartF.lists {w : World} {B hi n : Nat} {T : TypeId} {L : List (List Int)} (h : PartF w B hi (3 * n) T (fun j => L.getD j [])) (hl : L.length = 3 * n) (hs : sizeN n L ≤ 1048576) : Lists w (some ⟨B, 0, none⟩) (3 * n) L := by
  obtain ⟨C, f, h1, h2, h3, h4⟩ := h
  refine ⟨hl, .inr ⟨B, 0, rfl, (Array.getElem?_eq_some_iff.mp h1).1, fun j hj => ?_⟩⟩
  obtain ⟨e1, e2, e3, e4⟩ := h3 j hj
  refine ⟨_, _, _, by rw [cell_of_row w B (0 + j) C T _ h1, Nat.zero_add]; exact e1, ?_, e4.row⟩
  have := len_le L j
  show (L.getD j []).length ≤ maxLen
  unfold sizeN at hs; unfold maxLen; omega

theorem cntF_size (L : List (List Int)) (k : Nat) (hk : k ≤ L.length) : cntF (fun j => L.getD j []) k = sizeL (L.take k) := by
  induction k with
  | zero => simp [cntF, sizeL]
  | succ k ih => simp only [cntF]; rw [ih (by omega), sizeL_take_succ L k (by omega)]

theorem cntF_all {L : List (List Int)} {n : Nat} (hl : L.length = 3 * n) : cntF (fun j => L.getD j []) (3 * n) = sizeL L := by
  rw [cntF_size L (3 * n) (by omega), List.take_of_length_le (by omega)]

variable {w u v v' : World} {p : Int} {a : Option Addr} {n c B hi bx : Nat} {M : Nat → List Int} {ax : Option Addr} {b1 nm : Nat} {ly : List Int} {ag : Option Addr} {bg ng : Nat} {lg l : List Int}

theorem PartF.only {w w' : World} {B hi n b : Nat} {T : TypeId} {M : Nat → List Int} (h : PartF w B hi n T M) (ho : Only b w w') (hb : hi ≤ b) (hB : B ≠ b) : PartF w' B hi n T M := by
  obtain ⟨C, f, h1, h2, h3, h4⟩ := h
  refine ⟨C, f, (ho.block B hB).trans h1, h2, fun j hj => ?_, h4⟩
  obtain ⟨e1, e2, e3, e4⟩ := h3 j hj
  exact ⟨e1, e2, e3, e4.only ho (by omega)⟩

theorem blk_new' (w : World) (xs : List Int) (n : Nat) (hl : xs.length = n) : Blk (w.alloc (.cells (cellsOf xs) 3)) (some ⟨w.heap.size, 0, none⟩) w.heap.size n xs :=
  ⟨hl, .inr ⟨rfl, heap_alloc_new _ _⟩⟩
end Go.Proofs.Ytdhnhpjcoeglmaa


/- Lists that an append has made: a block of its own, in which there may be more room; what markIntS writes into one; and the state of a law over a net whose answer is such a list. -/
namespace Go.Proofs.Ytdhnhpjcoeglmaa
open Go.RowKit

/-- A slice of n numbers from the head of the block b, in which there may be more room; or an empty one. -/
def Ob (w : World) (a : Option Addr) (b n : Nat) (xs : List Int) : Prop :=
  xs.length = n ∧ (n = 0 ∨ (a = some ⟨b, 0, none⟩ ∧ ∃ cur, w.heap[b]? = some (.cells cur 3 (0, 0)) ∧ n ≤ cur.size ∧ ∀ i, i < n → cur[i]? = some (.int .i64 (xs.getD i 0))))

theorem Ob.row {w : World} {a : Option Addr} {b n : Nat} {xs : List Int} (h : Ob w a b n xs) : Row w a n xs := by
  rcases h.2 with h0 | ⟨e, cur, h1, h2, h3⟩
  · exact ⟨h.1, .inl h0⟩
  · refine ⟨h.1, .inr ⟨b, 0, e, (Array.getElem?_eq_some_iff.mp h1).1, fun i hi => ?_⟩⟩
    rw [cell_of_row w b (0 + i) _ _ _ h1, Nat.zero_add]
    exact h3 i hi

theorem Ob.grow {w w' : World} {a : Option Addr} {b n : Nat} {xs : List Int} (h : Ob w a b n xs) (hb : Below w.heap.size w w') : Ob w' a b n xs := by
  refine ⟨h.1, ?_⟩
  rcases h.2 with h0 | ⟨e, cur, h1, h2⟩
  · exact .inl h0
  · exact .inr ⟨e, cur, (hb.block b (Array.getElem?_eq_some_iff.mp h1).1).trans h1, h2⟩

theorem Ob.only {w w' : World} {a : Option Addr} {b c n : Nat} {xs : List Int} (h : Ob w a b n xs) (ho : Only c w w') (hB : b ≠ c) : Ob w' a b n xs := by
  refine ⟨h.1, ?_⟩
  rcases h.2 with h0 | ⟨e, cur, h1, h2⟩
  · exact .inl h0
  · exact .inr ⟨e, cur, (ho.block b hB).trans h1, h2⟩

theorem Ob.keeps {w w' : World} {a : Option Addr} {b n lo hi : Nat} {xs : List Int} (h : Ob w a b n xs) (hk : Keeps lo hi w w') (hb : hi ≤ b) : Ob w' a b n xs := by
  refine ⟨h.1, ?_⟩
  rcases h.2 with h0 | ⟨e, cur, h1, h2⟩
  · exact .inl h0
  · exact .inr ⟨e, cur, (hk.top b hb (Array.getElem?_eq_some_iff.mp h1).1).trans h1, h2⟩

/-- The first k of n numbers are there. -/
def FillR (xs : List Int) (n k : Nat) (cs : Array Value) : Prop := n ≤ cs.size ∧ ∀ i, i < k → cs[i]? = some (.int .i64 (xs.getD i 0))

theorem set_fillR {xs : List Int} {n k : Nat} {cs : Array Value} {x : Int} (h : FillR xs n k cs) (hk : k < n) (hx : xs.getD k 0 = x) : FillR xs n (k + 1) (cs.setIfInBounds k (.int .i64 x)) := by
  obtain ⟨h1, h2⟩ := h
  refine ⟨by simp; exact h1, fun i hi => ?_⟩
  rw [Array.getElem?_setIfInBounds]
  by_cases e : k = i
  · subst e; rw [if_pos rfl, if_pos (by omega), hx]
  · rw [if_neg e]; exact h2 i (by omega)

variable {w u v v' : World} {p : Int} {a : Option Addr} {n c B hi bx : Nat} {M : Nat → List Int} {ax : Option Addr} {b1 nm : Nat} {ly : List Int} {ag : Option Addr} {bg ng : Nat} {lg l : List Int}

end Go.Proofs.Ytdhnhpjcoeglmaa


/- Nets whose lists append has made: each list in a block of its own in which there may be more room, or empty; what markTransS and markNet write into one, and what heldTransS and heldNet answer. -/
namespace Go.Proofs.Ytdhnhpjcoeglmaa
open Go.RowKit

/-- Lists by their number, each that is not empty in a block of its own between lo and hi. -/
def PartG (w : World) (B lo hi n : Nat) (T : TypeId) (M : Nat → List Int) : Prop :=
  ∃ (C : Array Value) (A : Nat → Option Addr) (f cap : Nat → Nat), w.heap[B]? = some (.cells C T (0, 0)) ∧ n ≤ C.size ∧
    (∀ j, j < n → C[j]? = some (.slice (A j) (M j).length (cap j)) ∧ Ob w (A j) (f j) (M j).length (M j) ∧ (M j ≠ [] → lo ≤ f j ∧ f j < hi ∧ f j ≠ B)) ∧
    (∀ i j, i < j → j < n → M i ≠ [] → M j ≠ [] → f i ≠ f j)

theorem PartG.grow {w w' : World} {B lo hi n : Nat} {T : TypeId} {M : Nat → List Int} (h : PartG w B lo hi n T M) (hb : Below w.heap.size w w') : PartG w' B lo hi n T M := by
  obtain ⟨C, A, f, cap, h1, h2, h3, h4⟩ := h
  refine ⟨C, A, f, cap, (hb.block B (Array.getElem?_eq_some_iff.mp h1).1).trans h1, h2, fun j hj => ?_, h4⟩
  obtain ⟨e1, e2, e3⟩ := h3 j hj
  exact ⟨e1, e2.grow hb, e3⟩

theorem PartG.keeps {w w' : World} {B lo hi n lo' hi' : Nat} {T : TypeId} {M : Nat → List Int} (h : PartG w B lo hi n T M) (hk : Keeps lo' hi' w w') (h1 : hi' ≤ lo) (h2 : hi' ≤ B) : PartG w' B lo hi n T M := by
  obtain ⟨C, A, f, cap, q1, q2, q3, q4⟩ := h
  refine ⟨C, A, f, cap, (hk.top B h2 (Array.getElem?_eq_some_iff.mp q1).1).trans q1, q2, fun j hj => ?_, q4⟩
  obtain ⟨e1, e2, e3⟩ := q3 j hj
  refine ⟨e1, ?_, e3⟩
  by_cases he : M j = []
  · rw [he]; exact ⟨rfl, .inl rfl⟩
  · exact e2.keeps hk (by have := (e3 he).1; omega)

theorem markedF_at (k0 : Nat) (M : Nat → List Int) (q : Nat) : markedF k0 M q q = M q := by unfold markedF; rw [if_neg (by omega)]

/-- A net's slice: nil where there is no transition, or a block that leads to the lists. -/
def NetG (w : World) (a : Option Addr) (B lo hi n : Nat) (M : Nat → List Int) : Prop := n = 0 ∨ (a = some ⟨B, 0, none⟩ ∧ PartG w B lo hi (3 * n) 78 M)

theorem NetG.lists {w : World} {a : Option Addr} {B lo hi n : Nat} {L : List (List Int)} (h : NetG w a B lo hi n (fun j => L.getD j [])) (hl : L.length = 3 * n) (hs : sizeN n L ≤ 1048576) : Lists w a (3 * n) L := by
  rcases h with h0 | ⟨rfl, C, A, f, cap, h1, h2, h3, h4⟩
  · exact ⟨hl, .inl (by omega)⟩
  · refine ⟨hl, .inr ⟨B, 0, rfl, (Array.getElem?_eq_some_iff.mp h1).1, fun j hj => ?_⟩⟩
    obtain ⟨e1, e2, e3⟩ := h3 j hj
    refine ⟨_, _, _, by rw [cell_of_row w B (0 + j) C _ _ h1, Nat.zero_add]; exact e1, ?_, e2.row⟩
    have := len_le L j
    show (L.getD j []).length ≤ maxLen
    unfold sizeN at hs; unfold maxLen; omega

/-- Lists by their number, to be read. -/
def ListsF (w : World) (a : Option Addr) (n : Nat) (M : Nat → List Int) : Prop :=
  n = 0 ∨ ∃ b off, a = some ⟨b, off, none⟩ ∧ ∀ j, j < n → ∃ a' c', w.cell? ⟨b, off + j, none⟩ = some (.slice a' (M j).length c') ∧ Row w a' (M j).length (M j)

theorem NetG.listsF {w : World} {a : Option Addr} {B lo hi n : Nat} {M : Nat → List Int} (h : NetG w a B lo hi n M) : ListsF w a (3 * n) M := by
  rcases h with h0 | ⟨rfl, C, A, f, cap, h1, h2, h3, h4⟩
  · exact .inl (by omega)
  · refine .inr ⟨B, 0, rfl, fun j hj => ?_⟩
    obtain ⟨e1, e2, e3⟩ := h3 j hj
    exact ⟨_, _, by rw [cell_of_row w B (0 + j) C _ _ h1, Nat.zero_add]; exact e1, e2.row⟩

end Go.Proofs.Ytdhnhpjcoeglmaa
