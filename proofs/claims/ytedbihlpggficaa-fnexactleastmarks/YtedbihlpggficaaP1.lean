/- Contracts that the proof stands on, one behind the other. -/
import Derived.Test.YtedbihlpggficaaRows
import Derived.WalkKit
import Derived.WalkSpells
import Derived.WalkLawsBesides
import Derived.Deep.OwnRows
import Derived.Deep.QuietTactic
import Derived.BigQuiet
import Derived.Laws.Tables
import Derived.Laws.ResultCell
import Derived.Deep.RegionHeld3
import Derived.Deep.MidRow
import Derived.Laws.StructEq
/- Contracts of the smallest functions that the laws of chapter 1 go through, for every input in every memory: l1In, l1Places, goodPlaces, toIntS, eqIntS, l1All and the specification's GoodMark answer as the plain functions below say, and write into nothing that was there. -/
namespace Go.Proofs.Ytedbihlpggficaa
open Go.RowKit

theorem hide {p : Prop} (h : p) : Hid p := h

/-- A slice of integers reads as the list xs. -/
def Row (w : World) (a : Option Addr) (n : Nat) (xs : List Int) : Prop :=
  xs.length = n ∧ (n = 0 ∨ ∃ b off, a = some ⟨b, off, none⟩ ∧ b < w.heap.size ∧ ∀ i, i < n → w.cell? ⟨b, off + i, none⟩ = some (.int .i64 (xs.getD i 0)))

theorem Row.at {w : World} {a : Option Addr} {n : Nat} {xs : List Int} (h : Row w a n xs) {k : Nat} (hk : k < n) :
    ∃ b off x, a = some ⟨b, off, none⟩ ∧ b < w.heap.size ∧ w.cell? ⟨b, off + k, none⟩ = some (.int .i64 x) ∧ Hid (xs[k]? = some x) := by
  rcases h.2 with h0 | ⟨b, off, e, hb, hc⟩
  · omega
  · have hl := h.1
    exact ⟨b, off, _, e, hb, hc k hk, by unfold Hid; simp [List.getElem?_eq_getElem (show k < xs.length by omega)]⟩

theorem Row.below {w w' : World} {a : Option Addr} {n : Nat} {xs : List Int} (h : Row w a n xs) (hb : Below w.heap.size w w') : Row w' a n xs := by
  refine ⟨h.1, ?_⟩
  rcases h.2 with h0 | ⟨b, off, e, hl, hc⟩
  · exact .inl h0
  · exact .inr ⟨b, off, e, Nat.lt_of_lt_of_le hl hb.size, fun i hi => (hb.cell (p := ⟨b, off + i, none⟩) hl).trans (hc i hi)⟩

theorem Row.drewN {w : World} {a : Option Addr} {n : Nat} {xs : List Int} (h : Row w a n xs) (q : Nat) : Row (w.drewN q) a n xs := h

theorem drewN_two (w : World) (q r : Nat) : (w.drewN q).drewN r = w.drewN (q + r) := by simp [World.drewN, Nat.add_assoc]

theorem below_drewN' (w : World) (q : Nat) : Below w.heap.size w (w.drewN q) := ⟨rfl, rfl, rfl, Nat.le_refl _, fun _ _ => rfl⟩

/-- The cells of a list of integers. -/
def cellsOf (xs : List Int) : Array Value := (xs.map (Value.int .i64)).toArray

theorem cellsOf_at (xs : List Int) (i : Nat) (h : i < xs.length) : (cellsOf xs)[i]? = some (.int .i64 (xs.getD i 0)) := by
  simp [cellsOf, List.getElem?_map, List.getElem?_eq_getElem h]

/-- A slice that lies from the head of a block of the call's own, not frozen, and is as long as the block. -/
def Own (B : Nat) (w : World) (a : Option Addr) (n : Nat) (xs : List Int) : Prop :=
  xs.length = n ∧ ∃ b, a = some ⟨b, 0, none⟩ ∧ B ≤ b ∧ w.heap[b]? = some (.cells (cellsOf xs) 3 (0, 0))

theorem Own.row {B : Nat} {w : World} {a : Option Addr} {n : Nat} {xs : List Int} (h : Own B w a n xs) : Row w a n xs := by
  obtain ⟨hl, b, e, hB, hh⟩ := h
  refine ⟨hl, .inr ⟨b, 0, e, ?_, fun i hi => ?_⟩⟩
  · exact (Array.getElem?_eq_some_iff.mp hh).1
  · rw [cell_of_row w b (0 + i) _ _ _ hh, Nat.zero_add]
    exact cellsOf_at xs i (by omega)

theorem Row.alloc {w : World} {a : Option Addr} {n : Nat} {xs : List Int} (h : Row w a n xs) (o : Obj) : Row (w.alloc o) a n xs :=
  h.below ((Below.refl _ _).alloc (Nat.le_refl _) _)

theorem row_new (w : World) (xs : List Int) (n b : Nat) (hl : xs.length = n) (hb : b = w.heap.size) : Row (w.alloc (.cells (cellsOf xs) 3)) (some ⟨b, 0, none⟩) n xs := by
  subst hb
  exact Own.row (B := 0) ⟨hl, _, rfl, Nat.zero_le _, heap_alloc_new _ _⟩

def inB (n lo hi : Int) : Bool := decide (lo ≤ n) && decide (n ≤ hi)

theorem in_any (n lo hi : Int) (w : World) :
    Calls Try.prog 71 #[.int .i64 n, .int .i64 lo, .int .i64 hi] w fun e w' => e = .returned (.bool (inB n lo hi)) ∧ w' = w := by
  unfold inB
  by_cases h1 : lo ≤ n
  · by_cases h2 : n ≤ hi
    all_goals
      go_enter Try.func71, Try.ntmps71
      go_wp2
      go_ret
      exact ⟨by simp [h1, h2], rfl⟩
  · go_enter Try.func71, Try.ntmps71
    go_wp2
    go_ret
    exact ⟨by simp; omega, rfl⟩

theorem places_any (n : Int) (w : World) :
    Calls Try.prog 52 #[.int .i64 n] w fun e w' => e = .returned (.bool (inB n 1 16)) ∧ w' = w := by
  go_enter Try.func52, Try.ntmps52
  go_wp2_with (go_at_call 71; refine (in_any _ _ _ _).mono ?_; rintro e w' ⟨rfl, rfl⟩)
  go_ret
  exact ⟨rfl, rfl⟩

theorem goodPlaces_any (n : Int) (w : World) :
    Calls Try.prog 55 #[.int .i64 n] w fun e w' => e = .returned (.bool (inB n 1 16)) ∧ w' = w := by
  unfold inB
  by_cases h1 : 1 ≤ n
  · by_cases h2 : n ≤ 16
    all_goals
      go_enter Try.func55, Try.ntmps55
      go_wp2
      go_ret
      exact ⟨by simp [h1, h2], rfl⟩
  · go_enter Try.func55, Try.ntmps55
    go_wp2
    go_ret
    exact ⟨by simp; omega, rfl⟩

/-- The first k numbers of two lists are the same. -/
def Upto (xs ys : List Int) (k : Nat) : Prop := xs.take k = ys.take k

theorem Upto.step {xs ys : List Int} {k : Nat} {x : Int} (h : Upto xs ys k) (h1 : Hid (xs[k]? = some x)) (h2 : Hid (ys[k]? = some x)) : Upto xs ys (k + 1) := by
  unfold Upto at *
  rw [List.take_add_one, List.take_add_one, h, h1.out, h2.out]

def sameB (xs ys : List Int) : Bool := decide (xs = ys)

theorem sameB_self (xs : List Int) : sameB xs xs = true := by simp [sameB]

theorem Upto.done {xs ys : List Int} {n : Nat} (h : Upto xs ys n) (h1 : xs.length = n) (h2 : ys.length = n) : sameB xs ys = true := by
  unfold Upto at h
  rw [List.take_of_length_le (by omega), List.take_of_length_le (by omega)] at h
  simp [sameB, h]

theorem sameB_len {xs ys : List Int} (h : xs.length ≠ ys.length) : sameB xs ys = false := by
  simp only [sameB, decide_eq_false_iff_not]
  intro e; rw [e] at h; exact h rfl

theorem sameB_ne {xs ys : List Int} {k : Nat} {x y : Int} (h1 : Hid (xs[k]? = some x)) (h2 : Hid (ys[k]? = some y)) (h : ¬ x = y) : sameB xs ys = false := by
  simp only [sameB, decide_eq_false_iff_not]
  intro e; rw [e, Hid, h2.out] at h1; simp at h1; exact h h1.symm

theorem ret_bool {a b : Bool} (h : a = b) : Ending.returned (.bool a) = .returned (.bool b) := by rw [h]

set_option maxHeartbeats 400000 in
theorem eq_any (a b : Option Addr) (n m ca cb : Nat) (xs ys : List Int) (w : World) (ha : Row w a n xs) (hb : Row w b m ys) (hn : n ≤ 1048576) :
    Calls Try.prog 16 #[.slice a n ca, .slice b m cb] w fun e w' => e = .returned (.bool (sameB xs ys)) ∧ ∃ q, w' = w.drewN q := by
  by_cases hnm : n = m
  · subst hnm
    have hne : ((n : Int) != (n : Int)) = false := by simp
    go_enter Try.func16, Try.ntmps16
    go_wp2
    clear hne
    go_loopw [5] (fun i wr => ∃ k : Nat, k ≤ n ∧ i = .int .i64 k ∧ Upto xs ys k ∧ ∃ q, wr = w.drewN q) (fun i _ => n - (intOf i).toNat)
    case atStart => exact ⟨0, Nat.zero_le _, rfl, rfl, 0, rfl⟩
    case round =>
      obtain ⟨k, hk, rfl, hu, q, rfl⟩ := hrel
      by_cases hlt : k < n
      · obtain ⟨b1, o1, x, rfl, hl1, hc1, H1⟩ := ha.at hlt
        obtain ⟨b2, o2, y, rfl, hl2, hc2, H2⟩ := hb.at hlt
        have hi1 : ((k : Int)) < ((n : Int)) := by omega
        clear ha hb
        by_cases he : x = y
        · subst he
          have HU := hu.step H1 H2
          clear hu H1 H2
          go_wp2
          go_quiet (fail)
          go_wp2
          go_roundw
          case rel => exact ⟨k + 1, by omega, by go_num, HU, _, rfl⟩
          case measure => simp [intOf]; omega
        · have HS := sameB_ne H1 H2 he
          have hd : (x != y) = true := by simp [he]
          clear hu H1 H2 he
          go_wp2
          go_quiet (fail)
          go_wp2
          go_ret
          exact ⟨ret_bool HS.symm, _, drewN_two w _ _⟩
      · have hx := ha.1
        have hy := hb.1
        have HS := hu.done (by omega) (by omega)
        go_wp2
        go_ret
        exact ⟨ret_bool HS.symm, _, rfl⟩
  · have hx := ha.1
    have hy := hb.1
    have HS := sameB_len (show xs.length ≠ ys.length by omega)
    have hne : ((n : Int) != (m : Int)) = true := by simp; omega
    clear ha hb hx hy
    go_enter Try.func16, Try.ntmps16
    go_wp2
    go_ret
    exact ⟨ret_bool HS.symm, 0, rfl⟩

theorem Try.info3 : (Try.prog.info? 3).map (fun i => (i.zero, i.size, i.bytes)) = some (some (.int .i64 0), 1, 8) := by kernel_rfl

/-- The first k cells hold the first k numbers. -/
def Fill (xs : List Int) (n k : Nat) (cs : Array Value) : Prop := cs.size = n ∧ ∀ i, i < k → cs[i]? = some (.int .i64 (xs.getD i 0))

theorem Fill.step {xs : List Int} {n k : Nat} {cs : Array Value} {x : Int} (h : Fill xs n k cs) (hk : k < n) (hx : Hid (xs[k]? = some x)) : Fill xs n (k + 1) (cs.setIfInBounds k (.int .i64 x)) := by
  obtain ⟨h1, h2⟩ := h
  refine ⟨by simp [h1], fun i hi => ?_⟩
  rw [Array.getElem?_setIfInBounds]
  by_cases e : k = i
  · subst e; rw [if_pos rfl, if_pos (by omega)]; simp [hx.out]
  · rw [if_neg e]; exact h2 i (by omega)

theorem Fill.done {xs : List Int} {n : Nat} {cs : Array Value} (h : Fill xs n n cs) (hx : xs.length = n) : cs = cellsOf xs := by
  obtain ⟨h1, h2⟩ := h
  apply Array.ext_getElem?
  intro i
  by_cases hi : i < n
  · rw [h2 i hi, cellsOf_at xs i (by omega)]
  · rw [Array.getElem?_eq_none (by omega), Array.getElem?_eq_none (by simp [cellsOf]; omega)]

set_option maxHeartbeats 400000 in
theorem toInt_any (a : Option Addr) (n ca : Nat) (xs : List Int) (w : World) (ha : Row w a n xs) (hn : n ≤ 1048576) :
    Calls Try.prog 12 #[.slice a n ca] w fun e w' => e = .returned (.slice (some ⟨w.heap.size, 0, none⟩) n n) ∧ w' = w.alloc (.cells (cellsOf xs) 3) := by
  have hmk := run_make_row' (P := Try.prog) 25 3 (.int .i64 0) 8 Try.underlying25 Try.info3 rfl .i64 .i64 n (by omega) (by omega)
  go_enter Try.func12, Try.ntmps12
  go_wp2
  go_loopw [4] (fun i wr => ∃ k : Nat, k ≤ n ∧ i = .int .i64 k ∧ ∃ cs, Fill xs n k cs ∧ wr = w.alloc (.cells cs 3)) (fun i _ => n - (intOf i).toNat)
  case atStart => exact ⟨0, Nat.zero_le _, rfl, _, ⟨size_madeCells _ _, fun i hi => absurd hi (by omega)⟩, rfl⟩
  case round =>
    obtain ⟨k, hk, rfl, cs, hf, rfl⟩ := hrel
    by_cases hlt : k < n
    · obtain ⟨b1, o1, x, rfl, hl1, hc1, H1⟩ := ha.at hlt
      have HF := hf.step hlt H1
      have hsz := hf.1
      obtain ⟨v0, hv0⟩ : ∃ v0, cs[k]? = some v0 := ⟨_, Array.getElem?_eq_getElem (by omega)⟩
      clear ha hf H1 hmk
      go_wp2
      go_roundw
      case rel => exact ⟨k + 1, by omega, by go_num, _, HF, rfl⟩
      case measure => simp [intOf]; omega
    · have hk' : k = n := by omega
      subst hk'
      have HF := hf.done ha.1
      clear hmk hf ha
      subst HF
      go_wp2
      go_ret
      exact ⟨rfl, rfl⟩
end Go.Proofs.Ytedbihlpggficaa


/- What tokensOf answers for a list of as many numbers as there are places: the array of its numbers and true just where each is in 0..50; nothing that was there is written. -/
namespace Go.Proofs.Ytedbihlpggficaa
open Go.RowKit

/-- The array of sixteen small numbers. -/
def tokF (f : Nat → Int) : Array Value := Array.ofFn (n := 16) fun i => .int .u8 (f i.val)

theorem tokF_size (f : Nat → Int) : (tokF f).size = 16 := by simp [tokF]

theorem tokF_at (f : Nat → Int) (i : Nat) (h : i < 16) : (tokF f)[i]? = some (.int .u8 (f i)) := by
  simp [tokF, h]

theorem tokF_one (f : Nat → Int) : (tokF f).all (·.oneCell') = true := by
  rw [Array.all_eq_true]
  intro i hi
  simp [tokF, Value.oneCell']

theorem tokF_set (f g : Nat → Int) (k : Nat) (x : Int) (hx : g k = x) (he : ∀ i, i ≠ k → g i = f i) : (tokF f).setIfInBounds k (.int .u8 x) = tokF g := by
  apply Array.ext_getElem?
  intro i
  rw [Array.getElem?_setIfInBounds]
  by_cases hi : i < 16
  · rw [tokF_at _ _ hi, tokF_at _ _ hi]
    by_cases e : k = i
    · subst e; rw [if_pos rfl, if_pos (by simpa [tokF_size] using hi), hx]
    · rw [if_neg e, he i (by omega)]
  · rw [Array.getElem?_eq_none (xs := tokF g) (by simp [tokF_size]; omega)]
    split
    · rw [if_neg (by simp [tokF_size]; omega)]
    · exact Array.getElem?_eq_none (by simp [tokF_size]; omega)

/-- The first k numbers of a list, and noughts behind them. -/
def fOf (xs : List Int) (k : Nat) : Nat → Int := fun i => if i < k then xs.getD i 0 else 0

def packOf (xs : List Int) (k : Nat) : Array Value := tokF (fOf xs k)

theorem packOf_size (xs : List Int) (k : Nat) : (packOf xs k).size = 16 := tokF_size _

theorem packOf_at (xs : List Int) (k i : Nat) (h : i < 16) : (packOf xs k)[i]? = some (.int .u8 (if i < k then xs.getD i 0 else 0)) := tokF_at _ _ h

theorem packOf_zero (xs : List Int) : packOf xs 0 = #[.int .u8 0, .int .u8 0, .int .u8 0, .int .u8 0, .int .u8 0, .int .u8 0, .int .u8 0, .int .u8 0, .int .u8 0, .int .u8 0, .int .u8 0, .int .u8 0, .int .u8 0, .int .u8 0, .int .u8 0, .int .u8 0] := by
  rfl

theorem packOf_step (xs : List Int) (k : Nat) (x : Int) (hx : Hid (xs[k]? = some x)) : (packOf xs k).setIfInBounds k (.int .u8 x) = packOf xs (k + 1) := by
  refine tokF_set _ _ k x ?_ fun i hi => ?_
  · simp [fOf, hx.out]
  · unfold fOf
    by_cases h : i < k
    · rw [if_pos h, if_pos (by omega)]
    · rw [if_neg h, if_neg (by omega)]

def allB (xs : List Int) (lo hi : Int) : Bool := xs.all fun x => inB x lo hi
def goodB (p : Int) (xs : List Int) : Bool := inB p 1 16 && decide ((xs.length : Int) = p) && allB xs 0 50

theorem allB_take_succ (xs : List Int) (k : Nat) (x : Int) (h : Hid (xs[k]? = some x)) (hu : allB (xs.take k) 0 50 = true) (h0 : ¬ x < 0) (h50 : ¬ 50 < x) : allB (xs.take (k + 1)) 0 50 = true := by
  unfold allB at *
  rw [List.take_add_one, h.out, List.all_append, hu]
  simp [inB]; omega

theorem allB_not (xs : List Int) (k : Nat) (x : Int) (h : Hid (xs[k]? = some x)) (hx : x < 0 ∨ 50 < x) : allB xs 0 50 = false := by
  unfold allB
  rw [List.all_eq_false]
  exact ⟨x, List.mem_of_getElem? h.out, by simp [inB]; omega⟩

/-- How a call of tokensOf ends. -/
def TokEnd (g : Bool) (xs : List Int) (n : Nat) (w : World) (e : Ending) (w' : World) : Prop :=
  ∃ m, e = .returned (.tuple #[.agg (packOf xs m), .bool g]) ∧ Hid (g = true → m = n) ∧ Below w.heap.size w w'

theorem tokEnd_yes {g : Bool} {xs : List Int} {n : Nat} {w w' : World} (h : g = true) (hb : Below w.heap.size w w') : TokEnd g xs n w (.returned (.tuple #[.agg (packOf xs n), .bool true])) w' := by
  subst h; exact ⟨n, rfl, fun _ => rfl, hb⟩

theorem tokEnd_no {g : Bool} {xs : List Int} {n : Nat} {w w' : World} (h : g = false) (hb : Below w.heap.size w w') : TokEnd g xs n w (.returned (.tuple #[.agg #[.int .u8 0, .int .u8 0, .int .u8 0, .int .u8 0, .int .u8 0, .int .u8 0, .int .u8 0, .int .u8 0, .int .u8 0, .int .u8 0, .int .u8 0, .int .u8 0, .int .u8 0, .int .u8 0, .int .u8 0, .int .u8 0], .bool false])) w' := by
  subst h; exact ⟨0, by rw [packOf_zero], fun h => by simp at h, hb⟩

theorem below_two (w : World) (A B : Obj) : Below w.heap.size w ((w.alloc A).alloc B) :=
  ((Below.refl _ _).alloc (Nat.le_refl _) _).alloc (by simp) _

theorem below_setRow {B : Nat} {a w : World} (h : Below B a w) (g : Nat) (hg : B ≤ g) (cs : Array Value) : Below B a (w.setRow g cs) := by
  refine h.trans ⟨rfl, rfl, rfl, by simp, fun k hk => ?_⟩
  simp only [World.setRow, Array.getElem?_modify]
  rw [if_neg (by omega)]

theorem packOf_one (xs : List Int) (k : Nat) : (packOf xs k).all (·.oneCell') = true := tokF_one _

theorem Try.size84 : (Try.prog.info? 84).map (·.size) = some 16 := by kernel_rfl

theorem setRow_at (w : World) (A : Array Value) (B : Obj) (t : TypeId) (cs : Array Value) : (((w.alloc (.cells A t)).alloc B).setRow w.heap.size cs).heap[w.heap.size]? = some (.cells cs t (0, 0)) := by
  simp only [World.setRow, Array.getElem?_modify]
  rw [if_pos trivial, heap_alloc2_old]
  rfl

set_option maxRecDepth 10000 in
set_option maxHeartbeats 1000000 in
theorem tokens_run (g : Bool) (p : Int) (a : Option Addr) (n ca : Nat) (xs : List Int) (w : World) (ha : Row w a n xs) (hp : inB p 1 16 = true) (hnp : Hid ((n : Int) = p)) (h16 : n ≤ 16) (hg : Hid (g = allB xs 0 50)) :
    Calls Try.prog 56 #[.int .i64 p, .slice a n ca] w fun e w' => TokEnd g xs n w e w' := by
  have hd : ((n : Int) != p) = false := by simp [hnp.out]
  go_enter Try.func56, Try.ntmps56
  go_wp2_with (go_at_call 55; refine (goodPlaces_any _ _).mono ?_; rintro e w' ⟨rfl, rfl⟩)
  clear hp hd
  go_loopw [21] (fun i wr => ∃ k : Nat, k ≤ n ∧ i = .int .i64 k ∧ Hid (allB (xs.take k) 0 50 = true) ∧ wr = (w.alloc (.cells #[.int .u8 0, .int .u8 0, .int .u8 0, .int .u8 0, .int .u8 0, .int .u8 0, .int .u8 0, .int .u8 0, .int .u8 0, .int .u8 0, .int .u8 0, .int .u8 0, .int .u8 0, .int .u8 0, .int .u8 0, .int .u8 0] 84)).alloc (.cells (packOf xs k) 84)) (fun i _ => n - (intOf i).toNat)
  case atStart => exact ⟨0, Nat.zero_le _, rfl, rfl, by rw [packOf_zero]⟩
  case round =>
    obtain ⟨k, hk, rfl, hu, rfl⟩ := hrel
    by_cases hlt : k < n
    · obtain ⟨b1, o1, x, rfl, hl1, hc1, H1⟩ := ha.at hlt
      clear ha
      by_cases h0 : x < 0
      · have HG : Hid (g = false) := by rw [hg.out]; exact allB_not xs k x H1 (.inl h0)
        go_wp2
        exact bodyPost_ret (v := .tuple #[.agg #[.int .u8 0, .int .u8 0, .int .u8 0, .int .u8 0, .int .u8 0, .int .u8 0, .int .u8 0, .int .u8 0, .int .u8 0, .int .u8 0, .int .u8 0, .int .u8 0, .int .u8 0, .int .u8 0, .int .u8 0, .int .u8 0], .bool false]) (by simp [results, Try.results56, go_sem]) rfl (tokEnd_no HG.out (below_two _ _ _))
      · by_cases h50 : 50 < x
        · have HG : Hid (g = false) := by rw [hg.out]; exact allB_not xs k x H1 (.inr h50)
          go_wp2
          exact bodyPost_ret (v := .tuple #[.agg #[.int .u8 0, .int .u8 0, .int .u8 0, .int .u8 0, .int .u8 0, .int .u8 0, .int .u8 0, .int .u8 0, .int .u8 0, .int .u8 0, .int .u8 0, .int .u8 0, .int .u8 0, .int .u8 0, .int .u8 0, .int .u8 0], .bool false]) (by simp [results, Try.results56, go_sem]) rfl (tokEnd_no HG.out (below_two _ _ _))
        · have HU : Hid (allB (xs.take (k + 1)) 0 50 = true) := allB_take_succ xs k x H1 hu.out h0 h50
          have hst := packOf_step xs k x H1
          have hat := packOf_at xs k k (by omega)
          rw [if_neg (by omega)] at hat
          clear H1 hu
          go_wp2
          go_roundw
          case rel => exact ⟨k + 1, by omega, by go_num, HU, rfl⟩
          case measure => simp [intOf]; omega
    · have hk' : k = n := by omega
      subst hk'
      have HG : Hid (g = true) := by
        show g = true
        rw [hg.out, ← hu.out, List.take_of_length_le (by have := ha.1; omega)]
      have hg1 := heap_alloc2_new w (.cells #[.int .u8 0, .int .u8 0, .int .u8 0, .int .u8 0, .int .u8 0, .int .u8 0, .int .u8 0, .int .u8 0, .int .u8 0, .int .u8 0, .int .u8 0, .int .u8 0, .int .u8 0, .int .u8 0, .int .u8 0, .int .u8 0] 84) (.cells (packOf xs k) 84)
      have hg0 := heap_alloc2_old w (.cells #[.int .u8 0, .int .u8 0, .int .u8 0, .int .u8 0, .int .u8 0, .int .u8 0, .int .u8 0, .int .u8 0, .int .u8 0, .int .u8 0, .int .u8 0, .int .u8 0, .int .u8 0, .int .u8 0, .int .u8 0, .int .u8 0] 84) (.cells (packOf xs k) 84)
      clear ha hg hnp hu
      go_wp2_with (first
        | refine wpList_load_row rfl 84 _ rfl (w.heap.size + 1) rfl 84 (packOf xs k) (0, 0) _ hg1 Try.underlying84 rfl (by rw [packOf_size]; exact Try.size84) ?_
        | refine wpList_store_row rfl 84 _ _ rfl w.heap.size (packOf xs k) rfl rfl 84 _ hg0 (by rw [packOf_size]; exact Try.size84) (by rw [packOf_size]; rfl) (packOf_one xs k) ?_)
      refine bodyPost_ret (v := .tuple #[.agg (packOf xs k), .bool true]) ?_ rfl (tokEnd_yes HG.out (below_setRow (below_two _ _ _) _ (Nat.le_refl _) _))
      refine (results_cell_tmp Try.results56 _ _ _).trans ?_
      show ((loadVar 84 ⟨w.heap.size, 0, none⟩).run Try.prog _).andThen _ = _
      rw [run_loadVar_row _ _ 84 84 (packOf xs k) (0, 0) _ (setRow_at _ _ _ _ _) Try.underlying84 rfl (by rw [packOf_size]; exact Try.size84)]
      rfl
end Go.Proofs.Ytedbihlpggficaa


/- What tokensOf and both GoodMarks answer, for every number of places and every list: true just where the places are in 1..16, the list is as long, and each of its numbers is in 0..50; nothing that was there is written. -/
namespace Go.Proofs.Ytedbihlpggficaa
open Go.RowKit

theorem goodB_of {p : Int} {n : Nat} {xs : List Int} (hl : xs.length = n) (hp : inB p 1 16 = true) (hn : (n : Int) = p) : goodB p xs = allB xs 0 50 := by
  simp [goodB, hp, hl, hn]

theorem goodB_p {p : Int} {xs : List Int} (hp : inB p 1 16 = false) : goodB p xs = false := by simp [goodB, hp]

theorem goodB_n {p : Int} {n : Nat} {xs : List Int} (hl : xs.length = n) (hn : ¬ (n : Int) = p) : goodB p xs = false := by
  simp [goodB, hl, hn]

theorem inB_le {p : Int} {n : Nat} (hp : inB p 1 16 = true) (hn : (n : Int) = p) : 1 ≤ n ∧ n ≤ 16 := by
  simp [inB] at hp; omega

set_option maxHeartbeats 400000 in
theorem tokens_any (p : Int) (a : Option Addr) (n ca : Nat) (xs : List Int) (w : World) (ha : Row w a n xs) (_hn : n ≤ 1048576) :
    Calls Try.prog 56 #[.int .i64 p, .slice a n ca] w fun e w' => TokEnd (goodB p xs) xs n w e w' := by
  by_cases hp : inB p 1 16 = true
  · by_cases hnp : (n : Int) = p
    · exact tokens_run _ p a n ca xs w ha hp hnp (inB_le hp hnp).2 (goodB_of ha.1 hp hnp)
    · have hd : ((n : Int) != p) = true := by simp [hnp]
      have HG : Hid (goodB p xs = false) := goodB_n ha.1 hnp
      clear hnp ha
      go_enter Try.func56, Try.ntmps56
      go_wp2_with (go_at_call 55; refine (goodPlaces_any _ _).mono ?_; rintro e w' ⟨rfl, rfl⟩)
      exact bodyPost_ret (v := .tuple #[.agg #[.int .u8 0, .int .u8 0, .int .u8 0, .int .u8 0, .int .u8 0, .int .u8 0, .int .u8 0, .int .u8 0, .int .u8 0, .int .u8 0, .int .u8 0, .int .u8 0, .int .u8 0, .int .u8 0, .int .u8 0, .int .u8 0], .bool false]) (by simp [results, Try.results56, go_sem]) rfl (tokEnd_no HG.out (below_two _ _ _))
  · have hp' : inB p 1 16 = false := by simpa using hp
    have HG : Hid (goodB p xs = false) := goodB_p hp'
    clear hp ha
    go_enter Try.func56, Try.ntmps56
    go_wp2_with (go_at_call 55; refine (goodPlaces_any _ _).mono ?_; rintro e w' ⟨rfl, rfl⟩)
    exact bodyPost_ret (v := .tuple #[.agg #[.int .u8 0, .int .u8 0, .int .u8 0, .int .u8 0, .int .u8 0, .int .u8 0, .int .u8 0, .int .u8 0, .int .u8 0, .int .u8 0, .int .u8 0, .int .u8 0, .int .u8 0, .int .u8 0, .int .u8 0, .int .u8 0], .bool false]) (by simp [results, Try.results56, go_sem]) rfl (tokEnd_no HG.out (below_two _ _ _))

/-- A call that answers a bool and writes into nothing that was there. -/
def BoolEnd (b : Bool) (w : World) (e : Ending) (w' : World) : Prop := e = .returned (.bool b) ∧ Below w.heap.size w w'


def AllUpto (xs : List Int) (lo hi : Int) (k : Nat) : Prop := allB (xs.take k) lo hi = true

theorem AllUpto.step {xs : List Int} {lo hi : Int} {k : Nat} {x : Int} (h : AllUpto xs lo hi k) (hx : Hid (xs[k]? = some x)) (hi' : inB x lo hi = true) : AllUpto xs lo hi (k + 1) := by
  unfold AllUpto allB at *
  rw [List.take_add_one, hx.out, List.all_append, h]
  simp [hi']

theorem AllUpto.done {xs : List Int} {lo hi : Int} {n : Nat} (h : AllUpto xs lo hi n) (hl : xs.length = n) : allB xs lo hi = true := by
  unfold AllUpto at h
  rwa [List.take_of_length_le (by omega)] at h

theorem allB_no {xs : List Int} {lo hi : Int} {k : Nat} {x : Int} (hx : Hid (xs[k]? = some x)) (hi' : inB x lo hi = false) : allB xs lo hi = false := by
  unfold allB
  rw [List.all_eq_false]
  exact ⟨x, List.mem_of_getElem? hx.out, by simp [hi']⟩

set_option maxHeartbeats 400000 in
theorem allG_any (a : Option Addr) (n ca : Nat) (xs : List Int) (lo hi : Int) (w : World) (ha : Row w a n xs) (hn : n ≤ 1048576) :
    Calls Try.prog 89 #[.slice a n ca, .int .i64 lo, .int .i64 hi] w fun e w' => e = .returned (.bool (allB xs lo hi)) ∧ w' = w := by
  go_enter Try.func89, Try.ntmps89
  go_wp2
  go_loop [11] (fun i => ∃ k : Nat, k ≤ n ∧ i = .int .i64 k ∧ AllUpto xs lo hi k) (fun i => n - (intOf i).toNat)
  case atStart => exact ⟨0, Nat.zero_le _, rfl, rfl⟩
  case round =>
    obtain ⟨k, hk, rfl, hu⟩ := hrel
    by_cases hlt : k < n
    · obtain ⟨b1, o1, x, rfl, hl1, hc1, H1⟩ := ha.at hlt
      clear ha
      by_cases hi' : inB x lo hi = true
      · have HU := hu.step H1 hi'
        clear hu H1
        go_wp2_with (go_at_call 71; refine (in_any _ _ _ _).mono ?_; rintro e w' ⟨rfl, rfl⟩)
        go_round
        case rel => exact ⟨k + 1, by omega, by go_num, HU⟩
        case measure => simp [intOf]; omega
      · have hi'' : inB x lo hi = false := by simpa using hi'
        have HA := hide (allB_no H1 hi'')
        clear hu H1 hi'
        go_wp2_with (go_at_call 71; refine (in_any _ _ _ _).mono ?_; rintro e w' ⟨rfl, rfl⟩)
        go_ret
        exact ⟨ret_bool HA.out.symm, rfl⟩
    · have hk' : k = n := by omega
      subst hk'
      have HA := hide (hu.done ha.1)
      go_wp2
      go_ret
      exact ⟨ret_bool HA.out.symm, rfl⟩

set_option maxHeartbeats 400000 in
theorem goodS_any (p : Int) (a : Option Addr) (n ca : Nat) (xs : List Int) (w : World) (ha : Row w a n xs) (hn : n ≤ 1048576) :
    Calls Try.prog 53 #[.int .i64 p, .slice a n ca] w fun e w' => e = .returned (.bool (goodB p xs)) ∧ w' = w := by
  by_cases hp : inB p 1 16 = true
  · by_cases hnp : (n : Int) = p
    · have hd : ((n : Int) == p) = true := by simp [hnp]
      have HG := hide (goodB_of ha.1 hp hnp)
      have HA := hide (allG_any a n ca xs 0 50 w ha hn)
      clear hnp ha
      go_enter Try.func53, Try.ntmps53
      go_wp2_with (first
        | (go_at_call 52; refine (places_any _ _).mono ?_; rintro e w' ⟨rfl, rfl⟩)
        | (go_at_call 89; refine HA.out.mono ?_; rintro e w' ⟨rfl, rfl⟩))
      go_ret
      exact ⟨ret_bool HG.out.symm, rfl⟩
    · have hd : ((n : Int) == p) = false := by simp [hnp]
      have HG := hide (goodB_n ha.1 hnp)
      clear hnp ha
      go_enter Try.func53, Try.ntmps53
      go_wp2_with (go_at_call 52; refine (places_any _ _).mono ?_; rintro e w' ⟨rfl, rfl⟩)
      go_ret
      exact ⟨ret_bool HG.out.symm, rfl⟩
  · have hp' : inB p 1 16 = false := by simpa using hp
    have HG := hide (goodB_p (xs := xs) hp')
    clear hp ha
    go_enter Try.func53, Try.ntmps53
    go_wp2_with (go_at_call 52; refine (places_any _ _).mono ?_; rintro e w' ⟨rfl, rfl⟩)
    go_ret
    exact ⟨ret_bool HG.out.symm, rfl⟩
end Go.Proofs.Ytedbihlpggficaa


/- What bothTokensOf answers, for every number of places and every two lists: both arrays and true where both are good marks, else false; nothing that was there is written. -/
namespace Go.Proofs.Ytedbihlpggficaa
open Go.RowKit

def tokL (f : Nat → Int) : List Value := (tokF f).toList

theorem tokL_len (f : Nat → Int) : (tokL f).length = 16 := by simp [tokL, tokF_size]
theorem tokL_arr (f : Nat → Int) : (tokL f).toArray = tokF f := by simp [tokL]
theorem tokL_one (f : Nat → Int) : ∀ v ∈ tokL f, v.oneCell' = true := by
  intro v hv
  exact Array.all_eq_true_iff_forall_mem.1 (tokF_one f) v (by simpa [tokL] using hv)

theorem range_of_block {w : World} {b : Nat} {f : Nat → Int} {t : TypeId} {fr : Nat × Nat} (hb : w.heap[b]? = some (.cells (tokF f) t fr)) : w.rangeAt b 0 (tokL f) := by
  intro j v hv
  rw [cell_of_row w b (0 + j) _ t fr hb, Nat.zero_add]
  simpa [tokL] using hv

theorem there_of_block {w : World} {b : Nat} {C : Array Value} {t : TypeId} (hb : w.heap[b]? = some (.cells C t (0, 0))) (hs : C.size = 16) : w.there b 0 16 := by
  intro j hj
  refine ⟨?_, frozen_of_row w b _ C t hb⟩
  rw [cell_of_row w b (0 + j) _ t (0, 0) hb, Nat.zero_add, Array.getElem?_eq_getElem (by omega)]
  rfl

theorem setRow_same {w : World} {b : Nat} {C : Array Value} {t : TypeId} (hb : w.heap[b]? = some (.cells C t (0, 0))) (D : Array Value) : (w.setRow b D).heap[b]? = some (.cells D t (0, 0)) := by
  simp only [World.setRow, Array.getElem?_modify]
  rw [if_pos trivial, hb]
  rfl

theorem setRow_other (w : World) (b k : Nat) (D : Array Value) (h : k ≠ b) : (w.setRow b D).heap[k]? = w.heap[k]? := by
  simp only [World.setRow, Array.getElem?_modify]
  rw [if_neg (by omega)]

theorem below_setCells {B : Nat} {a w : World} (h : Below B a w) (b o : Nat) (hb : B ≤ b) (vs : List Value) : Below B a (w.setCells b o vs) := by
  induction vs generalizing w o with
  | nil => exact h
  | cons v r ih => exact ih (h.setCell hb v) (o + 1)

theorem results_cells_tmp {fn : Func} {p q u : Tmp} {ty tz : TypeId} (h : fn.results = #[.cell p ty, .cell q tz, .tmp u]) (tmps : Array Value) (P : Program) (w : World) :
    (results fn tmps).run P w =
      ((asAddr (tmps.getD p undef)).run P w).andThen fun a w₁ => ((loadVar ty a).run P w₁).andThen fun v w₂ =>
        ((asAddr (tmps.getD q undef)).run P w₂).andThen fun b w₃ => ((loadVar tz b).run P w₃).andThen fun v' w₄ => .ok (.tuple #[v, v', tmps.getD u undef]) w₄ := by
  simp only [results, h]
  simp [Sem.run_bind, Result.andThen]

theorem cons_store {P : Program} {md : Region.Mode} {ops : Array Oper} {Q : Exit → Act → World → Prop} {fuel : Nat} {listed : Array Bool} {a : Act} {w : World} {i : Nat} {o : Oper} {rs : List Nat} (ho : ops[i]? = some o)
    (hgd : o.guard = none) (hd : o.dst = none) (ty : TypeId) (x y : Operand) (hop : o.op = .store ty x y)
    (g : Nat) (cells : Array Value) (hx : a.eval x = .pointer (some ⟨g, 0, none⟩)) (hy : a.eval y = .agg cells)
    (t : TypeId) (old : Array Value) (hg : w.heap[g]? = some (.cells old t (0, 0))) (hi : (P.info? ty).map (·.size) = some cells.size)
    (hold : old.size = cells.size) (h1 : cells.all (·.oneCell') = true)
    (h : wpAny P md ops Q fuel (listed.setIfInBounds i true) a (w.setRow g cells))
    (hs : AllReady P md ops Q fuel listed a w rs) : AllReady P md ops Q fuel listed a w (i :: rs) := by
  refine AllReady.cons ho (fun K hK => ?_) hs
  rw [if_pos (by simp [Region.wanted, hgd])]
  refine wp_store_row ty x y hop g cells hx hy t old hg hi hold h1 (hK _ _ ?_)
  rw [hd]
  exact h

theorem cons_load {P : Program} {md : Region.Mode} {ops : Array Oper} {Q : Exit → Act → World → Prop} {fuel : Nat} {listed : Array Bool} {a : Act} {w : World} {i : Nat} {o : Oper} {rs : List Nat} (ho : ops[i]? = some o)
    (hgd : o.guard = none) (d : Option Tmp) (hd : o.dst = d) (ty : TypeId) (x : Operand) (hop : o.op = .load ty x)
    (g : Nat) (cells : Array Value) (hx : a.eval x = .pointer (some ⟨g, 0, none⟩))
    (t : TypeId) (n : Nat) (e : TypeId) (hu : P.underlying ty = some (.array n e)) (hg : w.heap[g]? = some (.cells cells t (0, 0))) (hi : (P.info? ty).map (·.size) = some cells.size)
    (h : wpAny P md ops Q fuel (listed.setIfInBounds i true) (a.put d (.agg cells)) w)
    (hs : AllReady P md ops Q fuel listed a w rs) : AllReady P md ops Q fuel listed a w (i :: rs) := by
  refine AllReady.cons ho (fun K hK => ?_) hs
  rw [if_pos (by simp [Region.wanted, hgd])]
  refine wp_load_row ty x hop g hx t cells (0, 0) _ hg hu rfl hi (hK _ _ ?_)
  rw [hd]
  exact h

theorem cons_assign {P : Program} {md : Region.Mode} {ops : Array Oper} {Q : Exit → Act → World → Prop} {fuel : Nat} {listed : Array Bool} {a : Act} {w : World} {i : Nat} {o : Oper} {rs : List Nat} (ho : ops[i]? = some o)
    (hgd : o.guard = none) (d : Option Tmp) (hd : o.dst = d) (x : Operand) (hop : o.op = .assign x)
    (h : wpAny P md ops Q fuel (listed.setIfInBounds i true) (a.put d (a.eval x)) w)
    (hs : AllReady P md ops Q fuel listed a w rs) : AllReady P md ops Q fuel listed a w (i :: rs) := by
  refine AllReady.cons ho (fun K hK => ?_) hs
  rw [if_pos (by simp [Region.wanted, hgd])]
  unfold Oper.wp
  simp only [execOp, hop, Sem.run_pure]
  refine hK _ _ ?_
  rw [hd]
  exact h

set_option maxRecDepth 10000 in
theorem both_results {fn : Func} (hr : fn.results = #[.cell 6 84, .cell 7 84, .tmp 8]) (tmps : Array Value) (W : World) (b6 b7 : Nat) (f g : Nat → Int) (v : Value)
    (h6 : tmps.getD 6 undef = .pointer (some ⟨b6, 0, none⟩)) (h7 : tmps.getD 7 undef = .pointer (some ⟨b7, 0, none⟩)) (h8 : tmps.getD 8 undef = v)
    (q6 : W.heap[b6]? = some (.cells (tokF f) 84 (0, 0))) (q7 : W.heap[b7]? = some (.cells (tokF g) 84 (0, 0))) :
    (results fn tmps).run Try.prog W = .ok (.tuple #[.agg (tokF f), .agg (tokF g), v]) W := by
  refine (results_cells_tmp hr _ _ _).trans ?_
  rw [h6, h7, h8]
  show ((loadVar 84 ⟨b6, 0, none⟩).run Try.prog W).andThen _ = _
  rw [run_loadVar_row _ _ 84 84 (tokF f) (0, 0) _ q6 Try.underlying84 rfl (by rw [tokF_size]; exact Try.size84)]
  show ((loadVar 84 ⟨b7, 0, none⟩).run Try.prog W).andThen _ = _
  rw [run_loadVar_row _ _ 84 84 (tokF g) (0, 0) _ q7 Try.underlying84 rfl (by rw [tokF_size]; exact Try.size84)]
  rfl

theorem below_rows {B : Nat} {w V : World} (h : Below B w V) (b c : Nat) (hb : B ≤ b) (hc : B ≤ c) (C D : Array Value) : Below B w ((V.drew.setRow b C).setRow c D) :=
  below_setRow (below_setRow h.drew _ hb _) _ hc _

theorem lit_one : (#[.int .u8 0, .int .u8 0, .int .u8 0, .int .u8 0, .int .u8 0, .int .u8 0, .int .u8 0, .int .u8 0, .int .u8 0, .int .u8 0, .int .u8 0, .int .u8 0, .int .u8 0, .int .u8 0, .int .u8 0, .int .u8 0] : Array Value).all (·.oneCell') = true := by
  rw [← packOf_zero []]; exact packOf_one _ _

end Go.Proofs.Ytedbihlpggficaa


/- What both Covers answer, for every number of places and every two lists: whether each number of the first is at least that of the second, and true, where both are good marks, else false and false; nothing that was there is written. -/
namespace Go.Proofs.Ytedbihlpggficaa
open Go.RowKit
set_option maxRecDepth 10000

theorem _root_.Go.RowKit.Below.drewN {B : Nat} {a w : World} (h : Below B a w) (q : Nat) : Below B a (w.drewN q) := ⟨h.os, h.tape, h.output, h.size, h.block⟩

def getF (xs : List Int) : Nat → Int := fun i => xs.getD i 0

theorem getF_of {xs : List Int} {k : Nat} {x : Int} (h : Hid (xs[k]? = some x)) : getF xs k = x := by simp [getF, h.out]

/-- Each number of the list is in 0..50. -/
def Small (f : Nat → Int) : Prop := ∀ i, 0 ≤ f i ∧ f i ≤ 50

theorem good_parts {p : Int} {xs : List Int} (h : goodB p xs = true) : Small (getF xs) ∧ xs.length ≤ 16 ∧ 1 ≤ xs.length ∧ (xs.length : Int) = p := by
  simp only [goodB, Bool.and_eq_true, decide_eq_true_eq] at h
  obtain ⟨⟨h1, h2⟩, h3⟩ := h
  refine ⟨fun i => ?_, (inB_le h1 h2).2, (inB_le h1 h2).1, h2⟩
  unfold getF
  by_cases hi : i < xs.length
  · rw [List.getD_eq_getElem?_getD, List.getElem?_eq_getElem hi]
    have := List.all_eq_true.mp h3 xs[i] (List.getElem_mem hi)
    simp [inB] at this
    simpa using this
  · rw [List.getD_eq_getElem?_getD, List.getElem?_eq_none (by omega)]
    simp

theorem small_fOf {xs : List Int} (h : Small (getF xs)) (n : Nat) : Small (fOf xs n) := by
  intro i
  unfold fOf
  split
  · exact h i
  · omega

/-- The first k numbers of f are at least those of g. -/
def CovUpto (f g : Nat → Int) (k : Nat) : Prop := ∀ i, i < k → g i ≤ f i
def covF (f g : Nat → Int) (n : Nat) : Bool := (List.range n).all fun i => decide (g i ≤ f i)

theorem covF_yes {f g : Nat → Int} {n : Nat} (h : CovUpto f g n) : covF f g n = true := by
  simp only [covF, List.all_eq_true, List.mem_range, decide_eq_true_eq]; exact h

theorem covF_iff {f g : Nat → Int} {n : Nat} : covF f g n = true ↔ CovUpto f g n := by
  simp [covF, CovUpto]

theorem covF_no {f g : Nat → Int} {n k : Nat} (hk : k < n) (h : f k < g k) : covF f g n = false := by
  rw [Bool.eq_false_iff]
  intro hc
  have := covF_iff.mp hc k hk
  omega

theorem CovUpto.step {f g : Nat → Int} {k : Nat} (h : CovUpto f g k) (hk : g k ≤ f k) : CovUpto f g (k + 1) := by
  intro i hi
  by_cases e : i = k
  · subst e; exact hk
  · exact h i (by omega)

theorem covF_pad (xs ys : List Int) (n : Nat) (hn : n ≤ 16) : covF (fOf xs n) (fOf ys n) 16 = covF (getF xs) (getF ys) n := by
  rw [Bool.eq_iff_iff, covF_iff, covF_iff]
  constructor
  · intro h i hi
    have := h i (by omega)
    unfold fOf at this
    rw [if_pos hi, if_pos hi] at this
    exact this
  · intro h i hi
    unfold fOf
    by_cases e : i < n
    · rw [if_pos e, if_pos e]; exact h i e
    · rw [if_neg e, if_neg e]; exact Int.le_refl 0

set_option maxHeartbeats 400000 in
theorem cov_any (f g : Nat → Int) (w : World) :
    Calls Try.prog 97 #[.agg (tokF f), .agg (tokF g)] w fun e w' => BoolEnd (covF f g 16) w e w' := by
  go_enter Try.func97, Try.ntmps97
  go_wp2
  go_loopw [6] (fun i wr => ∃ k : Nat, k ≤ 16 ∧ i = .int .i64 k ∧ CovUpto f g k ∧ ∃ q, wr = ((w.alloc (.cells (tokF f) 84)).alloc (.cells (tokF g) 84)).drewN q) (fun i _ => 16 - (intOf i).toNat)
  case atStart => exact ⟨0, Nat.zero_le _, rfl, fun i hi => absurd hi (by omega), 0, rfl⟩
  case round =>
    obtain ⟨k, hk, rfl, hu, q, rfl⟩ := hrel
    by_cases hlt : k < 16
    · have h1 := tokF_at f k hlt
      have h2 := tokF_at g k hlt
      have hi1 : ((k : Int)) < 16 := by omega
      by_cases he : f k < g k
      · have HC := hide (covF_no hlt he)
        obtain ⟨x, hx⟩ : ∃ x, Hid (f k = x) := ⟨_, rfl⟩
        obtain ⟨y, hy⟩ : ∃ y, Hid (g k = y) := ⟨_, rfl⟩
        rw [hx.out] at h1 he
        rw [hy.out] at h2 he
        clear hu
        go_wp2
        go_quiet (fail)
        go_wp2
        go_ret
        exact ⟨ret_bool HC.out.symm, by first | exact (below_two w _ _).drewN _ | exact ((below_two w _ _).drewN _).drewN _⟩
      · have HU := hu.step (by omega)
        obtain ⟨x, hx⟩ : ∃ x, Hid (f k = x) := ⟨_, rfl⟩
        obtain ⟨y, hy⟩ : ∃ y, Hid (g k = y) := ⟨_, rfl⟩
        rw [hx.out] at h1 he
        rw [hy.out] at h2 he
        have HUU := hide HU
        clear hu HU
        go_wp2
        go_quiet (fail)
        go_wp2
        go_roundw
        case rel => exact ⟨k + 1, by omega, by go_num, HUU.out, _, rfl⟩
        case measure => simp [intOf]; omega
    · have hk' : k = 16 := by omega
      subst hk'
      have HC := hide (covF_yes hu)
      clear hu
      go_wp2
      go_ret
      exact ⟨ret_bool HC.out.symm, by first | exact (below_two w _ _).drewN _ | exact ((below_two w _ _).drewN _).drewN _⟩

set_option maxHeartbeats 400000 in
theorem covS_any (a b : Option Addr) (n ca cb : Nat) (xs ys : List Int) (w : World) (ha : Row w a n xs) (hb : Row w b n ys) (hn : n ≤ 16) :
    Calls Try.prog 90 #[.slice a n ca, .slice b n cb] w fun e w' => e = .returned (.bool (covF (getF xs) (getF ys) n)) ∧ w' = w := by
  go_enter Try.func90, Try.ntmps90
  go_wp2
  go_loop [9] (fun i => ∃ k : Nat, k ≤ n ∧ i = .int .i64 k ∧ CovUpto (getF xs) (getF ys) k) (fun i => n - (intOf i).toNat)
  case atStart => exact ⟨0, Nat.zero_le _, rfl, fun i hi => absurd hi (by omega)⟩
  case round =>
    obtain ⟨k, hk, rfl, hu⟩ := hrel
    by_cases hlt : k < n
    · obtain ⟨b1, o1, x, rfl, hl1, hc1, H1⟩ := ha.at hlt
      obtain ⟨b2, o2, y, rfl, hl2, hc2, H2⟩ := hb.at hlt
      have hi1 : ((k : Int)) < ((n : Int)) := by omega
      by_cases he : x < y
      · have HC := hide (covF_no (f := getF xs) (g := getF ys) hlt (by rw [getF_of H1, getF_of H2]; exact he))
        clear ha hb hu H1 H2
        go_wp2
        go_ret
        exact ⟨ret_bool HC.out.symm, rfl⟩
      · have HU := hide (hu.step (by rw [getF_of H1, getF_of H2]; omega))
        clear ha hb hu H1 H2
        go_wp2
        go_round
        case rel => exact ⟨k + 1, by omega, by go_num, HU.out⟩
        case measure => simp [intOf]; omega
    · have hk' : k = n := by omega
      subst hk'
      have HC := hide (covF_yes hu)
      clear hu
      go_wp2
      go_ret
      exact ⟨ret_bool HC.out.symm, rfl⟩

def covB (p : Int) (xs ys : List Int) : Bool := goodB p xs && goodB p ys && covF (getF xs) (getF ys) xs.length

def CovEnd (p : Int) (xs ys : List Int) (w : World) (e : Ending) (w' : World) : Prop :=
  e = .returned (.tuple #[.bool (covB p xs ys), .bool (goodB p xs && goodB p ys)]) ∧ Below w.heap.size w w'

theorem covEnd_no {p : Int} {xs ys : List Int} {w w' : World} (h : (goodB p xs && goodB p ys) = false) (hb : Below w.heap.size w w') : CovEnd p xs ys w (.returned (.tuple #[.bool false, .bool false])) w' := by
  refine ⟨?_, hb⟩; unfold covB; rw [h]; rfl

theorem covEnd_yes {p : Int} {xs ys : List Int} {w w' : World} {c : Bool} (h : (goodB p xs && goodB p ys) = true) (hc : covF (getF xs) (getF ys) xs.length = c) (hb : Below w.heap.size w w') : CovEnd p xs ys w (.returned (.tuple #[.bool c, .bool true])) w' := by
  refine ⟨?_, hb⟩; unfold covB; rw [h, hc]; simp

theorem two_len {p : Int} {xs ys : List Int} (h : (goodB p xs && goodB p ys) = true) : xs.length = ys.length ∧ xs.length ≤ 16 := by
  rw [Bool.and_eq_true] at h
  have h1 := good_parts h.1
  have h2 := good_parts h.2
  omega

end Go.Proofs.Ytedbihlpggficaa


/- What both CompareMarks answer, for every number of places and every two lists: -1, 0 or 1 by the first number in which they part, and true, where both are good marks, else 0 and false; nothing that was there is written. -/
namespace Go.Proofs.Ytedbihlpggficaa
open Go.RowKit

theorem Try.size5 : (Try.prog.info? 5).map (·.size) = some 1 := by kernel_rfl

def eqF (f g : Nat → Int) (l : List Nat) : Bool := l.all fun i => f i == g i

theorem run_part_tok (f : Nat → Int) (i : Nat) (hi : i < 16) (w : World) : (part 5 (tokF f) i).run Try.prog w = .ok (.int .u8 (f i)) w := by
  have h := tokF_at f i hi
  simp [part, isAgg, run_underlying Try.underlying5, h, go_sem]

theorem run_equalIn_tok (d e : Nat) (hd : d = e + 1) (f g : Nat → Int) (w : World) : (Op.equalIn (d + 1) 84 (.agg (tokF f)) (.agg (tokF g))).run Try.prog w = .ok (eqF f g (List.range 16)) w := by
  obtain ⟨i, hi, hs⟩ := Option.map_eq_some_iff.1 Try.size5
  simp only [Op.equalIn, Sem.run_bind, run_underlying Try.underlying84, Result.andThen_ok, sizeOf, typeInfo, run_program, hi, hs, Sem.run_pure, Std.Legacy.Range.forIn_eq_forIn_range', Nat.mul_one]
  have key : ∀ l : List Nat, (∀ i ∈ l, i < 16) → ∀ w : World, (Sem.run Try.prog (forIn l ((none : Option Bool), ()) fun i __s => do
      let a ← part 5 (tokF f) i
      let b ← part 5 (tokF g) i
      let r ← Op.equalIn d 5 a b
      if (!r) = true then pure (ForInStep.done (some false, ())) else pure (ForInStep.yield (none, ()))) w) = .ok (if eqF f g l = true then (none, ()) else (some false, ())) w := by
    intro l
    induction l with
    | nil => intro _ w; simp [eqF]
    | cons j l ih =>
      intro hl w
      have hj := hl j (by simp)
      have e1 : (Op.equalIn d 5 (.int .u8 (f j)) (.int .u8 (g j))).run Try.prog w = .ok (f j == g j) w := by
        rw [hd]; exact run_equalIn_int w e 5 .u8 .u8 _ _ Try.underlying5
      simp only [List.forIn_cons, Sem.run_bind, run_part_tok f j hj, run_part_tok g j hj, Result.andThen_ok, e1, Sem.run_ite]
      by_cases hq : f j = g j
      · have hq2 : (f j == g j) = true := by simp [hq]
        simp only [hq2, Bool.not_true, Bool.false_eq_true, if_false, Sem.run_pure, Result.andThen_ok]
        rw [ih (fun i h => hl i (by simp [h])) w]
        simp [eqF, hq2]
      · have hq2 : (f j == g j) = false := by simp [hq]
        simp only [hq2, Bool.not_false, if_true, Sem.run_pure, Result.andThen_ok]
        simp [eqF, hq2]
  have k16 := key (List.range' 0 16) (by intro i hi; simp [List.mem_range'] at hi; omega) w
  rw [show [:16].size = 16 from rfl, k16, show List.range 16 = List.range' 0 16 from rfl]
  cases eqF f g (List.range' 0 16) <;> rfl

def cmpN (f g : Nat → Int) : Nat → Nat → Int
  | 0, _ => 0
  | n + 1, k => if f k < g k then -1 else if g k < f k then 1 else cmpN f g n (k + 1)

def EqUpto (f g : Nat → Int) (k : Nat) : Prop := ∀ i, i < k → f i = g i

theorem EqUpto.step {f g : Nat → Int} {k : Nat} (h : EqUpto f g k) (h1 : ¬ f k < g k) (h2 : ¬ g k < f k) : EqUpto f g (k + 1) := by
  intro i hi
  by_cases e : i = k
  · subst e; omega
  · exact h i (by omega)

theorem cmpN_skip {f g : Nat → Int} {n k : Nat} (h : EqUpto f g k) (hk : k ≤ n) : cmpN f g n 0 = cmpN f g (n - k) k := by
  induction k with
  | zero => rfl
  | succ k ih =>
    rw [ih (fun i hi => h i (by omega)) (by omega), show n - k = (n - (k + 1)) + 1 by omega]
    have := h k (by omega)
    simp only [cmpN]
    rw [if_neg (by omega), if_neg (by omega)]

theorem cmpN_lt {f g : Nat → Int} {n k : Nat} (h : EqUpto f g k) (hk : k < n) (hl : f k < g k) : cmpN f g n 0 = -1 := by
  rw [cmpN_skip h (by omega), show n - k = (n - (k + 1)) + 1 by omega]
  simp only [cmpN]; rw [if_pos hl]

theorem cmpN_gt {f g : Nat → Int} {n k : Nat} (h : EqUpto f g k) (hk : k < n) (hl : g k < f k) : cmpN f g n 0 = 1 := by
  rw [cmpN_skip h (by omega), show n - k = (n - (k + 1)) + 1 by omega]
  simp only [cmpN]; rw [if_neg (by omega), if_pos hl]

theorem cmpN_eq {f g : Nat → Int} {n : Nat} (h : EqUpto f g n) : cmpN f g n 0 = 0 := by
  rw [cmpN_skip h (Nat.le_refl _), Nat.sub_self]; rfl

theorem eqF_upto {f g : Nat → Int} {n : Nat} : eqF f g (List.range n) = true ↔ EqUpto f g n := by
  simp [eqF, EqUpto]

theorem cmpN_zero {f g : Nat → Int} (j k : Nat) (h : ∀ i, k ≤ i → f i = g i) : cmpN f g j k = 0 := by
  induction j generalizing k with
  | zero => rfl
  | succ j ih =>
    have := h k (Nat.le_refl _)
    simp only [cmpN]
    rw [if_neg (by omega), if_neg (by omega)]
    exact ih (k + 1) (fun i hi => h i (by omega))

theorem cmpN_pad (xs ys : List Int) (n j m k : Nat) (hm : k + m = n) : cmpN (fOf xs n) (fOf ys n) (m + j) k = cmpN (getF xs) (getF ys) m k := by
  induction m generalizing k with
  | zero =>
    rw [Nat.zero_add]
    exact cmpN_zero j k (fun i hi => by unfold fOf; rw [if_neg (by omega), if_neg (by omega)])
  | succ m ih =>
    rw [show m + 1 + j = (m + j) + 1 by omega]
    simp only [cmpN]
    rw [ih (k + 1) (by omega)]
    have e1 : fOf xs n k = getF xs k := by unfold fOf getF; rw [if_pos (by omega)]
    have e2 : fOf ys n k = getF ys k := by unfold fOf getF; rw [if_pos (by omega)]
    rw [e1, e2]

/-- A call that answers an int and writes into nothing that was there. -/
def IntEnd (n : Int) (w : World) (e : Ending) (w' : World) : Prop := e = .returned (.int .i64 n) ∧ Below w.heap.size w w'

theorem ret_intC {a b : Int} (h : a = b) : Ending.returned (.int .i64 a) = .returned (.int .i64 b) := by rw [h]

set_option maxHeartbeats 1000000 in
theorem cmp_any (f g : Nat → Int) (w : World) :
    Calls Try.prog 95 #[.agg (tokF f), .agg (tokF g)] w fun e w' => IntEnd (cmpN f g 16 0) w e w' := by
  have hgd : ∀ w, (eqGuard .eql 84 (.tmp 6) (.tmp 7) (.agg (tokF f)) (.agg (tokF g))).run Try.prog w = .ok () w := fun w => run_eqGuard_agg w _ _ _ _ _ _ (by kernel_rfl)
  have hg0 := heap_alloc2_old w (.cells (tokF f) 84) (.cells (tokF g) 84)
  have hg1 := heap_alloc2_new w (.cells (tokF f) 84) (.cells (tokF g) 84)
  by_cases hq : EqUpto f g 16
  · have heq : ∀ w, (Op.equalIn 10000 84 (.agg (tokF f)) (.agg (tokF g))).run Try.prog w = .ok true w := fun w => by
      rw [← eqF_upto.mpr hq]; exact run_equalIn_tok 9999 9998 rfl f g w
    have HC := hide (cmpN_eq hq)
    clear hq
    go_enter Try.func95, Try.ntmps95
    go_wp2_with (first
      | refine wpList_load_row rfl 84 (.tmp 2) rfl _ rfl 84 (tokF f) (0, 0) _ hg0 Try.underlying84 rfl (by rw [tokF_size]; exact Try.size84) ?_
      | refine wpList_load_row rfl 84 (.tmp 3) rfl _ rfl 84 (tokF g) (0, 0) _ hg1 Try.underlying84 rfl (by rw [tokF_size]; exact Try.size84) ?_)
    go_ret
    exact ⟨ret_intC HC.out.symm, below_two w _ _⟩
  · have heq : ∀ w, (Op.equalIn 10000 84 (.agg (tokF f)) (.agg (tokF g))).run Try.prog w = .ok false w := fun w => by
      rw [← (Bool.eq_false_iff.mpr (fun h => hq (eqF_upto.mp h)) : eqF f g (List.range 16) = false)]; exact run_equalIn_tok 9999 9998 rfl f g w
    have HQ := hide hq
    clear hq
    go_enter Try.func95, Try.ntmps95
    go_wp2_with (first
      | refine wpList_load_row rfl 84 (.tmp 2) rfl _ rfl 84 (tokF f) (0, 0) _ hg0 Try.underlying84 rfl (by rw [tokF_size]; exact Try.size84) ?_
      | refine wpList_load_row rfl 84 (.tmp 3) rfl _ rfl 84 (tokF g) (0, 0) _ hg1 Try.underlying84 rfl (by rw [tokF_size]; exact Try.size84) ?_)
    clear heq hgd hg0 hg1
    go_loopw [9] (fun i wr => ∃ k : Nat, k ≤ 16 ∧ i = .int .i64 k ∧ EqUpto f g k ∧ ∃ q, wr = ((w.alloc (.cells (tokF f) 84)).alloc (.cells (tokF g) 84)).drewN q) (fun i _ => 16 - (intOf i).toNat)
    case atStart => exact ⟨0, Nat.zero_le _, rfl, fun i hi => absurd hi (by omega), 0, rfl⟩
    case round =>
      obtain ⟨k, hk, rfl, hu, q, rfl⟩ := hrel
      by_cases hlt : k < 16
      · have h1 := tokF_at f k hlt
        have h2 := tokF_at g k hlt
        have hi1 : ((k : Int)) < 16 := by omega
        by_cases he : f k < g k
        · have HC := hide (cmpN_lt hu hlt he)
          obtain ⟨x, hx⟩ : ∃ x, Hid (f k = x) := ⟨_, rfl⟩
          obtain ⟨y, hy⟩ : ∃ y, Hid (g k = y) := ⟨_, rfl⟩
          rw [hx.out] at h1 he
          rw [hy.out] at h2 he
          clear hu
          go_wp2
          go_quiet (fail)
          go_wp2
          go_ret
          exact ⟨ret_intC HC.out.symm, by first | exact (below_two w _ _).drewN _ | exact ((below_two w _ _).drewN _).drewN _⟩
        · by_cases he2 : g k < f k
          · have HC := hide (cmpN_gt hu hlt he2)
            obtain ⟨x, hx⟩ : ∃ x, Hid (f k = x) := ⟨_, rfl⟩
            obtain ⟨y, hy⟩ : ∃ y, Hid (g k = y) := ⟨_, rfl⟩
            rw [hx.out] at h1 he he2
            rw [hy.out] at h2 he he2
            clear hu
            go_wp2
            go_quiet (fail)
            go_wp2
            go_quiet (fail)
            go_wp2
            go_ret
            exact ⟨ret_intC HC.out.symm, by first | exact (below_two w _ _).drewN _ | exact ((below_two w _ _).drewN _).drewN _ | exact (((below_two w _ _).drewN _).drewN _).drewN _⟩
          · have HU := hide (hu.step he he2)
            obtain ⟨x, hx⟩ : ∃ x, Hid (f k = x) := ⟨_, rfl⟩
            obtain ⟨y, hy⟩ : ∃ y, Hid (g k = y) := ⟨_, rfl⟩
            rw [hx.out] at h1 he he2
            rw [hy.out] at h2 he he2
            clear hu
            go_wp2
            go_quiet (fail)
            go_wp2
            go_quiet (fail)
            go_wp2
            go_roundw
            case rel => exact ⟨k + 1, by omega, by go_num, HU.out, by first | exact ⟨_, rfl⟩ | exact ⟨_, drewN_two _ _ _⟩⟩
            case measure => simp [intOf]; omega
      · have hk' : k = 16 := by omega
        subst hk'
        exact absurd hu HQ.out

set_option maxHeartbeats 400000 in
theorem cmpS_any (a b : Option Addr) (n ca cb : Nat) (xs ys : List Int) (w : World) (ha : Row w a n xs) (hb : Row w b n ys) (hn : n ≤ 16) :
    Calls Try.prog 113 #[.slice a n ca, .slice b n cb] w fun e w' => e = .returned (.int .i64 (cmpN (getF xs) (getF ys) n 0)) ∧ ∃ q, w' = w.drewN q := by
  go_enter Try.func113, Try.ntmps113
  go_wp2
  go_loopw [8] (fun i wr => ∃ k : Nat, k ≤ n ∧ i = .int .i64 k ∧ EqUpto (getF xs) (getF ys) k ∧ ∃ q, wr = w.drewN q) (fun i _ => n - (intOf i).toNat)
  case atStart => exact ⟨0, Nat.zero_le _, rfl, fun i hi => absurd hi (by omega), 0, rfl⟩
  case round =>
    obtain ⟨k, hk, rfl, hu, q, rfl⟩ := hrel
    by_cases hlt : k < n
    · obtain ⟨b1, o1, x, rfl, hl1, hc1, H1⟩ := ha.at hlt
      obtain ⟨b2, o2, y, rfl, hl2, hc2, H2⟩ := hb.at hlt
      have hi1 : ((k : Int)) < ((n : Int)) := by omega
      have e1 := hide (getF_of H1)
      have e2 := hide (getF_of H2)
      clear ha hb H1 H2
      by_cases he : x < y
      · have HC := hide (cmpN_lt (n := n) hu hlt (by rw [e1.out, e2.out]; exact he))
        clear hu
        go_wp2
        go_quiet (fail)
        go_wp2
        go_ret
        exact ⟨ret_intC HC.out.symm, by first | exact ⟨_, rfl⟩ | exact ⟨_, drewN_two _ _ _⟩⟩
      · by_cases he2 : y < x
        · have HC := hide (cmpN_gt (n := n) hu hlt (by rw [e1.out, e2.out]; exact he2))
          clear hu
          go_wp2
          go_quiet (fail)
          go_wp2
          go_quiet (fail)
          go_wp2
          go_ret
          exact ⟨ret_intC HC.out.symm, by first | exact ⟨_, rfl⟩ | exact ⟨_, drewN_two _ _ _⟩ | (rw [drewN_two, drewN_two]; exact ⟨_, rfl⟩)⟩
        · have HU := hide (hu.step (by rw [e1.out, e2.out]; exact he) (by rw [e1.out, e2.out]; exact he2))
          clear hu
          go_wp2
          go_quiet (fail)
          go_wp2
          go_quiet (fail)
          go_wp2
          go_roundw
          case rel => exact ⟨k + 1, by omega, by go_num, HU.out, by first | exact ⟨_, rfl⟩ | exact ⟨_, drewN_two _ _ _⟩ | (rw [drewN_two, drewN_two]; exact ⟨_, rfl⟩)⟩
          case measure => simp [intOf]; omega
    · have hk' : k = n := by omega
      subst hk'
      have HC := hide (cmpN_eq hu)
      clear hu
      go_wp2
      go_ret
      exact ⟨ret_intC HC.out.symm, _, rfl⟩

def cmpB (p : Int) (xs ys : List Int) : Int := if goodB p xs && goodB p ys then cmpN (getF xs) (getF ys) xs.length 0 else 0

def CmpEnd (p : Int) (xs ys : List Int) (w : World) (e : Ending) (w' : World) : Prop :=
  e = .returned (.tuple #[.int .i64 (cmpB p xs ys), .bool (goodB p xs && goodB p ys)]) ∧ Below w.heap.size w w'

theorem cmpEnd_no {p : Int} {xs ys : List Int} {w w' : World} (h : (goodB p xs && goodB p ys) = false) (hb : Below w.heap.size w w') : CmpEnd p xs ys w (.returned (.tuple #[.int .i64 0, .bool false])) w' := by
  refine ⟨?_, hb⟩; unfold cmpB; rw [h]; rfl

theorem cmpEnd_yes {p : Int} {xs ys : List Int} {w w' : World} {c : Int} (h : (goodB p xs && goodB p ys) = true) (hc : cmpN (getF xs) (getF ys) xs.length 0 = c) (hb : Below w.heap.size w w') : CmpEnd p xs ys w (.returned (.tuple #[.int .i64 c, .bool true])) w' := by
  refine ⟨?_, hb⟩; unfold cmpB; rw [h, hc]; rfl

end Go.Proofs.Ytedbihlpggficaa
