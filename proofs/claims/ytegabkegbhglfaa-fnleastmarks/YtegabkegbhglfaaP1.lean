/- Contracts that the proof stands on, one behind the other. -/
import Derived.Test.YtegabkegbhglfaaRows
import Derived.WalkKit
import Derived.WalkSpells
import Derived.WalkLawsBesides
import Derived.Deep.OwnRows
import Derived.Deep.QuietTactic
import Derived.BigQuiet
import Derived.Laws.Tables
import Derived.Laws.ResultCell
import Derived.Deep.RegionHeld3
import Derived.Deep.MidRow
/- Contracts of the smallest functions that the laws of chapter 1 go through, for every input in every memory: l1In, l1Places, goodPlaces, toIntS, eqIntS, l1All and the specification's GoodMark answer as the plain functions below say, and write into nothing that was there. -/
namespace Go.Proofs.Ytegabkegbhglfaa
open Go.RowKit

theorem hide {p : Prop} (h : p) : Hid p := h

/-- A slice of integers reads as the list xs. -/
def Row (w : World) (a : Option Addr) (n : Nat) (xs : List Int) : Prop :=
  xs.length = n ∧ (n = 0 ∨ ∃ b off, a = some ⟨b, off, none⟩ ∧ b < w.heap.size ∧ ∀ i, i < n → w.cell? ⟨b, off + i, none⟩ = some (.int .i64 (xs.getD i 0)))

theorem Row.at {w : World} {a : Option Addr} {n : Nat} {xs : List Int} (h : Row w a n xs) {k : Nat} (hk : k < n) :
    ∃ b off x, a = some ⟨b, off, none⟩ ∧ b < w.heap.size ∧ w.cell? ⟨b, off + k, none⟩ = some (.int .i64 x) ∧ Hid (xs[k]? = some x) := by
  rcases h.2 with h0 | ⟨b, off, e, hb, hc⟩
  · omega
  · have hl := h.1
    exact ⟨b, off, _, e, hb, hc k hk, by unfold Hid; simp [List.getElem?_eq_getElem (show k < xs.length by omega)]⟩

theorem Row.below {w w' : World} {a : Option Addr} {n : Nat} {xs : List Int} (h : Row w a n xs) (hb : Below w.heap.size w w') : Row w' a n xs := by
  refine ⟨h.1, ?_⟩
  rcases h.2 with h0 | ⟨b, off, e, hl, hc⟩
  · exact .inl h0
  · exact .inr ⟨b, off, e, Nat.lt_of_lt_of_le hl hb.size, fun i hi => (hb.cell (p := ⟨b, off + i, none⟩) hl).trans (hc i hi)⟩

theorem Row.drewN {w : World} {a : Option Addr} {n : Nat} {xs : List Int} (h : Row w a n xs) (q : Nat) : Row (w.drewN q) a n xs := h

theorem drewN_two (w : World) (q r : Nat) : (w.drewN q).drewN r = w.drewN (q + r) := by simp [World.drewN, Nat.add_assoc]

theorem below_drewN' (w : World) (q : Nat) : Below w.heap.size w (w.drewN q) := ⟨rfl, rfl, rfl, Nat.le_refl _, fun _ _ => rfl⟩

/-- The cells of a list of integers. -/
def cellsOf (xs : List Int) : Array Value := (xs.map (Value.int .i64)).toArray

theorem cellsOf_at (xs : List Int) (i : Nat) (h : i < xs.length) : (cellsOf xs)[i]? = some (.int .i64 (xs.getD i 0)) := by
  simp [cellsOf, List.getElem?_map, List.getElem?_eq_getElem h]

/-- A slice that lies from the head of a block of the call's own, not frozen, and is as long as the block. -/
def Own (B : Nat) (w : World) (a : Option Addr) (n : Nat) (xs : List Int) : Prop :=
  xs.length = n ∧ ∃ b, a = some ⟨b, 0, none⟩ ∧ B ≤ b ∧ w.heap[b]? = some (.cells (cellsOf xs) 3 (0, 0))

theorem Own.row {B : Nat} {w : World} {a : Option Addr} {n : Nat} {xs : List Int} (h : Own B w a n xs) : Row w a n xs := by
  obtain ⟨hl, b, e, hB, hh⟩ := h
  refine ⟨hl, .inr ⟨b, 0, e, ?_, fun i hi => ?_⟩⟩
  · exact (Array.getElem?_eq_some_iff.mp hh).1
  · rw [cell_of_row w b (0 + i) _ _ _ hh, Nat.zero_add]
    exact cellsOf_at xs i (by omega)

theorem Row.alloc {w : World} {a : Option Addr} {n : Nat} {xs : List Int} (h : Row w a n xs) (o : Obj) : Row (w.alloc o) a n xs :=
  h.below ((Below.refl _ _).alloc (Nat.le_refl _) _)

theorem row_new (w : World) (xs : List Int) (n b : Nat) (hl : xs.length = n) (hb : b = w.heap.size) : Row (w.alloc (.cells (cellsOf xs) 3)) (some ⟨b, 0, none⟩) n xs := by
  subst hb
  exact Own.row (B := 0) ⟨hl, _, rfl, Nat.zero_le _, heap_alloc_new _ _⟩

def inB (n lo hi : Int) : Bool := decide (lo ≤ n) && decide (n ≤ hi)

theorem in_any (n lo hi : Int) (w : World) :
    Calls Try.prog 92 #[.int .i64 n, .int .i64 lo, .int .i64 hi] w fun e w' => e = .returned (.bool (inB n lo hi)) ∧ w' = w := by
  unfold inB
  by_cases h1 : lo ≤ n
  · by_cases h2 : n ≤ hi
    all_goals
      go_enter Try.func92, Try.ntmps92
      go_wp2
      go_ret
      exact ⟨by simp [h1, h2], rfl⟩
  · go_enter Try.func92, Try.ntmps92
    go_wp2
    go_ret
    exact ⟨by simp; omega, rfl⟩

theorem places_any (n : Int) (w : World) :
    Calls Try.prog 58 #[.int .i64 n] w fun e w' => e = .returned (.bool (inB n 1 16)) ∧ w' = w := by
  go_enter Try.func58, Try.ntmps58
  go_wp2_with (go_at_call 92; refine (in_any _ _ _ _).mono ?_; rintro e w' ⟨rfl, rfl⟩)
  go_ret
  exact ⟨rfl, rfl⟩

theorem goodPlaces_any (n : Int) (w : World) :
    Calls Try.prog 54 #[.int .i64 n] w fun e w' => e = .returned (.bool (inB n 1 16)) ∧ w' = w := by
  unfold inB
  by_cases h1 : 1 ≤ n
  · by_cases h2 : n ≤ 16
    all_goals
      go_enter Try.func54, Try.ntmps54
      go_wp2
      go_ret
      exact ⟨by simp [h1, h2], rfl⟩
  · go_enter Try.func54, Try.ntmps54
    go_wp2
    go_ret
    exact ⟨by simp; omega, rfl⟩

/-- The first k numbers of two lists are the same. -/
def Upto (xs ys : List Int) (k : Nat) : Prop := xs.take k = ys.take k

theorem Upto.step {xs ys : List Int} {k : Nat} {x : Int} (h : Upto xs ys k) (h1 : Hid (xs[k]? = some x)) (h2 : Hid (ys[k]? = some x)) : Upto xs ys (k + 1) := by
  unfold Upto at *
  rw [List.take_add_one, List.take_add_one, h, h1.out, h2.out]

def sameB (xs ys : List Int) : Bool := decide (xs = ys)

theorem sameB_self (xs : List Int) : sameB xs xs = true := by simp [sameB]

theorem Upto.done {xs ys : List Int} {n : Nat} (h : Upto xs ys n) (h1 : xs.length = n) (h2 : ys.length = n) : sameB xs ys = true := by
  unfold Upto at h
  rw [List.take_of_length_le (by omega), List.take_of_length_le (by omega)] at h
  simp [sameB, h]

theorem sameB_len {xs ys : List Int} (h : xs.length ≠ ys.length) : sameB xs ys = false := by
  simp only [sameB, decide_eq_false_iff_not]
  intro e; rw [e] at h; exact h rfl

theorem sameB_ne {xs ys : List Int} {k : Nat} {x y : Int} (h1 : Hid (xs[k]? = some x)) (h2 : Hid (ys[k]? = some y)) (h : ¬ x = y) : sameB xs ys = false := by
  simp only [sameB, decide_eq_false_iff_not]
  intro e; rw [e, Hid, h2.out] at h1; simp at h1; exact h h1.symm

theorem ret_bool {a b : Bool} (h : a = b) : Ending.returned (.bool a) = .returned (.bool b) := by rw [h]

theorem Try.info3 : (Try.prog.info? 3).map (fun i => (i.zero, i.size, i.bytes)) = some (some (.int .i64 0), 1, 8) := by kernel_rfl

/-- The first k cells hold the first k numbers. -/
def Fill (xs : List Int) (n k : Nat) (cs : Array Value) : Prop := cs.size = n ∧ ∀ i, i < k → cs[i]? = some (.int .i64 (xs.getD i 0))

theorem Fill.step {xs : List Int} {n k : Nat} {cs : Array Value} {x : Int} (h : Fill xs n k cs) (hk : k < n) (hx : Hid (xs[k]? = some x)) : Fill xs n (k + 1) (cs.setIfInBounds k (.int .i64 x)) := by
  obtain ⟨h1, h2⟩ := h
  refine ⟨by simp [h1], fun i hi => ?_⟩
  rw [Array.getElem?_setIfInBounds]
  by_cases e : k = i
  · subst e; rw [if_pos rfl, if_pos (by omega)]; simp [hx.out]
  · rw [if_neg e]; exact h2 i (by omega)

theorem Fill.done {xs : List Int} {n : Nat} {cs : Array Value} (h : Fill xs n n cs) (hx : xs.length = n) : cs = cellsOf xs := by
  obtain ⟨h1, h2⟩ := h
  apply Array.ext_getElem?
  intro i
  by_cases hi : i < n
  · rw [h2 i hi, cellsOf_at xs i (by omega)]
  · rw [Array.getElem?_eq_none (by omega), Array.getElem?_eq_none (by simp [cellsOf]; omega)]

end Go.Proofs.Ytegabkegbhglfaa


/- What tokensOf answers for a list of as many numbers as there are places: the array of its numbers and true just where each is in 0..50; nothing that was there is written. -/
namespace Go.Proofs.Ytegabkegbhglfaa
open Go.RowKit

/-- The array of sixteen small numbers. -/
def tokF (f : Nat → Int) : Array Value := Array.ofFn (n := 16) fun i => .int .u8 (f i.val)

theorem tokF_size (f : Nat → Int) : (tokF f).size = 16 := by simp [tokF]

theorem tokF_at (f : Nat → Int) (i : Nat) (h : i < 16) : (tokF f)[i]? = some (.int .u8 (f i)) := by
  simp [tokF, h]

theorem tokF_one (f : Nat → Int) : (tokF f).all (·.oneCell') = true := by
  rw [Array.all_eq_true]
  intro i hi
  simp [tokF, Value.oneCell']

theorem tokF_set (f g : Nat → Int) (k : Nat) (x : Int) (hx : g k = x) (he : ∀ i, i ≠ k → g i = f i) : (tokF f).setIfInBounds k (.int .u8 x) = tokF g := by
  apply Array.ext_getElem?
  intro i
  rw [Array.getElem?_setIfInBounds]
  by_cases hi : i < 16
  · rw [tokF_at _ _ hi, tokF_at _ _ hi]
    by_cases e : k = i
    · subst e; rw [if_pos rfl, if_pos (by simpa [tokF_size] using hi), hx]
    · rw [if_neg e, he i (by omega)]
  · rw [Array.getElem?_eq_none (xs := tokF g) (by simp [tokF_size]; omega)]
    split
    · rw [if_neg (by simp [tokF_size]; omega)]
    · exact Array.getElem?_eq_none (by simp [tokF_size]; omega)

/-- The first k numbers of a list, and noughts behind them. -/
def fOf (xs : List Int) (k : Nat) : Nat → Int := fun i => if i < k then xs.getD i 0 else 0

def packOf (xs : List Int) (k : Nat) : Array Value := tokF (fOf xs k)

theorem packOf_size (xs : List Int) (k : Nat) : (packOf xs k).size = 16 := tokF_size _

theorem packOf_at (xs : List Int) (k i : Nat) (h : i < 16) : (packOf xs k)[i]? = some (.int .u8 (if i < k then xs.getD i 0 else 0)) := tokF_at _ _ h

theorem packOf_zero (xs : List Int) : packOf xs 0 = #[.int .u8 0, .int .u8 0, .int .u8 0, .int .u8 0, .int .u8 0, .int .u8 0, .int .u8 0, .int .u8 0, .int .u8 0, .int .u8 0, .int .u8 0, .int .u8 0, .int .u8 0, .int .u8 0, .int .u8 0, .int .u8 0] := by
  rfl

theorem packOf_step (xs : List Int) (k : Nat) (x : Int) (hx : Hid (xs[k]? = some x)) : (packOf xs k).setIfInBounds k (.int .u8 x) = packOf xs (k + 1) := by
  refine tokF_set _ _ k x ?_ fun i hi => ?_
  · simp [fOf, hx.out]
  · unfold fOf
    by_cases h : i < k
    · rw [if_pos h, if_pos (by omega)]
    · rw [if_neg h, if_neg (by omega)]

def allB (xs : List Int) (lo hi : Int) : Bool := xs.all fun x => inB x lo hi
def goodB (p : Int) (xs : List Int) : Bool := inB p 1 16 && decide ((xs.length : Int) = p) && allB xs 0 50

theorem allB_take_succ (xs : List Int) (k : Nat) (x : Int) (h : Hid (xs[k]? = some x)) (hu : allB (xs.take k) 0 50 = true) (h0 : ¬ x < 0) (h50 : ¬ 50 < x) : allB (xs.take (k + 1)) 0 50 = true := by
  unfold allB at *
  rw [List.take_add_one, h.out, List.all_append, hu]
  simp [inB]; omega

theorem allB_not (xs : List Int) (k : Nat) (x : Int) (h : Hid (xs[k]? = some x)) (hx : x < 0 ∨ 50 < x) : allB xs 0 50 = false := by
  unfold allB
  rw [List.all_eq_false]
  exact ⟨x, List.mem_of_getElem? h.out, by simp [inB]; omega⟩

/-- How a call of tokensOf ends. -/
def TokEnd (g : Bool) (xs : List Int) (n : Nat) (w : World) (e : Ending) (w' : World) : Prop :=
  ∃ m, e = .returned (.tuple #[.agg (packOf xs m), .bool g]) ∧ Hid (g = true → m = n) ∧ Below w.heap.size w w'

theorem tokEnd_yes {g : Bool} {xs : List Int} {n : Nat} {w w' : World} (h : g = true) (hb : Below w.heap.size w w') : TokEnd g xs n w (.returned (.tuple #[.agg (packOf xs n), .bool true])) w' := by
  subst h; exact ⟨n, rfl, fun _ => rfl, hb⟩

theorem tokEnd_no {g : Bool} {xs : List Int} {n : Nat} {w w' : World} (h : g = false) (hb : Below w.heap.size w w') : TokEnd g xs n w (.returned (.tuple #[.agg #[.int .u8 0, .int .u8 0, .int .u8 0, .int .u8 0, .int .u8 0, .int .u8 0, .int .u8 0, .int .u8 0, .int .u8 0, .int .u8 0, .int .u8 0, .int .u8 0, .int .u8 0, .int .u8 0, .int .u8 0, .int .u8 0], .bool false])) w' := by
  subst h; exact ⟨0, by rw [packOf_zero], fun h => by simp at h, hb⟩

theorem below_two (w : World) (A B : Obj) : Below w.heap.size w ((w.alloc A).alloc B) :=
  ((Below.refl _ _).alloc (Nat.le_refl _) _).alloc (by simp) _

theorem below_setRow {B : Nat} {a w : World} (h : Below B a w) (g : Nat) (hg : B ≤ g) (cs : Array Value) : Below B a (w.setRow g cs) := by
  refine h.trans ⟨rfl, rfl, rfl, by simp, fun k hk => ?_⟩
  simp only [World.setRow, Array.getElem?_modify]
  rw [if_neg (by omega)]

theorem packOf_one (xs : List Int) (k : Nat) : (packOf xs k).all (·.oneCell') = true := tokF_one _

theorem Try.size82 : (Try.prog.info? 82).map (·.size) = some 16 := by kernel_rfl

theorem setRow_at (w : World) (A : Array Value) (B : Obj) (t : TypeId) (cs : Array Value) : (((w.alloc (.cells A t)).alloc B).setRow w.heap.size cs).heap[w.heap.size]? = some (.cells cs t (0, 0)) := by
  simp only [World.setRow, Array.getElem?_modify]
  rw [if_pos trivial, heap_alloc2_old]
  rfl

set_option maxRecDepth 10000 in
set_option maxHeartbeats 1000000 in
theorem tokens_run (g : Bool) (p : Int) (a : Option Addr) (n ca : Nat) (xs : List Int) (w : World) (ha : Row w a n xs) (hp : inB p 1 16 = true) (hnp : Hid ((n : Int) = p)) (h16 : n ≤ 16) (hg : Hid (g = allB xs 0 50)) :
    Calls Try.prog 55 #[.int .i64 p, .slice a n ca] w fun e w' => TokEnd g xs n w e w' := by
  have hd : ((n : Int) != p) = false := by simp [hnp.out]
  go_enter Try.func55, Try.ntmps55
  go_wp2_with (go_at_call 54; refine (goodPlaces_any _ _).mono ?_; rintro e w' ⟨rfl, rfl⟩)
  clear hp hd
  go_loopw [21] (fun i wr => ∃ k : Nat, k ≤ n ∧ i = .int .i64 k ∧ Hid (allB (xs.take k) 0 50 = true) ∧ wr = (w.alloc (.cells #[.int .u8 0, .int .u8 0, .int .u8 0, .int .u8 0, .int .u8 0, .int .u8 0, .int .u8 0, .int .u8 0, .int .u8 0, .int .u8 0, .int .u8 0, .int .u8 0, .int .u8 0, .int .u8 0, .int .u8 0, .int .u8 0] 82)).alloc (.cells (packOf xs k) 82)) (fun i _ => n - (intOf i).toNat)
  case atStart => exact ⟨0, Nat.zero_le _, rfl, rfl, by rw [packOf_zero]⟩
  case round =>
    obtain ⟨k, hk, rfl, hu, rfl⟩ := hrel
    by_cases hlt : k < n
    · obtain ⟨b1, o1, x, rfl, hl1, hc1, H1⟩ := ha.at hlt
      clear ha
      by_cases h0 : x < 0
      · have HG : Hid (g = false) := by rw [hg.out]; exact allB_not xs k x H1 (.inl h0)
        go_wp2
        exact bodyPost_ret (v := .tuple #[.agg #[.int .u8 0, .int .u8 0, .int .u8 0, .int .u8 0, .int .u8 0, .int .u8 0, .int .u8 0, .int .u8 0, .int .u8 0, .int .u8 0, .int .u8 0, .int .u8 0, .int .u8 0, .int .u8 0, .int .u8 0, .int .u8 0], .bool false]) (by simp [results, Try.results55, go_sem]) rfl (tokEnd_no HG.out (below_two _ _ _))
      · by_cases h50 : 50 < x
        · have HG : Hid (g = false) := by rw [hg.out]; exact allB_not xs k x H1 (.inr h50)
          go_wp2
          exact bodyPost_ret (v := .tuple #[.agg #[.int .u8 0, .int .u8 0, .int .u8 0, .int .u8 0, .int .u8 0, .int .u8 0, .int .u8 0, .int .u8 0, .int .u8 0, .int .u8 0, .int .u8 0, .int .u8 0, .int .u8 0, .int .u8 0, .int .u8 0, .int .u8 0], .bool false]) (by simp [results, Try.results55, go_sem]) rfl (tokEnd_no HG.out (below_two _ _ _))
        · have HU : Hid (allB (xs.take (k + 1)) 0 50 = true) := allB_take_succ xs k x H1 hu.out h0 h50
          have hst := packOf_step xs k x H1
          have hat := packOf_at xs k k (by omega)
          rw [if_neg (by omega)] at hat
          clear H1 hu
          go_wp2
          go_roundw
          case rel => exact ⟨k + 1, by omega, by go_num, HU, rfl⟩
          case measure => simp [intOf]; omega
    · have hk' : k = n := by omega
      subst hk'
      have HG : Hid (g = true) := by
        show g = true
        rw [hg.out, ← hu.out, List.take_of_length_le (by have := ha.1; omega)]
      have hg1 := heap_alloc2_new w (.cells #[.int .u8 0, .int .u8 0, .int .u8 0, .int .u8 0, .int .u8 0, .int .u8 0, .int .u8 0, .int .u8 0, .int .u8 0, .int .u8 0, .int .u8 0, .int .u8 0, .int .u8 0, .int .u8 0, .int .u8 0, .int .u8 0] 82) (.cells (packOf xs k) 82)
      have hg0 := heap_alloc2_old w (.cells #[.int .u8 0, .int .u8 0, .int .u8 0, .int .u8 0, .int .u8 0, .int .u8 0, .int .u8 0, .int .u8 0, .int .u8 0, .int .u8 0, .int .u8 0, .int .u8 0, .int .u8 0, .int .u8 0, .int .u8 0, .int .u8 0] 82) (.cells (packOf xs k) 82)
      clear ha hg hnp hu
      go_wp2_with (first
        | refine wpList_load_row rfl 82 _ rfl (w.heap.size + 1) rfl 82 (packOf xs k) (0, 0) _ hg1 Try.underlying82 rfl (by rw [packOf_size]; exact Try.size82) ?_
        | refine wpList_store_row rfl 82 _ _ rfl w.heap.size (packOf xs k) rfl rfl 82 _ hg0 (by rw [packOf_size]; exact Try.size82) (by rw [packOf_size]; rfl) (packOf_one xs k) ?_)
      refine bodyPost_ret (v := .tuple #[.agg (packOf xs k), .bool true]) ?_ rfl (tokEnd_yes HG.out (below_setRow (below_two _ _ _) _ (Nat.le_refl _) _))
      refine (results_cell_tmp Try.results55 _ _ _).trans ?_
      show ((loadVar 82 ⟨w.heap.size, 0, none⟩).run Try.prog _).andThen _ = _
      rw [run_loadVar_row _ _ 82 82 (packOf xs k) (0, 0) _ (setRow_at _ _ _ _ _) Try.underlying82 rfl (by rw [packOf_size]; exact Try.size82)]
      rfl
end Go.Proofs.Ytegabkegbhglfaa


/- What tokensOf and both GoodMarks answer, for every number of places and every list: true just where the places are in 1..16, the list is as long, and each of its numbers is in 0..50; nothing that was there is written. -/
namespace Go.Proofs.Ytegabkegbhglfaa
open Go.RowKit

theorem goodB_of {p : Int} {n : Nat} {xs : List Int} (hl : xs.length = n) (hp : inB p 1 16 = true) (hn : (n : Int) = p) : goodB p xs = allB xs 0 50 := by
  simp [goodB, hp, hl, hn]

theorem goodB_p {p : Int} {xs : List Int} (hp : inB p 1 16 = false) : goodB p xs = false := by simp [goodB, hp]

theorem goodB_n {p : Int} {n : Nat} {xs : List Int} (hl : xs.length = n) (hn : ¬ (n : Int) = p) : goodB p xs = false := by
  simp [goodB, hl, hn]

theorem inB_le {p : Int} {n : Nat} (hp : inB p 1 16 = true) (hn : (n : Int) = p) : 1 ≤ n ∧ n ≤ 16 := by
  simp [inB] at hp; omega

set_option maxHeartbeats 400000 in
theorem tokens_any (p : Int) (a : Option Addr) (n ca : Nat) (xs : List Int) (w : World) (ha : Row w a n xs) (_hn : n ≤ 1048576) :
    Calls Try.prog 55 #[.int .i64 p, .slice a n ca] w fun e w' => TokEnd (goodB p xs) xs n w e w' := by
  by_cases hp : inB p 1 16 = true
  · by_cases hnp : (n : Int) = p
    · exact tokens_run _ p a n ca xs w ha hp hnp (inB_le hp hnp).2 (goodB_of ha.1 hp hnp)
    · have hd : ((n : Int) != p) = true := by simp [hnp]
      have HG : Hid (goodB p xs = false) := goodB_n ha.1 hnp
      clear hnp ha
      go_enter Try.func55, Try.ntmps55
      go_wp2_with (go_at_call 54; refine (goodPlaces_any _ _).mono ?_; rintro e w' ⟨rfl, rfl⟩)
      exact bodyPost_ret (v := .tuple #[.agg #[.int .u8 0, .int .u8 0, .int .u8 0, .int .u8 0, .int .u8 0, .int .u8 0, .int .u8 0, .int .u8 0, .int .u8 0, .int .u8 0, .int .u8 0, .int .u8 0, .int .u8 0, .int .u8 0, .int .u8 0, .int .u8 0], .bool false]) (by simp [results, Try.results55, go_sem]) rfl (tokEnd_no HG.out (below_two _ _ _))
  · have hp' : inB p 1 16 = false := by simpa using hp
    have HG : Hid (goodB p xs = false) := goodB_p hp'
    clear hp ha
    go_enter Try.func55, Try.ntmps55
    go_wp2_with (go_at_call 54; refine (goodPlaces_any _ _).mono ?_; rintro e w' ⟨rfl, rfl⟩)
    exact bodyPost_ret (v := .tuple #[.agg #[.int .u8 0, .int .u8 0, .int .u8 0, .int .u8 0, .int .u8 0, .int .u8 0, .int .u8 0, .int .u8 0, .int .u8 0, .int .u8 0, .int .u8 0, .int .u8 0, .int .u8 0, .int .u8 0, .int .u8 0, .int .u8 0], .bool false]) (by simp [results, Try.results55, go_sem]) rfl (tokEnd_no HG.out (below_two _ _ _))

/-- A call that answers a bool and writes into nothing that was there. -/
def BoolEnd (b : Bool) (w : World) (e : Ending) (w' : World) : Prop := e = .returned (.bool b) ∧ Below w.heap.size w w'


def AllUpto (xs : List Int) (lo hi : Int) (k : Nat) : Prop := allB (xs.take k) lo hi = true

theorem AllUpto.step {xs : List Int} {lo hi : Int} {k : Nat} {x : Int} (h : AllUpto xs lo hi k) (hx : Hid (xs[k]? = some x)) (hi' : inB x lo hi = true) : AllUpto xs lo hi (k + 1) := by
  unfold AllUpto allB at *
  rw [List.take_add_one, hx.out, List.all_append, h]
  simp [hi']

theorem AllUpto.done {xs : List Int} {lo hi : Int} {n : Nat} (h : AllUpto xs lo hi n) (hl : xs.length = n) : allB xs lo hi = true := by
  unfold AllUpto at h
  rwa [List.take_of_length_le (by omega)] at h

theorem allB_no {xs : List Int} {lo hi : Int} {k : Nat} {x : Int} (hx : Hid (xs[k]? = some x)) (hi' : inB x lo hi = false) : allB xs lo hi = false := by
  unfold allB
  rw [List.all_eq_false]
  exact ⟨x, List.mem_of_getElem? hx.out, by simp [hi']⟩

set_option maxHeartbeats 400000 in
theorem allG_any (a : Option Addr) (n ca : Nat) (xs : List Int) (lo hi : Int) (w : World) (ha : Row w a n xs) (hn : n ≤ 1048576) :
    Calls Try.prog 104 #[.slice a n ca, .int .i64 lo, .int .i64 hi] w fun e w' => e = .returned (.bool (allB xs lo hi)) ∧ w' = w := by
  go_enter Try.func104, Try.ntmps104
  go_wp2
  go_loop [11] (fun i => ∃ k : Nat, k ≤ n ∧ i = .int .i64 k ∧ AllUpto xs lo hi k) (fun i => n - (intOf i).toNat)
  case atStart => exact ⟨0, Nat.zero_le _, rfl, rfl⟩
  case round =>
    obtain ⟨k, hk, rfl, hu⟩ := hrel
    by_cases hlt : k < n
    · obtain ⟨b1, o1, x, rfl, hl1, hc1, H1⟩ := ha.at hlt
      clear ha
      by_cases hi' : inB x lo hi = true
      · have HU := hu.step H1 hi'
        clear hu H1
        go_wp2_with (go_at_call 92; refine (in_any _ _ _ _).mono ?_; rintro e w' ⟨rfl, rfl⟩)
        go_round
        case rel => exact ⟨k + 1, by omega, by go_num, HU⟩
        case measure => simp [intOf]; omega
      · have hi'' : inB x lo hi = false := by simpa using hi'
        have HA := hide (allB_no H1 hi'')
        clear hu H1 hi'
        go_wp2_with (go_at_call 92; refine (in_any _ _ _ _).mono ?_; rintro e w' ⟨rfl, rfl⟩)
        go_ret
        exact ⟨ret_bool HA.out.symm, rfl⟩
    · have hk' : k = n := by omega
      subst hk'
      have HA := hide (hu.done ha.1)
      go_wp2
      go_ret
      exact ⟨ret_bool HA.out.symm, rfl⟩

set_option maxHeartbeats 400000 in
theorem goodS_any (p : Int) (a : Option Addr) (n ca : Nat) (xs : List Int) (w : World) (ha : Row w a n xs) (hn : n ≤ 1048576) :
    Calls Try.prog 49 #[.int .i64 p, .slice a n ca] w fun e w' => e = .returned (.bool (goodB p xs)) ∧ w' = w := by
  by_cases hp : inB p 1 16 = true
  · by_cases hnp : (n : Int) = p
    · have hd : ((n : Int) == p) = true := by simp [hnp]
      have HG := hide (goodB_of ha.1 hp hnp)
      have HA := hide (allG_any a n ca xs 0 50 w ha hn)
      clear hnp ha
      go_enter Try.func49, Try.ntmps49
      go_wp2_with (first
        | (go_at_call 58; refine (places_any _ _).mono ?_; rintro e w' ⟨rfl, rfl⟩)
        | (go_at_call 104; refine HA.out.mono ?_; rintro e w' ⟨rfl, rfl⟩))
      go_ret
      exact ⟨ret_bool HG.out.symm, rfl⟩
    · have hd : ((n : Int) == p) = false := by simp [hnp]
      have HG := hide (goodB_n ha.1 hnp)
      clear hnp ha
      go_enter Try.func49, Try.ntmps49
      go_wp2_with (go_at_call 58; refine (places_any _ _).mono ?_; rintro e w' ⟨rfl, rfl⟩)
      go_ret
      exact ⟨ret_bool HG.out.symm, rfl⟩
  · have hp' : inB p 1 16 = false := by simpa using hp
    have HG := hide (goodB_p (xs := xs) hp')
    clear hp ha
    go_enter Try.func49, Try.ntmps49
    go_wp2_with (go_at_call 58; refine (places_any _ _).mono ?_; rintro e w' ⟨rfl, rfl⟩)
    go_ret
    exact ⟨ret_bool HG.out.symm, rfl⟩
end Go.Proofs.Ytegabkegbhglfaa


/- What bothTokensOf answers, for every number of places and every two lists: both arrays and true where both are good marks, else false; nothing that was there is written. -/
namespace Go.Proofs.Ytegabkegbhglfaa
open Go.RowKit

def tokL (f : Nat → Int) : List Value := (tokF f).toList

theorem tokL_len (f : Nat → Int) : (tokL f).length = 16 := by simp [tokL, tokF_size]
theorem tokL_arr (f : Nat → Int) : (tokL f).toArray = tokF f := by simp [tokL]
theorem tokL_one (f : Nat → Int) : ∀ v ∈ tokL f, v.oneCell' = true := by
  intro v hv
  exact Array.all_eq_true_iff_forall_mem.1 (tokF_one f) v (by simpa [tokL] using hv)

theorem range_of_block {w : World} {b : Nat} {f : Nat → Int} {t : TypeId} {fr : Nat × Nat} (hb : w.heap[b]? = some (.cells (tokF f) t fr)) : w.rangeAt b 0 (tokL f) := by
  intro j v hv
  rw [cell_of_row w b (0 + j) _ t fr hb, Nat.zero_add]
  simpa [tokL] using hv

theorem there_of_block {w : World} {b : Nat} {C : Array Value} {t : TypeId} (hb : w.heap[b]? = some (.cells C t (0, 0))) (hs : C.size = 16) : w.there b 0 16 := by
  intro j hj
  refine ⟨?_, frozen_of_row w b _ C t hb⟩
  rw [cell_of_row w b (0 + j) _ t (0, 0) hb, Nat.zero_add, Array.getElem?_eq_getElem (by omega)]
  rfl

theorem setRow_same {w : World} {b : Nat} {C : Array Value} {t : TypeId} (hb : w.heap[b]? = some (.cells C t (0, 0))) (D : Array Value) : (w.setRow b D).heap[b]? = some (.cells D t (0, 0)) := by
  simp only [World.setRow, Array.getElem?_modify]
  rw [if_pos trivial, hb]
  rfl

theorem setRow_other (w : World) (b k : Nat) (D : Array Value) (h : k ≠ b) : (w.setRow b D).heap[k]? = w.heap[k]? := by
  simp only [World.setRow, Array.getElem?_modify]
  rw [if_neg (by omega)]

theorem below_setCells {B : Nat} {a w : World} (h : Below B a w) (b o : Nat) (hb : B ≤ b) (vs : List Value) : Below B a (w.setCells b o vs) := by
  induction vs generalizing w o with
  | nil => exact h
  | cons v r ih => exact ih (h.setCell hb v) (o + 1)

theorem results_cells_tmp {fn : Func} {p q u : Tmp} {ty tz : TypeId} (h : fn.results = #[.cell p ty, .cell q tz, .tmp u]) (tmps : Array Value) (P : Program) (w : World) :
    (results fn tmps).run P w =
      ((asAddr (tmps.getD p undef)).run P w).andThen fun a w₁ => ((loadVar ty a).run P w₁).andThen fun v w₂ =>
        ((asAddr (tmps.getD q undef)).run P w₂).andThen fun b w₃ => ((loadVar tz b).run P w₃).andThen fun v' w₄ => .ok (.tuple #[v, v', tmps.getD u undef]) w₄ := by
  simp only [results, h]
  simp [Sem.run_bind, Result.andThen]

theorem cons_store {P : Program} {md : Region.Mode} {ops : Array Oper} {Q : Exit → Act → World → Prop} {fuel : Nat} {listed : Array Bool} {a : Act} {w : World} {i : Nat} {o : Oper} {rs : List Nat} (ho : ops[i]? = some o)
    (hgd : o.guard = none) (hd : o.dst = none) (ty : TypeId) (x y : Operand) (hop : o.op = .store ty x y)
    (g : Nat) (cells : Array Value) (hx : a.eval x = .pointer (some ⟨g, 0, none⟩)) (hy : a.eval y = .agg cells)
    (t : TypeId) (old : Array Value) (hg : w.heap[g]? = some (.cells old t (0, 0))) (hi : (P.info? ty).map (·.size) = some cells.size)
    (hold : old.size = cells.size) (h1 : cells.all (·.oneCell') = true)
    (h : wpAny P md ops Q fuel (listed.setIfInBounds i true) a (w.setRow g cells))
    (hs : AllReady P md ops Q fuel listed a w rs) : AllReady P md ops Q fuel listed a w (i :: rs) := by
  refine AllReady.cons ho (fun K hK => ?_) hs
  rw [if_pos (by simp [Region.wanted, hgd])]
  refine wp_store_row ty x y hop g cells hx hy t old hg hi hold h1 (hK _ _ ?_)
  rw [hd]
  exact h

theorem cons_load {P : Program} {md : Region.Mode} {ops : Array Oper} {Q : Exit → Act → World → Prop} {fuel : Nat} {listed : Array Bool} {a : Act} {w : World} {i : Nat} {o : Oper} {rs : List Nat} (ho : ops[i]? = some o)
    (hgd : o.guard = none) (d : Option Tmp) (hd : o.dst = d) (ty : TypeId) (x : Operand) (hop : o.op = .load ty x)
    (g : Nat) (cells : Array Value) (hx : a.eval x = .pointer (some ⟨g, 0, none⟩))
    (t : TypeId) (n : Nat) (e : TypeId) (hu : P.underlying ty = some (.array n e)) (hg : w.heap[g]? = some (.cells cells t (0, 0))) (hi : (P.info? ty).map (·.size) = some cells.size)
    (h : wpAny P md ops Q fuel (listed.setIfInBounds i true) (a.put d (.agg cells)) w)
    (hs : AllReady P md ops Q fuel listed a w rs) : AllReady P md ops Q fuel listed a w (i :: rs) := by
  refine AllReady.cons ho (fun K hK => ?_) hs
  rw [if_pos (by simp [Region.wanted, hgd])]
  refine wp_load_row ty x hop g hx t cells (0, 0) _ hg hu rfl hi (hK _ _ ?_)
  rw [hd]
  exact h

theorem cons_assign {P : Program} {md : Region.Mode} {ops : Array Oper} {Q : Exit → Act → World → Prop} {fuel : Nat} {listed : Array Bool} {a : Act} {w : World} {i : Nat} {o : Oper} {rs : List Nat} (ho : ops[i]? = some o)
    (hgd : o.guard = none) (d : Option Tmp) (hd : o.dst = d) (x : Operand) (hop : o.op = .assign x)
    (h : wpAny P md ops Q fuel (listed.setIfInBounds i true) (a.put d (a.eval x)) w)
    (hs : AllReady P md ops Q fuel listed a w rs) : AllReady P md ops Q fuel listed a w (i :: rs) := by
  refine AllReady.cons ho (fun K hK => ?_) hs
  rw [if_pos (by simp [Region.wanted, hgd])]
  unfold Oper.wp
  simp only [execOp, hop, Sem.run_pure]
  refine hK _ _ ?_
  rw [hd]
  exact h

set_option maxRecDepth 10000 in
theorem both_results {fn : Func} (hr : fn.results = #[.cell 6 82, .cell 7 82, .tmp 8]) (tmps : Array Value) (W : World) (b6 b7 : Nat) (f g : Nat → Int) (v : Value)
    (h6 : tmps.getD 6 undef = .pointer (some ⟨b6, 0, none⟩)) (h7 : tmps.getD 7 undef = .pointer (some ⟨b7, 0, none⟩)) (h8 : tmps.getD 8 undef = v)
    (q6 : W.heap[b6]? = some (.cells (tokF f) 82 (0, 0))) (q7 : W.heap[b7]? = some (.cells (tokF g) 82 (0, 0))) :
    (results fn tmps).run Try.prog W = .ok (.tuple #[.agg (tokF f), .agg (tokF g), v]) W := by
  refine (results_cells_tmp hr _ _ _).trans ?_
  rw [h6, h7, h8]
  show ((loadVar 82 ⟨b6, 0, none⟩).run Try.prog W).andThen _ = _
  rw [run_loadVar_row _ _ 82 82 (tokF f) (0, 0) _ q6 Try.underlying82 rfl (by rw [tokF_size]; exact Try.size82)]
  show ((loadVar 82 ⟨b7, 0, none⟩).run Try.prog W).andThen _ = _
  rw [run_loadVar_row _ _ 82 82 (tokF g) (0, 0) _ q7 Try.underlying82 rfl (by rw [tokF_size]; exact Try.size82)]
  rfl

theorem below_rows {B : Nat} {w V : World} (h : Below B w V) (b c : Nat) (hb : B ≤ b) (hc : B ≤ c) (C D : Array Value) : Below B w ((V.drew.setRow b C).setRow c D) :=
  below_setRow (below_setRow h.drew _ hb _) _ hc _

theorem lit_one : (#[.int .u8 0, .int .u8 0, .int .u8 0, .int .u8 0, .int .u8 0, .int .u8 0, .int .u8 0, .int .u8 0, .int .u8 0, .int .u8 0, .int .u8 0, .int .u8 0, .int .u8 0, .int .u8 0, .int .u8 0, .int .u8 0] : Array Value).all (·.oneCell') = true := by
  rw [← packOf_zero []]; exact packOf_one _ _

def BothEnd (g : Bool) (xs ys : List Int) (n m : Nat) (w : World) (e : Ending) (w' : World) : Prop :=
  ∃ k l, e = .returned (.tuple #[.agg (packOf xs k), .agg (packOf ys l), .bool g]) ∧ Hid (g = true → k = n ∧ l = m) ∧ Below w.heap.size w w'

set_option maxRecDepth 10000 in
set_option maxHeartbeats 1000000 in
theorem both_run (ga gb : Bool) (p : Int) (a b : Option Addr) (n m ca cb : Nat) (xs ys : List Int) (w : World) (ha : Row w a n xs) (hb : Row w b m ys) (hn : n ≤ 1048576) (hm : m ≤ 1048576)
    (hga : Hid (goodB p xs = ga)) (hgb : Hid (goodB p ys = gb)) :
    Calls Try.prog 60 #[.int .i64 p, .slice a n ca, .slice b m cb] w fun e w' => BothEnd (ga && gb) xs ys n m w e w' := by
  have HA := hide ha
  have HB := hide hb
  clear ha hb
  go_enter Try.func60, Try.ntmps60
  go_wp2_with fail
  refine (tokens_any p a n ca xs _ ((HA.out.alloc _).alloc _) hn).mono ?_
  rintro e w1 ⟨k, rfl, hk, hb1⟩
  rw [hga.out]
  rw [hga.out] at hk
  have hz1 : w.heap.size + 2 ≤ w1.heap.size := by have := hb1.size; simp at this; omega
  have q6 : w1.heap[w.heap.size]? = some (.cells #[.int .u8 0, .int .u8 0, .int .u8 0, .int .u8 0, .int .u8 0, .int .u8 0, .int .u8 0, .int .u8 0, .int .u8 0, .int .u8 0, .int .u8 0, .int .u8 0, .int .u8 0, .int .u8 0, .int .u8 0, .int .u8 0] 82 (0, 0)) := (hb1.block _ (by simp; omega)).trans (heap_alloc2_old _ _ _)
  have q7 : w1.heap[w.heap.size + 1]? = some (.cells #[.int .u8 0, .int .u8 0, .int .u8 0, .int .u8 0, .int .u8 0, .int .u8 0, .int .u8 0, .int .u8 0, .int .u8 0, .int .u8 0, .int .u8 0, .int .u8 0, .int .u8 0, .int .u8 0, .int .u8 0, .int .u8 0] 82 (0, 0)) := (hb1.block _ (by simp)).trans (heap_alloc2_new _ _ _)
  have hbw1 : Below w.heap.size w w1 := (below_two w _ _).trans (hb1.mono (by simp; omega))
  clear hb1
  have hg0 := heap_alloc_new w1 (.cells #[.int .u8 0, .int .u8 0, .int .u8 0, .int .u8 0, .int .u8 0, .int .u8 0, .int .u8 0, .int .u8 0, .int .u8 0, .int .u8 0, .int .u8 0, .int .u8 0, .int .u8 0, .int .u8 0, .int .u8 0, .int .u8 0] 82)
  go_wp2_with (first
    | refine wpList_store_row rfl 82 _ _ rfl _ _ rfl rfl 82 _ hg0 (by rw [packOf_size]; exact Try.size82) (by rw [packOf_size]; rfl) (packOf_one _ _) ?_)
  have h9 := setRow_same hg0 (packOf xs k)
  have q6' : ((w1.alloc (.cells #[.int .u8 0, .int .u8 0, .int .u8 0, .int .u8 0, .int .u8 0, .int .u8 0, .int .u8 0, .int .u8 0, .int .u8 0, .int .u8 0, .int .u8 0, .int .u8 0, .int .u8 0, .int .u8 0, .int .u8 0, .int .u8 0] 82)).setRow w1.heap.size (packOf xs k)).heap[w.heap.size]? = some (.cells #[.int .u8 0, .int .u8 0, .int .u8 0, .int .u8 0, .int .u8 0, .int .u8 0, .int .u8 0, .int .u8 0, .int .u8 0, .int .u8 0, .int .u8 0, .int .u8 0, .int .u8 0, .int .u8 0, .int .u8 0, .int .u8 0] 82 (0, 0)) := by
    rw [setRow_other _ _ _ _ (by omega), Below.heap_alloc _ _ _ (by omega)]; exact q6
  have q7' : ((w1.alloc (.cells #[.int .u8 0, .int .u8 0, .int .u8 0, .int .u8 0, .int .u8 0, .int .u8 0, .int .u8 0, .int .u8 0, .int .u8 0, .int .u8 0, .int .u8 0, .int .u8 0, .int .u8 0, .int .u8 0, .int .u8 0, .int .u8 0] 82)).setRow w1.heap.size (packOf xs k)).heap[w.heap.size + 1]? = some (.cells #[.int .u8 0, .int .u8 0, .int .u8 0, .int .u8 0, .int .u8 0, .int .u8 0, .int .u8 0, .int .u8 0, .int .u8 0, .int .u8 0, .int .u8 0, .int .u8 0, .int .u8 0, .int .u8 0, .int .u8 0, .int .u8 0] 82 (0, 0)) := by
    rw [setRow_other _ _ _ _ (by omega), Below.heap_alloc _ _ _ (by omega)]; exact q7
  have hbW := below_setRow (hbw1.alloc hbw1.size (.cells #[.int .u8 0, .int .u8 0, .int .u8 0, .int .u8 0, .int .u8 0, .int .u8 0, .int .u8 0, .int .u8 0, .int .u8 0, .int .u8 0, .int .u8 0, .int .u8 0, .int .u8 0, .int .u8 0, .int .u8 0, .int .u8 0] 82)) w1.heap.size (by omega) (packOf xs k)
  have hzW : ((w1.alloc (.cells #[.int .u8 0, .int .u8 0, .int .u8 0, .int .u8 0, .int .u8 0, .int .u8 0, .int .u8 0, .int .u8 0, .int .u8 0, .int .u8 0, .int .u8 0, .int .u8 0, .int .u8 0, .int .u8 0, .int .u8 0, .int .u8 0] 82)).setRow w1.heap.size (packOf xs k)).heap.size = w1.heap.size + 1 := by simp
  clear q6 q7 hbw1 hg0
  generalize ((w1.alloc (.cells #[.int .u8 0, .int .u8 0, .int .u8 0, .int .u8 0, .int .u8 0, .int .u8 0, .int .u8 0, .int .u8 0, .int .u8 0, .int .u8 0, .int .u8 0, .int .u8 0, .int .u8 0, .int .u8 0, .int .u8 0, .int .u8 0] 82)).setRow w1.heap.size (packOf xs k)) = W at *
  generalize w1.heap.size = B9 at *
  clear w1
  refine (tokens_any p b m cb ys _ (HB.out.below hbW) hm).mono ?_
  rintro e w2 ⟨l, rfl, hl, hb2⟩
  rw [hgb.out]
  rw [hgb.out] at hl
  have hz2 : B9 + 1 ≤ w2.heap.size := by have := hb2.size; omega
  have p6 : w2.heap[w.heap.size]? = some (.cells #[.int .u8 0, .int .u8 0, .int .u8 0, .int .u8 0, .int .u8 0, .int .u8 0, .int .u8 0, .int .u8 0, .int .u8 0, .int .u8 0, .int .u8 0, .int .u8 0, .int .u8 0, .int .u8 0, .int .u8 0, .int .u8 0] 82 (0, 0)) := (hb2.block _ (by omega)).trans q6'
  have p7 : w2.heap[w.heap.size + 1]? = some (.cells #[.int .u8 0, .int .u8 0, .int .u8 0, .int .u8 0, .int .u8 0, .int .u8 0, .int .u8 0, .int .u8 0, .int .u8 0, .int .u8 0, .int .u8 0, .int .u8 0, .int .u8 0, .int .u8 0, .int .u8 0, .int .u8 0] 82 (0, 0)) := (hb2.block _ (by omega)).trans q7'
  have p9 : w2.heap[B9]? = some (.cells (packOf xs k) 82 (0, 0)) := (hb2.block _ (by omega)).trans h9
  have hbw2 : Below w.heap.size w w2 := hbW.trans (hb2.mono (by omega))
  clear hb2 h9 q6' q7' hbW hzW W
  have hg0 := heap_alloc_new w2 (.cells #[.int .u8 0, .int .u8 0, .int .u8 0, .int .u8 0, .int .u8 0, .int .u8 0, .int .u8 0, .int .u8 0, .int .u8 0, .int .u8 0, .int .u8 0, .int .u8 0, .int .u8 0, .int .u8 0, .int .u8 0, .int .u8 0] 82)
  have h11 := setRow_same hg0 (packOf ys l)
  have r6 : ((w2.alloc (.cells #[.int .u8 0, .int .u8 0, .int .u8 0, .int .u8 0, .int .u8 0, .int .u8 0, .int .u8 0, .int .u8 0, .int .u8 0, .int .u8 0, .int .u8 0, .int .u8 0, .int .u8 0, .int .u8 0, .int .u8 0, .int .u8 0] 82)).setRow w2.heap.size (packOf ys l)).heap[w.heap.size]? = some (.cells #[.int .u8 0, .int .u8 0, .int .u8 0, .int .u8 0, .int .u8 0, .int .u8 0, .int .u8 0, .int .u8 0, .int .u8 0, .int .u8 0, .int .u8 0, .int .u8 0, .int .u8 0, .int .u8 0, .int .u8 0, .int .u8 0] 82 (0, 0)) := by
    rw [setRow_other _ _ _ _ (by omega), Below.heap_alloc _ _ _ (by omega)]; exact p6
  have r7 : ((w2.alloc (.cells #[.int .u8 0, .int .u8 0, .int .u8 0, .int .u8 0, .int .u8 0, .int .u8 0, .int .u8 0, .int .u8 0, .int .u8 0, .int .u8 0, .int .u8 0, .int .u8 0, .int .u8 0, .int .u8 0, .int .u8 0, .int .u8 0] 82)).setRow w2.heap.size (packOf ys l)).heap[w.heap.size + 1]? = some (.cells #[.int .u8 0, .int .u8 0, .int .u8 0, .int .u8 0, .int .u8 0, .int .u8 0, .int .u8 0, .int .u8 0, .int .u8 0, .int .u8 0, .int .u8 0, .int .u8 0, .int .u8 0, .int .u8 0, .int .u8 0, .int .u8 0] 82 (0, 0)) := by
    rw [setRow_other _ _ _ _ (by omega), Below.heap_alloc _ _ _ (by omega)]; exact p7
  have r9 : ((w2.alloc (.cells #[.int .u8 0, .int .u8 0, .int .u8 0, .int .u8 0, .int .u8 0, .int .u8 0, .int .u8 0, .int .u8 0, .int .u8 0, .int .u8 0, .int .u8 0, .int .u8 0, .int .u8 0, .int .u8 0, .int .u8 0, .int .u8 0] 82)).setRow w2.heap.size (packOf ys l)).heap[B9]? = some (.cells (packOf xs k) 82 (0, 0)) := by
    rw [setRow_other _ _ _ _ (by omega), Below.heap_alloc _ _ _ (by omega)]; exact p9
  have hbV := below_setRow (hbw2.alloc hbw2.size (.cells #[.int .u8 0, .int .u8 0, .int .u8 0, .int .u8 0, .int .u8 0, .int .u8 0, .int .u8 0, .int .u8 0, .int .u8 0, .int .u8 0, .int .u8 0, .int .u8 0, .int .u8 0, .int .u8 0, .int .u8 0, .int .u8 0] 82)) w2.heap.size (by omega) (packOf ys l)
  clear p6 p7 p9 hbw2
  have HK := hk
  have HL := hl
  by_cases hg : (ga && gb) = true
  · obtain ⟨rfl, rfl⟩ : ga = true ∧ gb = true := by simpa using hg
    clear hg
    go_wp2_with (refine wpList_store_row rfl 82 _ _ rfl _ _ rfl rfl 82 _ hg0 (by rw [packOf_size]; exact Try.size82) (by rw [packOf_size]; rfl) (packOf_one _ _) ?_)
    clear hg0
    generalize ((w2.alloc (.cells #[.int .u8 0, .int .u8 0, .int .u8 0, .int .u8 0, .int .u8 0, .int .u8 0, .int .u8 0, .int .u8 0, .int .u8 0, .int .u8 0, .int .u8 0, .int .u8 0, .int .u8 0, .int .u8 0, .int .u8 0, .int .u8 0] 82)).setRow w2.heap.size (packOf ys l)) = V at *
    generalize w2.heap.size = B11 at *
    clear w2
    have r7s : (V.setRow w.heap.size (packOf xs k)).heap[w.heap.size + 1]? = some (.cells #[.int .u8 0, .int .u8 0, .int .u8 0, .int .u8 0, .int .u8 0, .int .u8 0, .int .u8 0, .int .u8 0, .int .u8 0, .int .u8 0, .int .u8 0, .int .u8 0, .int .u8 0, .int .u8 0, .int .u8 0, .int .u8 0] 82 (0, 0)) := by
      rw [setRow_other _ _ _ _ (by omega)]; exact r7
    have r9s : (V.setRow w.heap.size (packOf xs k)).heap[B9]? = some (.cells (packOf xs k) 82 (0, 0)) := by
      rw [setRow_other _ _ _ _ (by omega)]; exact r9
    have r11s : (V.setRow w.heap.size (packOf xs k)).heap[B11]? = some (.cells (packOf ys l) 82 (0, 0)) := by
      rw [setRow_other _ _ _ _ (by omega)]; exact h11
    have HV := hide hbV
    clear hbV hk hl
    refine wp_region_any (by kernel_rfl) ?_
    refine wpAny_ready (rs := [0, 1]) (by kernel_rfl) (by simp) ?_
    refine cons_load rfl rfl (some 33) rfl 82 (.tmp 9) rfl B9 (packOf xs k) rfl 82 _ _ Try.underlying82 r9 (by rw [packOf_size]; exact Try.size82) ?_ (cons_load rfl rfl (some 34) rfl 82 (.tmp 11) rfl B11 (packOf ys l) rfl 82 _ _ Try.underlying82 h11 (by rw [packOf_size]; exact Try.size82) ?_ AllReady.nil)
    · refine wpAny_ready (rs := [1, 2]) (by kernel_rfl) (by simp) ?_
      refine cons_load rfl rfl (some 34) rfl 82 (.tmp 11) rfl B11 (packOf ys l) rfl 82 _ _ Try.underlying82 h11 (by rw [packOf_size]; exact Try.size82) ?_ (cons_store rfl rfl rfl 82 (.tmp 6) (.tmp 33) rfl w.heap.size (packOf xs k) rfl rfl 82 _ r6 (by rw [packOf_size]; exact Try.size82) (by rw [packOf_size]; rfl) (packOf_one _ _) ?_ AllReady.nil)
      · refine wpAny_ready (rs := [2]) (by kernel_rfl) (by simp) ?_
        refine cons_store rfl rfl rfl 82 (.tmp 6) (.tmp 33) rfl w.heap.size (packOf xs k) rfl rfl 82 _ r6 (by rw [packOf_size]; exact Try.size82) (by rw [packOf_size]; rfl) (packOf_one _ _) ?_ AllReady.nil
        refine wpAny_ready (rs := [3]) (by kernel_rfl) (by simp) ?_
        refine cons_store rfl rfl rfl 82 (.tmp 7) (.tmp 34) rfl (w.heap.size + 1) (packOf ys l) rfl rfl 82 _ r7s (by rw [packOf_size]; exact Try.size82) (by rw [packOf_size]; rfl) (packOf_one _ _) ?_ AllReady.nil
        refine wpAny_ready (rs := [4]) (by kernel_rfl) (by simp) ?_
        refine cons_assign rfl rfl (some 8) rfl (.const (.bool true)) rfl ?_ AllReady.nil
        refine wpAny_done (by kernel_rfl) ?_ _
        go_wp2
        refine bodyPost_ret (v := .tuple #[.agg (packOf xs k), .agg (packOf ys l), .bool true]) ?_ rfl ⟨k, l, rfl, fun _ => ⟨HK.out trivial, HL.out trivial⟩, below_rows HV.out _ _ (Nat.le_refl _) (Nat.le_succ _) _ _⟩
        exact both_results Try.results60 _ _ w.heap.size (w.heap.size + 1) (fOf xs k) (fOf ys l) _ rfl rfl rfl ((setRow_other _ _ _ _ (by omega)).trans (setRow_same (w := V.drew) r6 _)) (setRow_same r7s _)
      · refine wpAny_ready (rs := [1]) (by kernel_rfl) (by simp) ?_
        refine cons_load rfl rfl (some 34) rfl 82 (.tmp 11) rfl B11 (packOf ys l) rfl 82 _ _ Try.underlying82 r11s (by rw [packOf_size]; exact Try.size82) ?_ AllReady.nil
        refine wpAny_ready (rs := [3]) (by kernel_rfl) (by simp) ?_
        refine cons_store rfl rfl rfl 82 (.tmp 7) (.tmp 34) rfl (w.heap.size + 1) (packOf ys l) rfl rfl 82 _ r7s (by rw [packOf_size]; exact Try.size82) (by rw [packOf_size]; rfl) (packOf_one _ _) ?_ AllReady.nil
        refine wpAny_ready (rs := [4]) (by kernel_rfl) (by simp) ?_
        refine cons_assign rfl rfl (some 8) rfl (.const (.bool true)) rfl ?_ AllReady.nil
        refine wpAny_done (by kernel_rfl) ?_ _
        go_wp2
        refine bodyPost_ret (v := .tuple #[.agg (packOf xs k), .agg (packOf ys l), .bool true]) ?_ rfl ⟨k, l, rfl, fun _ => ⟨HK.out trivial, HL.out trivial⟩, below_rows HV.out _ _ (Nat.le_refl _) (Nat.le_succ _) _ _⟩
        exact both_results Try.results60 _ _ w.heap.size (w.heap.size + 1) (fOf xs k) (fOf ys l) _ rfl rfl rfl ((setRow_other _ _ _ _ (by omega)).trans (setRow_same (w := V.drew) r6 _)) (setRow_same r7s _)
    · refine wpAny_ready (rs := [0]) (by kernel_rfl) (by simp) ?_
      refine cons_load rfl rfl (some 33) rfl 82 (.tmp 9) rfl B9 (packOf xs k) rfl 82 _ _ Try.underlying82 r9 (by rw [packOf_size]; exact Try.size82) ?_ AllReady.nil
      refine wpAny_ready (rs := [2]) (by kernel_rfl) (by simp) ?_
      refine cons_store rfl rfl rfl 82 (.tmp 6) (.tmp 33) rfl w.heap.size (packOf xs k) rfl rfl 82 _ r6 (by rw [packOf_size]; exact Try.size82) (by rw [packOf_size]; rfl) (packOf_one _ _) ?_ AllReady.nil
      refine wpAny_ready (rs := [3]) (by kernel_rfl) (by simp) ?_
      refine cons_store rfl rfl rfl 82 (.tmp 7) (.tmp 34) rfl (w.heap.size + 1) (packOf ys l) rfl rfl 82 _ r7s (by rw [packOf_size]; exact Try.size82) (by rw [packOf_size]; rfl) (packOf_one _ _) ?_ AllReady.nil
      refine wpAny_ready (rs := [4]) (by kernel_rfl) (by simp) ?_
      refine cons_assign rfl rfl (some 8) rfl (.const (.bool true)) rfl ?_ AllReady.nil
      refine wpAny_done (by kernel_rfl) ?_ _
      go_wp2
      refine bodyPost_ret (v := .tuple #[.agg (packOf xs k), .agg (packOf ys l), .bool true]) ?_ rfl ⟨k, l, rfl, fun _ => ⟨HK.out trivial, HL.out trivial⟩, below_rows HV.out _ _ (Nat.le_refl _) (Nat.le_succ _) _ _⟩
      exact both_results Try.results60 _ _ w.heap.size (w.heap.size + 1) (fOf xs k) (fOf ys l) _ rfl rfl rfl ((setRow_other _ _ _ _ (by omega)).trans (setRow_same (w := V.drew) r6 _)) (setRow_same r7s _)
  · have hg' : (ga && gb) = false := by simpa using hg
    have hbr := below_setRow (below_setRow hbV w.heap.size (Nat.le_refl _) #[.int .u8 0, .int .u8 0, .int .u8 0, .int .u8 0, .int .u8 0, .int .u8 0, .int .u8 0, .int .u8 0, .int .u8 0, .int .u8 0, .int .u8 0, .int .u8 0, .int .u8 0, .int .u8 0, .int .u8 0, .int .u8 0]) (w.heap.size + 1) (Nat.le_succ _) #[.int .u8 0, .int .u8 0, .int .u8 0, .int .u8 0, .int .u8 0, .int .u8 0, .int .u8 0, .int .u8 0, .int .u8 0, .int .u8 0, .int .u8 0, .int .u8 0, .int .u8 0, .int .u8 0, .int .u8 0, .int .u8 0]
    have r7s : (((w2.alloc (.cells #[.int .u8 0, .int .u8 0, .int .u8 0, .int .u8 0, .int .u8 0, .int .u8 0, .int .u8 0, .int .u8 0, .int .u8 0, .int .u8 0, .int .u8 0, .int .u8 0, .int .u8 0, .int .u8 0, .int .u8 0, .int .u8 0] 82)).setRow w2.heap.size (packOf ys l)).setRow w.heap.size #[.int .u8 0, .int .u8 0, .int .u8 0, .int .u8 0, .int .u8 0, .int .u8 0, .int .u8 0, .int .u8 0, .int .u8 0, .int .u8 0, .int .u8 0, .int .u8 0, .int .u8 0, .int .u8 0, .int .u8 0, .int .u8 0]).heap[w.heap.size + 1]? = some (.cells #[.int .u8 0, .int .u8 0, .int .u8 0, .int .u8 0, .int .u8 0, .int .u8 0, .int .u8 0, .int .u8 0, .int .u8 0, .int .u8 0, .int .u8 0, .int .u8 0, .int .u8 0, .int .u8 0, .int .u8 0, .int .u8 0] 82 (0, 0)) := by
      rw [setRow_other _ _ _ _ (by omega)]; exact r7
    have f7 := setRow_same r7s #[.int .u8 0, .int .u8 0, .int .u8 0, .int .u8 0, .int .u8 0, .int .u8 0, .int .u8 0, .int .u8 0, .int .u8 0, .int .u8 0, .int .u8 0, .int .u8 0, .int .u8 0, .int .u8 0, .int .u8 0, .int .u8 0]
    have f6 := (setRow_other (((w2.alloc (.cells #[.int .u8 0, .int .u8 0, .int .u8 0, .int .u8 0, .int .u8 0, .int .u8 0, .int .u8 0, .int .u8 0, .int .u8 0, .int .u8 0, .int .u8 0, .int .u8 0, .int .u8 0, .int .u8 0, .int .u8 0, .int .u8 0] 82)).setRow w2.heap.size (packOf ys l)).setRow w.heap.size #[.int .u8 0, .int .u8 0, .int .u8 0, .int .u8 0, .int .u8 0, .int .u8 0, .int .u8 0, .int .u8 0, .int .u8 0, .int .u8 0, .int .u8 0, .int .u8 0, .int .u8 0, .int .u8 0, .int .u8 0, .int .u8 0]) (w.heap.size + 1) w.heap.size #[.int .u8 0, .int .u8 0, .int .u8 0, .int .u8 0, .int .u8 0, .int .u8 0, .int .u8 0, .int .u8 0, .int .u8 0, .int .u8 0, .int .u8 0, .int .u8 0, .int .u8 0, .int .u8 0, .int .u8 0, .int .u8 0] (by omega)).trans (setRow_same r6 #[.int .u8 0, .int .u8 0, .int .u8 0, .int .u8 0, .int .u8 0, .int .u8 0, .int .u8 0, .int .u8 0, .int .u8 0, .int .u8 0, .int .u8 0, .int .u8 0, .int .u8 0, .int .u8 0, .int .u8 0, .int .u8 0])
    have HF6 := hide f6
    have HF7 := hide f7
    have HBR := hide hbr
    clear f6 f7 hbr hbV
    have hE : Hid (∀ W, Below w.heap.size w W → BothEnd (ga && gb) xs ys n m w (.returned (.tuple #[.agg #[.int .u8 0, .int .u8 0, .int .u8 0, .int .u8 0, .int .u8 0, .int .u8 0, .int .u8 0, .int .u8 0, .int .u8 0, .int .u8 0, .int .u8 0, .int .u8 0, .int .u8 0, .int .u8 0, .int .u8 0, .int .u8 0], .agg #[.int .u8 0, .int .u8 0, .int .u8 0, .int .u8 0, .int .u8 0, .int .u8 0, .int .u8 0, .int .u8 0, .int .u8 0, .int .u8 0, .int .u8 0, .int .u8 0, .int .u8 0, .int .u8 0, .int .u8 0, .int .u8 0], .bool false])) W) := by
      intro W hW; rw [hg']; exact ⟨0, 0, by rw [packOf_zero, packOf_zero], fun h => by simp at h, hW⟩
    clear hg'
    by_cases h1 : ga = true
    · subst h1
      obtain rfl : gb = false := by simpa using hg
      clear hg
      go_wp2_with (first
        | refine wpList_store_row rfl 82 (.tmp 11) _ rfl _ _ rfl rfl 82 _ hg0 (by rw [packOf_size]; exact Try.size82) (by rw [packOf_size]; rfl) (packOf_one _ _) ?_
        | refine wpList_store_row rfl 82 (.tmp 6) _ rfl _ _ rfl rfl 82 _ r6 Try.size82 rfl lit_one ?_
        | refine wpList_store_row rfl 82 (.tmp 7) _ rfl _ _ rfl rfl 82 _ r7s Try.size82 rfl lit_one ?_)
      refine bodyPost_ret (v := .tuple #[.agg #[.int .u8 0, .int .u8 0, .int .u8 0, .int .u8 0, .int .u8 0, .int .u8 0, .int .u8 0, .int .u8 0, .int .u8 0, .int .u8 0, .int .u8 0, .int .u8 0, .int .u8 0, .int .u8 0, .int .u8 0, .int .u8 0], .agg #[.int .u8 0, .int .u8 0, .int .u8 0, .int .u8 0, .int .u8 0, .int .u8 0, .int .u8 0, .int .u8 0, .int .u8 0, .int .u8 0, .int .u8 0, .int .u8 0, .int .u8 0, .int .u8 0, .int .u8 0, .int .u8 0], .bool false]) ?_ rfl (hE.out _ HBR.out)
      have hx : (#[.int .u8 0, .int .u8 0, .int .u8 0, .int .u8 0, .int .u8 0, .int .u8 0, .int .u8 0, .int .u8 0, .int .u8 0, .int .u8 0, .int .u8 0, .int .u8 0, .int .u8 0, .int .u8 0, .int .u8 0, .int .u8 0] : Array Value) = tokF (fOf xs 0) := (packOf_zero xs).symm
      have f6 := HF6.out
      have f7 := HF7.out
      rw [hx] at f6 f7 ⊢
      exact both_results Try.results60 _ _ w.heap.size (w.heap.size + 1) (fOf xs 0) (fOf xs 0) (.bool false) rfl rfl rfl f6 f7
    · obtain rfl : ga = false := by simpa using h1
      clear hg h1
      go_wp2_with (first
        | refine wpList_store_row rfl 82 (.tmp 11) _ rfl _ _ rfl rfl 82 _ hg0 (by rw [packOf_size]; exact Try.size82) (by rw [packOf_size]; rfl) (packOf_one _ _) ?_
        | refine wpList_store_row rfl 82 (.tmp 6) _ rfl _ _ rfl rfl 82 _ r6 Try.size82 rfl lit_one ?_
        | refine wpList_store_row rfl 82 (.tmp 7) _ rfl _ _ rfl rfl 82 _ r7s Try.size82 rfl lit_one ?_)
      refine bodyPost_ret (v := .tuple #[.agg #[.int .u8 0, .int .u8 0, .int .u8 0, .int .u8 0, .int .u8 0, .int .u8 0, .int .u8 0, .int .u8 0, .int .u8 0, .int .u8 0, .int .u8 0, .int .u8 0, .int .u8 0, .int .u8 0, .int .u8 0, .int .u8 0], .agg #[.int .u8 0, .int .u8 0, .int .u8 0, .int .u8 0, .int .u8 0, .int .u8 0, .int .u8 0, .int .u8 0, .int .u8 0, .int .u8 0, .int .u8 0, .int .u8 0, .int .u8 0, .int .u8 0, .int .u8 0, .int .u8 0], .bool false]) ?_ rfl (hE.out _ HBR.out)
      have hx : (#[.int .u8 0, .int .u8 0, .int .u8 0, .int .u8 0, .int .u8 0, .int .u8 0, .int .u8 0, .int .u8 0, .int .u8 0, .int .u8 0, .int .u8 0, .int .u8 0, .int .u8 0, .int .u8 0, .int .u8 0, .int .u8 0] : Array Value) = tokF (fOf xs 0) := (packOf_zero xs).symm
      have f6 := HF6.out
      have f7 := HF7.out
      rw [hx] at f6 f7 ⊢
      exact both_results Try.results60 _ _ w.heap.size (w.heap.size + 1) (fOf xs 0) (fOf xs 0) (.bool false) rfl rfl rfl f6 f7
theorem bothT_any (p : Int) (a b : Option Addr) (n m ca cb : Nat) (xs ys : List Int) (w : World) (ha : Row w a n xs) (hb : Row w b m ys) (hn : n ≤ 1048576) (hm : m ≤ 1048576) :
    Calls Try.prog 60 #[.int .i64 p, .slice a n ca, .slice b m cb] w fun e w' => BothEnd (goodB p xs && goodB p ys) xs ys n m w e w' :=
  both_run _ _ p a b n m ca cb xs ys w ha hb hn hm rfl rfl
end Go.Proofs.Ytegabkegbhglfaa
