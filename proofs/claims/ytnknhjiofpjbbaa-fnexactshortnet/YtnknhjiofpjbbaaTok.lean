/- What tokensOf answers for a list of as many numbers as there are places: the array of its numbers and true just where each is in 0..50; nothing that was there is written. -/
import Derived.Test.YtnknhjiofpjbbaaBase
import Derived.Laws.Tables
import Derived.Laws.ResultCell
namespace Go.Proofs.Ytnknhjiofpjbbaa
open Go.RowKit

/-- The array of sixteen small numbers. -/
def tokF (f : Nat → Int) : Array Value := Array.ofFn (n := 16) fun i => .int .u8 (f i.val)

theorem tokF_size (f : Nat → Int) : (tokF f).size = 16 := by simp [tokF]

theorem tokF_at (f : Nat → Int) (i : Nat) (h : i < 16) : (tokF f)[i]? = some (.int .u8 (f i)) := by
  simp [tokF, h]

theorem tokF_one (f : Nat → Int) : (tokF f).all (·.oneCell') = true := by
  rw [Array.all_eq_true]
  intro i hi
  simp [tokF, Value.oneCell']

theorem tokF_set (f g : Nat → Int) (k : Nat) (x : Int) (hx : g k = x) (he : ∀ i, i ≠ k → g i = f i) : (tokF f).setIfInBounds k (.int .u8 x) = tokF g := by
  apply Array.ext_getElem?
  intro i
  rw [Array.getElem?_setIfInBounds]
  by_cases hi : i < 16
  · rw [tokF_at _ _ hi, tokF_at _ _ hi]
    by_cases e : k = i
    · subst e; rw [if_pos rfl, if_pos (by simpa [tokF_size] using hi), hx]
    · rw [if_neg e, he i (by omega)]
  · rw [Array.getElem?_eq_none (xs := tokF g) (by simp [tokF_size]; omega)]
    split
    · rw [if_neg (by simp [tokF_size]; omega)]
    · exact Array.getElem?_eq_none (by simp [tokF_size]; omega)

/-- The first k numbers of a list, and noughts behind them. -/
def fOf (xs : List Int) (k : Nat) : Nat → Int := fun i => if i < k then xs.getD i 0 else 0

def packOf (xs : List Int) (k : Nat) : Array Value := tokF (fOf xs k)

theorem packOf_size (xs : List Int) (k : Nat) : (packOf xs k).size = 16 := tokF_size _

theorem packOf_at (xs : List Int) (k i : Nat) (h : i < 16) : (packOf xs k)[i]? = some (.int .u8 (if i < k then xs.getD i 0 else 0)) := tokF_at _ _ h

theorem packOf_zero (xs : List Int) : packOf xs 0 = #[.int .u8 0, .int .u8 0, .int .u8 0, .int .u8 0, .int .u8 0, .int .u8 0, .int .u8 0, .int .u8 0, .int .u8 0, .int .u8 0, .int .u8 0, .int .u8 0, .int .u8 0, .int .u8 0, .int .u8 0, .int .u8 0] := by
  rfl

theorem packOf_step (xs : List Int) (k : Nat) (x : Int) (hx : Hid (xs[k]? = some x)) : (packOf xs k).setIfInBounds k (.int .u8 x) = packOf xs (k + 1) := by
  refine tokF_set _ _ k x ?_ fun i hi => ?_
  · simp [fOf, hx.out]
  · unfold fOf
    by_cases h : i < k
    · rw [if_pos h, if_pos (by omega)]
    · rw [if_neg h, if_neg (by omega)]

def allB (xs : List Int) (lo hi : Int) : Bool := xs.all fun x => inB x lo hi
def goodB (p : Int) (xs : List Int) : Bool := inB p 1 16 && decide ((xs.length : Int) = p) && allB xs 0 50

theorem allB_take_succ (xs : List Int) (k : Nat) (x : Int) (h : Hid (xs[k]? = some x)) (hu : allB (xs.take k) 0 50 = true) (h0 : ¬ x < 0) (h50 : ¬ 50 < x) : allB (xs.take (k + 1)) 0 50 = true := by
  unfold allB at *
  rw [List.take_add_one, h.out, List.all_append, hu]
  simp [inB]; omega

theorem allB_not (xs : List Int) (k : Nat) (x : Int) (h : Hid (xs[k]? = some x)) (hx : x < 0 ∨ 50 < x) : allB xs 0 50 = false := by
  unfold allB
  rw [List.all_eq_false]
  exact ⟨x, List.mem_of_getElem? h.out, by simp [inB]; omega⟩

/-- How a call of tokensOf ends. -/
def TokEnd (g : Bool) (xs : List Int) (n : Nat) (w : World) (e : Ending) (w' : World) : Prop :=
  ∃ m, e = .returned (.tuple #[.agg (packOf xs m), .bool g]) ∧ Hid (g = true → m = n) ∧ Below w.heap.size w w'

theorem tokEnd_yes {g : Bool} {xs : List Int} {n : Nat} {w w' : World} (h : g = true) (hb : Below w.heap.size w w') : TokEnd g xs n w (.returned (.tuple #[.agg (packOf xs n), .bool true])) w' := by
  subst h; exact ⟨n, rfl, fun _ => rfl, hb⟩

theorem tokEnd_no {g : Bool} {xs : List Int} {n : Nat} {w w' : World} (h : g = false) (hb : Below w.heap.size w w') : TokEnd g xs n w (.returned (.tuple #[.agg #[.int .u8 0, .int .u8 0, .int .u8 0, .int .u8 0, .int .u8 0, .int .u8 0, .int .u8 0, .int .u8 0, .int .u8 0, .int .u8 0, .int .u8 0, .int .u8 0, .int .u8 0, .int .u8 0, .int .u8 0, .int .u8 0], .bool false])) w' := by
  subst h; exact ⟨0, by rw [packOf_zero], fun h => by simp at h, hb⟩

theorem below_two (w : World) (A B : Obj) : Below w.heap.size w ((w.alloc A).alloc B) :=
  ((Below.refl _ _).alloc (Nat.le_refl _) _).alloc (by simp) _

theorem below_setRow {B : Nat} {a w : World} (h : Below B a w) (g : Nat) (hg : B ≤ g) (cs : Array Value) : Below B a (w.setRow g cs) := by
  refine h.trans ⟨rfl, rfl, rfl, by simp, fun k hk => ?_⟩
  simp only [World.setRow, Array.getElem?_modify]
  rw [if_neg (by omega)]

theorem packOf_one (xs : List Int) (k : Nat) : (packOf xs k).all (·.oneCell') = true := tokF_one _

end Go.Proofs.Ytnknhjiofpjbbaa
