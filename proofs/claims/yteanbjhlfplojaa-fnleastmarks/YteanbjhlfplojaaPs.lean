/- Sets of places as bits: placesOf, stepOf and netSteps of the program, for every net in memory. -/
import Derived.Test.YteanbjhlfplojaaGs
namespace Go.Proofs.Yteanbjhlfplojaa
open Go.RowKit

/-- The bits of a list of places. -/
def maskL (xs : List Int) : Nat := xs.foldl (fun s x => s ||| 2 ^ x.toNat) 0

theorem maskL_snoc (xs : List Int) (x : Int) : maskL (xs ++ [x]) = maskL xs ||| 2 ^ x.toNat := by simp [maskL, List.foldl_append]

theorem maskL_take (xs : List Int) (k : Nat) (x : Int) (h : xs[k]? = some x) : maskL (xs.take (k + 1)) = maskL (xs.take k) ||| 2 ^ x.toNat := by
  rw [List.take_add_one, h]; exact maskL_snoc _ _

/-- Induction from the list's end. -/
theorem snoc_ind {P : List Int → Prop} (h0 : P []) (h1 : ∀ xs x, P xs → P (xs ++ [x])) (xs : List Int) : P xs := by
  have : ∀ ys : List Int, P ys.reverse := by
    intro ys
    induction ys with
    | nil => exact h0
    | cons y r ih => rw [List.reverse_cons]; exact h1 _ _ ih
  have := this xs.reverse
  rwa [List.reverse_reverse] at this

theorem maskL_lt (xs : List Int) (h : ∀ x ∈ xs, x < 16) : maskL xs < 2 ^ 16 := by
  induction xs using snoc_ind with
  | h0 => simp [maskL]
  | h1 xs x ih =>
    rw [maskL_snoc]
    refine Nat.or_lt_two_pow (ih fun y hy => h y (by simp [hy])) ?_
    have := h x (by simp)
    exact Nat.pow_lt_pow_right (by decide) (by omega)

theorem maskL_bit (xs : List Int) (i : Nat) (h : ∀ x ∈ xs, 0 ≤ x) : (maskL xs).testBit i = decide ((i : Int) ∈ xs) := by
  induction xs using snoc_ind with
  | h0 => simp [maskL]
  | h1 xs x ih =>
    rw [maskL_snoc, Nat.testBit_or, ih fun y hy => h y (by simp [hy]), Nat.testBit_two_pow]
    have hx := h x (by simp)
    have : decide (x.toNat = i) = decide ((i : Int) = x) := by
      congr 1; apply propext; constructor <;> intro e <;> omega
    rw [this]
    simp [List.mem_append]

theorem riseB_mem {xs : List Int} {lo hi : Int} (h : riseB xs lo hi = true) : ∀ x ∈ xs, lo ≤ x ∧ x ≤ hi := by
  induction xs generalizing lo with
  | nil => intro x hx; simp at hx
  | cons y r ih =>
    simp [riseB] at h
    intro x hx
    rcases List.mem_cons.mp hx with rfl | hx
    · exact h.1
    · have := ih h.2 x hx; omega

theorem wraps_u16 (n : Int) (h₀ : 0 ≤ n) (h₁ : n < 2 ^ 16) : IntKind.u16.wrap n = n := by
  simp [IntKind.wrap, IntKind.bits, IntKind.signed]; omega

theorem or_u16 (a b : Nat) (ha : a < 2 ^ 16) (hb : b < 2 ^ 16) : bits .or .u16 (a : Int) (b : Int) = ((a ||| b : Nat) : Int) := (bits_nat .u16 16 (by decide) wraps_u16 a b ha hb).2
theorem and_u16 (a b : Nat) (ha : a < 2 ^ 16) (hb : b < 2 ^ 16) : bits .and .u16 (a : Int) (b : Int) = ((a &&& b : Nat) : Int) := (bits_nat .u16 16 (by decide) wraps_u16 a b ha hb).1

/-- What placesOf answers. -/
def setOf (p : Int) (xs : List Int) : Nat := if riseB xs 0 (p - 1) then maskL xs else 0

theorem ret_set {s t : Nat} {a b : Bool} (h : s = t) (hb : a = b) : Ending.returned (.tuple #[.int .u16 (s : Int), .bool a]) = .returned (.tuple #[.int .u16 (t : Int), .bool b]) := by rw [h, hb]

theorem maskL_zero {xs : List Int} (h : ∀ x ∈ xs, 0 ≤ x) : maskL xs = 0 ↔ xs = [] := by
  constructor
  · intro e
    cases xs with
    | nil => rfl
    | cons x r =>
      have hb := maskL_bit (x :: r) x.toNat h
      rw [e, Nat.zero_testBit] at hb
      have hx := h x (by simp)
      simp at hb; omega
  · intro e; rw [e]; rfl

/-- Whether the three lists are those of a transition. -/
def tri3Ok (p : Int) (x0 x1 x2 : List Int) : Bool := !x0.isEmpty && riseB x0 0 (p - 1) && riseB x1 0 (p - 1) && riseB x2 0 (p - 1)

def bit3 (b : Bool) (xs : List Int) : Int := if b then (maskL xs : Int) else 0

/-- What stepOf answers. -/
def StepEnd (p : Int) (x0 x1 x2 : List Int) (w : World) (e : Ending) (w' : World) : Prop :=
  e = .returned (.tuple #[.agg #[.int .u16 (bit3 (tri3Ok p x0 x1 x2) x0), .int .u16 (bit3 (tri3Ok p x0 x1 x2) x1), .int .u16 (bit3 (tri3Ok p x0 x1 x2) x2)], .bool (tri3Ok p x0 x1 x2)]) ∧ Below w.heap.size w w'

theorem stepEnd_no {p : Int} {x0 x1 x2 : List Int} {w w' : World} (h : tri3Ok p x0 x1 x2 = false) (hb : Below w.heap.size w w') : StepEnd p x0 x1 x2 w (.returned (.tuple #[.agg #[.int .u16 0, .int .u16 0, .int .u16 0], .bool false])) w' := by
  refine ⟨?_, hb⟩; rw [h]; rfl

theorem stepEnd_yes {p : Int} {x0 x1 x2 : List Int} {w w' : World} {s0 s1 s2 : Nat} (h : tri3Ok p x0 x1 x2 = true) (h0 : maskL x0 = s0) (h1 : maskL x1 = s1) (h2 : maskL x2 = s2) (hb : Below w.heap.size w w') : StepEnd p x0 x1 x2 w (.returned (.tuple #[.agg #[.int .u16 (s0 : Int), .int .u16 (s1 : Int), .int .u16 (s2 : Int)], .bool true])) w' := by
  refine ⟨?_, hb⟩; rw [h, ← h0, ← h1, ← h2]; rfl

end Go.Proofs.Yteanbjhlfplojaa
