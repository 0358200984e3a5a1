/- marked, enables, has and after of the program: which places have a token, and the mark behind a step. -/
import Derived.Test.YtecgiinhdigpoaaNa
namespace Go.Proofs.Ytecgiinhdigpoaa
open Go.RowKit
set_option maxRecDepth 10000

/-- The places among the first k that have a token. -/
def posL (f : Nat → Int) (k : Nat) : List Int := ((List.range k).filter fun i => decide (0 < f i)).map fun (i : Nat) => (i : Int)

theorem posL_succ_yes {f : Nat → Int} {k : Nat} (h : 0 < f k) : posL f (k + 1) = posL f k ++ [(k : Int)] := by simp [posL, List.range_succ, List.filter_append, h]
theorem posL_succ_no {f : Nat → Int} {k : Nat} (h : ¬ 0 < f k) : posL f (k + 1) = posL f k := by simp [posL, List.range_succ, List.filter_append, h]

theorem posL_lt (f : Nat → Int) (k : Nat) (hk : k ≤ 16) : maskL (posL f k) < 2 ^ 16 := by
  refine maskL_lt _ fun x hx => ?_
  unfold posL at hx
  simp at hx
  obtain ⟨i, ⟨h1, h2⟩, rfl⟩ := hx
  omega

theorem posL_or {f : Nat → Int} {k : Nat} (hk : k < 16) (h : 0 < f k) : bits .or .u16 (maskL (posL f k) : Int) (IntKind.u16.wrap (2 ^ k)) = (maskL (posL f (k + 1)) : Int) := by
  have hx2 : 2 ^ k < 2 ^ 16 := Nat.pow_lt_pow_right (by decide) hk
  have hx3 : ((2 : Int) ^ k) = ((2 ^ k : Nat) : Int) := by simp
  rw [hx3, wraps_u16 _ (Int.natCast_nonneg _) (by exact_mod_cast hx2), or_u16 _ _ (posL_lt f k (by omega)) hx2, posL_succ_yes h, maskL_snoc, Int.toNat_natCast]

theorem size_u8 : (Try.prog.info? 5).map (·.size) = some 1 := by kernel_rfl

theorem andNot_nat (a b : Nat) : bits .andNot .u16 (a : Int) (b : Int) = (((BitVec.ofNat 16 a) &&& ~~~(BitVec.ofNat 16 b)).toNat : Int) := by
  simp only [bits, BitVec.ofInt_natCast]
  refine wraps_u16 _ (Int.natCast_nonneg _) ?_
  have := ((BitVec.ofNat 16 a) &&& ~~~(BitVec.ofNat 16 b)).isLt
  exact_mod_cast this

theorem andNot_zero {a b : Nat} (h : a &&& b = a) : bits .andNot .u16 (a : Int) (b : Int) = 0 := by
  rw [andNot_nat a b]
  have : (BitVec.ofNat 16 a) &&& ~~~(BitVec.ofNat 16 b) = 0#16 := by
    apply BitVec.eq_of_getLsbD_eq
    intro i hi
    have hbit : (a &&& b).testBit i = a.testBit i := by rw [h]
    rw [Nat.testBit_and] at hbit
    rw [BitVec.getLsbD_and, BitVec.getLsbD_not, BitVec.getLsbD_ofNat, BitVec.getLsbD_ofNat]
    cases h1 : a.testBit i
    · simp
    · rw [h1] at hbit
      have : b.testBit i = true := by simpa using hbit
      simp [this, hi]
  rw [this]; rfl

theorem andNot_ne {a b : Nat} (ha : a < 2 ^ 16) (h : ¬ a &&& b = a) : ¬ bits .andNot .u16 (a : Int) (b : Int) = 0 := by
  rw [andNot_nat a b]
  intro e
  apply h
  have e' : (BitVec.ofNat 16 a) &&& ~~~(BitVec.ofNat 16 b) = 0#16 := by
    apply BitVec.eq_of_toNat_eq
    simpa using (by exact_mod_cast e : ((BitVec.ofNat 16 a) &&& ~~~(BitVec.ofNat 16 b)).toNat = 0)
  apply Nat.eq_of_testBit_eq
  intro i
  rw [Nat.testBit_and]
  by_cases hi : i < 16
  · have := congrArg (fun x => BitVec.getLsbD x i) e'
    rw [BitVec.getLsbD_and, BitVec.getLsbD_not, BitVec.getLsbD_ofNat, BitVec.getLsbD_ofNat] at this
    cases h1 : a.testBit i
    · rfl
    · rw [h1] at this
      cases h2 : b.testBit i
      · rw [h2] at this; simp [hi] at this
      · rfl
  · rw [Nat.testBit_lt_two_pow (Nat.lt_of_lt_of_le ha (Nat.pow_le_pow_right (by decide) (by omega)))]; rfl

/-- Whether all bits of one are bits of the other. -/
def subB (a b : Nat) : Bool := decide (a &&& b = a)

theorem bit_of (s k : Nat) (hs : s < 2 ^ 16) : (bits .and .u16 ((s : Int) / 2 ^ k) 1 == 1) = s.testBit k := by
  have h1 : ((s : Int) / 2 ^ k) = ((s / 2 ^ k : Nat) : Int) := by simp
  have h2 : s / 2 ^ k < 2 ^ 16 := Nat.lt_of_le_of_lt (Nat.div_le_self _ _) hs
  have h3 := and_u16 (s / 2 ^ k) 1 h2 (by decide)
  rw [h1]
  rw [show ((1 : Nat) : Int) = (1 : Int) from rfl] at h3
  rw [h3, Nat.and_one_is_mod, Nat.testBit_eq_decide_div_mod_eq]
  by_cases h : s / 2 ^ k % 2 = 1
  · rw [h]; rfl
  · have h4 : s / 2 ^ k % 2 = 0 := by omega
    rw [h4]; rfl

set_option maxHeartbeats 400000 in
theorem hasI_any (s k : Nat) (w : World) (hs : s < 2 ^ 16) (hk : k < 16) :
    Calls Try.prog 36 #[.int .u16 (s : Int), .int .i64 (k : Int)] w fun e w' => e = .returned (.bool (s.testBit k)) ∧ w' = w := by
  have hk0 : (0 : Int) ≤ (k : Int) := by omega
  have HB := hide (bit_of s k hs)
  go_enter Try.func36, Try.ntmps36
  go_wp2_with fail
  go_ret
  exact ⟨ret_bool HB.out, rfl⟩

/-- The number of tokens of a place behind a step. -/
def stepF (s0 s1 s2 : Nat) (f : Nat → Int) (i : Nat) : Int :=
  (if s2.testBit i then 0 else if s0.testBit i then f i - 1 else f i) + (if s1.testBit i then 1 else 0)

/-- The first k places are behind the step. -/
def partF (s0 s1 s2 : Nat) (f : Nat → Int) (k : Nat) : Nat → Int := fun i => if i < k then stepF s0 s1 s2 f i else f i

/-- .. and the place k has v. -/
def midF (s0 s1 s2 : Nat) (f : Nat → Int) (k : Nat) (v : Int) : Nat → Int := fun i => if i = k then v else partF s0 s1 s2 f k i

theorem midF_at (s0 s1 s2 : Nat) (f : Nat → Int) (k : Nat) (hk : k < 16) (v : Int) : (tokF (midF s0 s1 s2 f k v))[k]? = some (.int .u8 v) := by
  rw [tokF_at _ _ hk]; unfold midF; rw [if_pos rfl]

theorem midF_set (s0 s1 s2 : Nat) (f : Nat → Int) (k : Nat) (v v' : Int) : (tokF (midF s0 s1 s2 f k v)).setIfInBounds k (.int .u8 v') = tokF (midF s0 s1 s2 f k v') := by
  refine tokF_set _ _ k _ ?_ fun i hi => ?_
  · unfold midF; rw [if_pos rfl]
  · unfold midF; rw [if_neg hi, if_neg hi]

theorem midF_start (s0 s1 s2 : Nat) (f : Nat → Int) (k : Nat) : partF s0 s1 s2 f k = midF s0 s1 s2 f k (f k) := by
  funext i; unfold midF
  by_cases h : i = k
  · subst h; rw [if_pos rfl]; unfold partF; rw [if_neg (by omega)]
  · rw [if_neg h]

theorem midF_end (s0 s1 s2 : Nat) (f : Nat → Int) (k : Nat) : midF s0 s1 s2 f k (stepF s0 s1 s2 f k) = partF s0 s1 s2 f (k + 1) := by
  funext i; unfold midF partF
  by_cases h : i = k
  · subst h; rw [if_pos rfl, if_pos (by omega)]
  · rw [if_neg h]
    by_cases h2 : i < k
    · rw [if_pos h2, if_pos (by omega)]
    · rw [if_neg h2, if_neg (by omega)]

/-- No place has too many. -/
def capB (s0 s1 s2 : Nat) (f : Nat → Int) (k : Nat) : Bool := (List.range k).all fun i => decide (stepF s0 s1 s2 f i ≤ 50)

theorem capB_no {s0 s1 s2 : Nat} {f : Nat → Int} {k : Nat} (hk : k < 16) (h : 50 < stepF s0 s1 s2 f k) : capB s0 s1 s2 f 16 = false := by
  unfold capB; rw [List.all_eq_false]; exact ⟨k, by simpa using hk, by simpa using h⟩

/-- How after ends. -/
def AfEnd (s0 s1 s2 : Nat) (f : Nat → Int) (w : World) (e : Ending) (w' : World) : Prop :=
  ∃ h, e = .returned (.tuple #[.agg (tokF h), .bool (capB s0 s1 s2 f 16)]) ∧ Hid (capB s0 s1 s2 f 16 = true → h = partF s0 s1 s2 f 16) ∧ Below w.heap.size w w'

theorem zeros_tok : (#[.int .u8 0, .int .u8 0, .int .u8 0, .int .u8 0, .int .u8 0, .int .u8 0, .int .u8 0, .int .u8 0, .int .u8 0, .int .u8 0, .int .u8 0, .int .u8 0, .int .u8 0, .int .u8 0, .int .u8 0, .int .u8 0] : Array Value) = tokF (fun _ => 0) := rfl

theorem afEnd_no {s0 s1 s2 : Nat} {f : Nat → Int} {w w' : World} (h : capB s0 s1 s2 f 16 = false) (hb : Below w.heap.size w w') : AfEnd s0 s1 s2 f w (.returned (.tuple #[.agg #[.int .u8 0, .int .u8 0, .int .u8 0, .int .u8 0, .int .u8 0, .int .u8 0, .int .u8 0, .int .u8 0, .int .u8 0, .int .u8 0, .int .u8 0, .int .u8 0, .int .u8 0, .int .u8 0, .int .u8 0, .int .u8 0], .bool false])) w' :=
  ⟨fun _ => 0, by rw [h, zeros_tok], by rw [h]; intro e; simp at e, hb⟩

theorem afEnd_yes {s0 s1 s2 : Nat} {f : Nat → Int} {w w' : World} (h : capB s0 s1 s2 f 16 = true) (hb : Below w.heap.size w w') : AfEnd s0 s1 s2 f w (.returned (.tuple #[.agg (tokF (partF s0 s1 s2 f 16)), .bool true])) w' :=
  ⟨_, by rw [h], fun _ => rfl, hb⟩

abbrev Zs : Array Value := #[.int .u8 0, .int .u8 0, .int .u8 0, .int .u8 0, .int .u8 0, .int .u8 0, .int .u8 0, .int .u8 0, .int .u8 0, .int .u8 0, .int .u8 0, .int .u8 0, .int .u8 0, .int .u8 0, .int .u8 0, .int .u8 0]

end Go.Proofs.Ytecgiinhdigpoaa
