/- Ways: what can be come to, as a set that is found step by step. -/
import Derived.Test.YtnknhjiofpjbbaaNs
import Derived.Test.YtnknhjiofpjbbaaNl
namespace Go.Proofs.Ytnknhjiofpjbbaa
open Go.RowKit

/-- What can be come to from s, where each of n steps leads from any one of A to all of B. -/
inductive Rch (A B : Nat → List Int) (n : Nat) (s : Int) : Int → Prop
  | base : Rch A B n s s
  | step {p q : Int} {k : Nat} : Rch A B n s p → k < n → p ∈ A k → q ∈ B k → Rch A B n s q

open Classical in
noncomputable def rchB (A B : Nat → List Int) (n : Nat) (s : Int) (i : Nat) : Bool := decide (Rch A B n s (i : Int))

theorem rchB_iff {A B : Nat → List Int} {n : Nat} {s : Int} {i : Nat} : rchB A B n s i = true ↔ Rch A B n s (i : Int) := by
  unfold rchB; simp

/-- All lists lie within 0..15. -/
def Small (A : Nat → List Int) (n : Nat) : Prop := ∀ k, k < n → ∀ x ∈ A k, 0 ≤ x ∧ x < 16

theorem Rch.small {A B : Nat → List Int} {n : Nat} {s p : Int} (hB : Small B n) (hs : 0 ≤ s ∧ s < 16) (h : Rch A B n s p) : 0 ≤ p ∧ p < 16 := by
  induction h with
  | base => exact hs
  | step _ hk _ hq _ => exact hB _ hk _ hq

/-- A set that holds s, nothing but what can be come to, and all that a step leads to, is what can be come to. -/
theorem rch_all {A B : Nat → List Int} {n : Nat} {s : Int} {S : Nat → Bool}
    (h0 : S s.toNat = true) (h1 : ∀ i, S i = true → Rch A B n s (i : Int))
    (h2 : ∀ k, k < n → ∀ p ∈ A k, S p.toNat = true → ∀ q ∈ B k, S q.toNat = true) (i : Nat) : S i = rchB A B n s i := by
  have key : ∀ p, Rch A B n s p → S p.toNat = true := by
    intro p hp
    induction hp with
    | base => exact h0
    | step hp hk hpa hq ih => exact h2 _ hk _ hpa ih _ hq
  rw [Bool.eq_iff_iff, rchB_iff]
  constructor
  · exact h1 i
  · intro h; have := key _ h; simpa using this

theorem and_ne_iff {xs : List Int} {m : Nat} (h : ∀ x ∈ xs, 0 ≤ x) : maskL xs &&& m ≠ 0 ↔ ∃ x ∈ xs, m.testBit x.toNat = true := by
  constructor
  · intro hne
    apply Classical.byContradiction
    intro hno
    apply hne
    apply Nat.eq_of_testBit_eq
    intro i
    rw [Nat.testBit_and, maskL_bit xs i h, Nat.zero_testBit]
    by_cases hi : ((i : Int)) ∈ xs
    · have : ¬ m.testBit i = true := fun hb => hno ⟨i, hi, by simpa using hb⟩
      simp [this]
    · simp [hi]
  · rintro ⟨x, hx, hb⟩ he
    have h1 := maskL_bit xs x.toNat h
    have hx0 := h x hx
    have : (maskL xs &&& m).testBit x.toNat = true := by
      rw [Nat.testBit_and, h1, hb]; simp; rw [show max x 0 = x by omega]; exact hx
    rw [he] at this; simp at this

theorem sub_iff {xs : List Int} {m : Nat} (h : ∀ x ∈ xs, 0 ≤ x) : maskL xs &&& m = maskL xs ↔ ∀ x ∈ xs, m.testBit x.toNat = true := by
  constructor
  · intro he x hx
    have hx0 := h x hx
    have h1 := maskL_bit xs x.toNat h
    have h2 : (maskL xs).testBit x.toNat = true := by rw [h1]; simp; rw [show max x 0 = x by omega]; exact hx
    rw [← he, Nat.testBit_and] at h2
    simp at h2; exact h2.2
  · intro hall
    apply Nat.eq_of_testBit_eq
    intro i
    rw [Nat.testBit_and, maskL_bit xs i h]
    by_cases hi : ((i : Int)) ∈ xs
    · have := hall _ hi; simp at this; simp [hi, this]
    · simp [hi]

/-- What the program keeps in mind of the set that it has so far. -/
structure Come (A B : Nat → List Int) (n : Nat) (s : Int) (m : Nat) : Prop where
  lt : m < 2 ^ 16
  has : m.testBit s.toNat = true
  only : ∀ i, m.testBit i = true → Rch A B n s (i : Int)

theorem Come.start {A B : Nat → List Int} {n : Nat} {s : Int} (hs : 0 ≤ s ∧ s < 16) : Come A B n s (2 ^ s.toNat) := by
  refine ⟨Nat.pow_lt_pow_right (by decide) (by omega), by simp, fun i hi => ?_⟩
  rw [Nat.testBit_two_pow] at hi
  simp at hi
  have : (i : Int) = s := by omega
  rw [this]; exact .base

theorem Come.more {A B : Nat → List Int} {n : Nat} {s : Int} {m k : Nat} (hA : Small A n) (hB : Small B n) (h : Come A B n s m) (hk : k < n) (hn : maskL (A k) &&& m ≠ 0) : Come A B n s (m ||| maskL (B k)) := by
  obtain ⟨p, hp, hb⟩ := (and_ne_iff fun x hx => (hA k hk x hx).1).mp hn
  have hp0 := hA k hk p hp
  refine ⟨Nat.or_lt_two_pow h.lt (maskL_lt _ fun x hx => (hB k hk x hx).2), by rw [Nat.testBit_or, h.has]; rfl, fun i hi => ?_⟩
  rw [Nat.testBit_or, maskL_bit _ _ fun x hx => (hB k hk x hx).1] at hi
  simp at hi
  rcases hi with hi | hi
  · exact h.only i hi
  · refine .step (p := p) ?_ hk hp hi
    have := h.only _ hb
    rwa [show ((p.toNat : Nat) : Int) = p by omega] at this

theorem come_less {m b : Nat} (hm : m ||| b < 2 ^ 16) (h : ¬ b &&& m = b) : 65536 - (m ||| b) < 65536 - m := by
  have h1 : m ≤ m ||| b := Nat.left_le_or
  have h2 : m ||| b ≠ m := by
    intro e
    apply h
    apply Nat.eq_of_testBit_eq
    intro i
    have : (m ||| b).testBit i = m.testBit i := by rw [e]
    rw [Nat.testBit_or] at this
    rw [Nat.testBit_and]
    cases hb : b.testBit i <;> cases hq : m.testBit i <;> simp_all
  omega

/-- The step leads to nothing new. -/
def Quiet (A B : Nat → List Int) (k m : Nat) : Prop := maskL (A k) &&& m = 0 ∨ maskL (B k) &&& m = maskL (B k)

theorem Come.done {A B : Nat → List Int} {n : Nat} {s : Int} {m : Nat} (hA : Small A n) (hB : Small B n) (h : Come A B n s m) (hq : ∀ k, k < n → Quiet A B k m) : ∀ i, m.testBit i = rchB A B n s i := by
  refine rch_all h.has h.only fun k hk p hp hb q hq' => ?_
  rcases hq k hk with h0 | h0
  · exact absurd h0 ((and_ne_iff fun x hx => (hA k hk x hx).1).mpr ⟨p, hp, hb⟩)
  · exact (sub_iff fun x hx => (hB k hk x hx).1).mp h0 q hq'

theorem andNotW_nat (a b : Nat) : bits .andNot .u16 (a : Int) (b : Int) = (((BitVec.ofNat 16 a) &&& ~~~(BitVec.ofNat 16 b)).toNat : Int) := by
  simp only [bits, BitVec.ofInt_natCast]
  refine wraps_u16 _ (Int.natCast_nonneg _) ?_
  have := ((BitVec.ofNat 16 a) &&& ~~~(BitVec.ofNat 16 b)).isLt
  exact_mod_cast this

theorem andNotW_zero {a b : Nat} (h : a &&& b = a) : bits .andNot .u16 (a : Int) (b : Int) = 0 := by
  rw [andNotW_nat a b]
  have : (BitVec.ofNat 16 a) &&& ~~~(BitVec.ofNat 16 b) = 0#16 := by
    apply BitVec.eq_of_getLsbD_eq
    intro i hi
    have hbit : (a &&& b).testBit i = a.testBit i := by rw [h]
    rw [Nat.testBit_and] at hbit
    rw [BitVec.getLsbD_and, BitVec.getLsbD_not, BitVec.getLsbD_ofNat, BitVec.getLsbD_ofNat]
    cases h1 : a.testBit i
    · simp
    · rw [h1] at hbit
      have : b.testBit i = true := by simpa using hbit
      simp [this, hi]
  rw [this]; rfl

theorem andNotW_ne {a b : Nat} (ha : a < 2 ^ 16) (h : ¬ a &&& b = a) : ¬ bits .andNot .u16 (a : Int) (b : Int) = 0 := by
  rw [andNotW_nat a b]
  intro e
  apply h
  have e' : (BitVec.ofNat 16 a) &&& ~~~(BitVec.ofNat 16 b) = 0#16 := by
    apply BitVec.eq_of_toNat_eq
    simpa using (by exact_mod_cast e : ((BitVec.ofNat 16 a) &&& ~~~(BitVec.ofNat 16 b)).toNat = 0)
  apply Nat.eq_of_testBit_eq
  intro i
  rw [Nat.testBit_and]
  by_cases hi : i < 16
  · have := congrArg (fun x => BitVec.getLsbD x i) e'
    rw [BitVec.getLsbD_and, BitVec.getLsbD_not, BitVec.getLsbD_ofNat, BitVec.getLsbD_ofNat] at this
    cases h1 : a.testBit i
    · rfl
    · rw [h1] at this
      cases h2 : b.testBit i
      · rw [h2] at this; simp [hi] at this
      · rfl
  · rw [Nat.testBit_lt_two_pow (Nat.lt_of_lt_of_le ha (Nat.pow_le_pow_right (by decide) (by omega)))]; rfl


theorem meetW_yes {a m : Nat} (ha : a < 2 ^ 16) (hm : m < 2 ^ 16) (h : a &&& m ≠ 0) : (bits .and .u16 (a : Int) (m : Int) != 0) = true := by
  rw [and_u16 a m ha hm]; simpa using h
theorem meetW_no {a m : Nat} (ha : a < 2 ^ 16) (hm : m < 2 ^ 16) (h : a &&& m = 0) : (bits .and .u16 (a : Int) (m : Int) != 0) = false := by
  rw [and_u16 a m ha hm, h]; rfl
theorem lessW_yes {a m : Nat} (ha : a < 2 ^ 16) (h : ¬ a &&& m = a) : (bits .andNot .u16 (a : Int) (m : Int) != 0) = true := by
  simpa using andNotW_ne ha h
theorem lessW_no {a m : Nat} (h : a &&& m = a) : (bits .andNot .u16 (a : Int) (m : Int) != 0) = false := by
  rw [andNotW_zero h]; rfl

/-- What can be come to, as bits. -/
noncomputable def rchM (A B : Nat → List Int) (n : Nat) (s : Int) : Nat := maskL (nums2 (rchB A B n s) 16)

theorem nums2_mem {f : Nat → Bool} {k : Nat} {x : Int} (h : x ∈ nums2 f k) : 0 ≤ x ∧ x < (k : Int) ∧ f x.toNat = true := by
  unfold nums2 at h
  rw [List.mem_map] at h
  obtain ⟨i, hi, rfl⟩ := h
  rw [List.mem_filter, List.mem_range] at hi
  exact ⟨by omega, by omega, by simpa using hi.2⟩

theorem nums2_in {f : Nat → Bool} {k i : Nat} : ((i : Int)) ∈ nums2 f k ↔ i < k ∧ f i = true := by
  constructor
  · intro h; have := nums2_mem h; simp at this; exact ⟨by omega, this.2⟩
  · intro h; unfold nums2; rw [List.mem_map]; exact ⟨i, by simp [h.1, h.2], rfl⟩

theorem rchM_lt (A B : Nat → List Int) (n : Nat) (s : Int) : rchM A B n s < 2 ^ 16 := maskL_lt _ fun _ hx => (nums2_mem hx).2.1

theorem rchM_bit {A B : Nat → List Int} {n : Nat} {s : Int} (hB : Small B n) (hs : 0 ≤ s ∧ s < 16) (i : Nat) : (rchM A B n s).testBit i = rchB A B n s i := by
  unfold rchM
  rw [maskL_bit _ _ fun x hx => (nums2_mem hx).1]
  rw [Bool.eq_iff_iff, decide_eq_true_iff, nums2_in]
  constructor
  · exact fun h => h.2
  · intro h
    have := (rchB_iff.mp h).small hB hs
    exact ⟨by omega, h⟩

theorem rchM_eq {A B : Nat → List Int} {n : Nat} {s : Int} {m : Nat} (hB : Small B n) (hs : 0 ≤ s ∧ s < 16) (h : ∀ i, m.testBit i = rchB A B n s i) : m = rchM A B n s :=
  Nat.eq_of_testBit_eq fun i => by rw [h, rchM_bit hB hs]
end Go.Proofs.Ytnknhjiofpjbbaa
