/- Contracts that the proof stands on, one behind the other. -/
import Derived.Test.YtajcmamapmeglaaP20
import Derived.WalkMore
import Derived.ScopeJumps
import Derived.Deep.RegionHeld3
import Derived.BigFrame
/- Ways: what can be come to, as a set that is found step by step. -/
namespace Go.Proofs.Ytajcmamapmeglaa
open Go.RowKit

/-- What can be come to from s, where each of n steps leads from any one of A to all of B. -/
inductive Rch (A B : Nat → List Int) (n : Nat) (s : Int) : Int → Prop
  | base : Rch A B n s s
  | step {p q : Int} {k : Nat} : Rch A B n s p → k < n → p ∈ A k → q ∈ B k → Rch A B n s q

open Classical in
noncomputable def rchB (A B : Nat → List Int) (n : Nat) (s : Int) (i : Nat) : Bool := decide (Rch A B n s (i : Int))

theorem rchB_iff {A B : Nat → List Int} {n : Nat} {s : Int} {i : Nat} : rchB A B n s i = true ↔ Rch A B n s (i : Int) := by
  unfold rchB; simp

/-- All lists lie within 0..15. -/
def Small (A : Nat → List Int) (n : Nat) : Prop := ∀ k, k < n → ∀ x ∈ A k, 0 ≤ x ∧ x < 16

theorem Rch.small {A B : Nat → List Int} {n : Nat} {s p : Int} (hB : Small B n) (hs : 0 ≤ s ∧ s < 16) (h : Rch A B n s p) : 0 ≤ p ∧ p < 16 := by
  induction h with
  | base => exact hs
  | step _ hk _ hq _ => exact hB _ hk _ hq

/-- A set that holds s, nothing but what can be come to, and all that a step leads to, is what can be come to. -/
theorem rch_all {A B : Nat → List Int} {n : Nat} {s : Int} {S : Nat → Bool}
    (h0 : S s.toNat = true) (h1 : ∀ i, S i = true → Rch A B n s (i : Int))
    (h2 : ∀ k, k < n → ∀ p ∈ A k, S p.toNat = true → ∀ q ∈ B k, S q.toNat = true) (i : Nat) : S i = rchB A B n s i := by
  have key : ∀ p, Rch A B n s p → S p.toNat = true := by
    intro p hp
    induction hp with
    | base => exact h0
    | step hp hk hpa hq ih => exact h2 _ hk _ hpa ih _ hq
  rw [Bool.eq_iff_iff, rchB_iff]
  constructor
  · exact h1 i
  · intro h; have := key _ h; simpa using this

theorem and_ne_iff {xs : List Int} {m : Nat} (h : ∀ x ∈ xs, 0 ≤ x) : maskL xs &&& m ≠ 0 ↔ ∃ x ∈ xs, m.testBit x.toNat = true := by
  constructor
  · intro hne
    apply Classical.byContradiction
    intro hno
    apply hne
    apply Nat.eq_of_testBit_eq
    intro i
    rw [Nat.testBit_and, maskL_bit xs i h, Nat.zero_testBit]
    by_cases hi : ((i : Int)) ∈ xs
    · have : ¬ m.testBit i = true := fun hb => hno ⟨i, hi, by simpa using hb⟩
      simp [this]
    · simp [hi]
  · rintro ⟨x, hx, hb⟩ he
    have h1 := maskL_bit xs x.toNat h
    have hx0 := h x hx
    have : (maskL xs &&& m).testBit x.toNat = true := by
      rw [Nat.testBit_and, h1, hb]; simp; rw [show max x 0 = x by omega]; exact hx
    rw [he] at this; simp at this

theorem sub_iff {xs : List Int} {m : Nat} (h : ∀ x ∈ xs, 0 ≤ x) : maskL xs &&& m = maskL xs ↔ ∀ x ∈ xs, m.testBit x.toNat = true := by
  constructor
  · intro he x hx
    have hx0 := h x hx
    have h1 := maskL_bit xs x.toNat h
    have h2 : (maskL xs).testBit x.toNat = true := by rw [h1]; simp; rw [show max x 0 = x by omega]; exact hx
    rw [← he, Nat.testBit_and] at h2
    simp at h2; exact h2.2
  · intro hall
    apply Nat.eq_of_testBit_eq
    intro i
    rw [Nat.testBit_and, maskL_bit xs i h]
    by_cases hi : ((i : Int)) ∈ xs
    · have := hall _ hi; simp at this; simp [hi, this]
    · simp [hi]

/-- What the program keeps in mind of the set that it has so far. -/
structure Come (A B : Nat → List Int) (n : Nat) (s : Int) (m : Nat) : Prop where
  lt : m < 2 ^ 16
  has : m.testBit s.toNat = true
  only : ∀ i, m.testBit i = true → Rch A B n s (i : Int)

theorem Come.start {A B : Nat → List Int} {n : Nat} {s : Int} (hs : 0 ≤ s ∧ s < 16) : Come A B n s (2 ^ s.toNat) := by
  refine ⟨Nat.pow_lt_pow_right (by decide) (by omega), by simp, fun i hi => ?_⟩
  rw [Nat.testBit_two_pow] at hi
  simp at hi
  have : (i : Int) = s := by omega
  rw [this]; exact .base

theorem Come.more {A B : Nat → List Int} {n : Nat} {s : Int} {m k : Nat} (hA : Small A n) (hB : Small B n) (h : Come A B n s m) (hk : k < n) (hn : maskL (A k) &&& m ≠ 0) : Come A B n s (m ||| maskL (B k)) := by
  obtain ⟨p, hp, hb⟩ := (and_ne_iff fun x hx => (hA k hk x hx).1).mp hn
  have hp0 := hA k hk p hp
  refine ⟨Nat.or_lt_two_pow h.lt (maskL_lt _ fun x hx => (hB k hk x hx).2), by rw [Nat.testBit_or, h.has]; rfl, fun i hi => ?_⟩
  rw [Nat.testBit_or, maskL_bit _ _ fun x hx => (hB k hk x hx).1] at hi
  simp at hi
  rcases hi with hi | hi
  · exact h.only i hi
  · refine .step (p := p) ?_ hk hp hi
    have := h.only _ hb
    rwa [show ((p.toNat : Nat) : Int) = p by omega] at this

theorem come_less {m b : Nat} (hm : m ||| b < 2 ^ 16) (h : ¬ b &&& m = b) : 65536 - (m ||| b) < 65536 - m := by
  have h1 : m ≤ m ||| b := Nat.left_le_or
  have h2 : m ||| b ≠ m := by
    intro e
    apply h
    apply Nat.eq_of_testBit_eq
    intro i
    have : (m ||| b).testBit i = m.testBit i := by rw [e]
    rw [Nat.testBit_or] at this
    rw [Nat.testBit_and]
    cases hb : b.testBit i <;> cases hq : m.testBit i <;> simp_all
  omega

/-- The step leads to nothing new. -/
def Quiet (A B : Nat → List Int) (k m : Nat) : Prop := maskL (A k) &&& m = 0 ∨ maskL (B k) &&& m = maskL (B k)

theorem Come.done {A B : Nat → List Int} {n : Nat} {s : Int} {m : Nat} (hA : Small A n) (hB : Small B n) (h : Come A B n s m) (hq : ∀ k, k < n → Quiet A B k m) : ∀ i, m.testBit i = rchB A B n s i := by
  refine rch_all h.has h.only fun k hk p hp hb q hq' => ?_
  rcases hq k hk with h0 | h0
  · exact absurd h0 ((and_ne_iff fun x hx => (hA k hk x hx).1).mpr ⟨p, hp, hb⟩)
  · exact (sub_iff fun x hx => (hB k hk x hx).1).mp h0 q hq'

theorem andNotW_nat (a b : Nat) : bits .andNot .u16 (a : Int) (b : Int) = (((BitVec.ofNat 16 a) &&& ~~~(BitVec.ofNat 16 b)).toNat : Int) := by
  simp only [bits, BitVec.ofInt_natCast]
  refine wraps_u16 _ (Int.natCast_nonneg _) ?_
  have := ((BitVec.ofNat 16 a) &&& ~~~(BitVec.ofNat 16 b)).isLt
  exact_mod_cast this

theorem andNotW_zero {a b : Nat} (h : a &&& b = a) : bits .andNot .u16 (a : Int) (b : Int) = 0 := by
  rw [andNotW_nat a b]
  have : (BitVec.ofNat 16 a) &&& ~~~(BitVec.ofNat 16 b) = 0#16 := by
    apply BitVec.eq_of_getLsbD_eq
    intro i hi
    have hbit : (a &&& b).testBit i = a.testBit i := by rw [h]
    rw [Nat.testBit_and] at hbit
    rw [BitVec.getLsbD_and, BitVec.getLsbD_not, BitVec.getLsbD_ofNat, BitVec.getLsbD_ofNat]
    cases h1 : a.testBit i
    · simp
    · rw [h1] at hbit
      have : b.testBit i = true := by simpa using hbit
      simp [this, hi]
  rw [this]; rfl

theorem andNotW_ne {a b : Nat} (ha : a < 2 ^ 16) (h : ¬ a &&& b = a) : ¬ bits .andNot .u16 (a : Int) (b : Int) = 0 := by
  rw [andNotW_nat a b]
  intro e
  apply h
  have e' : (BitVec.ofNat 16 a) &&& ~~~(BitVec.ofNat 16 b) = 0#16 := by
    apply BitVec.eq_of_toNat_eq
    simpa using (by exact_mod_cast e : ((BitVec.ofNat 16 a) &&& ~~~(BitVec.ofNat 16 b)).toNat = 0)
  apply Nat.eq_of_testBit_eq
  intro i
  rw [Nat.testBit_and]
  by_cases hi : i < 16
  · have := congrArg (fun x => BitVec.getLsbD x i) e'
    rw [BitVec.getLsbD_and, BitVec.getLsbD_not, BitVec.getLsbD_ofNat, BitVec.getLsbD_ofNat] at this
    cases h1 : a.testBit i
    · rfl
    · rw [h1] at this
      cases h2 : b.testBit i
      · rw [h2] at this; simp [hi] at this
      · rfl
  · rw [Nat.testBit_lt_two_pow (Nat.lt_of_lt_of_le ha (Nat.pow_le_pow_right (by decide) (by omega)))]; rfl


theorem meetW_yes {a m : Nat} (ha : a < 2 ^ 16) (hm : m < 2 ^ 16) (h : a &&& m ≠ 0) : (bits .and .u16 (a : Int) (m : Int) != 0) = true := by
  rw [and_u16 a m ha hm]; simpa using h
theorem meetW_no {a m : Nat} (ha : a < 2 ^ 16) (hm : m < 2 ^ 16) (h : a &&& m = 0) : (bits .and .u16 (a : Int) (m : Int) != 0) = false := by
  rw [and_u16 a m ha hm, h]; rfl
theorem lessW_yes {a m : Nat} (ha : a < 2 ^ 16) (h : ¬ a &&& m = a) : (bits .andNot .u16 (a : Int) (m : Int) != 0) = true := by
  simpa using andNotW_ne ha h
theorem lessW_no {a m : Nat} (h : a &&& m = a) : (bits .andNot .u16 (a : Int) (m : Int) != 0) = false := by
  rw [andNotW_zero h]; rfl

/-- What can be come to, as bits. -/
noncomputable def rchM (A B : Nat → List Int) (n : Nat) (s : Int) : Nat := maskL (nums2 (rchB A B n s) 16)

theorem nums2_mem {f : Nat → Bool} {k : Nat} {x : Int} (h : x ∈ nums2 f k) : 0 ≤ x ∧ x < (k : Int) ∧ f x.toNat = true := by
  unfold nums2 at h
  rw [List.mem_map] at h
  obtain ⟨i, hi, rfl⟩ := h
  rw [List.mem_filter, List.mem_range] at hi
  exact ⟨by omega, by omega, by simpa using hi.2⟩

theorem nums2_in {f : Nat → Bool} {k i : Nat} : ((i : Int)) ∈ nums2 f k ↔ i < k ∧ f i = true := by
  constructor
  · intro h; have := nums2_mem h; simp at this; exact ⟨by omega, this.2⟩
  · intro h; unfold nums2; rw [List.mem_map]; exact ⟨i, by simp [h.1, h.2], rfl⟩

theorem rchM_lt (A B : Nat → List Int) (n : Nat) (s : Int) : rchM A B n s < 2 ^ 16 := maskL_lt _ fun _ hx => (nums2_mem hx).2.1

theorem rchM_bit {A B : Nat → List Int} {n : Nat} {s : Int} (hB : Small B n) (hs : 0 ≤ s ∧ s < 16) (i : Nat) : (rchM A B n s).testBit i = rchB A B n s i := by
  unfold rchM
  rw [maskL_bit _ _ fun x hx => (nums2_mem hx).1]
  rw [Bool.eq_iff_iff, decide_eq_true_iff, nums2_in]
  constructor
  · exact fun h => h.2
  · intro h
    have := (rchB_iff.mp h).small hB hs
    exact ⟨by omega, h⟩

theorem rchM_eq {A B : Nat → List Int} {n : Nat} {s : Int} {m : Nat} (hB : Small B n) (hs : 0 ≤ s ∧ s < 16) (h : ∀ i, m.testBit i = rchB A B n s i) : m = rchM A B n s :=
  Nat.eq_of_testBit_eq fun i => by rw [h, rchM_bit hB hs]
end Go.Proofs.Ytajcmamapmeglaa


/- What can be come to, as the specification marks it: l3Forward and l3Back. -/
namespace Go.Proofs.Ytajcmamapmeglaa
open Go.RowKit
set_option maxRecDepth 10000

/-- A block of n truths. -/
def BoolRow (w : World) (b n : Nat) (f : Nat → Bool) : Prop :=
  ∃ C : Array Value, w.heap[b]? = some (.cells C 4 (0, 0)) ∧ C.size = n ∧ ∀ i, i < n → C[i]? = some (.bool (f i))

theorem BoolRow.grow {w w' : World} {b n : Nat} {f : Nat → Bool} (h : BoolRow w b n f) (hb : Below w.heap.size w w') : BoolRow w' b n f := by
  obtain ⟨C, h1, h2, h3⟩ := h
  exact ⟨C, (hb.block b (Array.getElem?_eq_some_iff.mp h1).1).trans h1, h2, h3⟩

theorem BoolRow.cell {w : World} {b n i : Nat} {f : Nat → Bool} (h : BoolRow w b n f) (hi : i < n) : w.cell? ⟨b, i, none⟩ = some (.bool (f i)) ∧ w.frozen? ⟨b, i, none⟩ = false := by
  obtain ⟨C, h1, h2, h3⟩ := h
  exact ⟨(cell_of_row w b i C _ _ h1).trans (h3 i hi), frozen_of_row w b i C _ h1⟩

theorem BoolRow.lt {w : World} {b n : Nat} {f : Nat → Bool} (h : BoolRow w b n f) : b < w.heap.size := by
  obtain ⟨C, h1, _⟩ := h
  exact (Array.getElem?_eq_some_iff.mp h1).1

theorem BoolRow.other {w : World} {b n g o : Nat} {f : Nat → Bool} (h : BoolRow w b n f) (hg : b ≠ g) (v : Value) : BoolRow (w.setCell ⟨g, o, none⟩ v) b n f := by
  obtain ⟨C, h1, h2, h3⟩ := h
  exact ⟨C, (Below.heap_setCell _ _ _ _ hg).trans h1, h2, h3⟩

/-- The place i is marked. -/
def markB (f : Nat → Bool) (i j : Nat) : Bool := f j || decide (j = i)

theorem BoolRow.set {w : World} {b n i : Nat} {f : Nat → Bool} (h : BoolRow w b n f) (hi : i < n) : BoolRow (w.setCell ⟨b, i, none⟩ (.bool true)) b n (markB f i) := by
  obtain ⟨C, h1, h2, h3⟩ := h
  refine ⟨C.setIfInBounds i (.bool true), ?_, by simp [h2], fun j hj => ?_⟩
  · exact heap_setCell_same _ _ _ _ _ _ h1
  · rw [Array.getElem?_setIfInBounds]
    unfold markB
    by_cases e : i = j
    · subst e; simp [h2, hi]
    · rw [if_neg e, h3 j hj]; simp [show ¬ j = i by omega]

theorem made_bool (w : World) (n : Nat) : BoolRow (w.alloc (.cells (madeCells #[.bool false] n) 4)) w.heap.size n (fun _ => false) := by
  refine ⟨_, heap_alloc_new _ _, by rw [size_madeCells], fun i hi => ?_⟩
  simp [madeCells, hi, Nat.mod_one]

theorem Try.info4w : (Try.prog.info? 4).map (fun i => (i.zero, i.size, i.bytes)) = some (some (.bool false), 1, 1) := by kernel_rfl

/-- How many of the n truths in block b are so. -/
def cntW (w : World) (b n : Nat) : Nat := ((List.range n).filter fun i => match w.cell? ⟨b, i, none⟩ with | some (.bool true) => true | _ => false).length
def cntB (g : Nat → Bool) (n : Nat) : Nat := ((List.range n).filter g).length

theorem cntW_eq {w : World} {b n : Nat} {g : Nat → Bool} (h : BoolRow w b n g) : cntW w b n = cntB g n := by
  unfold cntW cntB
  congr 1
  apply List.filter_congr
  intro i hi
  rw [(h.cell (by simpa using hi)).1]
  cases g i <;> rfl

theorem cntB_le (g : Nat → Bool) (n : Nat) : cntB g n ≤ n := by
  unfold cntB
  have := List.length_filter_le g (List.range n)
  simpa using this

theorem cntB_mark {g : Nat → Bool} {n k : Nat} (hk : k < n) (h : g k = false) : cntB g n < cntB (markB g k) n := by
  unfold cntB
  induction n with
  | zero => omega
  | succ n ih =>
    rw [List.range_succ, List.filter_append, List.filter_append, List.length_append, List.length_append]
    by_cases e : k = n
    · subst e
      have h1 : (List.range k).filter (markB g k) = (List.range k).filter g := by
        apply List.filter_congr
        intro i hi
        have : i < k := by simpa using hi
        unfold markB; simp [show ¬ i = k by omega]
      rw [h1]; simp [h, markB]
    · have := ih (by omega)
      have h2 : [n].filter (markB g k) = [n].filter g := by
        have : markB g k n = g n := by unfold markB; simp [show ¬ n = k by omega]
        simp [List.filter, this]
      rw [h2]; omega

/-- The places of a list are marked. -/
def markL (f : Nat → Bool) (xs : List Int) (i : Nat) : Bool := f i || decide ((i : Int) ∈ xs)

theorem markL_nil (f : Nat → Bool) : markL f [] = f := by funext i; simp [markL]
theorem markL_snoc {f : Nat → Bool} {xs : List Int} {j : Nat} : markB (markL f xs) j = markL f (xs ++ [(j : Int)]) := by
  funext i
  unfold markB markL
  rw [Bool.or_assoc]
  congr 1
  rw [Bool.eq_iff_iff]
  simp only [Bool.or_eq_true, decide_eq_true_iff, List.mem_append, List.mem_singleton]
  constructor
  · rintro (h | h)
    · exact .inl h
    · exact .inr (by omega)
  · rintro (h | h)
    · exact .inl h
    · exact .inr (by omega)

/-- What the marks are like. -/
structure FwM (A D : Nat → List Int) (p n : Nat) (s : Int) (f g : Nat → Bool) : Prop where
  has : f s.toNat = true
  only : ∀ i, i < p → f i = true → Rch A D n s (i : Int)
  tra : ∀ k, k < n → g k = true → (∃ x ∈ A k, f x.toNat = true) ∧ ∀ q ∈ D k, f q.toNat = true

def Within (A : Nat → List Int) (p n : Nat) : Prop := ∀ k, k < n → ∀ x ∈ A k, 0 ≤ x ∧ x < (p : Int)

theorem FwM.more {A D : Nat → List Int} {p n k : Nat} {s : Int} {f g : Nat → Bool} (h : FwM A D p n s f g) (hA : Within A p n) (hD : Within D p n) (hk : k < n) {x : Int} (hx : x ∈ A k) (hf : f x.toNat = true) : FwM A D p n s (markL f (D k)) (markB g k) := by
  have up : ∀ i, f i = true → markL f (D k) i = true := fun i hi => by unfold markL; rw [hi]; rfl
  have hxr := hA k hk x hx
  refine ⟨up _ h.has, fun i hi hm => ?_, fun j hj hg => ?_⟩
  · unfold markL at hm
    rw [Bool.or_eq_true, decide_eq_true_iff] at hm
    rcases hm with hm | hm
    · exact h.only i hi hm
    · refine .step (p := x) ?_ hk hx hm
      have := h.only x.toNat (by omega) hf
      rwa [show ((x.toNat : Nat) : Int) = x by omega] at this
  · unfold markB at hg
    rw [Bool.or_eq_true, decide_eq_true_iff] at hg
    rcases hg with hg | rfl
    · obtain ⟨⟨y, hy, hfy⟩, h2⟩ := h.tra j hj hg
      exact ⟨⟨y, hy, up _ hfy⟩, fun q hq => up _ (h2 q hq)⟩
    · refine ⟨⟨x, hx, up _ hf⟩, fun q hq => ?_⟩
      unfold markL
      have hq0 := hD j hj q hq
      simp [show max q 0 = q by omega, hq]

/-- Nothing more can be marked by k. -/
def Rest (A : Nat → List Int) (f g : Nat → Bool) (k : Nat) : Prop := g k = true ∨ ∀ x ∈ A k, f x.toNat = false

noncomputable def rchT (A D : Nat → List Int) (n : Nat) (s : Int) (k : Nat) : Bool := (A k).any fun x => rchB A D n s x.toNat

theorem FwM.done {A D : Nat → List Int} {p n : Nat} {s : Int} {f g : Nat → Bool} (h : FwM A D p n s f g) (hA : Within A p n) (hD : Within D p n) (hs : 0 ≤ s ∧ s < (p : Int)) (hr : ∀ k, k < n → Rest A f g k) :
    (∀ i, i < p → f i = rchB A D n s i) ∧ ∀ k, k < n → g k = rchT A D n s k := by
  have h1 : ∀ i, (decide (i < p) && f i) = rchB A D n s i := by
    refine rch_all ?_ ?_ ?_
    · simp [h.has]; omega
    · intro i hi
      rw [Bool.and_eq_true, decide_eq_true_iff] at hi
      exact h.only i hi.1 hi.2
    · intro k hk x hx hf q hq
      rw [Bool.and_eq_true, decide_eq_true_iff] at hf
      have hq' := hD k hk q hq
      rcases hr k hk with hg | hg
      · simp [(h.tra k hk hg).2 q hq]; omega
      · rw [hg x hx] at hf; simp at hf
  have h2 : ∀ i, i < p → f i = rchB A D n s i := fun i hi => by rw [← h1 i]; simp [hi]
  refine ⟨h2, fun k hk => ?_⟩
  rw [Bool.eq_iff_iff]
  unfold rchT
  rw [List.any_eq_true]
  constructor
  · intro hg
    obtain ⟨⟨x, hx, hf⟩, _⟩ := h.tra k hk hg
    have := hA k hk x hx
    exact ⟨x, hx, by rw [← h2 _ (by omega)]; exact hf⟩
  · rintro ⟨x, hx, hf⟩
    have := hA k hk x hx
    rw [← h2 _ (by omega)] at hf
    rcases hr k hk with hg | hg
    · exact hg
    · rw [hg x hx] at hf; simp at hf

theorem FwM.start {A D : Nat → List Int} {p n : Nat} {s : Int} (hs : 0 ≤ s) : FwM A D p n s (markB (fun _ => false) s.toNat) (fun _ => false) := by
  refine ⟨by simp [markB], fun i _ hi => ?_, fun k _ hk => by simp at hk⟩
  simp [markB] at hi
  rw [show ((i : Nat) : Int) = s by omega]; exact .base

/-- What l3Forward and l3Back keep in mind. -/
structure FwInv (w wr : World) (p : Nat) (a : Option Addr) (n c : Nat) (f g : Nat → Bool) : Prop where
  par : wr.heap[w.heap.size]? = some (.cells #[.int .i64 (p : Int), .slice a n c] 26 (0, 0))
  pl : BoolRow wr (w.heap.size + 1) p f
  tr : BoolRow wr (w.heap.size + 1 + 1) n g
  bel : Below w.heap.size w wr

theorem FwInv.grow {w wr v : World} {p n c : Nat} {a : Option Addr} {f g : Nat → Bool} (h : FwInv w wr p a n c f g) (hb : Below wr.heap.size wr v) : FwInv w v p a n c f g :=
  ⟨keep h.par hb, h.pl.grow hb, h.tr.grow hb, h.bel.trans (hb.mono h.bel.size)⟩

theorem FwInv.setP {w wr : World} {p n c i : Nat} {a : Option Addr} {f g : Nat → Bool} (h : FwInv w wr p a n c f g) (hi : i < p) : FwInv w (wr.setCell ⟨w.heap.size + 1, i, none⟩ (.bool true)) p a n c (markB f i) g :=
  ⟨(Below.heap_setCell _ _ _ _ (by simp)).trans h.par, h.pl.set hi, h.tr.other (by omega) _, h.bel.setCell (by simp) _⟩

theorem FwInv.setT {w wr : World} {p n c i : Nat} {a : Option Addr} {f g : Nat → Bool} (h : FwInv w wr p a n c f g) (hi : i < n) : FwInv w (wr.setCell ⟨w.heap.size + 1 + 1, i, none⟩ (.bool true)) p a n c f (markB g i) :=
  ⟨(Below.heap_setCell _ _ _ _ (by simp; omega)).trans h.par, h.pl.other (by omega) _, h.tr.set hi, h.bel.setCell (by simp; omega) _⟩

theorem made_boolS (w : World) (n s : Nat) (hs : s < n) : BoolRow (w.alloc (.cells ((madeCells #[.bool false] n).setIfInBounds s (.bool true)) 4)) w.heap.size n (markB (fun _ => false) s) := by
  refine ⟨_, heap_alloc_new _ _, by simp [size_madeCells], fun i hi => ?_⟩
  rw [Array.getElem?_setIfInBounds]
  unfold markB
  by_cases e : s = i
  · subst e; simp [size_madeCells, hs]
  · rw [if_neg e]; simp [madeCells, hi, Nat.mod_one]; omega

theorem FwInv.start (w : World) (p n c s : Nat) (a : Option Addr) (hs : s < p) : FwInv w (((w.alloc (.cells #[.int .i64 (p : Int), .slice a n c] 26)).alloc (.cells ((madeCells #[.bool false] p).setIfInBounds s (.bool true)) 4)).alloc (.cells (madeCells #[.bool false] n) 4)) p a n c (markB (fun _ => false) s) (fun _ => false) := by
  have h1 := made_boolS (w.alloc (.cells #[.int .i64 (p : Int), .slice a n c] 26)) p s hs
  have h2 := made_bool ((w.alloc (.cells #[.int .i64 (p : Int), .slice a n c] 26)).alloc (.cells ((madeCells #[.bool false] p).setIfInBounds s (.bool true)) 4)) n
  rw [show (w.alloc (.cells #[.int .i64 (p : Int), .slice a n c] 26)).heap.size = w.heap.size + 1 by simp] at h1
  rw [show ((w.alloc (.cells #[.int .i64 (p : Int), .slice a n c] 26)).alloc (.cells ((madeCells #[.bool false] p).setIfInBounds s (.bool true)) 4)).heap.size = w.heap.size + 1 + 1 by simp] at h2
  refine ⟨?_, h1.grow (below_al _ _), h2, ?_⟩
  · exact keep (keep (heap_alloc_new _ _) (below_al _ _)) (below_al _ _)
  · exact ((below_al w _).alloc (by simp) _).alloc (by simp; omega) _

/-- How l3Forward and l3Back end. -/
def FwEnd (F : Nat → Bool) (G : Nat → Bool) (p n : Nat) (w : World) (e : Ending) (w' : World) : Prop :=
  ∃ b1 b2, e = .returned (.tuple #[.slice (some ⟨b1, 0, none⟩) p p, .slice (some ⟨b2, 0, none⟩) n n]) ∧ BoolRow w' b1 p F ∧ BoolRow w' b2 n G ∧ Below w.heap.size w w'

theorem BoolRow.same {w : World} {b n : Nat} {f g : Nat → Bool} (h : BoolRow w b n f) (e : ∀ i, i < n → f i = g i) : BoolRow w b n g := by
  obtain ⟨C, h1, h2, h3⟩ := h
  exact ⟨C, h1, h2, fun i hi => by rw [← e i hi]; exact h3 i hi⟩
end Go.Proofs.Ytajcmamapmeglaa


/- l3Forward and l3Back of the specification. -/
namespace Go.Proofs.Ytajcmamapmeglaa
open Go.RowKit
set_option maxRecDepth 10000

theorem ret_2b {b1 b2 p n : Nat} {F G : Nat → Bool} {w w' : World} (h1 : BoolRow w' b1 p F) (h2 : BoolRow w' b2 n G) (hb : Below w.heap.size w w') : FwEnd F G p n w (.returned (.tuple #[.slice (some ⟨b1, 0, none⟩) p p, .slice (some ⟨b2, 0, none⟩) n n])) w' :=
  ⟨b1, b2, rfl, h1, h2, hb⟩

def moreOf : Value → Nat | .bool true => 1 | _ => 0

theorem any_take {f : Nat → Bool} {xs : List Int} {k : Nat} {x : Int} (h : xs[k]? = some x) : (xs.take (k + 1)).any (fun x => f x.toNat) = ((xs.take k).any (fun x => f x.toNat) || f x.toNat) := by
  rw [List.take_add_one, h, List.any_append]; simp

end Go.Proofs.Ytajcmamapmeglaa


/- walk of the program: the places that can be come to, by a goto. -/
namespace Go.Proofs.Ytajcmamapmeglaa
open Go.RowKit
set_option maxRecDepth 10000

theorem PartS.atW {w : World} {B n k : Nat} {L : List (List Int)} (h : PartS w B (3 * n) (3 * n) L) (hk : k < n) :
    w.cell? ⟨B, k * 3, none⟩ = some (.int .u16 (maskL (L.getD (3 * k) []) : Int)) ∧ w.cell? ⟨B, k * 3 + 1, none⟩ = some (.int .u16 (maskL (L.getD (3 * k + 1) []) : Int)) ∧ w.cell? ⟨B, k * 3 + 2, none⟩ = some (.int .u16 (maskL (L.getD (3 * k + 2) []) : Int)) := by
  obtain ⟨C, h1, h2, h3⟩ := h
  refine ⟨?_, ?_, ?_⟩
  · rw [cell_of_row w B _ C _ _ h1, Nat.mul_comm]; exact h3 _ (by omega)
  · rw [cell_of_row w B _ C _ _ h1, Nat.mul_comm]; exact h3 _ (by omega)
  · rw [cell_of_row w B _ C _ _ h1, Nat.mul_comm]; exact h3 _ (by omega)

theorem aheadW_any (s0 s1 s2 : Int) (w : World) :
    Calls Try.prog 136 #[.agg #[.int .u16 s0, .int .u16 s1, .int .u16 s2]] w fun e w' => e = .returned (.int .u16 s0) ∧ Below w.heap.size w w' := by
  go_enter Try.func136, Try.ntmps136
  go_wp2_with fail
  go_ret
  exact ⟨rfl, below_al _ _⟩

theorem behind_any (s0 s1 s2 : Int) (w : World) :
    Calls Try.prog 135 #[.agg #[.int .u16 s0, .int .u16 s1, .int .u16 s2]] w fun e w' => e = .returned (.int .u16 s1) ∧ Below w.heap.size w w' := by
  go_enter Try.func135, Try.ntmps135
  go_wp2_with fail
  go_ret
  exact ⟨rfl, below_al _ _⟩

theorem wp_scope_jumps2 {P : Program} {a : Act} {w : World} {Q : Exit → Act → World → Prop} {c rest : Code} (l : Nat) (J : Act → World → Prop) (μ : Act → World → Nat) (hf : findLabel c l = some (Code.skip.seq rest))
    (first : c.wp P (Exit.jump l J Q) a w)
    (pass : ∀ a w, J a w → rest.wp P (Exit.jump l (fun a' w' => J a' w' ∧ μ a' w' < μ a w) Q) a w) : (Code.scope c).wp P Q a w :=
  wp_scope_jumps l J μ hf first fun a w h => wp_seq (wp_skip (pass a w h))

theorem ret_u16 {a b : Nat} (h : a = b) : Ending.returned (.int .u16 (a : Int)) = .returned (.int .u16 (b : Int)) := by rw [h]

/-- What walk keeps in mind at the label. -/
structure WkInv (w wr : World) (p : Int) (B n m : Nat) (A D : Nat → List Int) (s : Int) : Prop where
  par : wr.heap[w.heap.size]? = some (.cells #[.int .i64 p, .slice (some ⟨B, 0, none⟩) n n] 59 (0, 0))
  bel : Below w.heap.size w wr
  come : Come A D n s m

end Go.Proofs.Ytajcmamapmeglaa


/- waysOf of the program, and what is asked of a step. -/
namespace Go.Proofs.Ytajcmamapmeglaa
open Go.RowKit
set_option maxRecDepth 10000

def inL (L : List (List Int)) (k : Nat) : List Int := L.getD (3 * k) []
def outL (L : List (List Int)) (k : Nat) : List Int := L.getD (3 * k + 1) []

noncomputable def fthM (n : Nat) (L : List (List Int)) (s : Int) : Nat := rchM (inL L) (outL L) n s
noncomputable def bckM (n : Nat) (L : List (List Int)) (t : Int) : Nat := rchM (outL L) (inL L) n t

theorem netOk_parts {p : Int} {n : Nat} {L : List (List Int)} (h : netOk p n L = true) : (1 ≤ p ∧ p ≤ 16) ∧ n ≤ 24 ∧ ∀ k, k < n → tri3Ok p (L.getD (3 * k) []) (L.getD (3 * k + 1) []) (L.getD (3 * k + 2) []) = true := by
  unfold netOk at h
  simp only [Bool.and_eq_true] at h
  refine ⟨?_, ?_, fun k hk => ?_⟩
  · have := h.1.1; simp [inB] at this; omega
  · simpa using h.1.2
  · have := List.all_eq_true.mp h.2 k (by simpa using hk)
    rwa [triOk_eq] at this

theorem tri3_rise {p : Int} {x0 x1 x2 : List Int} (h : tri3Ok p x0 x1 x2 = true) : riseB x0 0 (p - 1) = true ∧ riseB x1 0 (p - 1) = true ∧ riseB x2 0 (p - 1) = true := by
  unfold tri3Ok at h
  simp only [Bool.and_eq_true] at h
  exact ⟨h.1.1.2, h.1.2, h.2⟩

theorem netOk_mem {p : Int} {n : Nat} {L : List (List Int)} (h : netOk p n L = true) {k : Nat} (hk : k < n) :
    (∀ x ∈ inL L k, 0 ≤ x ∧ x < p) ∧ (∀ x ∈ outL L k, 0 ≤ x ∧ x < p) ∧ (∀ x ∈ L.getD (3 * k + 2) [], 0 ≤ x ∧ x < p) := by
  obtain ⟨_, _, h3⟩ := netOk_parts h
  obtain ⟨r0, r1, r2⟩ := tri3_rise (h3 k hk)
  refine ⟨fun x hx => ?_, fun x hx => ?_, fun x hx => ?_⟩
  · have := riseB_mem r0 x hx; omega
  · have := riseB_mem r1 x hx; omega
  · have := riseB_mem r2 x hx; omega

theorem small_in {p : Int} {n : Nat} {L : List (List Int)} (h : netOk p n L = true) : Small (inL L) n := fun k hk x hx => by
  have := (netOk_mem h hk).1 x hx
  have := (netOk_parts h).1
  omega
theorem small_out {p : Int} {n : Nat} {L : List (List Int)} (h : netOk p n L = true) : Small (outL L) n := fun k hk x hx => by
  have := (netOk_mem h hk).2.1 x hx
  have := (netOk_parts h).1
  omega

theorem ret_b {a b : Bool} (h : a = b) : Ending.returned (.bool a) = .returned (.bool b) := by rw [h]

/-- Whether a net is good and two numbers are places of it. -/
def wayOk (p : Int) (n : Nat) (L : List (List Int)) (s t : Int) : Bool := netOk p n L && inB s 0 (p - 1) && inB t 0 (p - 1)

/-- How waysOf ends. -/
def WayEnd (g : Bool) (p : Int) (n : Nat) (L : List (List Int)) (s t : Int) (w : World) (e : Ending) (w' : World) : Prop :=
  ∃ p' a m c F K, e = .returned (.tuple #[.agg #[.int .i64 p', .slice a m c, .int .u16 ((F : Nat) : Int), .int .u16 ((K : Nat) : Int)], .bool g]) ∧
    Hid (g = true → p' = p ∧ m = n ∧ c = n ∧ F = fthM n L s ∧ K = bckM n L t ∧ ∃ B, a = some ⟨B, 0, none⟩ ∧ w.heap.size ≤ B ∧ PartS w' B (3 * n) (3 * n) L) ∧ Below w.heap.size w w'

theorem wayEnd_no {p : Int} {n : Nat} {L : List (List Int)} {s t : Int} {w w' : World} (h : wayOk p n L s t = false) (hb : Below w.heap.size w w') :
    WayEnd (wayOk p n L s t) p n L s t w (.returned (.tuple #[.agg #[.int .i64 0, .slice none 0 0, .int .u16 0, .int .u16 0], .bool false])) w' :=
  ⟨0, none, 0, 0, 0, 0, by rw [h]; rfl, by rw [h]; intro e; simp at e, hb⟩

theorem cells4 {w : World} {b : Nat} {v0 v1 v2 v3 : Value} {T : TypeId} (h : w.heap[b]? = some (.cells #[v0, v1, v2, v3] T (0, 0))) :
    (w.cell? ⟨b, 0, none⟩ = some v0 ∧ w.cell? ⟨b, 1, none⟩ = some v1 ∧ w.cell? ⟨b, 2, none⟩ = some v2 ∧ w.cell? ⟨b, 3, none⟩ = some v3) ∧
    (w.frozen? ⟨b, 0, none⟩ = false ∧ w.frozen? ⟨b, 1, none⟩ = false ∧ w.frozen? ⟨b, 2, none⟩ = false ∧ w.frozen? ⟨b, 3, none⟩ = false) :=
  ⟨⟨cell_of_row w b 0 _ _ _ h, cell_of_row w b 1 _ _ _ h, cell_of_row w b 2 _ _ _ h, cell_of_row w b 3 _ _ _ h⟩,
   ⟨frozen_of_row w b 0 _ _ h, frozen_of_row w b 1 _ _ h, frozen_of_row w b 2 _ _ h, frozen_of_row w b 3 _ _ h⟩⟩

theorem below_set4 {B : Nat} {a w : World} (h : Below B a w) {g : Nat} (hg : B ≤ g) (v0 v1 v2 v3 : Value) :
    Below B a ((((w.setCell ⟨g, 0, none⟩ v0).setCell ⟨g, 1, none⟩ v1).setCell ⟨g, 2, none⟩ v2).setCell ⟨g, 3, none⟩ v3) :=
  (((h.setCell (by simpa using hg) _).setCell (by simpa using hg) _).setCell (by simpa using hg) _).setCell (by simpa using hg) _

theorem PartS.set4 {w : World} {B n k g : Nat} {L : List (List Int)} (h : PartS w B n k L) (hg : B ≠ g) (v0 v1 v2 v3 : Value) : PartS ((((w.setCell ⟨g, 0, none⟩ v0).setCell ⟨g, 1, none⟩ v1).setCell ⟨g, 2, none⟩ v2).setCell ⟨g, 3, none⟩ v3) B n k L :=
  (((h.set_other hg 0 v0).set_other hg 1 v1).set_other hg 2 v2).set_other hg 3 v3

theorem PartS.setRowW {w : World} {B n k g : Nat} {L : List (List Int)} (h : PartS w B n k L) (hg : B ≠ g) (D : Array Value) : PartS (w.setRow g D) B n k L := by
  obtain ⟨C, h1, h2, h3⟩ := h
  exact ⟨C, (setRow_otherW w hg D).trans h1, h2, h3⟩

theorem keep2 {W W' : World} {a1 a2 : Addr} {v1 v2 : Value} (hb : Below W.heap.size W W') (h : W.cell? a1 = some v1 ∧ W.cell? a2 = some v2) : W'.cell? a1 = some v1 ∧ W'.cell? a2 = some v2 :=
  ⟨(hb.cell (World.block_lt_of_cell? _ _ h.1)).trans h.1, (hb.cell (World.block_lt_of_cell? _ _ h.2)).trans h.2⟩

theorem keep2_set4 {W : World} {g b x1 x2 : Nat} {v1 v2 u0 u1 u2 u3 : Value} (hg : b ≠ g) (h : W.cell? ⟨b, x1, none⟩ = some v1 ∧ W.cell? ⟨b, x2, none⟩ = some v2) :
    ((((W.setCell ⟨g, 0, none⟩ u0).setCell ⟨g, 1, none⟩ u1).setCell ⟨g, 2, none⟩ u2).setCell ⟨g, 3, none⟩ u3).cell? ⟨b, x1, none⟩ = some v1 ∧ ((((W.setCell ⟨g, 0, none⟩ u0).setCell ⟨g, 1, none⟩ u1).setCell ⟨g, 2, none⟩ u2).setCell ⟨g, 3, none⟩ u3).cell? ⟨b, x2, none⟩ = some v2 := by
  have far : ∀ x, ((((W.setCell ⟨g, 0, none⟩ u0).setCell ⟨g, 1, none⟩ u1).setCell ⟨g, 2, none⟩ u2).setCell ⟨g, 3, none⟩ u3).cell? ⟨b, x, none⟩ = W.cell? ⟨b, x, none⟩ := fun x => by
    rw [World.cell?_setCell_far _ _ _ _ (fun e => hg e.symm), World.cell?_setCell_far _ _ _ _ (fun e => hg e.symm), World.cell?_setCell_far _ _ _ _ (fun e => hg e.symm), World.cell?_setCell_far _ _ _ _ (fun e => hg e.symm)]
  exact ⟨(far _).trans h.1, (far _).trans h.2⟩

end Go.Proofs.Ytajcmamapmeglaa


/- l3Both and OnWay of the specification. -/
namespace Go.Proofs.Ytajcmamapmeglaa
open Go.RowKit
set_option maxRecDepth 10000

/-- How a function that tells numbers ends. -/
def Nums2End (f : Nat → Bool) (n : Nat) (w : World) (e : Ending) (w' : World) : Prop :=
  ∃ v m, e = .returned v ∧ w'.ownsRow w.heap.size 3 1 v m ((nums2 f n).map (Value.int .i64)) ∧ Below w.heap.size w w'

theorem own_grow2 {B : Nat} {w w' : World} {v : Value} {n : Nat} {l : List Value} (hown : w.ownsRow B 3 1 v n l) (hb : Below w.heap.size w w') : w'.ownsRow B 3 1 v n l := by
  refine ⟨hown.1, ?_⟩
  rcases hown.2 with h0 | ⟨g, cap, cur, e, h1, h2, h3⟩
  · exact .inl h0
  · exact .inr ⟨g, cap, cur, e, h1, (hb.block g (Array.getElem?_eq_some_iff.mp h2).1).trans h2, h3⟩

/-- Which places and which transitions are on a way. -/
noncomputable def plB (n : Nat) (L : List (List Int)) (s t : Int) (i : Nat) : Bool := rchB (inL L) (outL L) n s i && rchB (outL L) (inL L) n t i
noncomputable def trB (n : Nat) (L : List (List Int)) (s t : Int) (k : Nat) : Bool := rchT (inL L) (outL L) n s k && rchT (outL L) (inL L) n t k

noncomputable def wayP (p : Int) (n : Nat) (L : List (List Int)) (s t : Int) : List Int := if wayOk p n L s t then nums2 (plB n L s t) p.toNat else []
noncomputable def wayT (p : Int) (n : Nat) (L : List (List Int)) (s t : Int) : List Int := if wayOk p n L s t then nums2 (trB n L s t) n else []

/-- How the specification's OnWay ends. -/
def OwEnd (g : Bool) (xs ys : List Int) (w : World) (e : Ending) (w' : World) : Prop :=
  ∃ a1 n1 c1 a2 n2 c2, e = .returned (.tuple #[.slice a1 n1 c1, .slice a2 n2 c2, .bool g]) ∧ Row w' a1 n1 xs ∧ Row w' a2 n2 ys ∧ Below w.heap.size w w'

theorem owEnd_no {p : Int} {n : Nat} {L : List (List Int)} {s t : Int} {w w' : World} (h : wayOk p n L s t = false) (hb : Below w.heap.size w w') :
    OwEnd (wayOk p n L s t) (wayP p n L s t) (wayT p n L s t) w (.returned (.tuple #[.slice none 0 0, .slice none 0 0, .bool false])) w' :=
  ⟨none, 0, 0, none, 0, 0, by rw [h], ⟨by unfold wayP; rw [h]; rfl, .inl rfl⟩, ⟨by unfold wayT; rw [h]; rfl, .inl rfl⟩, hb⟩

theorem own_row2 {B : Nat} {w : World} {v : Value} {n : Nat} {l : List Int} (hown : w.ownsRow B 3 1 v n (l.map (Value.int .i64))) : ∃ a c, v = .slice a n c ∧ Row w a n l := by
  obtain ⟨a, b, c, e, _, ho⟩ := own_ob2 hown
  exact ⟨a, c, e, ho.row⟩

theorem within_in {p n : Nat} {L : List (List Int)} (h : netOk (p : Int) n L = true) : Within (inL L) p n := fun _ hk x hx => (netOk_mem h hk).1 x hx
theorem within_out {p n : Nat} {L : List (List Int)} (h : netOk (p : Int) n L = true) : Within (outL L) p n := fun _ hk x hx => (netOk_mem h hk).2.1 x hx

end Go.Proofs.Ytajcmamapmeglaa


/- What the program asks of a step of a flow: leads, misses, spoiledBy; slices.ContainsFunc with these. -/
namespace Go.Proofs.Ytajcmamapmeglaa
open Go.RowKit
set_option maxRecDepth 10000

theorem ret_u16i {a b : Int} (h : a = b) : Ending.returned (.int .u16 a) = .returned (.int .u16 b) := by rw [h]

def leadB (s0 s1 F K : Nat) : Bool := decide (s0 &&& F ≠ 0) && decide (s1 &&& K ≠ 0)

theorem all_wrap {p : Nat} (h1 : 1 ≤ p) (h2 : p ≤ 16) : IntKind.u16.wrap (IntKind.u16.wrap (2 ^ p) - 1) = ((2 ^ p - 1 : Nat) : Int) := by
  have : p = 1 ∨ p = 2 ∨ p = 3 ∨ p = 4 ∨ p = 5 ∨ p = 6 ∨ p = 7 ∨ p = 8 ∨ p = 9 ∨ p = 10 ∨ p = 11 ∨ p = 12 ∨ p = 13 ∨ p = 14 ∨ p = 15 ∨ p = 16 := by omega
  rcases this with rfl | rfl | rfl | rfl | rfl | rfl | rfl | rfl | rfl | rfl | rfl | rfl | rfl | rfl | rfl | rfl <;> rfl

set_option maxHeartbeats 1000000 in
theorem all_any (p : Nat) (a : Option Addr) (m c : Nat) (w : World) (h1 : 1 ≤ p) (h2 : p ≤ 16) :
    Calls Try.prog 83 #[.agg #[.int .i64 (p : Int), .slice a m c]] w fun e w' => e = .returned (.int .u16 ((2 ^ p - 1 : Nat) : Int)) ∧ Below w.heap.size w w' := by
  have HB := hide (all_wrap h1 h2)
  go_enter Try.func83, Try.ntmps83
  go_wp2_with fail
  go_ret
  exact ⟨ret_u16i HB.out, below_al _ _⟩

set_option maxHeartbeats 400000 in
theorem givesW_any (k s0 s1 s2 : Nat) (w : World) (h1 : s1 < 2 ^ 16) (hk : k < 16) :
    Calls Try.prog 158 #[.agg #[.int .u16 (s0 : Int), .int .u16 (s1 : Int), .int .u16 (s2 : Int)], .int .i64 (k : Int)] w fun e w' => e = .returned (.bool (s1.testBit k)) ∧ Below w.heap.size w w' := by
  have HB0 := hide (below_al w (.cells #[.int .u16 (s0 : Int), .int .u16 (s1 : Int), .int .u16 (s2 : Int)] 65))
  go_enter Try.func158, Try.ntmps158
  go_wp2_with fail
  refine (has2_any _ _ _ h1 hk).mono ?_
  rintro e w1 ⟨rfl, rfl⟩
  go_wp2_with fail
  go_ret
  exact ⟨rfl, HB0.out⟩

set_option maxHeartbeats 400000 in
theorem takesW_any (k s0 s1 s2 : Nat) (w : World) (h0 : s0 < 2 ^ 16) (hk : k < 16) :
    Calls Try.prog 159 #[.agg #[.int .u16 (s0 : Int), .int .u16 (s1 : Int), .int .u16 (s2 : Int)], .int .i64 (k : Int)] w fun e w' => e = .returned (.bool (s0.testBit k)) ∧ Below w.heap.size w w' := by
  have HB0 := hide (below_al w (.cells #[.int .u16 (s0 : Int), .int .u16 (s1 : Int), .int .u16 (s2 : Int)] 65))
  go_enter Try.func159, Try.ntmps159
  go_wp2_with fail
  refine (has2_any _ _ _ h0 hk).mono ?_
  rintro e w1 ⟨rfl, rfl⟩
  go_wp2_with fail
  go_ret
  exact ⟨rfl, HB0.out⟩

def spoilB (s0 s1 s2 f t : Nat) : Bool := s1.testBit f || s0.testBit t || s2.testBit f || s2.testBit t

theorem cells3W {w : World} {b : Nat} {v0 v1 v2 : Value} {T : TypeId} (h : w.heap[b]? = some (.cells #[v0, v1, v2] T (0, 0))) : w.cell? ⟨b, 0, none⟩ = some v0 ∧ w.cell? ⟨b, 1, none⟩ = some v1 ∧ w.cell? ⟨b, 2, none⟩ = some v2 :=
  ⟨cell_of_row w b 0 _ _ _ h, cell_of_row w b 1 _ _ _ h, cell_of_row w b 2 _ _ _ h⟩

end Go.Proofs.Ytajcmamapmeglaa


/- slices.ContainsFunc over the steps of a net, with a bound method. -/
namespace Go.Proofs.Ytajcmamapmeglaa
open Go.RowKit
set_option maxRecDepth 10000

/-- Whether one of the first n is as asked. -/
def anyK (Pd : Nat → Bool) (n : Nat) : Bool := (List.range n).any Pd

theorem anyK_yes {Pd : Nat → Bool} {n k : Nat} (hk : k < n) (h : Pd k = true) : anyK Pd n = true := by
  unfold anyK
  rw [List.any_eq_true]
  exact ⟨k, by simpa using hk, h⟩

theorem anyK_step {Pd : Nat → Bool} {k : Nat} (h : anyK Pd k = false) (he : Pd k = false) : anyK Pd (k + 1) = false := by
  unfold anyK at *
  rw [List.range_succ, List.any_append, h]
  simp [he]

def IdxEnd2 (Pd : Nat → Bool) (n : Nat) (w : World) (e : Ending) (w' : World) : Prop := ∃ z : Int, e = .returned (.int .i64 z) ∧ Hid (decide (0 ≤ z) = anyK Pd n) ∧ Below w.heap.size w w'

end Go.Proofs.Ytajcmamapmeglaa


/- When a flow is good, and that the program and the specification ask the same for it. -/
namespace Go.Proofs.Ytajcmamapmeglaa
open Go.RowKit

def spoilL (L : List (List Int)) (s t : Int) (k : Nat) : Bool :=
  hasB (outL L k) s || hasB (inL L k) t || hasB (L.getD (3 * k + 2) []) s || hasB (L.getD (3 * k + 2) []) t

noncomputable def flowOk (p : Int) (n : Nat) (L : List (List Int)) (s t : Int) : Bool :=
  wayOk p n L s t && !decide (s = t) && decide (((wayP p n L s t).length : Int) = p) && decide ((wayT p n L s t).length = n) && !anyK (spoilL L s t) n

theorem nums2_full {f : Nat → Bool} {k : Nat} : (nums2 f k).length = k ↔ ∀ i, i < k → f i = true := by
  unfold nums2
  rw [List.length_map]
  constructor
  · intro h i hi
    have := List.length_filter_eq_length_iff.mp (by simpa using h : ((List.range k).filter f).length = (List.range k).length) i (by simpa using hi)
    exact this
  · intro h
    have := List.length_filter_eq_length_iff.mpr (fun i hi => h i (by simpa using hi) : ∀ i ∈ List.range k, f i = true)
    simpa using this

theorem wayOk_parts {p : Int} {n : Nat} {L : List (List Int)} {s t : Int} (h : wayOk p n L s t = true) : netOk p n L = true ∧ (0 ≤ s ∧ s < p) ∧ (0 ≤ t ∧ t < p) := by
  unfold wayOk at h
  simp only [Bool.and_eq_true] at h
  have h1 := h.1.2
  have h2 := h.2
  simp [inB] at h1 h2
  exact ⟨h.1.1, by omega, by omega⟩

theorem fth_bit {p : Int} {n : Nat} {L : List (List Int)} {s t : Int} (h : wayOk p n L s t = true) (i : Nat) : (fthM n L s).testBit i = rchB (inL L) (outL L) n s i := by
  obtain ⟨hg, hs, ht⟩ := wayOk_parts h
  have hp := (netOk_parts hg).1
  exact rchM_bit (small_out hg) ⟨by omega, by omega⟩ i
theorem bck_bit {p : Int} {n : Nat} {L : List (List Int)} {s t : Int} (h : wayOk p n L s t = true) (i : Nat) : (bckM n L t).testBit i = rchB (outL L) (inL L) n t i := by
  obtain ⟨hg, hs, ht⟩ := wayOk_parts h
  have hp := (netOk_parts hg).1
  exact rchM_bit (small_in hg) ⟨by omega, by omega⟩ i

theorem fthM_lt (n : Nat) (L : List (List Int)) (s : Int) : fthM n L s < 2 ^ 16 := rchM_lt _ _ _ _
theorem bckM_lt (n : Nat) (L : List (List Int)) (s : Int) : bckM n L s < 2 ^ 16 := rchM_lt _ _ _ _

theorem Rch.within {A B : Nat → List Int} {p n : Nat} {s q : Int} (hB : Within B p n) (hs : 0 ≤ s ∧ s < (p : Int)) (h : Rch A B n s q) : 0 ≤ q ∧ q < (p : Int) := by
  induction h with
  | base => exact hs
  | step _ hk _ hq _ => exact hB _ hk _ hq

theorem pl_bit {p : Int} {n : Nat} {L : List (List Int)} {s t : Int} (h : wayOk p n L s t = true) (i : Nat) : (fthM n L s &&& bckM n L t).testBit i = plB n L s t i := by
  rw [Nat.testBit_and, fth_bit h, bck_bit h]; rfl

theorem pl_lt {p : Nat} {n : Nat} {L : List (List Int)} {s t : Int} (h : wayOk (p : Int) n L s t = true) {i : Nat} (hi : plB n L s t i = true) : i < p := by
  obtain ⟨hg, hs, ht⟩ := wayOk_parts h
  unfold plB at hi
  rw [Bool.and_eq_true] at hi
  have := (rchB_iff.mp hi.1).within (within_out hg) hs
  omega

theorem pl_all {p : Nat} {n : Nat} {L : List (List Int)} {s t : Int} (h : wayOk (p : Int) n L s t = true) : fthM n L s &&& bckM n L t = 2 ^ p - 1 ↔ ((wayP (p : Int) n L s t).length : Int) = (p : Int) := by
  unfold wayP
  rw [h, if_pos rfl, Int.toNat_natCast]
  rw [show (((nums2 (plB n L s t) p).length : Nat) : Int) = (p : Int) ↔ (nums2 (plB n L s t) p).length = p by omega, nums2_full]
  constructor
  · intro e i hi
    rw [← pl_bit h i, e, Nat.testBit_two_pow_sub_one]; simpa using hi
  · intro hall
    apply Nat.eq_of_testBit_eq
    intro i
    rw [pl_bit h i, Nat.testBit_two_pow_sub_one]
    by_cases hi : i < p
    · rw [hall i hi]; simp [hi]
    · have : ¬ plB n L s t i = true := fun e => hi (pl_lt h e)
      simp [hi, this]

theorem lead_tr {p : Int} {n : Nat} {L : List (List Int)} {s t : Int} (h : wayOk p n L s t = true) {k : Nat} (hk : k < n) : leadB (maskL (L.getD (3 * k) [])) (maskL (L.getD (3 * k + 1) [])) (fthM n L s) (bckM n L t) = trB n L s t k := by
  obtain ⟨hg, hs, ht⟩ := wayOk_parts h
  have hm := netOk_mem hg hk
  rw [show L.getD (3 * k) [] = inL L k from rfl, show L.getD (3 * k + 1) [] = outL L k from rfl]
  unfold leadB trB
  congr 1
  · rw [Bool.eq_iff_iff, decide_eq_true_iff, and_ne_iff (fun x hx => (hm.1 x hx).1)]
    unfold rchT
    rw [List.any_eq_true]
    simp only [fth_bit h]
  · rw [Bool.eq_iff_iff, decide_eq_true_iff, and_ne_iff (fun x hx => (hm.2.1 x hx).1)]
    unfold rchT
    rw [List.any_eq_true]
    simp only [bck_bit h]

theorem tr_all {p : Int} {n : Nat} {L : List (List Int)} {s t : Int} (h : wayOk p n L s t = true) : anyK (fun k => !leadB (maskL (L.getD (3 * k) [])) (maskL (L.getD (3 * k + 1) [])) (fthM n L s) (bckM n L t)) n = !decide ((wayT p n L s t).length = n) := by
  unfold wayT
  rw [h, if_pos rfl]
  rw [Bool.eq_iff_iff]
  unfold anyK
  rw [List.any_eq_true, Bool.not_eq_true', decide_eq_false_iff_not, nums2_full]
  constructor
  · rintro ⟨k, hk, he⟩ hall
    have hk' : k < n := by simpa using hk
    rw [lead_tr h hk', hall k hk'] at he
    simp at he
  · intro hno
    apply Classical.byContradiction
    intro hne
    apply hno
    intro k hk
    apply Classical.byContradiction
    intro he
    exact hne ⟨k, by simpa using hk, by rw [lead_tr h hk]; simpa using he⟩

theorem hasB_mask {xs : List Int} {y : Int} (h : ∀ x ∈ xs, 0 ≤ x) (hy : 0 ≤ y) : (maskL xs).testBit y.toNat = hasB xs y := by
  rw [maskL_bit xs _ h, show ((y.toNat : Nat) : Int) = y by omega]
  unfold hasB
  rw [Bool.eq_iff_iff, decide_eq_true_iff]
  simp

theorem spoil_eq {p : Int} {n : Nat} {L : List (List Int)} {s t : Int} (h : wayOk p n L s t = true) : anyK (fun k => spoilB (maskL (L.getD (3 * k) [])) (maskL (L.getD (3 * k + 1) [])) (maskL (L.getD (3 * k + 2) [])) s.toNat t.toNat) n = anyK (spoilL L s t) n := by
  obtain ⟨hg, hs, ht⟩ := wayOk_parts h
  have key : ∀ k, k < n → spoilB (maskL (L.getD (3 * k) [])) (maskL (L.getD (3 * k + 1) [])) (maskL (L.getD (3 * k + 2) [])) s.toNat t.toNat = spoilL L s t k := by
    intro k hk
    have hm := netOk_mem hg hk
    rw [show L.getD (3 * k) [] = inL L k from rfl, show L.getD (3 * k + 1) [] = outL L k from rfl]
    unfold spoilB spoilL
    rw [hasB_mask (fun x hx => (hm.2.1 x hx).1) hs.1, hasB_mask (fun x hx => (hm.1 x hx).1) ht.1, hasB_mask (fun x hx => (hm.2.2 x hx).1) hs.1, hasB_mask (fun x hx => (hm.2.2 x hx).1) ht.1]
  unfold anyK
  rw [Bool.eq_iff_iff, List.any_eq_true, List.any_eq_true]
  constructor
  · rintro ⟨k, hk, he⟩; exact ⟨k, hk, by rw [← key k (by simpa using hk)]; exact he⟩
  · rintro ⟨k, hk, he⟩; exact ⟨k, hk, by rw [key k (by simpa using hk)]; exact he⟩
end Go.Proofs.Ytajcmamapmeglaa


/- flowSteps of the program. -/
namespace Go.Proofs.Ytajcmamapmeglaa
open Go.RowKit
set_option maxRecDepth 10000

/-- How flowSteps ends. -/
def FlowEnd (g : Bool) (p : Int) (n : Nat) (L : List (List Int)) (s t : Int) (w : World) (e : Ending) (w' : World) : Prop :=
  ∃ p' a m c s' t', e = .returned (.tuple #[.agg #[.int .i64 p', .slice a m c, .int .i64 s', .int .i64 t'], .bool g]) ∧
    Hid (g = true → p' = p ∧ m = n ∧ c = n ∧ s' = s ∧ t' = t ∧ ∃ B, a = some ⟨B, 0, none⟩ ∧ w.heap.size ≤ B ∧ PartS w' B (3 * n) (3 * n) L) ∧ Below w.heap.size w w'

theorem flowEnd_no {p : Int} {n : Nat} {L : List (List Int)} {s t : Int} {w w' : World} (h : flowOk p n L s t = false) (hb : Below w.heap.size w w') :
    FlowEnd (flowOk p n L s t) p n L s t w (.returned (.tuple #[.agg #[.int .i64 0, .slice none 0 0, .int .i64 0, .int .i64 0], .bool false])) w' :=
  ⟨0, none, 0, 0, 0, 0, by rw [h], by rw [h]; intro e; simp at e, hb⟩

theorem flow_no1 {p : Int} {n : Nat} {L : List (List Int)} {s t : Int} (h : wayOk p n L s t = false) : flowOk p n L s t = false := by unfold flowOk; rw [h]; rfl
theorem flow_no2 {p : Int} {n : Nat} {L : List (List Int)} {s t : Int} (h : s = t) : flowOk p n L s t = false := by unfold flowOk; simp [h]
theorem flow_no3 {p : Int} {n : Nat} {L : List (List Int)} {s t : Int} (h : ¬ ((wayP p n L s t).length : Int) = p) : flowOk p n L s t = false := by unfold flowOk; simp [h]
theorem flow_no4 {p : Int} {n : Nat} {L : List (List Int)} {s t : Int} (h : ¬ (wayT p n L s t).length = n) : flowOk p n L s t = false := by unfold flowOk; simp [h]
theorem flow_no5 {p : Int} {n : Nat} {L : List (List Int)} {s t : Int} (h : anyK (spoilL L s t) n = true) : flowOk p n L s t = false := by unfold flowOk; simp [h]
theorem flow_yes {p : Int} {n : Nat} {L : List (List Int)} {s t : Int} (h1 : wayOk p n L s t = true) (h2 : ¬ s = t) (h3 : ((wayP p n L s t).length : Int) = p) (h4 : (wayT p n L s t).length = n) (h5 : anyK (spoilL L s t) n = false) : flowOk p n L s t = true := by
  unfold flowOk; simp [h1, h2, h3, h4, h5]

end Go.Proofs.Ytajcmamapmeglaa


/- GoodFlow: the specification's and the program's. -/
namespace Go.Proofs.Ytajcmamapmeglaa
open Go.RowKit
set_option maxRecDepth 10000

theorem spoil_step {L : List (List Int)} {s t : Int} {k : Nat} (h : anyK (spoilL L s t) k = false) (h0 : hasB (outL L k) s = false) (h1 : hasB (inL L k) t = false) (h2 : hasB (L.getD (3 * k + 2) []) s = false) (h3 : hasB (L.getD (3 * k + 2) []) t = false) : anyK (spoilL L s t) (k + 1) = false :=
  anyK_step h (by unfold spoilL; rw [h0, h1, h2, h3]; rfl)

end Go.Proofs.Ytajcmamapmeglaa


/- StartOf and EndOf, the program's and the specification's. -/
namespace Go.Proofs.Ytajcmamapmeglaa
open Go.RowKit
set_option maxRecDepth 10000

/-- The mark with one token. -/
def oneF (s : Nat) (i : Nat) : Int := if i = s then 1 else 0
def oneL (p s : Nat) : List Int := listF (oneF s) p

/-- How a function of the program that answers a list and true ends. -/
def OEndW (g : Bool) (r : List Int) (w : World) (e : Ending) (w' : World) : Prop :=
  ∃ a b n c, e = .returned (.tuple #[.slice a n c, .bool g]) ∧ Ob w' a b n r ∧ w.heap.size ≤ b ∧ Below w.heap.size w w'

/-- How one of the specification ends. -/
def WEndW (g : Bool) (r : List Int) (w : World) (e : Ending) (w' : World) : Prop :=
  ∃ a n c, e = .returned (.tuple #[.slice a n c, .bool g]) ∧ Row w' a n r ∧ Below w.heap.size w w'

theorem blk_ob {w : World} {a : Option Addr} {b n : Nat} {xs : List Int} (h : Blk w a b n xs) : Ob w a b n xs := by
  refine ⟨h.1, ?_⟩
  rcases h.2 with h0 | ⟨e, hh⟩
  · exact .inl h0
  · refine .inr ⟨e, _, hh, ?_, fun i hi => ?_⟩
    · have := h.1; unfold cellsOf; simp; omega
    · have := h.1; unfold cellsOf; simp [show i < xs.length by omega]

/-- A whole array loaded, where the operation is wanted. -/
theorem wpList_load_wantW {P : Program} {ops : Array Oper} {rest : List Oper} {o : Oper} {a : Act} {w : World} {Q : Exit → Act → World → Prop} (hw : Region.wanted o (yielded ops a.tmps) = true) (ty : TypeId) (x : Operand) (ho : o.op = .load ty x)
    (g : Nat) (hx : a.eval x = .pointer (some ⟨g, 0, none⟩)) (t : TypeId) (cells : Array Value) (n : Nat) (e : TypeId) (hg : w.heap[g]? = some (.cells cells t (0, 0))) (hu : P.underlying ty = some (.array n e)) (hi : (P.info? ty).map (·.size) = some cells.size)
    (h : wpList P ops Q rest (a.put o.dst (.agg cells)) w) : wpList P ops Q (o :: rest) a w :=
  BigFrame.wpList_want hw fun _ hK => wp_load_row ty x ho g hx t cells (0, 0) _ hg hu rfl hi (hK _ _ h)

theorem zerosW : (#[.int .u8 0, .int .u8 0, .int .u8 0, .int .u8 0, .int .u8 0, .int .u8 0, .int .u8 0, .int .u8 0, .int .u8 0, .int .u8 0, .int .u8 0, .int .u8 0, .int .u8 0, .int .u8 0, .int .u8 0, .int .u8 0] : Array Value) = tokF (fun _ => 0) := rfl

theorem Try.sizeW74 : (Try.prog.info? 74).map (·.size) = some 16 := by kernel_rfl

theorem calls_tok {P : Program} {f : FuncId} {y : Value} {w : World} {R : Ending → World → Prop} {X : Array Value} {F : Nat → Int} (h : X = tokF F) (hc : Calls P f #[.agg (tokF F), y] w R) : Calls P f #[.agg X, y] w R := by rw [h]; exact hc

/-- What StartOf and EndOf answer. -/
noncomputable def oneR (p : Int) (n : Nat) (L : List (List Int)) (s t q : Int) : List Int := if flowOk p n L s t then oneL p.toNat q.toNat else []

theorem oneR_len (p : Int) (n : Nat) (L : List (List Int)) (s t q : Int) (hp : flowOk p n L s t = true → p ≤ 16) : (oneR p n L s t q).length ≤ 16 := by
  unfold oneR; split
  · rename_i h
    unfold oneL; rw [listF_len]; have := hp h; omega
  · exact Nat.zero_le _

theorem flowOk_parts {p : Int} {n : Nat} {L : List (List Int)} {s t : Int} (h : flowOk p n L s t = true) : wayOk p n L s t = true ∧ ¬ s = t ∧ ((wayP p n L s t).length : Int) = p ∧ (wayT p n L s t).length = n ∧ anyK (spoilL L s t) n = false := by
  unfold flowOk at h
  simp only [Bool.and_eq_true, Bool.not_eq_true', decide_eq_true_iff, decide_eq_false_iff_not] at h
  exact ⟨h.1.1.1.1, h.1.1.1.2, h.1.1.2, h.1.2, h.2⟩

theorem flow_num {p : Int} {n : Nat} {L : List (List Int)} {s t : Int} (h : flowOk p n L s t = true) : (1 ≤ p ∧ p ≤ 16) ∧ n ≤ 24 ∧ (0 ≤ s ∧ s < p) ∧ (0 ≤ t ∧ t < p) := by
  obtain ⟨h1, _⟩ := flowOk_parts h
  obtain ⟨hg, hs, ht⟩ := wayOk_parts h1
  obtain ⟨hp, hn, _⟩ := netOk_parts hg
  exact ⟨hp, hn, hs, ht⟩

end Go.Proofs.Ytajcmamapmeglaa
