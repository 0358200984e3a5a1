/- When a flow is good, and that the program and the specification ask the same for it. -/
import Derived.Test.YtnknhjiofpjbbaaWb
import Derived.Test.YtnknhjiofpjbbaaWi
import Derived.Test.YtnknhjiofpjbbaaFs
namespace Go.Proofs.Ytnknhjiofpjbbaa
open Go.RowKit

def spoilL (L : List (List Int)) (s t : Int) (k : Nat) : Bool :=
  hasB (outL L k) s || hasB (inL L k) t || hasB (L.getD (3 * k + 2) []) s || hasB (L.getD (3 * k + 2) []) t

noncomputable def flowOk (p : Int) (n : Nat) (L : List (List Int)) (s t : Int) : Bool :=
  wayOk p n L s t && !decide (s = t) && decide (((wayP p n L s t).length : Int) = p) && decide ((wayT p n L s t).length = n) && !anyK (spoilL L s t) n

theorem nums2_full {f : Nat → Bool} {k : Nat} : (nums2 f k).length = k ↔ ∀ i, i < k → f i = true := by
  unfold nums2
  rw [List.length_map]
  constructor
  · intro h i hi
    have := List.length_filter_eq_length_iff.mp (by simpa using h : ((List.range k).filter f).length = (List.range k).length) i (by simpa using hi)
    exact this
  · intro h
    have := List.length_filter_eq_length_iff.mpr (fun i hi => h i (by simpa using hi) : ∀ i ∈ List.range k, f i = true)
    simpa using this

theorem wayOk_parts {p : Int} {n : Nat} {L : List (List Int)} {s t : Int} (h : wayOk p n L s t = true) : netOk p n L = true ∧ (0 ≤ s ∧ s < p) ∧ (0 ≤ t ∧ t < p) := by
  unfold wayOk at h
  simp only [Bool.and_eq_true] at h
  have h1 := h.1.2
  have h2 := h.2
  simp [inB] at h1 h2
  exact ⟨h.1.1, by omega, by omega⟩

theorem fth_bit {p : Int} {n : Nat} {L : List (List Int)} {s t : Int} (h : wayOk p n L s t = true) (i : Nat) : (fthM n L s).testBit i = rchB (inL L) (outL L) n s i := by
  obtain ⟨hg, hs, ht⟩ := wayOk_parts h
  have hp := (netOk_parts hg).1
  exact rchM_bit (small_out hg) ⟨by omega, by omega⟩ i
theorem bck_bit {p : Int} {n : Nat} {L : List (List Int)} {s t : Int} (h : wayOk p n L s t = true) (i : Nat) : (bckM n L t).testBit i = rchB (outL L) (inL L) n t i := by
  obtain ⟨hg, hs, ht⟩ := wayOk_parts h
  have hp := (netOk_parts hg).1
  exact rchM_bit (small_in hg) ⟨by omega, by omega⟩ i

theorem fthM_lt (n : Nat) (L : List (List Int)) (s : Int) : fthM n L s < 2 ^ 16 := rchM_lt _ _ _ _
theorem bckM_lt (n : Nat) (L : List (List Int)) (s : Int) : bckM n L s < 2 ^ 16 := rchM_lt _ _ _ _

theorem Rch.within {A B : Nat → List Int} {p n : Nat} {s q : Int} (hB : Within B p n) (hs : 0 ≤ s ∧ s < (p : Int)) (h : Rch A B n s q) : 0 ≤ q ∧ q < (p : Int) := by
  induction h with
  | base => exact hs
  | step _ hk _ hq _ => exact hB _ hk _ hq

theorem pl_bit {p : Int} {n : Nat} {L : List (List Int)} {s t : Int} (h : wayOk p n L s t = true) (i : Nat) : (fthM n L s &&& bckM n L t).testBit i = plB n L s t i := by
  rw [Nat.testBit_and, fth_bit h, bck_bit h]; rfl

theorem pl_lt {p : Nat} {n : Nat} {L : List (List Int)} {s t : Int} (h : wayOk (p : Int) n L s t = true) {i : Nat} (hi : plB n L s t i = true) : i < p := by
  obtain ⟨hg, hs, ht⟩ := wayOk_parts h
  unfold plB at hi
  rw [Bool.and_eq_true] at hi
  have := (rchB_iff.mp hi.1).within (within_out hg) hs
  omega

theorem pl_all {p : Nat} {n : Nat} {L : List (List Int)} {s t : Int} (h : wayOk (p : Int) n L s t = true) : fthM n L s &&& bckM n L t = 2 ^ p - 1 ↔ ((wayP (p : Int) n L s t).length : Int) = (p : Int) := by
  unfold wayP
  rw [h, if_pos rfl, Int.toNat_natCast]
  rw [show (((nums2 (plB n L s t) p).length : Nat) : Int) = (p : Int) ↔ (nums2 (plB n L s t) p).length = p by omega, nums2_full]
  constructor
  · intro e i hi
    rw [← pl_bit h i, e, Nat.testBit_two_pow_sub_one]; simpa using hi
  · intro hall
    apply Nat.eq_of_testBit_eq
    intro i
    rw [pl_bit h i, Nat.testBit_two_pow_sub_one]
    by_cases hi : i < p
    · rw [hall i hi]; simp [hi]
    · have : ¬ plB n L s t i = true := fun e => hi (pl_lt h e)
      simp [hi, this]

theorem lead_tr {p : Int} {n : Nat} {L : List (List Int)} {s t : Int} (h : wayOk p n L s t = true) {k : Nat} (hk : k < n) : leadB (maskL (L.getD (3 * k) [])) (maskL (L.getD (3 * k + 1) [])) (fthM n L s) (bckM n L t) = trB n L s t k := by
  obtain ⟨hg, hs, ht⟩ := wayOk_parts h
  have hm := netOk_mem hg hk
  rw [show L.getD (3 * k) [] = inL L k from rfl, show L.getD (3 * k + 1) [] = outL L k from rfl]
  unfold leadB trB
  congr 1
  · rw [Bool.eq_iff_iff, decide_eq_true_iff, and_ne_iff (fun x hx => (hm.1 x hx).1)]
    unfold rchT
    rw [List.any_eq_true]
    simp only [fth_bit h]
  · rw [Bool.eq_iff_iff, decide_eq_true_iff, and_ne_iff (fun x hx => (hm.2.1 x hx).1)]
    unfold rchT
    rw [List.any_eq_true]
    simp only [bck_bit h]

theorem tr_all {p : Int} {n : Nat} {L : List (List Int)} {s t : Int} (h : wayOk p n L s t = true) : anyK (fun k => !leadB (maskL (L.getD (3 * k) [])) (maskL (L.getD (3 * k + 1) [])) (fthM n L s) (bckM n L t)) n = !decide ((wayT p n L s t).length = n) := by
  unfold wayT
  rw [h, if_pos rfl]
  rw [Bool.eq_iff_iff]
  unfold anyK
  rw [List.any_eq_true, Bool.not_eq_true', decide_eq_false_iff_not, nums2_full]
  constructor
  · rintro ⟨k, hk, he⟩ hall
    have hk' : k < n := by simpa using hk
    rw [lead_tr h hk', hall k hk'] at he
    simp at he
  · intro hno
    apply Classical.byContradiction
    intro hne
    apply hno
    intro k hk
    apply Classical.byContradiction
    intro he
    exact hne ⟨k, by simpa using hk, by rw [lead_tr h hk]; simpa using he⟩

theorem hasB_mask {xs : List Int} {y : Int} (h : ∀ x ∈ xs, 0 ≤ x) (hy : 0 ≤ y) : (maskL xs).testBit y.toNat = hasB xs y := by
  rw [maskL_bit xs _ h, show ((y.toNat : Nat) : Int) = y by omega]
  unfold hasB
  rw [Bool.eq_iff_iff, decide_eq_true_iff]
  simp

theorem spoil_eq {p : Int} {n : Nat} {L : List (List Int)} {s t : Int} (h : wayOk p n L s t = true) : anyK (fun k => spoilB (maskL (L.getD (3 * k) [])) (maskL (L.getD (3 * k + 1) [])) (maskL (L.getD (3 * k + 2) [])) s.toNat t.toNat) n = anyK (spoilL L s t) n := by
  obtain ⟨hg, hs, ht⟩ := wayOk_parts h
  have key : ∀ k, k < n → spoilB (maskL (L.getD (3 * k) [])) (maskL (L.getD (3 * k + 1) [])) (maskL (L.getD (3 * k + 2) [])) s.toNat t.toNat = spoilL L s t k := by
    intro k hk
    have hm := netOk_mem hg hk
    rw [show L.getD (3 * k) [] = inL L k from rfl, show L.getD (3 * k + 1) [] = outL L k from rfl]
    unfold spoilB spoilL
    rw [hasB_mask (fun x hx => (hm.2.1 x hx).1) hs.1, hasB_mask (fun x hx => (hm.1 x hx).1) ht.1, hasB_mask (fun x hx => (hm.2.2 x hx).1) hs.1, hasB_mask (fun x hx => (hm.2.2 x hx).1) ht.1]
  unfold anyK
  rw [Bool.eq_iff_iff, List.any_eq_true, List.any_eq_true]
  constructor
  · rintro ⟨k, hk, he⟩; exact ⟨k, hk, by rw [← key k (by simpa using hk)]; exact he⟩
  · rintro ⟨k, hk, he⟩; exact ⟨k, hk, by rw [key k (by simpa using hk)]; exact he⟩
end Go.Proofs.Ytnknhjiofpjbbaa
