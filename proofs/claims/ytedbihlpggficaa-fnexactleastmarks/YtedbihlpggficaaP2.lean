/- Contracts that the proof stands on, one behind the other. -/
import Derived.Test.YtedbihlpggficaaP1
import Derived.Shelf.SlSortCmp.WholeK
import Derived.Shelf.SlGeneric
import Derived.Ground.SlsfProg
import Derived.Test.YtedbihlpggficaaProg
import Derived.Deep.MidRow
import Derived.Laws.AppendOwn
import Derived.Great.BuildSlice
/- The least of some marks: the mathematics of it. A list of marks in order, each of them least among all and each least one among them, is told by that alone; sorting and keeping what covers none that is kept gives it, and so does putting each least one to its place. -/
namespace Go.Proofs.Ytedbihlpggficaa
open Go.RowKit

theorem cmpN_anti (f g : Nat → Int) (m k : Nat) : cmpN g f m k = - cmpN f g m k := by
  induction m generalizing k with
  | zero => rfl
  | succ m ih =>
    simp only [cmpN]
    by_cases h1 : f k < g k
    · rw [if_neg (by omega), if_pos h1, if_pos h1]; rfl
    · by_cases h2 : g k < f k
      · rw [if_pos h2, if_neg h1, if_pos h2]
      · rw [if_neg h2, if_neg h1, if_neg h1, if_neg h2]; exact ih (k + 1)

theorem cmpN_le (f g h : Nat → Int) (m k : Nat) (h1 : cmpN f g m k ≤ 0) (h2 : cmpN g h m k ≤ 0) : cmpN f h m k ≤ 0 := by
  induction m generalizing k with
  | zero => exact Int.le_refl 0
  | succ m ih =>
    simp only [cmpN] at *
    by_cases a1 : f k < g k
    · by_cases b1 : g k < h k
      · rw [if_pos (by omega)]; omega
      · by_cases b2 : h k < g k
        · rw [if_neg b1, if_pos b2] at h2; omega
        · rw [if_pos (by omega)]; omega
    · by_cases a2 : g k < f k
      · rw [if_neg a1, if_pos a2] at h1; omega
      · rw [if_neg a1, if_neg a2] at h1
        by_cases b1 : g k < h k
        · rw [if_pos (by omega)]; omega
        · by_cases b2 : h k < g k
          · rw [if_neg b1, if_pos b2] at h2; omega
          · rw [if_neg b1, if_neg b2] at h2
            rw [if_neg (by omega), if_neg (by omega)]
            exact ih (k + 1) h1 h2

theorem cmpN_zero_iff (f g : Nat → Int) (m k : Nat) : cmpN f g m k = 0 ↔ ∀ i, k ≤ i → i < k + m → f i = g i := by
  induction m generalizing k with
  | zero => simp [cmpN]; omega
  | succ m ih =>
    simp only [cmpN]
    by_cases h1 : f k < g k
    · rw [if_pos h1]
      exact ⟨fun h => absurd h (by omega), fun h => by have := h k (by omega) (by omega); omega⟩
    · by_cases h2 : g k < f k
      · rw [if_neg h1, if_pos h2]
        exact ⟨fun h => absurd h (by omega), fun h => by have := h k (by omega) (by omega); omega⟩
      · rw [if_neg h1, if_neg h2, ih (k + 1)]
        constructor
        · intro h i hi hj
          by_cases e : i = k
          · subst e; omega
          · exact h i (by omega) (by omega)
        · intro h i hi hj
          exact h i (by omega) (by omega)

theorem cmpN_cov (f g : Nat → Int) (m k : Nat) (h : ∀ i, k ≤ i → i < k + m → g i ≤ f i) : 0 ≤ cmpN f g m k := by
  induction m generalizing k with
  | zero => exact Int.le_refl 0
  | succ m ih =>
    simp only [cmpN]
    rw [if_neg (by have := h k (by omega) (by omega); omega)]
    split
    · omega
    · exact ih (k + 1) (fun i hi hj => h i (by omega) (by omega))

/-- How two marks of n places stand, and whether the first covers the second. -/
def cmpL (n : Nat) (xs ys : List Int) : Int := cmpN (getF xs) (getF ys) n 0
def covL (n : Nat) (xs ys : List Int) : Bool := covF (getF xs) (getF ys) n

theorem cmpL_pad (xs ys : List Int) (n : Nat) (hn : n ≤ 16) : cmpN (fOf xs n) (fOf ys n) 16 0 = cmpL n xs ys := by
  have := cmpN_pad xs ys n (16 - n) n 0 (by omega)
  rwa [show n + (16 - n) = 16 by omega] at this

theorem getF_ext {xs ys : List Int} {n : Nat} (hx : xs.length = n) (hy : ys.length = n) (h : ∀ i, i < n → getF xs i = getF ys i) : xs = ys := by
  apply List.ext_getElem (by omega)
  intro i h1 h2
  have := h i (by omega)
  unfold getF at this
  simpa [h1, h2] using this

theorem cmpL_eq {n : Nat} {xs ys : List Int} (hx : xs.length = n) (hy : ys.length = n) : cmpL n xs ys = 0 ↔ xs = ys := by
  unfold cmpL
  rw [cmpN_zero_iff]
  constructor
  · intro h; exact getF_ext hx hy fun i hi => h i (by omega) (by omega)
  · rintro rfl i _ _; rfl

theorem cmpL_anti (n : Nat) (xs ys : List Int) : cmpL n ys xs = - cmpL n xs ys := cmpN_anti _ _ _ _
theorem cmpL_le {n : Nat} {xs ys zs : List Int} (h1 : cmpL n xs ys ≤ 0) (h2 : cmpL n ys zs ≤ 0) : cmpL n xs zs ≤ 0 := cmpN_le _ _ _ _ _ h1 h2
theorem cmpL_self (n : Nat) (xs : List Int) : cmpL n xs xs = 0 := by have := cmpL_anti n xs xs; omega

theorem cmpL_lt {n : Nat} {xs ys zs : List Int} (h1 : cmpL n xs ys < 0) (h2 : cmpL n ys zs ≤ 0) : cmpL n xs zs < 0 := by
  have h3 := cmpL_le (Int.le_of_lt h1) h2
  by_cases h : cmpL n xs zs = 0
  · have h4 : cmpL n zs xs ≤ 0 := by rw [cmpL_anti, h]; omega
    have h5 := cmpL_le h2 h4
    rw [cmpL_anti] at h5; omega
  · omega

theorem cmpL_lt' {n : Nat} {xs ys zs : List Int} (h1 : cmpL n xs ys ≤ 0) (h2 : cmpL n ys zs < 0) : cmpL n xs zs < 0 := by
  have h3 := cmpL_le h1 (Int.le_of_lt h2)
  by_cases h : cmpL n xs zs = 0
  · have h4 : cmpL n zs xs ≤ 0 := by rw [cmpL_anti, h]; omega
    have h5 := cmpL_le h4 h1
    rw [cmpL_anti] at h5; omega
  · omega

theorem covL_iff {n : Nat} {xs ys : List Int} : covL n xs ys = true ↔ ∀ i, i < n → getF ys i ≤ getF xs i := covF_iff
theorem covL_self (n : Nat) (xs : List Int) : covL n xs xs = true := covL_iff.mpr fun _ _ => Int.le_refl _
theorem covL_trans {n : Nat} {xs ys zs : List Int} (h1 : covL n xs ys = true) (h2 : covL n ys zs = true) : covL n xs zs = true :=
  covL_iff.mpr fun i hi => Int.le_trans (covL_iff.mp h2 i hi) (covL_iff.mp h1 i hi)
theorem covL_anti {n : Nat} {xs ys : List Int} (hx : xs.length = n) (hy : ys.length = n) (h1 : covL n xs ys = true) (h2 : covL n ys xs = true) : xs = ys :=
  getF_ext hx hy fun i hi => Int.le_antisymm (covL_iff.mp h2 i hi) (covL_iff.mp h1 i hi)
theorem covL_cmp {n : Nat} {xs ys : List Int} (h : covL n xs ys = true) : 0 ≤ cmpL n xs ys :=
  cmpN_cov _ _ _ _ fun i _ hi => covL_iff.mp h i (by omega)

/-- A least one of some marks. -/
def MinL (n : Nat) (L : List (List Int)) (x : List Int) : Prop := x ∈ L ∧ ∀ y ∈ L, covL n x y = true → y = x

/-- In order, each once. -/
def SortL (n : Nat) (O : List (List Int)) : Prop := O.Pairwise fun x y => cmpL n x y < 0

/-- The least ones of some marks, in order. -/
def MinOf (n : Nat) (L O : List (List Int)) : Prop := SortL n O ∧ ∀ x, x ∈ O ↔ MinL n L x

theorem sort_unique {n : Nat} : ∀ (O K : List (List Int)), SortL n O → SortL n K → (∀ x, x ∈ O ↔ x ∈ K) → O = K
  | [], [], _, _, _ => rfl
  | [], b :: K, _, _, h => by have := (h b).mpr (by simp); simp at this
  | a :: O, [], _, _, h => by have := (h a).mp (by simp); simp at this
  | a :: O, b :: K, ho, hk, h => by
    obtain ⟨ha, ho'⟩ := List.pairwise_cons.mp ho
    obtain ⟨hb, hk'⟩ := List.pairwise_cons.mp hk
    have e : a = b := by
      have h1 := (h a).mp (by simp)
      have h2 := (h b).mpr (by simp)
      rcases List.mem_cons.mp h1 with e | m1
      · exact e
      · rcases List.mem_cons.mp h2 with e | m2
        · exact e.symm
        · have q1 := hb a m1
          have q2 := ha b m2
          have := cmpL_anti n a b
          omega
    subst e
    congr 1
    refine sort_unique O K ho' hk' fun x => ⟨fun hx => ?_, fun hx => ?_⟩
    · rcases List.mem_cons.mp ((h x).mp (List.mem_cons_of_mem _ hx)) with e | m
      · subst e; have := ha x hx; rw [cmpL_self] at this; omega
      · exact m
    · rcases List.mem_cons.mp ((h x).mpr (List.mem_cons_of_mem _ hx)) with e | m
      · subst e; have := hb x hx; rw [cmpL_self] at this; omega
      · exact m

theorem MinOf.unique {n : Nat} {L O K : List (List Int)} (h : MinOf n L O) (g : MinOf n L K) : O = K :=
  sort_unique O K h.1 g.1 fun x => (h.2 x).trans (g.2 x).symm

theorem MinOf.perm {n : Nat} {L D O : List (List Int)} (h : MinOf n D O) (hm : ∀ x, x ∈ D ↔ x ∈ L) : MinOf n L O := by
  refine ⟨h.1, fun x => (h.2 x).trans ⟨fun ⟨a, b⟩ => ⟨(hm x).mp a, fun y hy => b y ((hm y).mpr hy)⟩, fun ⟨a, b⟩ => ⟨(hm x).mpr a, fun y hy => b y ((hm y).mp hy)⟩⟩⟩

/-- One mark more is looked at. -/
def keepStep (n : Nat) (acc : List (List Int)) (t : List Int) : List (List Int) := if acc.any (fun u => covL n t u) = true then acc else acc ++ [t]
def keepL (n : Nat) (D : List (List Int)) : List (List Int) := D.foldl (keepStep n) []

theorem keepL_take {n k : Nat} {D : List (List Int)} (hk : k < D.length) : keepL n (D.take (k + 1)) = keepStep n (keepL n (D.take k)) (D.getD k []) := by
  unfold keepL
  rw [List.take_add_one, List.getElem?_eq_getElem hk, List.foldl_append]
  simp [hk]

structure KeepInv (n : Nat) (D acc : List (List Int)) : Prop where
  sort : SortL n acc
  sub : ∀ u ∈ acc, u ∈ D
  cov : ∀ x ∈ D, ∃ u ∈ acc, covL n x u = true
  apart : ∀ u ∈ acc, ∀ v ∈ acc, covL n u v = true → v = u

theorem KeepInv.step {n : Nat} {D acc : List (List Int)} {t : List Int} (h : KeepInv n D acc) (hl : ∀ x ∈ D, x.length = n) (ht : t.length = n) (hs : ∀ u ∈ D, ¬ cmpL n t u < 0) : KeepInv n (D ++ [t]) (keepStep n acc t) := by
  unfold keepStep
  by_cases hc : acc.any (fun u => covL n t u) = true
  · rw [if_pos hc]
    obtain ⟨u, hu, hcu⟩ := List.any_eq_true.mp hc
    refine ⟨h.sort, fun v hv => List.mem_append_left _ (h.sub v hv), fun x hx => ?_, h.apart⟩
    rcases List.mem_append.mp hx with hx | hx
    · exact h.cov x hx
    · obtain rfl := List.mem_singleton.mp hx
      exact ⟨u, hu, hcu⟩
  · rw [if_neg hc]
    have hno : ∀ u ∈ acc, covL n t u = false := by
      intro u hu
      rw [Bool.eq_false_iff]
      intro hcu
      exact hc (List.any_eq_true.mpr ⟨u, hu, hcu⟩)
    have hlt : ∀ u ∈ acc, cmpL n u t < 0 := by
      intro u hu
      have h1 := hs u (h.sub u hu)
      have h2 := cmpL_anti n u t
      by_cases e : cmpL n u t = 0
      · have := (cmpL_eq (hl u (h.sub u hu)) ht).mp e
        subst this
        have := hno u hu
        rw [covL_self] at this
        exact absurd this (by decide)
      · omega
    refine ⟨?_, fun v hv => ?_, fun x hx => ?_, fun u hu v hv huv => ?_⟩
    · refine List.pairwise_append.mpr ⟨h.sort, List.pairwise_singleton _ _, fun u hu v hv => ?_⟩
      obtain rfl := List.mem_singleton.mp hv
      exact hlt u hu
    · rcases List.mem_append.mp hv with hv | hv
      · exact List.mem_append_left _ (h.sub v hv)
      · exact List.mem_append_right _ hv
    · rcases List.mem_append.mp hx with hx | hx
      · obtain ⟨u, hu, hcu⟩ := h.cov x hx
        exact ⟨u, List.mem_append_left _ hu, hcu⟩
      · obtain rfl := List.mem_singleton.mp hx
        exact ⟨x, List.mem_append_right _ (by simp), covL_self n x⟩
    · rcases List.mem_append.mp hu with hu' | hu
      · rcases List.mem_append.mp hv with hv | hv
        · exact h.apart u hu' v hv huv
        · obtain rfl := List.mem_singleton.mp hv
          have h1 := covL_cmp huv
          have h2 := hlt u hu'
          omega
      · obtain rfl := List.mem_singleton.mp hu
        rcases List.mem_append.mp hv with hv | hv
        · rw [hno v hv] at huv; exact absurd huv (by decide)
        · obtain rfl := List.mem_singleton.mp hv
          rfl

theorem keep_inv {n : Nat} {D : List (List Int)} (hl : ∀ x ∈ D, x.length = n) (hs : D.Pairwise fun x y => ¬ cmpL n y x < 0) (k : Nat) (hk : k ≤ D.length) : KeepInv n (D.take k) (keepL n (D.take k)) := by
  induction k with
  | zero => exact ⟨List.Pairwise.nil, fun u hu => by simp [keepL] at hu, fun x hx => by simp at hx, fun u hu => by simp [keepL] at hu⟩
  | succ k ih =>
    have hk' : k < D.length := by omega
    have h := ih (by omega)
    rw [keepL_take hk']
    have e : D.take (k + 1) = D.take k ++ [D.getD k []] := by
      rw [List.take_add_one, List.getElem?_eq_getElem hk']; simp [hk']
    have hm : D.getD k [] ∈ D := by simp [hk']
    rw [e]
    refine h.step (fun x hx => hl x (List.mem_of_mem_take hx)) (hl _ hm) fun u hu => ?_
    have hs' : (D.take (k + 1)).Pairwise fun x y => ¬ cmpL n y x < 0 := hs.sublist (List.take_sublist _ _)
    rw [e] at hs'
    exact (List.pairwise_append.mp hs').2.2 u hu _ (by simp)

theorem keep_min {n : Nat} {D : List (List Int)} (hl : ∀ x ∈ D, x.length = n) (hs : D.Pairwise fun x y => ¬ cmpL n y x < 0) : MinOf n D (keepL n D) := by
  have h := keep_inv hl hs D.length (Nat.le_refl _)
  rw [List.take_length] at h
  refine ⟨h.sort, fun x => ⟨fun hx => ⟨h.sub x hx, fun y hy hxy => ?_⟩, fun ⟨hx, hmin⟩ => ?_⟩⟩
  · obtain ⟨u, hu, hyu⟩ := h.cov y hy
    have := h.apart x hx u hu (covL_trans hxy hyu)
    subst this
    exact covL_anti (hl y hy) (hl u (h.sub u hx)) hyu hxy
  · obtain ⟨u, hu, hxu⟩ := h.cov x hx
    have := hmin u (h.sub u hu) hxu
    subst this
    exact hu

/-- What putting a mark to its place, once, makes. -/
def Ins (n : Nat) (m : List Int) (l R : List (List Int)) : Prop :=
  (R = l ∧ ∃ x ∈ l, cmpL n m x = 0) ∨ ∃ j, j ≤ l.length ∧ R = l.take j ++ m :: l.drop j ∧ (∀ x ∈ l.take j, 0 < cmpL n m x) ∧ ∀ x ∈ l.drop j, cmpL n m x < 0

theorem Ins.sort {n : Nat} {m : List Int} {l R : List (List Int)} (h : Ins n m l R) (hl : SortL n l) : SortL n R := by
  rcases h with ⟨rfl, _⟩ | ⟨j, hj, rfl, h1, h2⟩
  · exact hl
  · have hl' := hl
    rw [← List.take_append_drop j l] at hl'
    obtain ⟨p1, p2, p3⟩ := List.pairwise_append.mp hl'
    refine List.pairwise_append.mpr ⟨p1, List.pairwise_cons.mpr ⟨h2, p2⟩, fun a ha b hb => ?_⟩
    rcases List.mem_cons.mp hb with rfl | hb
    · have := h1 a ha
      rw [cmpL_anti]; omega
    · exact p3 a ha b hb

theorem Ins.mem {n : Nat} {m : List Int} {l R : List (List Int)} (h : Ins n m l R) (hm : m.length = n) (hl : ∀ x ∈ l, x.length = n) (x : List Int) : x ∈ R ↔ x = m ∨ x ∈ l := by
  rcases h with ⟨rfl, y, hy, hc⟩ | ⟨j, hj, rfl, h1, h2⟩
  · have := (cmpL_eq hm (hl y hy)).mp hc
    subst this
    exact ⟨fun h => .inr h, fun h => h.elim (fun e => e ▸ hy) id⟩
  · conv => rhs; rw [← List.take_append_drop j l]
    simp only [List.mem_append, List.mem_cons]
    constructor
    · rintro (h | h | h)
      · exact .inr (.inl h)
      · exact .inl h
      · exact .inr (.inr h)
    · rintro (h | h | h)
      · exact .inr (.inl h)
      · exact .inl h
      · exact .inr (.inr h)

theorem Ins.size {n : Nat} {m : List Int} {l R : List (List Int)} (h : Ins n m l R) : R.length ≤ l.length + 1 := by
  rcases h with ⟨rfl, _⟩ | ⟨j, hj, rfl, _, _⟩
  · omega
  · simp; omega

/-- Whether a mark is a least one, as it is asked. -/
def leastB (n : Nat) (L : List (List Int)) (m : List Int) : Bool := L.all fun x => !covL n m x || sameB m x

theorem leastB_iff {n : Nat} {L : List (List Int)} {m : List Int} (hm : m ∈ L) : leastB n L m = true ↔ MinL n L m := by
  unfold leastB MinL
  rw [List.all_eq_true]
  constructor
  · intro h
    refine ⟨hm, fun y hy hc => ?_⟩
    have := h y hy
    rw [hc] at this
    simp [sameB] at this
    exact this.symm
  · rintro ⟨_, h⟩ y hy
    by_cases hc : covL n m y = true
    · have := h y hy hc
      subst this
      simp [sameB_self]
    · simp only [Bool.not_eq_true] at hc
      simp [hc]

/-- The least ones among the first k. -/
def MinUpto (n : Nat) (L : List (List Int)) (k : Nat) (O : List (List Int)) : Prop := SortL n O ∧ (∀ x, x ∈ O ↔ x ∈ L.take k ∧ MinL n L x) ∧ O.length ≤ k

theorem MinUpto.first (n : Nat) (L : List (List Int)) : MinUpto n L 0 [] := ⟨List.Pairwise.nil, fun x => by simp, Nat.le_refl _⟩

theorem MinUpto.len {n k : Nat} {L O : List (List Int)} (h : MinUpto n L k O) (hl : ∀ x ∈ L, x.length = n) : ∀ x ∈ O, x.length = n := fun x hx => hl x ((h.2.1 x).mp hx).2.1

theorem take_getD {L : List (List Int)} {k : Nat} (hk : k < L.length) : L.take (k + 1) = L.take k ++ [L.getD k []] := by
  rw [List.take_add_one, List.getElem?_eq_getElem hk]; simp [hk]

theorem getD_mem {L : List (List Int)} {k : Nat} (hk : k < L.length) : L.getD k [] ∈ L := by simp [hk]

theorem MinUpto.skip {n k : Nat} {L O : List (List Int)} (h : MinUpto n L k O) (hk : k < L.length) (hb : leastB n L (L.getD k []) = false) : MinUpto n L (k + 1) O := by
  refine ⟨h.1, fun x => ?_, by have := h.2.2; omega⟩
  rw [h.2.1 x, take_getD hk, List.mem_append, List.mem_singleton]
  constructor
  · rintro ⟨a, b⟩; exact ⟨.inl a, b⟩
  · rintro ⟨a | rfl, b⟩
    · exact ⟨a, b⟩
    · rw [(leastB_iff (getD_mem hk)).mpr b] at hb; exact absurd hb (by decide)

theorem MinUpto.put {n k : Nat} {L O R : List (List Int)} (h : MinUpto n L k O) (hl : ∀ x ∈ L, x.length = n) (hk : k < L.length) (hb : leastB n L (L.getD k []) = true) (hi : Ins n (L.getD k []) O R) : MinUpto n L (k + 1) R := by
  refine ⟨hi.sort h.1, fun x => ?_, by have := h.2.2; have := hi.size; omega⟩
  rw [hi.mem (hl _ (getD_mem hk)) (h.len hl) x, h.2.1 x, take_getD hk, List.mem_append, List.mem_singleton]
  constructor
  · rintro (rfl | ⟨a, b⟩)
    · exact ⟨.inr rfl, (leastB_iff (getD_mem hk)).mp hb⟩
    · exact ⟨.inl a, b⟩
  · rintro ⟨a | rfl, b⟩
    · exact .inr ⟨a, b⟩
    · exact .inl rfl

theorem MinUpto.done {n : Nat} {L O : List (List Int)} (h : MinUpto n L L.length O) : MinOf n L O := by
  refine ⟨h.1, fun x => ?_⟩
  rw [h.2.1 x, List.take_length]
  exact ⟨fun ⟨_, b⟩ => b, fun b => ⟨b.1, b⟩⟩

/-- Both can be told. -/
def okL (p : Int) (L : List (List Int)) : Bool := inB p 1 16 && decide (L.length ≤ 400) && L.all fun x => goodB p x

theorem keepL_len (n : Nat) (D : List (List Int)) (k : Nat) (hk : k ≤ D.length) : (keepL n (D.take k)).length ≤ k := by
  induction k with
  | zero => simp [keepL]
  | succ k ih =>
    rw [keepL_take (by omega)]
    have := ih (by omega)
    unfold keepStep
    split
    · omega
    · simp; omega

theorem keepL_mem {n : Nat} {D : List (List Int)} (k : Nat) (hk : k ≤ D.length) : ∀ u ∈ keepL n (D.take k), u ∈ D := by
  induction k with
  | zero => intro u hu; simp [keepL] at hu
  | succ k ih =>
    rw [keepL_take (by omega)]
    intro u hu
    unfold keepStep at hu
    split at hu
    · exact ih (by omega) u hu
    · rcases List.mem_append.mp hu with hu | hu
      · exact ih (by omega) u hu
      · obtain rfl := List.mem_singleton.mp hu
        exact getD_mem (by omega)
end Go.Proofs.Ytedbihlpggficaa


/- The library's sort at this program: the numbers of its functions and types here, and that each is as the library's contract names it (written by the shelf's plain laying for one seat alone: mk_sl.py writes it anew for another seat). -/
namespace Go.Proofs
open Go.Shelf
def Try.sortT_ren : Go.Shelf.Ren := ⟨fun | 6 => 94 | 15 => 115 | 14 => 114 | 28 => 134 | 29 => 135 | 20 => 126 | 21 => 127 | 22 => 128 | 23 => 129 | 24 => 130 | 25 => 131 | 26 => 132 | 27 => 133 | 46 => 141 | 47 => 142 | 48 => 143 | 49 => 144 | 50 => 145 | 57 => 147 | n => n, fun | 22 => 71 | 24 => 84 | 25 => 142 | 3 => 3 | 39 => 164 | 0 => 0 | 53 => 182 | 55 => 184 | 4 => 4 | 46 => 176 | 45 => 175 | 50 => 95 | 5 => 5 | 9 => 9 | 66 => 189 | 70 => 193 | 76 => 195 | 77 => 196 | n => n, fun | n => n⟩
theorem Try.sortT : Go.Proofs.SlLaysF0.n6 Try.prog Try.sortT_ren := {
  mixed := by kernel_rfl
  f6 := ⟨Try.f94.name, by decide, Try.func94.trans (congrArg some (by kernel_rfl))⟩
  f14 := ⟨Try.f114.name, by decide, Try.func114.trans (congrArg some (by kernel_rfl))⟩
  f15 := Try.func115.trans (congrArg some (by kernel_rfl))
  f20 := ⟨Try.f126.name, by decide, Try.func126.trans (congrArg some (by kernel_rfl))⟩
  f21 := ⟨Try.f127.name, by decide, Try.func127.trans (congrArg some (by kernel_rfl))⟩
  f22 := ⟨Try.f128.name, by decide, Try.func128.trans (congrArg some (by kernel_rfl))⟩
  f23 := ⟨Try.f129.name, by decide, Try.func129.trans (congrArg some (by kernel_rfl))⟩
  f24 := ⟨Try.f130.name, by decide, Try.func130.trans (congrArg some (by kernel_rfl))⟩
  f25 := ⟨Try.f131.name, by decide, Try.func131.trans (congrArg some (by kernel_rfl))⟩
  f26 := ⟨Try.f132.name, by decide, Try.func132.trans (congrArg some (by kernel_rfl))⟩
  f27 := ⟨Try.f133.name, by decide, Try.func133.trans (congrArg some (by kernel_rfl))⟩
  f28 := Try.func134.trans (congrArg some (by kernel_rfl))
  f29 := Try.func135.trans (congrArg some (by kernel_rfl))
  f46 := ⟨Try.f141.name, by decide, Try.func141.trans (congrArg some (by kernel_rfl))⟩
  f47 := Try.func142.trans (congrArg some (by kernel_rfl))
  f48 := Try.func143.trans (congrArg some (by kernel_rfl))
  f49 := ⟨Try.f144.name, by decide, Try.func144.trans (congrArg some (by kernel_rfl))⟩
  f50 := ⟨Try.f145.name, by decide, Try.func145.trans (congrArg some (by kernel_rfl))⟩
  f57 := ⟨Try.f147.name, by decide, Try.func147.trans (congrArg some (by kernel_rfl))⟩
  t0 := Try.underlying0
  a0 := Try.isAgg0
  z0 := Try.sizeOf0
  v0 := Try.zeroValue0
  t3 := Try.underlying3
  a3 := Try.isAgg3
  z3 := Try.sizeOf3
  v3 := Try.zeroValue3
  t4 := Try.underlying4
  a4 := Try.isAgg4
  z4 := Try.sizeOf4
  v4 := Try.zeroValue4
  t5 := Try.underlying5
  a5 := Try.isAgg5
  z5 := Try.sizeOf5
  v5 := Try.zeroValue5
  t9 := Try.underlying9
  a9 := Try.isAgg9
  z9 := Try.sizeOf9
  v9 := Try.zeroValue9
  t22 := Try.underlying71
  a22 := Try.isAgg71
  z22 := Try.sizeOf71
  v22 := Try.zeroValue71
  t25 := Try.underlying142
  a25 := Try.isAgg142
  z25 := Try.sizeOf142
  v25 := Try.zeroValue142
  t39 := Try.underlying164
  a39 := Try.isAgg164
  z39 := Try.sizeOf164
  v39 := Try.zeroValue164
  t45 := Try.underlying175
  a45 := Try.isAgg175
  z45 := Try.sizeOf175
  v45 := Try.zeroValue175
  t46 := Try.underlying176
  a46 := Try.isAgg176
  z46 := Try.sizeOf176
  v46 := Try.zeroValue176
  t50 := Try.underlying95
  a50 := Try.isAgg95
  z50 := Try.sizeOf95
  v50 := Try.zeroValue95
  t53 := Try.underlying182
  a53 := Try.isAgg182
  z53 := Try.sizeOf182
  v53 := Try.zeroValue182
  t55 := Try.underlying184
  a55 := Try.isAgg184
  z55 := Try.sizeOf184
  v55 := Try.zeroValue184
  t66 := Try.underlying189
  a66 := Try.isAgg189
  z66 := Try.sizeOf189
  v66 := Try.zeroValue189
  t70 := Try.underlying193
  a70 := Try.isAgg193
  z70 := Try.sizeOf193
  v70 := Try.zeroValue193
  t76 := Try.underlying195
  a76 := Try.isAgg195
  z76 := Try.sizeOf195
  v76 := Try.zeroValue195
  t77 := Try.underlying196
  a77 := Try.isAgg196
  z77 := Try.sizeOf196
  v77 := Try.zeroValue196 }
end Go.Proofs


/- compareTokens leaves all as it was but for two new blocks and draws. -/
namespace Go.Proofs.Ytedbihlpggficaa
open Go.RowKit
set_option maxRecDepth 10000

set_option maxHeartbeats 1000000 in
theorem cmpG_any (f g : Nat → Int) (w : World) :
    Calls Try.prog 95 #[.agg (tokF f), .agg (tokF g)] w fun e w' => e = .returned (.int .i64 (cmpN f g 16 0)) ∧ ∃ q, w' = ((w.alloc (.cells (tokF f) 84)).alloc (.cells (tokF g) 84)).drewN q := by
  have hgd : ∀ w, (eqGuard .eql 84 (.tmp 6) (.tmp 7) (.agg (tokF f)) (.agg (tokF g))).run Try.prog w = .ok () w := fun w => run_eqGuard_agg w _ _ _ _ _ _ (by kernel_rfl)
  have hg0 := heap_alloc2_old w (.cells (tokF f) 84) (.cells (tokF g) 84)
  have hg1 := heap_alloc2_new w (.cells (tokF f) 84) (.cells (tokF g) 84)
  by_cases hq : EqUpto f g 16
  · have heq : ∀ w, (Op.equalIn 10000 84 (.agg (tokF f)) (.agg (tokF g))).run Try.prog w = .ok true w := fun w => by
      rw [← eqF_upto.mpr hq]; exact run_equalIn_tok 9999 9998 rfl f g w
    have HC := hide (cmpN_eq hq)
    clear hq
    go_enter Try.func95, Try.ntmps95
    go_wp2_with (first
      | refine wpList_load_row rfl 84 (.tmp 2) rfl _ rfl 84 (tokF f) (0, 0) _ hg0 Try.underlying84 rfl (by rw [tokF_size]; exact Try.size84) ?_
      | refine wpList_load_row rfl 84 (.tmp 3) rfl _ rfl 84 (tokF g) (0, 0) _ hg1 Try.underlying84 rfl (by rw [tokF_size]; exact Try.size84) ?_)
    go_ret
    exact ⟨ret_intC HC.out.symm, 0, rfl⟩
  · have heq : ∀ w, (Op.equalIn 10000 84 (.agg (tokF f)) (.agg (tokF g))).run Try.prog w = .ok false w := fun w => by
      rw [← (Bool.eq_false_iff.mpr (fun h => hq (eqF_upto.mp h)) : eqF f g (List.range 16) = false)]; exact run_equalIn_tok 9999 9998 rfl f g w
    have HQ := hide hq
    clear hq
    go_enter Try.func95, Try.ntmps95
    go_wp2_with (first
      | refine wpList_load_row rfl 84 (.tmp 2) rfl _ rfl 84 (tokF f) (0, 0) _ hg0 Try.underlying84 rfl (by rw [tokF_size]; exact Try.size84) ?_
      | refine wpList_load_row rfl 84 (.tmp 3) rfl _ rfl 84 (tokF g) (0, 0) _ hg1 Try.underlying84 rfl (by rw [tokF_size]; exact Try.size84) ?_)
    clear heq hgd hg0 hg1
    go_loopw [9] (fun i wr => ∃ k : Nat, k ≤ 16 ∧ i = .int .i64 k ∧ EqUpto f g k ∧ ∃ q, wr = ((w.alloc (.cells (tokF f) 84)).alloc (.cells (tokF g) 84)).drewN q) (fun i _ => 16 - (intOf i).toNat)
    case atStart => exact ⟨0, Nat.zero_le _, rfl, fun i hi => absurd hi (by omega), 0, rfl⟩
    case round =>
      obtain ⟨k, hk, rfl, hu, q, rfl⟩ := hrel
      by_cases hlt : k < 16
      · have h1 := tokF_at f k hlt
        have h2 := tokF_at g k hlt
        have hi1 : ((k : Int)) < 16 := by omega
        by_cases he : f k < g k
        · have HC := hide (cmpN_lt hu hlt he)
          obtain ⟨x, hx⟩ : ∃ x, Hid (f k = x) := ⟨_, rfl⟩
          obtain ⟨y, hy⟩ : ∃ y, Hid (g k = y) := ⟨_, rfl⟩
          rw [hx.out] at h1 he
          rw [hy.out] at h2 he
          clear hu
          go_wp2
          go_quiet (fail)
          go_wp2
          go_ret
          exact ⟨ret_intC HC.out.symm, by first | exact ⟨_, rfl⟩ | exact ⟨_, drewN_two _ _ _⟩⟩
        · by_cases he2 : g k < f k
          · have HC := hide (cmpN_gt hu hlt he2)
            obtain ⟨x, hx⟩ : ∃ x, Hid (f k = x) := ⟨_, rfl⟩
            obtain ⟨y, hy⟩ : ∃ y, Hid (g k = y) := ⟨_, rfl⟩
            rw [hx.out] at h1 he he2
            rw [hy.out] at h2 he he2
            clear hu
            go_wp2
            go_quiet (fail)
            go_wp2
            go_quiet (fail)
            go_wp2
            go_ret
            exact ⟨ret_intC HC.out.symm, by first | exact ⟨_, rfl⟩ | exact ⟨_, drewN_two _ _ _⟩ | exact ⟨_, by rw [drewN_two, drewN_two]⟩⟩
          · have HU := hide (hu.step he he2)
            obtain ⟨x, hx⟩ : ∃ x, Hid (f k = x) := ⟨_, rfl⟩
            obtain ⟨y, hy⟩ : ∃ y, Hid (g k = y) := ⟨_, rfl⟩
            rw [hx.out] at h1 he he2
            rw [hy.out] at h2 he he2
            clear hu
            go_wp2
            go_quiet (fail)
            go_wp2
            go_quiet (fail)
            go_wp2
            go_roundw
            case rel => exact ⟨k + 1, by omega, by go_num, HU.out, by first | exact ⟨_, rfl⟩ | exact ⟨_, drewN_two _ _ _⟩⟩
            case measure => simp [intOf]; omega
      · have hk' : k = 16 := by omega
        subst hk'
        exact absurd hu HQ.out
end Go.Proofs.Ytedbihlpggficaa


/- The library's sort over marks: compareTokens leaves all as it was but for new blocks; so slices.SortFunc puts a row of packed marks in order and leaves all else. -/
namespace Go.Proofs.Ytedbihlpggficaa
open Go.RowKit Go.Sort Go.Shelf
set_option maxRecDepth 10000

/-- A mark's cells in a row of packed marks. -/
def encT (n : Nat) (xs : List Int) : List Value := (packOf xs n).toList

theorem encT_len (n : Nat) (xs : List Int) : (encT n xs).length = 16 := by simp [encT, packOf_size]
theorem encT_one (n : Nat) (xs : List Int) : ∀ v ∈ encT n xs, v.oneCell' = true := fun v hv => by
  have := packOf_one xs n
  rw [Array.all_eq_true_iff_forall_mem] at this
  exact this v (by simpa [encT] using hv)

def cfT (n : Nat) (xs ys : List Int) : Int := cmpN (fOf xs n) (fOf ys n) 16 0

theorem ltT_yes (n : Nat) (xs ys : List Int) : ltOf (cfT n) xs ys = true ↔ cmpN (fOf xs n) (fOf ys n) 16 0 < 0 := decide_eq_true_iff
theorem ltT_no (n : Nat) (xs ys : List Int) : ltOf (cfT n) xs ys = false ↔ ¬ cmpN (fOf xs n) (fOf ys n) 16 0 < 0 := decide_eq_false_iff_not

theorem swoT (n : Nat) : SWO (ltOf (cfT n)) where
  irrefl x := by rw [ltT_no]; have := cmpN_anti (fOf x n) (fOf x n) 16 0; omega
  trans x y z h1 h2 := by
    rw [ltT_yes] at *
    have h3 := cmpN_le _ _ _ _ _ (Int.le_of_lt h1) (Int.le_of_lt h2)
    by_cases h : cmpN (fOf x n) (fOf z n) 16 0 = 0
    · have h4 : cmpN (fOf z n) (fOf x n) 16 0 ≤ 0 := by rw [cmpN_anti, h]; omega
      have h5 := cmpN_le _ _ _ _ _ (Int.le_of_lt h2) h4
      rw [cmpN_anti] at h5; omega
    · omega
  ntrans x y z h1 h2 := by
    rw [ltT_no] at *
    have a1 := cmpN_anti (fOf x n) (fOf y n) 16 0
    have a2 := cmpN_anti (fOf y n) (fOf z n) 16 0
    have a3 := cmpN_anti (fOf x n) (fOf z n) 16 0
    have := cmpN_le (fOf z n) (fOf y n) (fOf x n) 16 0 (by omega) (by omega)
    omega

theorem cmpLaysT (n blk off size : Nat) (w : World) : CmpLays Try.prog 95 #[] (encT n) 16 (cfT n) blk off size w := by
  intro m os dk hs x y
  have e : (#[Value.agg (encT n x).toArray, .agg (encT n y).toArray] ++ #[] : Array Value) = #[.agg (tokF (fOf x n)), .agg (tokF (fOf y n))] := by simp [encT, packOf]
  rw [e]
  refine (cmpG_any (fOf x n) (fOf y n) _).mono ?_
  rintro e w' ⟨rfl, q, rfl⟩
  refine ⟨rfl, q, #[.cells (tokF (fOf x n)) 84, .cells (tokF (fOf y n)) 84], ?_⟩
  rw [alloc_eq_grow, alloc_eq_grow, grow_grow]
  rfl

/-- A row of packed marks. -/
def TokRow (n : Nat) (w : World) (a : Option Addr) (ds : List (List Int)) : Prop :=
  ds = [] ∨ ∃ b off, a = some ⟨b, off, none⟩ ∧ b < w.heap.size ∧ ∀ i, i < ds.length → w.rangeAt b (off + i * 16) (encT n (ds.getD i []))

theorem holdsK_range {n : Nat} {w : World} {b off : Nat} {d : Array (List Int)} (h : HoldsK (encT n) 16 w b off d) {i : Nat} (hi : i < d.size) : w.rangeAt b (off + i * 16) (encT n (d.toList.getD i [])) := by
  intro j v hv
  have hj : j < 16 := by have := (List.getElem?_eq_some_iff.1 hv).1; rwa [encT_len] at this
  have := (h.cell hi hj).1
  rw [this]
  have e : d[i]! = d.toList.getD i [] := by simp [hi]
  rw [e, ← hv, List.getElem!_eq_getElem?_getD, hv]; rfl

/-- Behind the sort: the marks in order, in the same block; all below stands. -/
theorem sortT_any (n B c : Nat) (ds : List (List Int)) (w : World) (hB : B < w.heap.size) (hH : HoldsK (encT n) 16 w B 0 ds.toArray) (hl : ds.length ≤ 400) :
    Calls Try.prog 94 #[.slice (some ⟨B, 0, none⟩) ds.length c, .func (.func 95) #[] #[]] w fun e w' =>
      e = .returned (.tuple #[]) ∧ ∃ ds', ds'.length = ds.length ∧ (∀ x, x ∈ ds' ↔ x ∈ ds) ∧ ds'.Pairwise (fun x y => ¬ cfT n y x < 0) ∧ TokRow n w' (some ⟨B, 0, none⟩) ds' ∧ Below B w w' ∧ w.heap.size ≤ w'.heap.size := by
  have eg : ∀ args w, (callFunc 95 args).run Try.prog w = .ok (.enter 95 args) w := enters_of Try.func95 (by kernel_rfl) rfl
  have hcon := AnyQ.slices_SortFunc Try.sortT 16 Try.isAgg84 Try.sizeOf84 (encT n) (encT_len n) (encT_one n) (cfT n) (swoT n) 95 #[] B 0 c ds.toArray w eg (cmpLaysT n B 0 _ w) hH hB (by simp; omega)
  rw [List.size_toArray] at hcon
  change Calls Try.prog 94 _ _ _ at hcon
  refine hcon.mono ?_
  rintro e w' ⟨rfl, d', q, os, hp, hs, rfl⟩
  have hsz : d'.size = ds.length := by simpa using hp.1
  have hperm : d'.toList.Perm ds := by
    have := hp.2.2
    rw [Array.extract_eq_self_of_le (by omega), Array.extract_eq_self_of_le (by simp)] at this
    simpa using this
  refine ⟨rfl, d'.toList, by simpa using hsz, fun x => hperm.mem_iff, ?_, ?_, ?_, size_sortWorldK_c _ _ _ _ _ _ _ _⟩
  · rw [List.pairwise_iff_getElem]
    intro i j hi hj hij
    have := hs i j (by omega) hij (by simp at hj; omega)
    rw [ltT_no] at this
    simpa [cfT, show i < d'.size by simpa using hi, show j < d'.size by simpa using hj] using this
  · by_cases h0 : d'.toList = []
    · exact .inl h0
    · have hH' := holdsK_sortWorldK_c (encT n) 16 w B 0 ds.toArray d' q os hH hB (by simpa using hsz)
      refine .inr ⟨B, 0, rfl, Nat.lt_of_lt_of_le hB (size_sortWorldK_c _ _ _ _ _ _ _ _), fun i hi => holdsK_range hH' (by simpa using hi)⟩
  · refine ⟨rfl, rfl, rfl, ?_, fun k hk => ?_⟩
    · exact size_sortWorldK_c _ _ _ _ _ _ _ _
    · unfold sortWorldK putRowK
      rw [heap_grow_old _ _ (by rw [size_putRow]; exact Nat.lt_trans hk hB)]
      simp only [putRow, mapBlock, Sort.ahead, Array.getElem?_modify]
      rw [if_neg (by omega)]
end Go.Proofs.Ytedbihlpggficaa


/- slices.ContainsFunc over a row of packed marks, with a mark's own method covers: whether the mark covers one of them. -/
namespace Go.Proofs.Ytedbihlpggficaa
open Go.RowKit
set_option maxRecDepth 10000

theorem TokRow.at {n k : Nat} {w : World} {a : Option Addr} {ds : List (List Int)} (h : TokRow n w a ds) (hk : k < ds.length) :
    ∃ b off, a = some ⟨b, off, none⟩ ∧ b < w.heap.size ∧ Hid (w.rangeAt b (off + k * 16) (encT n (ds.getD k []))) := by
  rcases h with rfl | ⟨b, off, e, hb, hr⟩
  · simp at hk
  · exact ⟨b, off, e, hb, hr k hk⟩

theorem rangeAt_below {w w' : World} {b o : Nat} {cs : List Value} (h : w.rangeAt b o cs) {B : Nat} (hB : b < B) (hb : Below B w w') : w'.rangeAt b o cs := fun j v hv => by
  rw [← h j v hv]
  simp only [World.cell?]
  rw [hb.block b hB]

theorem TokRow.grow {n : Nat} {w w' : World} {a : Option Addr} {ds : List (List Int)} (h : TokRow n w a ds) (hb : Below w.heap.size w w') : TokRow n w' a ds := by
  rcases h with rfl | ⟨b, off, e, hB, hr⟩
  · exact .inl rfl
  · exact .inr ⟨b, off, e, Nat.lt_of_lt_of_le hB hb.size, fun i hi => rangeAt_below (hr i hi) hB hb⟩

theorem covT_any (n : Nat) (hn : n ≤ 16) (t u : List Int) (w : World) :
    Calls Try.prog 97 #[.agg (packOf t n), .agg (encT n u).toArray] w fun e w' => BoolEnd (covL n t u) w e w' := by
  have h := cov_any (fOf t n) (fOf u n) w
  rw [covF_pad t u n hn] at h
  simpa [encT, packOf, covL] using h

/-- Where the first one is that is covered, or -1. -/
def IdxT (b : Bool) (w : World) (e : Ending) (w' : World) : Prop := ∃ z : Int, e = .returned (.int .i64 z) ∧ Hid (decide (0 ≤ z) = b) ∧ Below w.heap.size w w'

theorem any_take {ds : List (List Int)} {f : List Int → Bool} {k : Nat} (hk : k < ds.length) (h : (ds.take k).any f = false) (hf : f (ds.getD k []) = false) : (ds.take (k + 1)).any f = false := by
  rw [take_getD hk, List.any_append, h]
  simp only [List.any_cons, List.any_nil, Bool.or_false, hf]

set_option maxHeartbeats 1000000 in
theorem indexT_any (n : Nat) (hn : n ≤ 16) (a : Option Addr) (m c : Nat) (ds : List (List Int)) (t : List Int) (w : World) (h : TokRow n w a ds) (hm : ds.length = m) (hl : m ≤ 400) :
    Calls Try.prog 116 #[.slice a m c, .func (.func 97) #[.agg (packOf t n)] #[]] w fun e w' => IdxT (ds.any fun u => covL n t u) w e w' := by
  have HP := hide h
  have HM := hide hm
  clear h hm
  go_enter Try.func116, Try.ntmps116
  go_wp2_with fail
  go_loopw [8] (fun i wr => ∃ k : Nat, k ≤ m ∧ i = .int .i64 k ∧ Hid ((ds.take k).any (fun u => covL n t u) = false) ∧ Hid (Below w.heap.size w wr)) (fun i _ => m - (intOf i).toNat)
  case atStart => exact ⟨0, Nat.zero_le _, rfl, rfl, Below.refl _ _⟩
  case round =>
    obtain ⟨k, hk, rfl, hu, hbw⟩ := hrel
    by_cases hlt : k < m
    rotate_left
    · have hk' : k = m := by omega
      subst hk'
      have HE : Hid (IdxT (ds.any fun u => covL n t u) w (.returned (.int .i64 (-1))) wr) := by
        have h1 := hu.out
        rw [List.take_of_length_le (by have := HM.out; omega)] at h1
        exact ⟨-1, rfl, by rw [h1]; rfl, hbw.out⟩
      go_wp2_with fail
      go_ret
      exact HE.out
    have hlt' : k < ds.length := by have := HM.out; omega
    obtain ⟨b, off, rfl, hbs, hr⟩ := (HP.out.grow hbw.out).at hlt'
    have HH := hide (covT_any n hn t (ds.getD k []) wr)
    cases hh : covL n t (ds.getD k [])
    · have HU := hide (any_take hlt' hu.out hh)
      rw [hh] at HH
      clear hh hu hlt'
      generalize ds.getD k [] = x at *
      go_wp2_with (refine wpList_load_mid rfl 84 (.tmp 14) rfl _ _ rfl _ _ hr.out Try.underlying84 rfl (by rw [encT_len]; exact Try.size84) ?_)
      refine HH.out.mono ?_
      rintro e w1 ⟨rfl, hb⟩
      have HB := hide (hbw.out.trans (hb.mono hbw.out.size))
      clear hb HH hr
      go_wp2_with fail
      go_roundw
      case rel => exact ⟨k + 1, by omega, by go_num, HU, HB⟩
      case measure => simp [intOf]; omega
    · have HY : Hid ((ds.any fun u => covL n t u) = true) := List.any_eq_true.mpr ⟨_, getD_mem hlt', hh⟩
      rw [hh] at HH
      clear hh hu hlt'
      generalize ds.getD k [] = x at *
      go_wp2_with (refine wpList_load_mid rfl 84 (.tmp 14) rfl _ _ rfl _ _ hr.out Try.underlying84 rfl (by rw [encT_len]; exact Try.size84) ?_)
      refine HH.out.mono ?_
      rintro e w1 ⟨rfl, hb⟩
      have HE : Hid (IdxT (ds.any fun u => covL n t u) w (.returned (.int .i64 (k : Int))) w1) := ⟨k, rfl, by rw [HY.out]; simp [Hid], hbw.out.trans (hb.mono hbw.out.size)⟩
      clear hb HH hr
      go_wp2_with fail
      go_ret
      exact HE.out

set_option maxHeartbeats 400000 in
theorem containsT_any (n : Nat) (hn : n ≤ 16) (a : Option Addr) (m c : Nat) (ds : List (List Int)) (t : List Int) (w : World) (h : TokRow n w a ds) (hm : ds.length = m) (hl : m ≤ 400) :
    Calls Try.prog 96 #[.slice a m c, .func (.func 97) #[.agg (packOf t n)] #[]] w fun e w' => BoolEnd (ds.any fun u => covL n t u) w e w' := by
  have HI := hide (indexT_any n hn a m c ds t w h hm hl)
  clear h hm
  go_enter Try.func96, Try.ntmps96
  go_wp2_with fail
  refine HI.out.mono ?_
  rintro e w1 ⟨z, rfl, hz, hb⟩
  have HB := hide hb
  clear hb HI
  go_wp2_with fail
  go_ret
  exact ⟨ret_bool hz.out, HB.out⟩
end Go.Proofs.Ytedbihlpggficaa


/- leastTokens: the marks in order, and of them those that cover none that is kept. -/
namespace Go.Proofs.Ytedbihlpggficaa
open Go.RowKit Go.Sort
set_option maxRecDepth 10000

/-- The cells of a row of packed marks. -/
def cellsT (n : Nat) (ks : List (List Int)) : List Value := (ks.map (encT n)).flatten

theorem cellsT_cons (n : Nat) (x : List Int) (ks : List (List Int)) : cellsT n (x :: ks) = encT n x ++ cellsT n ks := by simp [cellsT]
theorem cellsT_append (n : Nat) (ks : List (List Int)) (x : List Int) : cellsT n (ks ++ [x]) = cellsT n ks ++ encT n x := by simp [cellsT]

theorem cellsT_at (n : Nat) (ks : List (List Int)) (i j : Nat) (hi : i < ks.length) (hj : j < 16) : (cellsT n ks)[i * 16 + j]? = (encT n (ks.getD i []))[j]? := by
  induction ks generalizing i with
  | nil => simp at hi
  | cons x ks ih =>
    rw [cellsT_cons]
    cases i with
    | zero => rw [List.getElem?_append_left (by rw [encT_len]; omega)]; simp
    | succ i =>
      rw [List.getElem?_append_right (by rw [encT_len]; omega), encT_len]
      have := ih i (by simpa using hi)
      rw [show (i + 1) * 16 + j - 16 = i * 16 + j by omega, this]
      simp

theorem own_tok {D n q : Nat} {v : World} {o : Value} {ks : List (List Int)} (h : v.ownsRow D 84 16 o q (cellsT n ks)) (hq : ks.length = q) : ∃ a c, o = .slice a q c ∧ TokRow n v a ks := by
  rcases h.2 with ⟨rfl, rfl⟩ | ⟨g, cap, cur, rfl, hb, hh, hnc, _, hsz, ht⟩
  · exact ⟨none, 0, rfl, .inl (List.length_eq_zero_iff.mp hq)⟩
  · refine ⟨_, cap, rfl, .inr ⟨g, 0, rfl, (Array.getElem?_eq_some_iff.mp hh).1, fun i hi => ?_⟩⟩
    intro j u hu
    have hj : j < 16 := by have := (List.getElem?_eq_some_iff.1 hu).1; rwa [encT_len] at this
    have e1 := cellsT_at n ks i j hi hj
    rw [← ht, List.getElem?_take_of_lt (by omega)] at e1
    rw [cell_of_row v g _ _ _ _ hh, Nat.zero_add, ← hu, ← e1, Array.getElem?_toList]

theorem own_grow2 {B : Nat} {e : TypeId} {s : Nat} {w w' : World} {v : Value} {n : Nat} {l : List Value} (hown : w.ownsRow B e s v n l) (hb : Below w.heap.size w w') : w'.ownsRow B e s v n l := by
  refine ⟨hown.1, ?_⟩
  rcases hown.2 with h0 | ⟨g, cap, cur, e, h1, h2, h3⟩
  · exact .inl h0
  · exact .inr ⟨g, cap, cur, e, h1, (hb.block g (Array.getElem?_eq_some_iff.mp h2).1).trans h2, h3⟩

/-- What is there while the least ones are gathered. -/
structure LtSt (D : Nat) (u v : World) (n : Nat) (o : Value) (q : Nat) (ks : List (List Int)) : Prop where
  len : ks.length = q
  own : v.ownsRow D 84 16 o q (cellsT n ks)
  bel : Below D u v
  low : D ≤ v.heap.size

theorem LtSt.grow {D n q : Nat} {u v v' : World} {o : Value} {ks : List (List Int)} (h : LtSt D u v n o q ks) (hb : Below v.heap.size v v') : LtSt D u v' n o q ks :=
  ⟨h.len, own_grow2 h.own hb, h.bel.trans (hb.mono h.low), Nat.le_trans h.low hb.size⟩

theorem LtSt.step {D n q : Nat} {u v v' : World} {o o' : Value} {ks : List (List Int)} {x : List Int} (h : LtSt D u v n o q ks) (r1 : v'.ownsRow D 84 16 o' (q + 1) (cellsT n ks ++ encT n x)) (r2 : v.grownBy v' o.ownBlock) : LtSt D u v' n o' (q + 1) (ks ++ [x]) :=
  ⟨by simp [h.len], by rw [cellsT_append]; exact r1, h.bel.grown r2 h.low fun k hk => (h.own.lt k hk).1, Nat.le_trans h.low r2.size⟩

theorem wpList_load_tok {ops : Array Oper} {rest : List Oper} {op : Oper} {a : Act} {w : World} {Q : Exit → Act → World → Prop} (hgd : op.guard = none) (x : Operand) (ho : op.op = .load 84 x)
    (b o : Nat) (hx : a.eval x = .pointer (some ⟨b, o, none⟩)) (n : Nat) (t : List Int) (hc : w.rangeAt b o (encT n t))
    (h : wpList Try.prog ops Q rest (a.put op.dst (.agg (packOf t n))) w) : wpList Try.prog ops Q (op :: rest) a w := by
  refine wpList_load_mid hgd 84 x ho b o hx (encT n t) _ hc Try.underlying84 rfl (by rw [encT_len]; exact Try.size84) ?_
  simpa [encT] using h

theorem Try.infoT : (Try.prog.info? 84).map (fun i => (i.zero, i.size, i.bytes)) = some (some (.agg #[.int .u8 0, .int .u8 0, .int .u8 0, .int .u8 0, .int .u8 0, .int .u8 0, .int .u8 0, .int .u8 0, .int .u8 0, .int .u8 0, .int .u8 0, .int .u8 0, .int .u8 0, .int .u8 0, .int .u8 0, .int .u8 0]), 16, 16) := by kernel_rfl

theorem info_splitT {P : Program} {e : TypeId} {z : Value} {size bytes : Nat} (h : (P.info? e).map (fun i => (i.zero, i.size, i.bytes)) = some (some z, size, bytes)) : ∃ i, P.info? e = some i ∧ i.zero = some z ∧ i.size = size ∧ i.bytes = bytes := by
  obtain ⟨i, hi, hzz⟩ := Option.map_eq_some_iff.1 h
  simp only [Prod.mk.injEq] at hzz
  exact ⟨i, hi, hzz.1, hzz.2.1, hzz.2.2⟩

theorem fill_tok (n : Nat) (t : List Int) (zs : Array Value) (hz : zs.size = 16) : Instr.fill (fun i => some (i * 16, 16)) zs [(0, .agg (packOf t n))] = some (packOf t n) := by
  have hs : (Value.agg (packOf t n)).cells.size = 16 := packOf_size t n
  obtain ⟨r, h1, h2, h3⟩ := Great.fill_dense (s := 16) (by omega) [.agg (packOf t n)] 0 zs (by intro v hv; obtain rfl := List.mem_singleton.mp hv; exact hs) (by simp [hz])
  have e : r = packOf t n := by
    apply Array.ext_getElem?
    intro k
    rw [h3 k]
    by_cases hk : k < 16
    · rw [if_pos (by simp; omega), Nat.div_eq_of_lt hk, Nat.mod_eq_of_lt hk]
      rfl
    · rw [if_neg (by simp; omega), Array.getElem?_eq_none (by omega), Array.getElem?_eq_none (by rw [packOf_size]; omega)]
  rw [e] at h1
  exact h1

theorem wpList_build_tok {ops : Array Oper} {rest : List Oper} {op : Oper} {a : Act} {w : World} {Q : Exit → Act → World → Prop} (hgd : op.guard = none) (x : Operand) (ho : op.op = .buildSlice 71 1 #[(0, x)])
    (n : Nat) (t : List Int) (hx : a.eval x = .agg (packOf t n))
    (h : wpList Try.prog ops Q rest (a.put op.dst (.slice (some ⟨w.heap.size, 0, none⟩) 1 1)) (w.alloc (.cells (packOf t n) 84))) : wpList Try.prog ops Q (op :: rest) a w := by
  obtain ⟨i0, hi, hz0, hz1, hz2⟩ := info_splitT Try.infoT
  refine wpList_buildSlice hgd 71 84 1 _ ho (packOf t n) i0 _ Try.underlying71 hi hz0 (by rw [hz1]; decide) (by rw [hz1]; decide) ?_ h
  rw [hz1]
  simp only [List.map_toArray, List.map_cons, List.map_nil, hx]
  exact fill_tok n t _ (by simp)

theorem tok_cells (n : Nat) (t : List Int) (w : World) : ∀ j u, (encT n t)[j]? = some u → (w.alloc (.cells (packOf t n) 84)).cell? ((⟨w.heap.size, 0, none⟩ : Addr).add j) = some u := by
  intro j u hu
  rw [Addr.add_mid, cell_of_row _ _ _ _ _ _ (heap_alloc_new w _), Nat.zero_add]
  simpa [encT] using hu

/-- How leastTokens ends. -/
def LeEnd (n B : Nat) (ds : List (List Int)) (w : World) (e : Ending) (w' : World) : Prop :=
  ∃ ds' a q c, e = .returned (.slice a q c) ∧ ds'.length = ds.length ∧ (∀ x, x ∈ ds' ↔ x ∈ ds) ∧ ds'.Pairwise (fun x y => ¬ cfT n y x < 0) ∧ (keepL n ds').length = q ∧ q ≤ ds.length ∧ TokRow n w' a (keepL n ds') ∧ Below B w w'

theorem keep_yes {n k : Nat} {D : List (List Int)} (hk : k < D.length) (h : (keepL n (D.take k)).any (fun u => covL n (D.getD k []) u) = true) : keepL n (D.take (k + 1)) = keepL n (D.take k) := by
  rw [keepL_take hk]; unfold keepStep; rw [if_pos h]
theorem keep_no {n k : Nat} {D : List (List Int)} (hk : k < D.length) (h : (keepL n (D.take k)).any (fun u => covL n (D.getD k []) u) = false) : keepL n (D.take (k + 1)) = keepL n (D.take k) ++ [D.getD k []] := by
  rw [keepL_take hk]; unfold keepStep; rw [if_neg (by rw [h]; decide)]

theorem below_box (w : World) (cs : Array Value) (o : Obj) : Below w.heap.size w ((w.alloc o).setRow w.heap.size cs) := below_setRow ((Below.refl _ _).alloc (Nat.le_refl _) _) _ (Nat.le_refl _) _

set_option maxHeartbeats 2000000 in
theorem least_any (n B m c : Nat) (hn : n ≤ 16) (ds : List (List Int)) (w : World) (hB : B < w.heap.size) (hH : HoldsK (encT n) 16 w B 0 ds.toArray) (hm : ds.length = m) (hl : m ≤ 400) :
    Calls Try.prog 58 #[.slice (some ⟨B, 0, none⟩) m c] w fun e w' => LeEnd n B ds w e w' := by
  subst hm
  have HS := hide (sortT_any n B c ds w hB hH hl)
  obtain ⟨i0, hi, hz0, hz1, hz2⟩ := info_splitT Try.infoT
  have HI := hide (And.intro hi (And.intro hz0 (And.intro hz1 hz2)))
  clear hH hi hz0 hz1 hz2
  go_enter Try.func58, Try.ntmps58
  go_wp2_with fail
  refine HS.out.mono ?_
  rintro e w1 ⟨rfl, ds', hl', hmem, hpw, hrow, hbB, hsz⟩
  obtain ⟨m, hm⟩ : ∃ m, Hid (ds.length = m) := ⟨_, rfl⟩
  rw [hm.out] at hl' hl ⊢
  have HD := hide (And.intro hl' (And.intro hmem hpw))
  have HR := hide hrow
  have HB := hide hbB
  clear HS hl' hmem hpw hrow hbB
  go_wp2_with fail
  go_loopw [3, 10] (fun o i wr => ∃ k q : Nat, k ≤ m ∧ i = .int .i64 k ∧ Hid (q ≤ k) ∧ Hid (LtSt w1.heap.size w1 wr n o q (keepL n (ds'.take k)))) (fun _ i _ => m - (intOf i).toNat)
  case atStart => exact ⟨0, 0, Nat.zero_le _, rfl, Nat.le_refl _, rfl, World.ownsRow_nil _ _ _ _, Below.refl _ _, Nat.le_refl _⟩
  case round =>
    obtain ⟨k, q, hk, rfl, hq, st⟩ := hrel
    by_cases hlt : k < m
    rotate_left
    · have hk' : k = m := by omega
      subst hk'
      have ST := st.out
      rw [List.take_of_length_le (by have := HD.out.1; omega)] at ST
      obtain ⟨a, c', rfl, hr⟩ := own_tok ST.own ST.len
      have HE : Hid (LeEnd n B ds w (.returned (.slice a q c')) wr) := ⟨ds', a, q, c', rfl, by rw [HD.out.1, hm.out], HD.out.2.1, by simpa using HD.out.2.2, ST.len, by rw [hm.out]; exact hq.out, hr, HB.out.trans (ST.bel.mono (by omega))⟩
      clear ST hr st
      go_wp2_with fail
      go_ret
      exact HE.out
    have hlt' : k < ds'.length := by have := HD.out.1; omega
    obtain ⟨b, off, eb, hbs, hr⟩ := (HR.out.grow st.out.bel).at hlt'
    obtain ⟨rfl, rfl⟩ : B = b ∧ 0 = off := by simpa using eb
    rw [Nat.zero_add] at hr
    clear eb
    have hg0 := heap_alloc_new wr (.cells #[.int .u8 0, .int .u8 0, .int .u8 0, .int .u8 0, .int .u8 0, .int .u8 0, .int .u8 0, .int .u8 0, .int .u8 0, .int .u8 0, .int .u8 0, .int .u8 0, .int .u8 0, .int .u8 0, .int .u8 0, .int .u8 0] 84)
    obtain ⟨t, ht⟩ : ∃ t, Hid (ds'.getD k [] = t) := ⟨_, rfl⟩
    rw [ht.out] at hr
    have h5 := setRow_same hg0 (packOf t n)
    have HBX := hide (below_box wr (packOf t n) (.cells #[.int .u8 0, .int .u8 0, .int .u8 0, .int .u8 0, .int .u8 0, .int .u8 0, .int .u8 0, .int .u8 0, .int .u8 0, .int .u8 0, .int .u8 0, .int .u8 0, .int .u8 0, .int .u8 0, .int .u8 0, .int .u8 0] 84))
    have ST := hide (st.out.grow HBX.out)
    obtain ⟨oa, oc, rfl, hrow⟩ := own_tok ST.out.own ST.out.len
    have HC := hide (containsT_any n hn oa q oc _ t _ hrow ST.out.len (by have := hq.out; omega))
    obtain ⟨L, hL⟩ : ∃ L, Hid (L = keepL n (ds'.take k)) := ⟨_, rfl⟩
    rw [← hL.out] at HC ST
    clear hrow st
    go_wp2_with (first
      | refine wpList_load_tok rfl (.tmp 12) rfl _ _ rfl _ _ hr.out ?_
      | refine wpList_store_row rfl 84 (.tmp 5) _ rfl _ _ rfl rfl 84 _ hg0 (by rw [packOf_size]; exact Try.size84) (by rw [packOf_size]; rfl) (packOf_one _ _) ?_
      | refine wpList_load_row rfl 84 (.tmp 5) rfl _ rfl 84 (packOf t n) (0, 0) _ h5 Try.underlying84 rfl (by rw [packOf_size]; exact Try.size84) ?_)
    refine HC.out.mono ?_
    rintro e w2 ⟨rfl, hb2⟩
    have h52 := (hb2.block wr.heap.size (Array.getElem?_eq_some_iff.mp h5).1).trans h5
    have ST2 := hide (ST.out.grow hb2)
    clear hb2 HC ST HBX h5 hg0 hr
    cases hh : L.any fun u => covL n t u
    · have HK : Hid (keepL n (ds'.take (k + 1)) = L ++ [t]) := by
        show _ = _
        rw [hL.out, ← ht.out]
        exact keep_no hlt' (by rw [ht.out, ← hL.out]; exact hh)
      have ST3 := hide (ST2.out.grow ((Below.refl w2.heap.size w2).alloc (Nat.le_refl _) (.cells (packOf t n) 84)))
      have hq4 : q ≤ 400 := by have := hq.out; omega
      have hlo : w1.heap.size ≤ w2.heap.size := ST2.out.low
      obtain ⟨hi, hz0, hz1, hz2⟩ := HI.out
      clear hh
      go_wp2_with (first
        | refine wpList_load_row rfl 84 (.tmp 5) rfl _ rfl 84 (packOf t n) (0, 0) _ h52 Try.underlying84 rfl (by rw [packOf_size]; exact Try.size84) ?_
        | refine wpList_build_tok rfl (.tmp 20) rfl n t rfl ?_
        | (at_builtin; refine wpList_append_own _ rfl (.tmp 19) (.tmp 21) 71 rfl w1.heap.size 84 i0 _ 16 16 Try.underlying71 hi hz0 hz1 hz2 rfl (by decide) _ q _ rfl ST3.out.own ⟨w2.heap.size, 0, none⟩ 1 1 (encT n t) rfl (encT_len n t) (tok_cells n t w2) (encT_one n t) (by unfold maxLen; omega) (by omega) (by simp; omega) ?_
           intro v' w3 r1 r2 _
           have ST4 := hide (ST3.out.step r1 r2)
           clear r1 r2))
      go_roundw
      case rel => exact ⟨k + 1, q + 1, by omega, by go_num, by have := hq.out; show _ ≤ _; omega, by rw [HK.out]; exact ST4⟩
      case measure => simp [intOf]; omega
    · have HK : Hid (keepL n (ds'.take (k + 1)) = L) := by
        show _ = _
        rw [hL.out]
        exact keep_yes hlt' (by rw [ht.out, ← hL.out]; exact hh)
      clear hh
      go_wp2_with fail
      go_roundw
      case rel => exact ⟨k + 1, q, by omega, by go_num, by have := hq.out; show _ ≤ _; omega, by rw [HK.out]; exact ST2⟩
      case measure => simp [intOf]; omega
end Go.Proofs.Ytedbihlpggficaa


/- What markIntS writes, what heldIntS answers, and what the list of an array is, for slices that lie from the head of a block of their own; nothing else that was there is written. -/
namespace Go.Proofs.Ytedbihlpggficaa
open Go.RowKit

/-- Nothing but the block b has turned, and no block is new. -/
structure Only (b : Nat) (w w' : World) : Prop where
  os : w'.os = w.os
  tape : w'.tape = w.tape
  output : w'.output = w.output
  size : w'.heap.size = w.heap.size
  block : ∀ k, k ≠ b → w'.heap[k]? = w.heap[k]?

theorem Only.refl (b : Nat) (w : World) : Only b w w := ⟨rfl, rfl, rfl, rfl, fun _ _ => rfl⟩
theorem Only.below {b B : Nat} {w w' : World} (h : Only b w w') (hb : B ≤ b) : Below B w w' := ⟨h.os, h.tape, h.output, Nat.le_of_eq h.size.symm, fun k hk => h.block k (by omega)⟩
theorem Only.setCell {b : Nat} {w w' : World} (h : Only b w w') (o : Nat) (v : Value) : Only b w (w'.setCell ⟨b, o, none⟩ v) :=
  ⟨h.os, h.tape, h.output, by rw [← h.size]; simp [World.setCell], fun k hk => (Below.heap_setCell _ _ _ _ hk).trans (h.block k hk)⟩

/-- A slice that lies from the head of the block b, as long as it is; or an empty one. -/
def Blk (w : World) (a : Option Addr) (b n : Nat) (xs : List Int) : Prop :=
  xs.length = n ∧ (n = 0 ∨ (a = some ⟨b, 0, none⟩ ∧ w.heap[b]? = some (.cells (cellsOf xs) 3 (0, 0))))

theorem Blk.row {w : World} {a : Option Addr} {b n : Nat} {xs : List Int} (h : Blk w a b n xs) : Row w a n xs := by
  rcases h.2 with h0 | ⟨e, hh⟩
  · exact ⟨h.1, .inl h0⟩
  · exact Own.row (B := 0) ⟨h.1, b, e, Nat.zero_le _, hh⟩

theorem Blk.below {w w' : World} {a : Option Addr} {b n B : Nat} {xs : List Int} (h : Blk w a b n xs) (hb : Below B w w') (hB : b < B) : Blk w' a b n xs := by
  refine ⟨h.1, ?_⟩
  rcases h.2 with h0 | ⟨e, hh⟩
  · exact .inl h0
  · exact .inr ⟨e, (hb.block b hB).trans hh⟩

theorem Blk.only {w w' : World} {a : Option Addr} {b c n : Nat} {xs : List Int} (h : Blk w a b n xs) (hb : Only c w w') (hB : b ≠ c) : Blk w' a b n xs := by
  refine ⟨h.1, ?_⟩
  rcases h.2 with h0 | ⟨e, hh⟩
  · exact .inl h0
  · exact .inr ⟨e, (hb.block b hB).trans hh⟩

/-- k, k + 1, and so on. -/
def seqL (k n : Nat) : List Int := (List.range n).map fun i => ((k + i : Nat) : Int)

theorem seqL_len (k n : Nat) : (seqL k n).length = n := by simp [seqL]
theorem seqL_at (k n i : Nat) (h : i < n) : (seqL k n).getD i 0 = ((k + i : Nat) : Int) := by simp [seqL, h]

theorem set_fill {xs : List Int} {n k : Nat} {cs : Array Value} {x : Int} (h : Fill xs n k cs) (hk : k < n) (hx : xs.getD k 0 = x) : Fill xs n (k + 1) (cs.setIfInBounds k (.int .i64 x)) := by
  obtain ⟨h1, h2⟩ := h
  refine ⟨by simp [h1], fun i hi => ?_⟩
  rw [Array.getElem?_setIfInBounds]
  by_cases e : k = i
  · subst e; rw [if_pos rfl, if_pos (by omega), hx]
  · rw [if_neg e]; exact h2 i (by omega)

set_option maxHeartbeats 400000 in
theorem mark_any (a : Option Addr) (b n c k0 : Nat) (xs : List Int) (w : World) (h : Blk w a b n xs) (hn : n ≤ 1048576) (hk0 : k0 ≤ 4194304) :
    Calls Try.prog 18 #[.slice a n c, .int .i64 (k0 : Int)] w fun e w' => e = .returned (.int .i64 ((k0 + n : Nat) : Int)) ∧ Blk w' a b n (seqL k0 n) ∧ Only b w w' := by
  have HB := hide h
  clear h
  go_enter Try.func18, Try.ntmps18
  go_wp2
  go_loopw [1, 5] (fun t i wr => ∃ k : Nat, k ≤ n ∧ i = .int .i64 k ∧ t = .int .i64 ((k0 + k : Nat) : Int) ∧ Only b w wr ∧ (n = 0 ∨ (a = some ⟨b, 0, none⟩ ∧ ∃ cs, Fill (seqL k0 n) n k cs ∧ wr.heap[b]? = some (.cells cs 3 (0, 0))))) (fun _ i _ => n - (intOf i).toNat)
  case atStart =>
    refine ⟨0, Nat.zero_le _, rfl, rfl, Only.refl _ _, ?_⟩
    rcases HB.out.2 with h0 | ⟨e, hh⟩
    · exact .inl h0
    · exact .inr ⟨e, _, ⟨by have := HB.out.1; simp [cellsOf]; omega, fun i hi => absurd hi (by omega)⟩, hh⟩
  case round =>
    obtain ⟨k, hk, rfl, rfl, ho, hd⟩ := hrel
    by_cases hlt : k < n
    · obtain ⟨rfl, cs, hf, hh⟩ : a = some ⟨b, 0, none⟩ ∧ ∃ cs, Fill (seqL k0 n) n k cs ∧ wr.heap[b]? = some (.cells cs 3 (0, 0)) := by
        rcases hd with h0 | h
        · omega
        · exact h
      have HF := hide (set_fill hf hlt (seqL_at k0 n k hlt))
      have hsz := hf.1
      obtain ⟨v0, hv0⟩ : ∃ v0, wr.cell? ⟨b, k, none⟩ = some v0 := ⟨_, by rw [cell_of_row wr b k cs _ _ hh]; exact Array.getElem?_eq_getElem (by omega)⟩
      have hfr := frozen_of_row wr b k cs _ hh
      have HH := hide (heap_setCell_same wr b k cs _ (.int .i64 ((k0 + k : Nat) : Int)) hh)
      have HO := hide (ho.setCell k (.int .i64 ((k0 + k : Nat) : Int)))
      have hb1 : ((k0 + k : Nat) : Int) ≤ 5242880 := by omega
      have hb0 : (0 : Int) ≤ ((k0 + k : Nat) : Int) := by omega
      obtain ⟨t, ht⟩ : ∃ t : Nat, Hid (k0 + k = t) := ⟨_, rfl⟩
      rw [ht.out] at hb1 hb0 HF HH HO ⊢
      clear hd ho hf hh HB
      go_wp2
      go_roundw
      case rel => exact ⟨k + 1, by omega, by go_num, by rw [show k0 + (k + 1) = t + 1 by have := ht.out; omega]; go_num, HO.out, by first | exact .inr ⟨rfl, _, HF.out, HH.out⟩ | exact .inr ⟨trivial, _, HF.out, HH.out⟩⟩
      case measure => simp [intOf]; omega
    · have hk' : k = n := by omega
      subst hk'
      have HD := hide hd
      have HO := hide ho
      clear hd ho
      go_wp2
      go_ret
      refine ⟨rfl, ⟨seqL_len _ _, ?_⟩, HO.out⟩
      rcases HD.out with h0 | ⟨e, cs, hf, hh⟩
      · exact .inl h0
      · exact .inr ⟨e, by rw [hh, hf.done (seqL_len _ _)]⟩

set_option maxHeartbeats 400000 in
theorem held_any (a : Option Addr) (n c k0 : Nat) (w : World) (h : Row w a n (seqL k0 n)) (hn : n ≤ 1048576) (hk0 : k0 ≤ 4194304) :
    Calls Try.prog 30 #[.slice a n c, .int .i64 (k0 : Int)] w fun e w' => e = .returned (.int .i64 ((k0 + n : Nat) : Int)) ∧ w' = w := by
  go_enter Try.func30, Try.ntmps30
  go_wp2
  go_loop [1, 5] (fun t i => ∃ k : Nat, k ≤ n ∧ i = .int .i64 k ∧ t = .int .i64 ((k0 + k : Nat) : Int)) (fun _ i => n - (intOf i).toNat)
  case atStart => exact ⟨0, Nat.zero_le _, rfl, rfl⟩
  case round =>
    obtain ⟨k, hk, rfl, rfl⟩ := hrel
    by_cases hlt : k < n
    · obtain ⟨b1, o1, x, rfl, hl1, hc1, H1⟩ := h.at hlt
      have hx : x = ((k0 + k : Nat) : Int) := by
        have := seqL_at k0 n k hlt
        rw [List.getD_eq_getElem?_getD, H1.out] at this
        simpa using this
      subst hx
      clear h H1
      have hb1 : ((k0 + k : Nat) : Int) ≤ 5242880 := by omega
      have hb0 : (0 : Int) ≤ ((k0 + k : Nat) : Int) := by omega
      obtain ⟨t, ht⟩ : ∃ t : Nat, Hid (k0 + k = t) := ⟨_, rfl⟩
      rw [ht.out] at hb1 hb0 hc1 ⊢
      have hne : ((t : Int) != (t : Int)) = false := by simp
      go_wp2
      go_round
      case rel => exact ⟨k + 1, by omega, by go_num, by rw [show k0 + (k + 1) = t + 1 by have := ht.out; omega]; go_num⟩
      case measure => simp [intOf]; omega
    · have hk' : k = n := by omega
      subst hk'
      go_wp2
      go_ret
      exact ⟨rfl, rfl⟩

/-- The first n numbers of an array. -/
def listF (f : Nat → Int) (n : Nat) : List Int := (List.range n).map f

theorem listF_len (f : Nat → Int) (n : Nat) : (listF f n).length = n := by simp [listF]
theorem listF_at (f : Nat → Int) (n i : Nat) (h : i < n) : (listF f n).getD i 0 = f i := by simp [listF, h]

set_option maxHeartbeats 400000 in
theorem list_any (f : Nat → Int) (n : Nat) (w : World) (hn : n ≤ 16) (hs : ∀ i, 0 ≤ f i ∧ f i ≤ 255) :
    Calls Try.prog 93 #[.agg (tokF f), .int .i64 (n : Int)] w fun e w' =>
      e = .returned (.slice (some ⟨w.heap.size + 1, 0, none⟩) n n) ∧ w' = (w.alloc (.cells (tokF f) 84)).alloc (.cells (cellsOf (listF f n)) 3) := by
  have hmk := run_make_row' (P := Try.prog) 25 3 (.int .i64 0) 8 Try.underlying25 Try.info3 rfl .i64 .i64 n (by omega) (by omega)
  go_enter Try.func93, Try.ntmps93
  go_wp2
  go_loopw [11] (fun i wr => ∃ k : Nat, k ≤ n ∧ i = .int .i64 k ∧ ∃ cs, Fill (listF f n) n k cs ∧ wr = (w.alloc (.cells (tokF f) 84)).alloc (.cells cs 3)) (fun i _ => n - (intOf i).toNat)
  case atStart => exact ⟨0, Nat.zero_le _, rfl, _, ⟨size_madeCells _ _, fun i hi => absurd hi (by omega)⟩, rfl⟩
  case round =>
    obtain ⟨k, hk, rfl, cs, hf, rfl⟩ := hrel
    by_cases hlt : k < n
    · have HF := hide (set_fill hf hlt (listF_at f n k hlt))
      have hsz := hf.1
      obtain ⟨v0, hv0⟩ : ∃ v0, cs[k]? = some v0 := ⟨_, Array.getElem?_eq_getElem (by omega)⟩
      have hat := tokF_at f k (by omega)
      have hx := hs k
      have hi1 : ((k : Int)) < 16 := by omega
      obtain ⟨x, hxq⟩ : ∃ x, Hid (f k = x) := ⟨_, rfl⟩
      rw [hxq.out] at hat hx HF
      clear hf hmk hs
      go_wp2
      go_roundw
      case rel => exact ⟨k + 1, by omega, by go_num, _, HF.out, rfl⟩
      case measure => simp [intOf]; omega
    · have hk' : k = n := by omega
      subst hk'
      have HF := hf.done (listF_len _ _)
      clear hmk hf
      subst HF
      go_wp2
      go_ret
      exact ⟨rfl, rfl⟩
end Go.Proofs.Ytedbihlpggficaa
