/- The least of some marks: the mathematics of it. A list of marks in order, each of them least among all and each least one among them, is told by that alone; sorting and keeping what covers none that is kept gives it, and so does putting each least one to its place. -/
import Derived.Test.YteanbjhlfplojaaCmp
namespace Go.Proofs.Yteanbjhlfplojaa
open Go.RowKit

theorem cmpN_anti (f g : Nat → Int) (m k : Nat) : cmpN g f m k = - cmpN f g m k := by
  induction m generalizing k with
  | zero => rfl
  | succ m ih =>
    simp only [cmpN]
    by_cases h1 : f k < g k
    · rw [if_neg (by omega), if_pos h1, if_pos h1]; rfl
    · by_cases h2 : g k < f k
      · rw [if_pos h2, if_neg h1, if_pos h2]
      · rw [if_neg h2, if_neg h1, if_neg h1, if_neg h2]; exact ih (k + 1)

theorem cmpN_le (f g h : Nat → Int) (m k : Nat) (h1 : cmpN f g m k ≤ 0) (h2 : cmpN g h m k ≤ 0) : cmpN f h m k ≤ 0 := by
  induction m generalizing k with
  | zero => exact Int.le_refl 0
  | succ m ih =>
    simp only [cmpN] at *
    by_cases a1 : f k < g k
    · by_cases b1 : g k < h k
      · rw [if_pos (by omega)]; omega
      · by_cases b2 : h k < g k
        · rw [if_neg b1, if_pos b2] at h2; omega
        · rw [if_pos (by omega)]; omega
    · by_cases a2 : g k < f k
      · rw [if_neg a1, if_pos a2] at h1; omega
      · rw [if_neg a1, if_neg a2] at h1
        by_cases b1 : g k < h k
        · rw [if_pos (by omega)]; omega
        · by_cases b2 : h k < g k
          · rw [if_neg b1, if_pos b2] at h2; omega
          · rw [if_neg b1, if_neg b2] at h2
            rw [if_neg (by omega), if_neg (by omega)]
            exact ih (k + 1) h1 h2

theorem cmpN_zero_iff (f g : Nat → Int) (m k : Nat) : cmpN f g m k = 0 ↔ ∀ i, k ≤ i → i < k + m → f i = g i := by
  induction m generalizing k with
  | zero => simp [cmpN]; omega
  | succ m ih =>
    simp only [cmpN]
    by_cases h1 : f k < g k
    · rw [if_pos h1]
      exact ⟨fun h => absurd h (by omega), fun h => by have := h k (by omega) (by omega); omega⟩
    · by_cases h2 : g k < f k
      · rw [if_neg h1, if_pos h2]
        exact ⟨fun h => absurd h (by omega), fun h => by have := h k (by omega) (by omega); omega⟩
      · rw [if_neg h1, if_neg h2, ih (k + 1)]
        constructor
        · intro h i hi hj
          by_cases e : i = k
          · subst e; omega
          · exact h i (by omega) (by omega)
        · intro h i hi hj
          exact h i (by omega) (by omega)

theorem cmpN_cov (f g : Nat → Int) (m k : Nat) (h : ∀ i, k ≤ i → i < k + m → g i ≤ f i) : 0 ≤ cmpN f g m k := by
  induction m generalizing k with
  | zero => exact Int.le_refl 0
  | succ m ih =>
    simp only [cmpN]
    rw [if_neg (by have := h k (by omega) (by omega); omega)]
    split
    · omega
    · exact ih (k + 1) (fun i hi hj => h i (by omega) (by omega))

/-- How two marks of n places stand, and whether the first covers the second. -/
def cmpL (n : Nat) (xs ys : List Int) : Int := cmpN (getF xs) (getF ys) n 0
def covL (n : Nat) (xs ys : List Int) : Bool := covF (getF xs) (getF ys) n

theorem cmpL_pad (xs ys : List Int) (n : Nat) (hn : n ≤ 16) : cmpN (fOf xs n) (fOf ys n) 16 0 = cmpL n xs ys := by
  have := cmpN_pad xs ys n (16 - n) n 0 (by omega)
  rwa [show n + (16 - n) = 16 by omega] at this

theorem getF_ext {xs ys : List Int} {n : Nat} (hx : xs.length = n) (hy : ys.length = n) (h : ∀ i, i < n → getF xs i = getF ys i) : xs = ys := by
  apply List.ext_getElem (by omega)
  intro i h1 h2
  have := h i (by omega)
  unfold getF at this
  simpa [h1, h2] using this

theorem cmpL_eq {n : Nat} {xs ys : List Int} (hx : xs.length = n) (hy : ys.length = n) : cmpL n xs ys = 0 ↔ xs = ys := by
  unfold cmpL
  rw [cmpN_zero_iff]
  constructor
  · intro h; exact getF_ext hx hy fun i hi => h i (by omega) (by omega)
  · rintro rfl i _ _; rfl

theorem cmpL_anti (n : Nat) (xs ys : List Int) : cmpL n ys xs = - cmpL n xs ys := cmpN_anti _ _ _ _
theorem cmpL_le {n : Nat} {xs ys zs : List Int} (h1 : cmpL n xs ys ≤ 0) (h2 : cmpL n ys zs ≤ 0) : cmpL n xs zs ≤ 0 := cmpN_le _ _ _ _ _ h1 h2
theorem cmpL_self (n : Nat) (xs : List Int) : cmpL n xs xs = 0 := by have := cmpL_anti n xs xs; omega

theorem cmpL_lt {n : Nat} {xs ys zs : List Int} (h1 : cmpL n xs ys < 0) (h2 : cmpL n ys zs ≤ 0) : cmpL n xs zs < 0 := by
  have h3 := cmpL_le (Int.le_of_lt h1) h2
  by_cases h : cmpL n xs zs = 0
  · have h4 : cmpL n zs xs ≤ 0 := by rw [cmpL_anti, h]; omega
    have h5 := cmpL_le h2 h4
    rw [cmpL_anti] at h5; omega
  · omega

theorem cmpL_lt' {n : Nat} {xs ys zs : List Int} (h1 : cmpL n xs ys ≤ 0) (h2 : cmpL n ys zs < 0) : cmpL n xs zs < 0 := by
  have h3 := cmpL_le h1 (Int.le_of_lt h2)
  by_cases h : cmpL n xs zs = 0
  · have h4 : cmpL n zs xs ≤ 0 := by rw [cmpL_anti, h]; omega
    have h5 := cmpL_le h4 h1
    rw [cmpL_anti] at h5; omega
  · omega

theorem covL_iff {n : Nat} {xs ys : List Int} : covL n xs ys = true ↔ ∀ i, i < n → getF ys i ≤ getF xs i := covF_iff
theorem covL_self (n : Nat) (xs : List Int) : covL n xs xs = true := covL_iff.mpr fun _ _ => Int.le_refl _
theorem covL_trans {n : Nat} {xs ys zs : List Int} (h1 : covL n xs ys = true) (h2 : covL n ys zs = true) : covL n xs zs = true :=
  covL_iff.mpr fun i hi => Int.le_trans (covL_iff.mp h2 i hi) (covL_iff.mp h1 i hi)
theorem covL_anti {n : Nat} {xs ys : List Int} (hx : xs.length = n) (hy : ys.length = n) (h1 : covL n xs ys = true) (h2 : covL n ys xs = true) : xs = ys :=
  getF_ext hx hy fun i hi => Int.le_antisymm (covL_iff.mp h2 i hi) (covL_iff.mp h1 i hi)
theorem covL_cmp {n : Nat} {xs ys : List Int} (h : covL n xs ys = true) : 0 ≤ cmpL n xs ys :=
  cmpN_cov _ _ _ _ fun i _ hi => covL_iff.mp h i (by omega)

/-- A least one of some marks. -/
def MinL (n : Nat) (L : List (List Int)) (x : List Int) : Prop := x ∈ L ∧ ∀ y ∈ L, covL n x y = true → y = x

/-- In order, each once. -/
def SortL (n : Nat) (O : List (List Int)) : Prop := O.Pairwise fun x y => cmpL n x y < 0

/-- The least ones of some marks, in order. -/
def MinOf (n : Nat) (L O : List (List Int)) : Prop := SortL n O ∧ ∀ x, x ∈ O ↔ MinL n L x

theorem sort_unique {n : Nat} : ∀ (O K : List (List Int)), SortL n O → SortL n K → (∀ x, x ∈ O ↔ x ∈ K) → O = K
  | [], [], _, _, _ => rfl
  | [], b :: K, _, _, h => by have := (h b).mpr (by simp); simp at this
  | a :: O, [], _, _, h => by have := (h a).mp (by simp); simp at this
  | a :: O, b :: K, ho, hk, h => by
    obtain ⟨ha, ho'⟩ := List.pairwise_cons.mp ho
    obtain ⟨hb, hk'⟩ := List.pairwise_cons.mp hk
    have e : a = b := by
      have h1 := (h a).mp (by simp)
      have h2 := (h b).mpr (by simp)
      rcases List.mem_cons.mp h1 with e | m1
      · exact e
      · rcases List.mem_cons.mp h2 with e | m2
        · exact e.symm
        · have q1 := hb a m1
          have q2 := ha b m2
          have := cmpL_anti n a b
          omega
    subst e
    congr 1
    refine sort_unique O K ho' hk' fun x => ⟨fun hx => ?_, fun hx => ?_⟩
    · rcases List.mem_cons.mp ((h x).mp (List.mem_cons_of_mem _ hx)) with e | m
      · subst e; have := ha x hx; rw [cmpL_self] at this; omega
      · exact m
    · rcases List.mem_cons.mp ((h x).mpr (List.mem_cons_of_mem _ hx)) with e | m
      · subst e; have := hb x hx; rw [cmpL_self] at this; omega
      · exact m

theorem MinOf.unique {n : Nat} {L O K : List (List Int)} (h : MinOf n L O) (g : MinOf n L K) : O = K :=
  sort_unique O K h.1 g.1 fun x => (h.2 x).trans (g.2 x).symm

theorem MinOf.perm {n : Nat} {L D O : List (List Int)} (h : MinOf n D O) (hm : ∀ x, x ∈ D ↔ x ∈ L) : MinOf n L O := by
  refine ⟨h.1, fun x => (h.2 x).trans ⟨fun ⟨a, b⟩ => ⟨(hm x).mp a, fun y hy => b y ((hm y).mpr hy)⟩, fun ⟨a, b⟩ => ⟨(hm x).mpr a, fun y hy => b y ((hm y).mp hy)⟩⟩⟩

/-- One mark more is looked at. -/
def keepStep (n : Nat) (acc : List (List Int)) (t : List Int) : List (List Int) := if acc.any (fun u => covL n t u) = true then acc else acc ++ [t]
def keepL (n : Nat) (D : List (List Int)) : List (List Int) := D.foldl (keepStep n) []

theorem keepL_take {n k : Nat} {D : List (List Int)} (hk : k < D.length) : keepL n (D.take (k + 1)) = keepStep n (keepL n (D.take k)) (D.getD k []) := by
  unfold keepL
  rw [List.take_add_one, List.getElem?_eq_getElem hk, List.foldl_append]
  simp [hk]

structure KeepInv (n : Nat) (D acc : List (List Int)) : Prop where
  sort : SortL n acc
  sub : ∀ u ∈ acc, u ∈ D
  cov : ∀ x ∈ D, ∃ u ∈ acc, covL n x u = true
  apart : ∀ u ∈ acc, ∀ v ∈ acc, covL n u v = true → v = u

theorem KeepInv.step {n : Nat} {D acc : List (List Int)} {t : List Int} (h : KeepInv n D acc) (hl : ∀ x ∈ D, x.length = n) (ht : t.length = n) (hs : ∀ u ∈ D, ¬ cmpL n t u < 0) : KeepInv n (D ++ [t]) (keepStep n acc t) := by
  unfold keepStep
  by_cases hc : acc.any (fun u => covL n t u) = true
  · rw [if_pos hc]
    obtain ⟨u, hu, hcu⟩ := List.any_eq_true.mp hc
    refine ⟨h.sort, fun v hv => List.mem_append_left _ (h.sub v hv), fun x hx => ?_, h.apart⟩
    rcases List.mem_append.mp hx with hx | hx
    · exact h.cov x hx
    · obtain rfl := List.mem_singleton.mp hx
      exact ⟨u, hu, hcu⟩
  · rw [if_neg hc]
    have hno : ∀ u ∈ acc, covL n t u = false := by
      intro u hu
      rw [Bool.eq_false_iff]
      intro hcu
      exact hc (List.any_eq_true.mpr ⟨u, hu, hcu⟩)
    have hlt : ∀ u ∈ acc, cmpL n u t < 0 := by
      intro u hu
      have h1 := hs u (h.sub u hu)
      have h2 := cmpL_anti n u t
      by_cases e : cmpL n u t = 0
      · have := (cmpL_eq (hl u (h.sub u hu)) ht).mp e
        subst this
        have := hno u hu
        rw [covL_self] at this
        exact absurd this (by decide)
      · omega
    refine ⟨?_, fun v hv => ?_, fun x hx => ?_, fun u hu v hv huv => ?_⟩
    · refine List.pairwise_append.mpr ⟨h.sort, List.pairwise_singleton _ _, fun u hu v hv => ?_⟩
      obtain rfl := List.mem_singleton.mp hv
      exact hlt u hu
    · rcases List.mem_append.mp hv with hv | hv
      · exact List.mem_append_left _ (h.sub v hv)
      · exact List.mem_append_right _ hv
    · rcases List.mem_append.mp hx with hx | hx
      · obtain ⟨u, hu, hcu⟩ := h.cov x hx
        exact ⟨u, List.mem_append_left _ hu, hcu⟩
      · obtain rfl := List.mem_singleton.mp hx
        exact ⟨x, List.mem_append_right _ (by simp), covL_self n x⟩
    · rcases List.mem_append.mp hu with hu' | hu
      · rcases List.mem_append.mp hv with hv | hv
        · exact h.apart u hu' v hv huv
        · obtain rfl := List.mem_singleton.mp hv
          have h1 := covL_cmp huv
          have h2 := hlt u hu'
          omega
      · obtain rfl := List.mem_singleton.mp hu
        rcases List.mem_append.mp hv with hv | hv
        · rw [hno v hv] at huv; exact absurd huv (by decide)
        · obtain rfl := List.mem_singleton.mp hv
          rfl

theorem keep_inv {n : Nat} {D : List (List Int)} (hl : ∀ x ∈ D, x.length = n) (hs : D.Pairwise fun x y => ¬ cmpL n y x < 0) (k : Nat) (hk : k ≤ D.length) : KeepInv n (D.take k) (keepL n (D.take k)) := by
  induction k with
  | zero => exact ⟨List.Pairwise.nil, fun u hu => by simp [keepL] at hu, fun x hx => by simp at hx, fun u hu => by simp [keepL] at hu⟩
  | succ k ih =>
    have hk' : k < D.length := by omega
    have h := ih (by omega)
    rw [keepL_take hk']
    have e : D.take (k + 1) = D.take k ++ [D.getD k []] := by
      rw [List.take_add_one, List.getElem?_eq_getElem hk']; simp [hk']
    have hm : D.getD k [] ∈ D := by simp [hk']
    rw [e]
    refine h.step (fun x hx => hl x (List.mem_of_mem_take hx)) (hl _ hm) fun u hu => ?_
    have hs' : (D.take (k + 1)).Pairwise fun x y => ¬ cmpL n y x < 0 := hs.sublist (List.take_sublist _ _)
    rw [e] at hs'
    exact (List.pairwise_append.mp hs').2.2 u hu _ (by simp)

theorem keep_min {n : Nat} {D : List (List Int)} (hl : ∀ x ∈ D, x.length = n) (hs : D.Pairwise fun x y => ¬ cmpL n y x < 0) : MinOf n D (keepL n D) := by
  have h := keep_inv hl hs D.length (Nat.le_refl _)
  rw [List.take_length] at h
  refine ⟨h.sort, fun x => ⟨fun hx => ⟨h.sub x hx, fun y hy hxy => ?_⟩, fun ⟨hx, hmin⟩ => ?_⟩⟩
  · obtain ⟨u, hu, hyu⟩ := h.cov y hy
    have := h.apart x hx u hu (covL_trans hxy hyu)
    subst this
    exact covL_anti (hl y hy) (hl u (h.sub u hx)) hyu hxy
  · obtain ⟨u, hu, hxu⟩ := h.cov x hx
    have := hmin u (h.sub u hu) hxu
    subst this
    exact hu

/-- What putting a mark to its place, once, makes. -/
def Ins (n : Nat) (m : List Int) (l R : List (List Int)) : Prop :=
  (R = l ∧ ∃ x ∈ l, cmpL n m x = 0) ∨ ∃ j, j ≤ l.length ∧ R = l.take j ++ m :: l.drop j ∧ (∀ x ∈ l.take j, 0 < cmpL n m x) ∧ ∀ x ∈ l.drop j, cmpL n m x < 0

theorem Ins.sort {n : Nat} {m : List Int} {l R : List (List Int)} (h : Ins n m l R) (hl : SortL n l) : SortL n R := by
  rcases h with ⟨rfl, _⟩ | ⟨j, hj, rfl, h1, h2⟩
  · exact hl
  · have hl' := hl
    rw [← List.take_append_drop j l] at hl'
    obtain ⟨p1, p2, p3⟩ := List.pairwise_append.mp hl'
    refine List.pairwise_append.mpr ⟨p1, List.pairwise_cons.mpr ⟨h2, p2⟩, fun a ha b hb => ?_⟩
    rcases List.mem_cons.mp hb with rfl | hb
    · have := h1 a ha
      rw [cmpL_anti]; omega
    · exact p3 a ha b hb

theorem Ins.mem {n : Nat} {m : List Int} {l R : List (List Int)} (h : Ins n m l R) (hm : m.length = n) (hl : ∀ x ∈ l, x.length = n) (x : List Int) : x ∈ R ↔ x = m ∨ x ∈ l := by
  rcases h with ⟨rfl, y, hy, hc⟩ | ⟨j, hj, rfl, h1, h2⟩
  · have := (cmpL_eq hm (hl y hy)).mp hc
    subst this
    exact ⟨fun h => .inr h, fun h => h.elim (fun e => e ▸ hy) id⟩
  · conv => rhs; rw [← List.take_append_drop j l]
    simp only [List.mem_append, List.mem_cons]
    constructor
    · rintro (h | h | h)
      · exact .inr (.inl h)
      · exact .inl h
      · exact .inr (.inr h)
    · rintro (h | h | h)
      · exact .inr (.inl h)
      · exact .inl h
      · exact .inr (.inr h)

theorem Ins.size {n : Nat} {m : List Int} {l R : List (List Int)} (h : Ins n m l R) : R.length ≤ l.length + 1 := by
  rcases h with ⟨rfl, _⟩ | ⟨j, hj, rfl, _, _⟩
  · omega
  · simp; omega

/-- Whether a mark is a least one, as it is asked. -/
def leastB (n : Nat) (L : List (List Int)) (m : List Int) : Bool := L.all fun x => !covL n m x || sameB m x

theorem leastB_iff {n : Nat} {L : List (List Int)} {m : List Int} (hm : m ∈ L) : leastB n L m = true ↔ MinL n L m := by
  unfold leastB MinL
  rw [List.all_eq_true]
  constructor
  · intro h
    refine ⟨hm, fun y hy hc => ?_⟩
    have := h y hy
    rw [hc] at this
    simp [sameB] at this
    exact this.symm
  · rintro ⟨_, h⟩ y hy
    by_cases hc : covL n m y = true
    · have := h y hy hc
      subst this
      simp [sameB_self]
    · simp only [Bool.not_eq_true] at hc
      simp [hc]

/-- The least ones among the first k. -/
def MinUpto (n : Nat) (L : List (List Int)) (k : Nat) (O : List (List Int)) : Prop := SortL n O ∧ (∀ x, x ∈ O ↔ x ∈ L.take k ∧ MinL n L x) ∧ O.length ≤ k

theorem MinUpto.first (n : Nat) (L : List (List Int)) : MinUpto n L 0 [] := ⟨List.Pairwise.nil, fun x => by simp, Nat.le_refl _⟩

theorem MinUpto.len {n k : Nat} {L O : List (List Int)} (h : MinUpto n L k O) (hl : ∀ x ∈ L, x.length = n) : ∀ x ∈ O, x.length = n := fun x hx => hl x ((h.2.1 x).mp hx).2.1

theorem take_getD {L : List (List Int)} {k : Nat} (hk : k < L.length) : L.take (k + 1) = L.take k ++ [L.getD k []] := by
  rw [List.take_add_one, List.getElem?_eq_getElem hk]; simp [hk]

theorem getD_mem {L : List (List Int)} {k : Nat} (hk : k < L.length) : L.getD k [] ∈ L := by simp [hk]

theorem MinUpto.skip {n k : Nat} {L O : List (List Int)} (h : MinUpto n L k O) (hk : k < L.length) (hb : leastB n L (L.getD k []) = false) : MinUpto n L (k + 1) O := by
  refine ⟨h.1, fun x => ?_, by have := h.2.2; omega⟩
  rw [h.2.1 x, take_getD hk, List.mem_append, List.mem_singleton]
  constructor
  · rintro ⟨a, b⟩; exact ⟨.inl a, b⟩
  · rintro ⟨a | rfl, b⟩
    · exact ⟨a, b⟩
    · rw [(leastB_iff (getD_mem hk)).mpr b] at hb; exact absurd hb (by decide)

theorem MinUpto.put {n k : Nat} {L O R : List (List Int)} (h : MinUpto n L k O) (hl : ∀ x ∈ L, x.length = n) (hk : k < L.length) (hb : leastB n L (L.getD k []) = true) (hi : Ins n (L.getD k []) O R) : MinUpto n L (k + 1) R := by
  refine ⟨hi.sort h.1, fun x => ?_, by have := h.2.2; have := hi.size; omega⟩
  rw [hi.mem (hl _ (getD_mem hk)) (h.len hl) x, h.2.1 x, take_getD hk, List.mem_append, List.mem_singleton]
  constructor
  · rintro (rfl | ⟨a, b⟩)
    · exact ⟨.inr rfl, (leastB_iff (getD_mem hk)).mp hb⟩
    · exact ⟨.inl a, b⟩
  · rintro ⟨a | rfl, b⟩
    · exact .inr ⟨a, b⟩
    · exact .inl rfl

theorem MinUpto.done {n : Nat} {L O : List (List Int)} (h : MinUpto n L L.length O) : MinOf n L O := by
  refine ⟨h.1, fun x => ?_⟩
  rw [h.2.1 x, List.take_length]
  exact ⟨fun ⟨_, b⟩ => b, fun b => ⟨b.1, b⟩⟩

/-- Both can be told. -/
def okL (p : Int) (L : List (List Int)) : Bool := inB p 1 16 && decide (L.length ≤ 400) && L.all fun x => goodB p x

theorem keepL_len (n : Nat) (D : List (List Int)) (k : Nat) (hk : k ≤ D.length) : (keepL n (D.take k)).length ≤ k := by
  induction k with
  | zero => simp [keepL]
  | succ k ih =>
    rw [keepL_take (by omega)]
    have := ih (by omega)
    unfold keepStep
    split
    · omega
    · simp; omega

theorem keepL_mem {n : Nat} {D : List (List Int)} (k : Nat) (hk : k ≤ D.length) : ∀ u ∈ keepL n (D.take k), u ∈ D := by
  induction k with
  | zero => intro u hu; simp [keepL] at hu
  | succ k ih =>
    rw [keepL_take (by omega)]
    intro u hu
    unfold keepStep at hu
    split at hu
    · exact ih (by omega) u hu
    · rcases List.mem_append.mp hu with hu | hu
      · exact ih (by omega) u hu
      · obtain rfl := List.mem_singleton.mp hu
        exact getD_mem (by omega)
end Go.Proofs.Yteanbjhlfplojaa
