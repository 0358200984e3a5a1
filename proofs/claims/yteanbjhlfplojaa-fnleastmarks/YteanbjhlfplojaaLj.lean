/- The program's LeastMarks: the least ones of good marks, in order, each in a block of its own. -/
import Derived.Test.YteanbjhlfplojaaLe
import Derived.Test.YteanbjhlfplojaaSs
namespace Go.Proofs.Yteanbjhlfplojaa
open Go.RowKit Go.Sort Go.Shelf
set_option maxRecDepth 10000

/-- The first k of m marks are packed. -/
structure AllT (w : World) (B m k n : Nat) (L : List (List Int)) : Prop where
  lt : B < w.heap.size
  th : w.there B 0 (m * 16)
  rg : ∀ j, j < k → w.rangeAt B (j * 16) (encT n (L.getD j []))

theorem there_below {w w' : World} {b o n : Nat} (h : w.there b o n) {D : Nat} (hB : b < D) (hb : Below D w w') : w'.there b o n := fun j hj => by
  obtain ⟨h1, h2⟩ := h j hj
  exact ⟨by rw [hb.cell hB]; exact h1, by rw [hb.frozen hB]; exact h2⟩

theorem AllT.grow {w w' : World} {B m k n : Nat} {L : List (List Int)} (h : AllT w B m k n L) (hb : Below w.heap.size w w') : AllT w' B m k n L :=
  ⟨Nat.lt_of_lt_of_le h.lt hb.size, there_below h.th h.lt hb, fun j hj => rangeAt_below (h.rg j hj) h.lt hb⟩

theorem there_part {w : World} {b m o n : Nat} (h : w.there b 0 m) (ho : o + n ≤ m) : w.there b o n := fun j hj => by
  have := h (o + j) (by omega)
  rwa [Nat.zero_add] at this

theorem heap_size_setCells (b : Nat) : ∀ (vs : List Value) (o : Nat) (w : World), (w.setCells b o vs).heap.size = w.heap.size
  | [], _, _ => rfl
  | v :: r, o, w => by rw [World.setCells, heap_size_setCells b r]; simp [World.setCell]

theorem AllT.step {w : World} {B m k n : Nat} {L : List (List Int)} (h : AllT w B m k n L) (hk : k < m) {t : List Int} (ht : L.getD k [] = t) : AllT (w.setCells B (k * 16) (packOf t n).toList) B m (k + 1) n L := by
  have hl : (packOf t n).toList.length = 16 := by simp [packOf_size]
  refine ⟨by rw [heap_size_setCells]; exact h.lt, World.there_setCells h.th _ _ _, fun j hj => ?_⟩
  by_cases e : j = k
  · subst e
    rw [ht]
    exact World.rangeAt_setCells_same _ _ _ _ (there_part h.th (by rw [hl]; omega))
  · exact World.rangeAt_setCells_apart (h.rg j (by omega)) _ _ _ (.inr (.inl (by rw [encT_len]; omega)))

theorem AllT.holds {w : World} {B n : Nat} {L : List (List Int)} (h : AllT w B L.length L.length n L) : HoldsK (encT n) 16 w B 0 L.toArray := by
  intro j hj
  have hj' : j < L.length * 16 := by simpa using hj
  refine ⟨?_, (h.th j (by omega)).2⟩
  rw [get_flatK _ _ _ _ (by simpa using hj')]
  have hq : j / 16 < L.length := by omega
  have hr : j % 16 < 16 := by omega
  have := h.rg (j / 16) hq (j % 16) _ (List.getElem?_eq_getElem (by rw [encT_len]; exact hr))
  rw [show j / 16 * 16 + j % 16 = j by omega] at this
  rw [Nat.zero_add, this]
  simp [hq, encT_len, hr]

theorem listF_of {us : List Int} {l : Nat} (h : us.length = l) : listF (fOf us l) l = us := by
  apply List.ext_getElem (by rw [listF_len]; omega)
  intro i h1 h2
  simp only [listF, List.getElem_map, List.getElem_range, fOf]
  rw [if_pos (by rw [listF_len] at h1; exact h1)]
  simp [h2]

theorem good_len {p : Int} {xs : List Int} (h : goodB p xs = true) : xs.length = p.toNat := by
  unfold goodB at h
  simp only [Bool.and_eq_true, decide_eq_true_eq] at h
  omega

theorem good_small {p : Int} {xs : List Int} (h : goodB p xs = true) (n : Nat) : ∀ i, 0 ≤ fOf xs n i ∧ fOf xs n i ≤ 255 := by
  unfold goodB at h
  simp only [Bool.and_eq_true, decide_eq_true_eq] at h
  have h2 := h.2
  unfold allB at h2
  rw [List.all_eq_true] at h2
  intro i
  unfold fOf
  split
  · rw [List.getD_eq_getElem?_getD]
    by_cases hi : i < xs.length
    · have := h2 _ (List.getElem_mem hi)
      simp [inB] at this
      simp [hi]
      omega
    · simp [List.getElem?_eq_none (show xs.length ≤ i by omega)]
  · omega

/-- The least ones of some marks, in order. -/
noncomputable def leastL (n : Nat) (L : List (List Int)) : List (List Int) := open Classical in if h : ∃ R, MinOf n L R then h.choose else []

theorem MinOf.least {n : Nat} {L R : List (List Int)} (h : MinOf n L R) : R = leastL n L := by
  unfold leastL
  rw [dif_pos ⟨R, h⟩]
  exact h.unique (Exists.choose_spec (p := fun R => MinOf n L R) ⟨R, h⟩)

noncomputable def leastR (p : Int) (L : List (List Int)) : List (List Int) := if okL p L = true then leastL p.toNat L else []

theorem okL_no1 {p : Int} {L : List (List Int)} (h : inB p 1 16 = false) : okL p L = false := by simp [okL, h]
theorem okL_no2 {p : Int} {L : List (List Int)} (h : ¬ L.length ≤ 400) : okL p L = false := by simp [okL, h]
theorem okL_no3 {p : Int} {L : List (List Int)} {k : Nat} (hk : k < L.length) (h : goodB p (L.getD k []) = false) : okL p L = false := by
  unfold okL
  rw [Bool.and_eq_false_iff]
  right
  rw [List.all_eq_false]
  exact ⟨_, getD_mem hk, by rw [h]; decide⟩
theorem okL_yes {p : Int} {L : List (List Int)} (h1 : inB p 1 16 = true) (h2 : L.length ≤ 400) (h3 : ∀ k, k < L.length → goodB p (L.getD k []) = true) : okL p L = true := by
  unfold okL
  rw [h1, decide_eq_true h2]
  simp only [Bool.true_and, List.all_eq_true]
  intro x hx
  obtain ⟨k, hk, rfl⟩ := List.getElem_of_mem hx
  have := h3 k hk
  simpa [hk] using this
theorem okL_all {p : Int} {L : List (List Int)} (h : okL p L = true) : ∀ x ∈ L, goodB p x = true := by
  unfold okL at h
  simp only [Bool.and_eq_true, List.all_eq_true] at h
  exact h.2

theorem leastR_len {p : Int} {L : List (List Int)} : (leastR p L).length = (leastR p L).length := rfl

/-- How the program's LeastMarks ends. -/
def LjEnd (ok : Bool) (R : List (List Int)) (w : World) (e : Ending) (w' : World) : Prop :=
  ∃ a B hi c, e = .returned (.tuple #[.slice a R.length c, .bool ok]) ∧ NetF w' a B hi R.length (fun j => R.getD j []) ∧ w.heap.size ≤ B ∧ hi ≤ w'.heap.size ∧ Below w.heap.size w w' ∧ R.length ≤ c

theorem ljEnd_no {p : Int} {L : List (List Int)} {w w' : World} (h : okL p L = false) (hb : Below w.heap.size w w') : LjEnd (okL p L) (leastR p L) w (.returned (.tuple #[.slice none 0 0, .bool false])) w' := by
  have hr : leastR p L = [] := by unfold leastR; rw [h]; rfl
  rw [h, hr]
  exact ⟨none, w.heap.size, 0, 0, rfl, .inl rfl, Nat.le_refl _, Nat.zero_le _, hb, Nat.le_refl _⟩

theorem least_of {p : Int} {n : Nat} {L ds' : List (List Int)} (hok : okL p L = true) (hn : n = p.toNat) (hn16 : n ≤ 16) (hm : ∀ x, x ∈ ds' ↔ x ∈ L) (hs : ds'.Pairwise fun x y => ¬ cfT n y x < 0) : keepL n ds' = leastR p L := by
  have hl : ∀ x ∈ ds', x.length = n := fun x hx => by rw [hn]; exact good_len (okL_all hok x ((hm x).mp hx))
  have hs' : ds'.Pairwise fun x y => ¬ cmpL n y x < 0 := hs.imp fun {x y} h => by rw [cfT, cmpL_pad _ _ _ hn16] at h; exact h
  unfold leastR
  rw [if_pos hok, ← hn]
  exact ((keep_min hl hs').perm hm).least
end Go.Proofs.Yteanbjhlfplojaa
