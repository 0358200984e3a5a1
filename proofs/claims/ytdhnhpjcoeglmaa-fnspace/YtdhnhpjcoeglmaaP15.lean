/- Contracts that the proof stands on, one behind the other. -/
import Derived.Test.YtdhnhpjcoeglmaaP14
/- The least of the shortest ways: the arcs by which marks are met bear it. Mathematics alone. -/
namespace Go.Proofs.Ytdhnhpjcoeglmaa
open Go.RowKit

abbrev Arcs := List (Nat × Nat × Nat)

def a0 : Nat × Nat × Nat := (0, 0, 0)
/-- The number of the first arc to j. -/
def fiA (ar : Arcs) (j : Nat) : Nat := ar.findIdx fun a => a.2.2 == j
def mbA (ar : Arcs) (j : Nat) : Nat × Nat × Nat := ar.getD (fiA ar j) a0
def parA (ar : Arcs) (j : Nat) : Nat := (mbA ar j).1
def byA (ar : Arcs) (j : Nat) : Nat := (mbA ar j).2.1

/-- The arcs as the search makes them. -/
structure TreeOk (N : Nat) (ar : Arcs) : Prop where
  lt : ∀ k, k < ar.length → (ar.getD k a0).1 < N ∧ (ar.getD k a0).2.2 < N
  ord : ∀ i k, i < k → k < ar.length → (ar.getD i a0).1 < (ar.getD k a0).1 ∨ ((ar.getD i a0).1 = (ar.getD k a0).1 ∧ (ar.getD i a0).2.1 < (ar.getD k a0).2.1)
  less : ∀ k, k < ar.length → ∀ j, 0 < j → j < (ar.getD k a0).2.2 → ∃ i, i < k ∧ (ar.getD i a0).2.2 = j
  met : ∀ j, 0 < j → j < N → ∃ i, i < ar.length ∧ (ar.getD i a0).2.2 = j
  up : ∀ k, k < ar.length → 0 < (ar.getD k a0).2.2 → (∀ i, i < k → (ar.getD i a0).2.2 ≠ (ar.getD k a0).2.2) → (ar.getD k a0).1 < (ar.getD k a0).2.2

section
variable {N : Nat} {ar : Arcs}

theorem fiA_first (ar : Arcs) (j i : Nat) (h : i < fiA ar j) : (ar.getD i a0).2.2 ≠ j := by
  have hi : i < ar.length := Nat.lt_of_lt_of_le h List.findIdx_le_length
  have := List.not_of_lt_findIdx h
  rw [List.getD_eq_getElem?_getD, List.getElem?_eq_getElem hi]
  simpa using this

theorem fiA_le (ar : Arcs) {i j : Nat} (_hi : i < ar.length) (h : (ar.getD i a0).2.2 = j) : fiA ar j ≤ i := by
  by_cases hc : fiA ar j ≤ i
  · exact hc
  · exact absurd h (fiA_first ar j i (by omega))

theorem TreeOk.fi (h : TreeOk N ar) {j : Nat} (h0 : 0 < j) (hj : j < N) : fiA ar j < ar.length ∧ (mbA ar j).2.2 = j ∧ parA ar j < j ∧ parA ar j < N := by
  obtain ⟨i, hi, e⟩ := h.met j h0 hj
  have hl : fiA ar j < ar.length := Nat.lt_of_le_of_lt (fiA_le ar hi e) hi
  have he : (mbA ar j).2.2 = j := by
    have := List.findIdx_getElem (w := hl)
    unfold mbA
    rw [List.getD_eq_getElem?_getD, List.getElem?_eq_getElem hl]
    exact beq_iff_eq.mp this
  have he' : (ar.getD (fiA ar j) a0).2.2 = j := he
  refine ⟨hl, he, ?_, (h.lt _ hl).1⟩
  have := h.up _ hl (by omega) (fun i hi => by rw [he']; exact fiA_first ar j i hi)
  rw [he'] at this
  exact this

theorem TreeOk.from_le (h : TreeOk N ar) {i k : Nat} (hik : i ≤ k) (hk : k < ar.length) : (ar.getD i a0).1 ≤ (ar.getD k a0).1 := by
  by_cases e : i = k
  · rw [e]; exact Nat.le_refl _
  · rcases h.ord i k (by omega) hk with q | q <;> omega

/-- Which of two is met first. -/
theorem TreeOk.fi_lt (h : TreeOk N ar) {i j : Nat} (hi : 0 < i) (hij : i < j) (hj : j < N) : fiA ar i < fiA ar j := by
  obtain ⟨hl, he, _⟩ := h.fi (Nat.lt_trans hi hij) hj
  have he' : (ar.getD (fiA ar j) a0).2.2 = j := he
  obtain ⟨q, hq, e⟩ := h.less _ hl i hi (by rw [he']; exact hij)
  exact Nat.lt_of_le_of_lt (fiA_le ar (Nat.lt_trans hq hl) e) hq

/-- How far a mark lies from the first one, by the arcs by which marks were met. -/
def dpA (ar : Arcs) : Nat → Nat → Nat
  | 0, _ => 0
  | f + 1, j => if j = 0 then 0 else dpA ar f (parA ar j) + 1

theorem TreeOk.dp_fuel (h : TreeOk N ar) : ∀ (f g j : Nat), j < N → j ≤ f → j ≤ g → dpA ar f j = dpA ar g j := by
  intro f
  induction f with
  | zero =>
    intro g j _ hf _
    have : j = 0 := by omega
    subst this
    cases g <;> simp [dpA]
  | succ f ih =>
    intro g j hj hf hg
    by_cases h0 : j = 0
    · subst h0; cases g <;> simp [dpA]
    · cases g with
      | zero => omega
      | succ g =>
        obtain ⟨_, _, h1, h2⟩ := h.fi (by omega) hj
        simp only [dpA, if_neg h0]
        rw [ih g (parA ar j) h2 (by omega) (by omega)]

def dp (ar : Arcs) (j : Nat) : Nat := dpA ar j j

theorem TreeOk.dp_up (h : TreeOk N ar) {j : Nat} (h0 : 0 < j) (hj : j < N) : dp ar j = dp ar (parA ar j) + 1 := by
  obtain ⟨_, _, h1, h2⟩ := h.fi h0 hj
  unfold dp
  cases j with
  | zero => omega
  | succ j =>
    simp only [dpA, if_neg (Nat.succ_ne_zero j)]
    rw [h.dp_fuel j (parA ar (j + 1)) _ h2 (by omega) (Nat.le_refl _)]
theorem dp_zero (ar : Arcs) : dp ar 0 = 0 := rfl

theorem TreeOk.dp_mono (h : TreeOk N ar) : ∀ (j i : Nat), i ≤ j → j < N → dp ar i ≤ dp ar j := by
  intro j
  induction j using Nat.strongRecOn with
  | _ j ih =>
    intro i hij hj
    by_cases e : i = j
    · rw [e]; exact Nat.le_refl _
    by_cases h0 : i = 0
    · subst h0; rw [dp_zero]; exact Nat.zero_le _
    · have hi : 0 < i := by omega
      have hj0 : 0 < j := by omega
      obtain ⟨l1, _, p1, n1⟩ := h.fi hi (by omega)
      obtain ⟨l2, _, p2, n2⟩ := h.fi hj0 hj
      have hf := h.fi_lt hi (by omega) hj
      have hp : parA ar i ≤ parA ar j := h.from_le (by omega) l2
      rw [h.dp_up hi (by omega), h.dp_up hj0 hj]
      have := ih (parA ar j) p2 (parA ar i) hp n2
      omega

theorem TreeOk.dp_arc (h : TreeOk N ar) {k : Nat} (hk : k < ar.length) : dp ar (ar.getD k a0).2.2 ≤ dp ar (ar.getD k a0).1 + 1 := by
  obtain ⟨h1, h2⟩ := h.lt k hk
  by_cases h0 : (ar.getD k a0).2.2 = 0
  · rw [h0, dp_zero]; omega
  · rw [h.dp_up (by omega) h2]
    have hf := fiA_le ar hk rfl
    have hp : parA ar (ar.getD k a0).2.2 ≤ (ar.getD k a0).1 := h.from_le hf hk
    have := h.dp_mono _ _ hp h1
    omega

/-- What the specification's numbers tell: how far each one is from to. -/
structure FarOk (N : Nat) (ar : Arcs) (tgt : Nat) (f : Nat → Int) : Prop where
  zero : f tgt = 0
  only : ∀ i, i < N → f i = 0 → i = tgt
  arc : ∀ k, k < ar.length → 0 ≤ f (ar.getD k a0).2.2 → 0 ≤ f (ar.getD k a0).1 ∧ f (ar.getD k a0).1 ≤ f (ar.getD k a0).2.2 + 1
  next : ∀ i, i < N → 0 < f i → ∃ k, k < ar.length ∧ (ar.getD k a0).1 = i ∧ f (ar.getD k a0).2.2 = f i - 1

/-- The marks on the way to to. -/
inductive OnP (ar : Arcs) (N tgt : Nat) : Nat → Prop
  | end_ : OnP ar N tgt tgt
  | up {y : Nat} : OnP ar N tgt y → 0 < y → y < N → OnP ar N tgt (parA ar y)

variable {tgt : Nat} {f : Nat → Int}

theorem FarOk.low (h : TreeOk N ar) (hf : FarOk N ar tgt f) : ∀ (m i : Nat), i < N → f i = (m : Int) → dp ar tgt ≤ dp ar i + m := by
  intro m
  induction m with
  | zero => intro i hi e; rw [hf.only i hi (by simpa using e)]; omega
  | succ m ih =>
    intro i hi e
    obtain ⟨k, hk, e1, e2⟩ := hf.next i hi (by omega)
    have := ih _ (h.lt k hk).2 (by omega)
    have h2 := h.dp_arc hk
    rw [e1] at h2
    omega

theorem FarOk.onP (h : TreeOk N ar) (hf : FarOk N ar tgt f) (hto : tgt < N) {y : Nat} (hy : OnP ar N tgt y) : y < N ∧ f y = ((dp ar tgt - dp ar y : Nat) : Int) ∧ dp ar y ≤ dp ar tgt := by
  induction hy with
  | end_ => exact ⟨hto, by rw [hf.zero]; simp, Nat.le_refl _⟩
  | @up y hy h0 hN ih =>
    obtain ⟨_, e, hle⟩ := ih
    obtain ⟨hl, he, hp, hpN⟩ := h.fi h0 hN
    have he' : (ar.getD (fiA ar y) a0).2.2 = y := he
    have hd := h.dp_up h0 hN
    have ha := hf.arc _ hl (by rw [he', e]; omega)
    rw [he', e] at ha
    have hpe : (ar.getD (fiA ar y) a0).1 = parA ar y := rfl
    rw [hpe] at ha
    obtain ⟨m, hm⟩ : ∃ m : Nat, f (parA ar y) = (m : Int) := ⟨(f (parA ar y)).toNat, by omega⟩
    have hlow := FarOk.low h hf m _ hpN hm
    refine ⟨hpN, ?_, by omega⟩
    omega

/-- One with a lesser number is not as near. -/
theorem FarOk.less_no (h : TreeOk N ar) (hf : FarOk N ar tgt f) (hto : tgt < N) : ∀ (m x y : Nat), x < y → x < N → OnP ar N tgt y → f x = (m : Int) → f y = (m : Int) → False := by
  intro m
  induction m with
  | zero =>
    intro x y hxy hx hy e1 e2
    have hyN := (FarOk.onP h hf hto hy).1
    have := hf.only x hx (by simpa using e1)
    have := hf.only y hyN (by simpa using e2)
    omega
  | succ m ih =>
    intro x y hxy hx hy e1 e2
    cases hy with
    | end_ => rw [hf.zero] at e2; omega
    | @up y' hy' h0 hN =>
      obtain ⟨k, hk, k1, k2⟩ := hf.next x hx (by omega)
      obtain ⟨hl, he, hp, hpN⟩ := h.fi h0 hN
      obtain ⟨_, f1, d1⟩ := FarOk.onP h hf hto hy'
      obtain ⟨_, f2, d2⟩ := FarOk.onP h hf hto (OnP.up hy' h0 hN)
      have hd := h.dp_up h0 hN
      have hfy : f y' = (m : Int) := by omega
      refine ih _ y' ?_ (h.lt k hk).2 hy' (by omega) hfy
      by_cases hc : (ar.getD k a0).2.2 < y'
      · exact hc
      · have hpe : (ar.getD (fiA ar y') a0).1 = parA ar y' := rfl
        have hkf : k < fiA ar y' := by
          by_cases q : k < fiA ar y'
          · exact q
          · have := h.from_le (show fiA ar y' ≤ k by omega) hk
            rw [hpe, k1] at this
            omega
        by_cases e : (ar.getD k a0).2.2 = y'
        · exact absurd e (fiA_first ar y' k hkf)
        · obtain ⟨i, hi, e3⟩ := h.less k hk y' h0 (by omega)
          exact absurd e3 (fiA_first ar y' i (by omega))

/-- From a mark on the way the first arc to one that is nearer is the arc by which the next one on the way was met. -/
theorem FarOk.step (h : TreeOk N ar) (hf : FarOk N ar tgt f) (hto : tgt < N) {y k : Nat} (hy : OnP ar N tgt y) (hne : y ≠ tgt) (hk : k < ar.length) (h1 : (ar.getD k a0).1 = y) (h2 : f (ar.getD k a0).2.2 = f y - 1) (hfirst : ∀ i, i < k → ¬ ((ar.getD i a0).1 = y ∧ f (ar.getD i a0).2.2 = f y - 1)) :
    OnP ar N tgt (ar.getD k a0).2.2 ∧ 0 < (ar.getD k a0).2.2 ∧ parA ar (ar.getD k a0).2.2 = y ∧ byA ar (ar.getD k a0).2.2 = (ar.getD k a0).2.1 := by
  cases hy with
  | end_ => exact absurd rfl hne
  | @up y' hy' h0 hN =>
    obtain ⟨hl, he, hp, hpN⟩ := h.fi h0 hN
    obtain ⟨_, f1, d1⟩ := FarOk.onP h hf hto hy'
    obtain ⟨_, f2, d2⟩ := FarOk.onP h hf hto (OnP.up hy' h0 hN)
    have hd := h.dp_up h0 hN
    have he' : (ar.getD (fiA ar y') a0).2.2 = y' := he
    have hpe : (ar.getD (fiA ar y') a0).1 = parA ar y' := rfl
    have hle : k ≤ fiA ar y' := by
      by_cases q : k ≤ fiA ar y'
      · exact q
      · exact absurd ⟨hpe, by rw [he']; omega⟩ (hfirst (fiA ar y') (by omega))
    have hk' : k = fiA ar y' := by
      by_cases q : k = fiA ar y'
      · exact q
      · exfalso
        have hkf : k < fiA ar y' := by omega
        have hu : (ar.getD k a0).2.2 < y' := by
          by_cases c : (ar.getD k a0).2.2 < y'
          · exact c
          · by_cases e : (ar.getD k a0).2.2 = y'
            · exact absurd e (fiA_first ar y' k hkf)
            · obtain ⟨i, hi, e3⟩ := h.less k hk y' h0 (by omega)
              exact absurd e3 (fiA_first ar y' i (by omega))
        exact FarOk.less_no h hf hto (dp ar tgt - dp ar y') _ y' hu (h.lt k hk).2 hy' (by omega) f1
    subst hk'
    rw [he']
    exact ⟨hy', h0, rfl, rfl⟩

/-- The transitions on the way to j. -/
def wayA (ar : Arcs) : Nat → Nat → List Nat
  | 0, _ => []
  | f + 1, j => if j = 0 then [] else wayA ar f (parA ar j) ++ [byA ar j]

theorem TreeOk.way_fuel (h : TreeOk N ar) : ∀ (f g j : Nat), j < N → j ≤ f → j ≤ g → wayA ar f j = wayA ar g j := by
  intro f
  induction f with
  | zero =>
    intro g j _ hf _
    have : j = 0 := by omega
    subst this
    cases g <;> simp [wayA]
  | succ f ih =>
    intro g j hj hf hg
    by_cases h0 : j = 0
    · subst h0; cases g <;> simp [wayA]
    · cases g with
      | zero => omega
      | succ g =>
        obtain ⟨_, _, h1, h2⟩ := h.fi (by omega) hj
        simp only [wayA, if_neg h0]
        rw [ih g (parA ar j) h2 (by omega) (by omega)]

def wayL (ar : Arcs) (j : Nat) : List Nat := wayA ar j j
theorem wayL_zero (ar : Arcs) : wayL ar 0 = [] := rfl
theorem TreeOk.way_up (h : TreeOk N ar) {j : Nat} (h0 : 0 < j) (hj : j < N) : wayL ar j = wayL ar (parA ar j) ++ [byA ar j] := by
  obtain ⟨_, _, h1, h2⟩ := h.fi h0 hj
  unfold wayL
  cases j with
  | zero => omega
  | succ j =>
    simp only [wayA, if_neg (Nat.succ_ne_zero j)]
    rw [h.way_fuel j (parA ar (j + 1)) _ h2 (by omega) (Nat.le_refl _)]
theorem wayL_len (ar : Arcs) : ∀ (f j : Nat), (wayA ar f j).length ≤ f := by
  intro f
  induction f with
  | zero => intro j; simp [wayA]
  | succ f ih =>
    intro j
    unfold wayA
    split
    · simp
    · rw [List.length_append]; have := ih (parA ar j); simp; omega

/-- The first one is on every way. -/
theorem TreeOk.root (h : TreeOk N ar) : ∀ (y : Nat), y < N → OnP ar N tgt y → OnP ar N tgt 0 := by
  intro y
  induction y using Nat.strongRecOn with
  | _ y ih =>
    intro hy ho
    by_cases h0 : y = 0
    · rw [← h0]; exact ho
    · obtain ⟨_, _, h1, h2⟩ := h.fi (by omega) hy
      exact ih _ h1 h2 (OnP.up ho (by omega) hy)
end
end Go.Proofs.Ytdhnhpjcoeglmaa


/- The arcs of a search stand as Vm asks: TreeOk of searchS. Mathematics alone. -/
namespace Go.Proofs.Ytdhnhpjcoeglmaa
open Go.RowKit

theorem snoc_old {ar : Arcs} {x : Nat × Nat × Nat} {i : Nat} (h : i < ar.length) : (ar ++ [x]).getD i a0 = ar.getD i a0 := by
  rw [List.getD_eq_getElem?_getD, List.getElem?_append_left h, ← List.getD_eq_getElem?_getD]
theorem snoc_new {ar : Arcs} {x : Nat × Nat × Nat} : (ar ++ [x]).getD ar.length a0 = x := by
  rw [List.getD_eq_getElem?_getD, List.getElem?_append_right (Nat.le_refl _)]
  simp

/-- One arc more. -/
theorem TreeOk.put {N N' k t z : Nat} {ar : Arcs} (h : TreeOk N ar) (hk : k < N) (hb : ∀ a ∈ ar, a.1 < k ∨ (a.1 = k ∧ a.2.1 < t)) (hz : (N' = N ∧ z < N) ∨ (N' = N + 1 ∧ z = N)) : TreeOk N' (ar ++ [(k, t, z)]) := by
  have hlen : (ar ++ [(k, t, z)]).length = ar.length + 1 := by simp
  have hold : ∀ i, i < ar.length → (ar ++ [(k, t, z)]).getD i a0 = ar.getD i a0 := fun i hi => snoc_old hi
  have hnew : (ar ++ [(k, t, z)]).getD ar.length a0 = (k, t, z) := snoc_new
  have hbi : ∀ i, i < ar.length → (ar.getD i a0).1 < k ∨ ((ar.getD i a0).1 = k ∧ (ar.getD i a0).2.1 < t) := fun i hi => by
    have e : ar.getD i a0 = ar[i] := by rw [List.getD_eq_getElem?_getD, List.getElem?_eq_getElem hi]; rfl
    rw [e]; exact hb _ (List.getElem_mem hi)
  refine ⟨fun i hi => ?_, fun i j hij hj => ?_, fun j hj q hq0 hq => ?_, fun j h0 hj => ?_, fun j hj h0 hf => ?_⟩
  · by_cases hl : i < ar.length
    · rw [hold i hl]; have := h.lt i hl; omega
    · obtain rfl : i = ar.length := by omega
      rw [hnew]; show k < N' ∧ z < N'; omega
  · by_cases hl : j < ar.length
    · rw [hold i (by omega), hold j hl]; exact h.ord i j hij hl
    · obtain rfl : j = ar.length := by omega
      rw [hold i hij, hnew]; exact hbi i hij
  · by_cases hl : j < ar.length
    · rw [hold j hl] at hq
      obtain ⟨i, hi, e⟩ := h.less j hl q hq0 hq
      exact ⟨i, hi, by rw [hold i (by omega)]; exact e⟩
    · obtain rfl : j = ar.length := by omega
      rw [hnew] at hq
      have hq' : q < z := hq
      obtain ⟨i, hi, e⟩ := h.met q hq0 (by omega)
      exact ⟨i, hi, by rw [hold i hi]; exact e⟩
  · by_cases hl : j < N
    · obtain ⟨i, hi, e⟩ := h.met j h0 hl
      exact ⟨i, by omega, by rw [hold i hi]; exact e⟩
    · exact ⟨ar.length, by omega, by rw [hnew]; show z = j; omega⟩
  · by_cases hl : j < ar.length
    · rw [hold j hl] at h0 hf ⊢
      exact h.up j hl h0 fun i hi => by have := hf i hi; rw [hold i (by omega)] at this; exact this
    · obtain rfl : j = ar.length := by omega
      rw [hnew] at h0 hf ⊢
      show k < z
      rcases hz with ⟨_, hz⟩ | ⟨_, hz⟩
      · obtain ⟨i, hi, e⟩ := h.met z h0 hz
        exact absurd (by rw [hold i hi]; exact e) (hf i hi)
      · omega

theorem TreeOk.start : TreeOk 1 [] :=
  ⟨fun k hk => by simp at hk, fun i k _ hk => by simp at hk, fun k hk => by simp at hk, fun j h0 hj => by omega, fun k hk => by simp at hk⟩

theorem oneS_tree {p : Int} {B : Nat} {L : List (List Int)} {s s' : Sea} {m : List Int} {k t : Nat} (h : TreeOk s.ms.length s.ar) (hk : k < s.ms.length) (hb : ∀ a ∈ s.ar, a.1 < k ∨ (a.1 = k ∧ a.2.1 < t)) (he : oneS p L B m k t s = .ok s') :
    TreeOk s'.ms.length s'.ar ∧ s.ms.length ≤ s'.ms.length ∧ ∃ z, s'.ar = s.ar ++ [(k, t, z)] := by
  unfold oneS at he
  by_cases h1 : goodB p (fireT L m t) = true
  · rw [if_pos h1] at he
    unfold meetS at he
    by_cases h2 : fireT L m t ∈ s.ms
    · rw [if_pos h2] at he; cases he
      exact ⟨h.put hk hb (.inl ⟨rfl, List.idxOf_lt_length_of_mem h2⟩), Nat.le_refl _, _, rfl⟩
    · rw [if_neg h2] at he
      by_cases h3 : s.ms.length = B
      · rw [if_pos h3] at he; cases he
      · rw [if_neg h3] at he; cases he
        exact ⟨h.put hk hb (.inr ⟨by simp, rfl⟩), by simp, _, rfl⟩
  · rw [if_neg h1] at he; cases he

theorem rowS_tree {p : Int} {B : Nat} {L : List (List Int)} {m : List Int} {k : Nat} : ∀ {ts : List Nat} {s s' : Sea}, TreeOk s.ms.length s.ar → k < s.ms.length → ts.Pairwise (· < ·) → (∀ a ∈ s.ar, a.1 < k ∨ (a.1 = k ∧ ∀ x ∈ ts, a.2.1 < x)) → rowS p L B m k ts s = .ok s' →
    TreeOk s'.ms.length s'.ar ∧ ∀ a ∈ s'.ar, a.1 < k + 1
  | [], s, s', h, _, _, hb, he => by
    unfold rowS at he; cases he
    exact ⟨h, fun a ha => by rcases hb a ha with q | q <;> omega⟩
  | t :: r, s, s', h, hk, hp, hb, he => by
    rw [List.pairwise_cons] at hp
    unfold rowS at he
    by_cases hc : canT L m t = true
    · rw [if_pos hc] at he
      cases h1 : oneS p L B m k t s with
      | error c => rw [h1] at he; cases he
      | ok s1 =>
        rw [h1] at he
        obtain ⟨t1, t2, z, t3⟩ := oneS_tree h hk (fun a ha => by rcases hb a ha with q | q; exact .inl q; exact .inr ⟨q.1, q.2 t (by simp)⟩) h1
        refine rowS_tree t1 (by omega) hp.2 (fun a ha => ?_) he
        rw [t3] at ha
        rcases List.mem_append.mp ha with ha | ha
        · rcases hb a ha with q | q
          · exact .inl q
          · exact .inr ⟨q.1, fun x hx => q.2 x (by simp [hx])⟩
        · simp at ha; subst ha; exact .inr ⟨rfl, fun x hx => hp.1 x hx⟩
    · rw [if_neg hc] at he
      refine rowS_tree h hk hp.2 (fun a ha => ?_) he
      rcases hb a ha with q | q
      · exact .inl q
      · exact .inr ⟨q.1, fun x hx => q.2 x (by simp [hx])⟩

theorem seaS_tree {p : Int} {n B : Nat} {L : List (List Int)} : ∀ {f k : Nat} {s s' : Sea}, TreeOk s.ms.length s.ar → (∀ a ∈ s.ar, a.1 < k) → seaS p n L B f k s = .ok s' → TreeOk s'.ms.length s'.ar
  | 0, k, s, s', h, _, he => by
    unfold seaS at he; cases he; exact h
  | f + 1, k, s, s', h, hb, he => by
    unfold seaS at he
    by_cases hk : k < s.ms.length
    · rw [if_pos hk] at he
      cases h1 : rowS p L B (s.ms.getD k []) k (List.range n) s with
      | error c => rw [h1] at he; cases he
      | ok s1 =>
        rw [h1] at he
        obtain ⟨t1, t2⟩ := rowS_tree h hk List.pairwise_lt_range (fun a ha => .inl (hb a ha)) h1
        exact seaS_tree t1 t2 he
    · rw [if_neg hk] at he; cases he; exact h

/-- The arcs of a whole search are a tree's. -/
theorem searchS_tree {p : Int} {n B : Nat} {L : List (List Int)} {ys : List Int} {s : Sea} (he : searchS p n L B ys = .ok s) : TreeOk s.ms.length s.ar := by
  unfold searchS at he
  exact seaS_tree (s := sea0 ys) TreeOk.start (fun a ha => by simp [sea0] at ha) he
end Go.Proofs.Ytdhnhpjcoeglmaa


/- What the specification's search backwards keeps in mind until it ends in FarOk. Mathematics alone. -/
namespace Go.Proofs.Ytdhnhpjcoeglmaa
open Go.RowKit

def setF (f : Nat → Int) (y : Nat) (v : Int) : Nat → Int := fun i => if i = y then v else f i
theorem setF_same (f : Nat → Int) (y : Nat) (v : Int) : setF f y v y = v := by simp [setF]
theorem setF_ne (f : Nat → Int) {y i : Nat} (v : Int) (h : i ≠ y) : setF f y v i = f i := by simp [setF, h]

/-- Between two rounds: f the numbers, R the row of those that wait, D those that are through. -/
structure BfSt (N : Nat) (ar : Arcs) (tgt : Nat) (f : Nat → Int) (R : List Nat) (D : Nat → Prop) : Prop where
  zero : f tgt = 0
  min : ∀ i, -1 ≤ f i
  only : ∀ i, i < N → f i = 0 → i = tgt
  next : ∀ i, i < N → 0 < f i → ∃ k, k < ar.length ∧ (ar.getD k a0).1 = i ∧ f (ar.getD k a0).2.2 = f i - 1
  told : ∀ i, 0 ≤ f i → D i ∨ i ∈ R
  done : ∀ i, D i → 0 ≤ f i ∧ ∀ k, k < ar.length → (ar.getD k a0).2.2 = i → 0 ≤ f (ar.getD k a0).1 ∧ f (ar.getD k a0).1 ≤ f i + 1
  row : ∀ i ∈ R, 0 ≤ f i ∧ i < N
  srt : R.Pairwise fun x y => f x ≤ f y
  top : ∀ x ∈ R.head?, ∀ i, f i ≤ f x + 1

/-- Within a round: x was taken, the first c arcs are through. -/
structure BfIn (N : Nat) (ar : Arcs) (tgt : Nat) (f : Nat → Int) (r : List Nat) (D : Nat → Prop) (x c : Nat) : Prop where
  zero : f tgt = 0
  min : ∀ i, -1 ≤ f i
  only : ∀ i, i < N → f i = 0 → i = tgt
  next : ∀ i, i < N → 0 < f i → ∃ k, k < ar.length ∧ (ar.getD k a0).1 = i ∧ f (ar.getD k a0).2.2 = f i - 1
  told : ∀ i, 0 ≤ f i → D i ∨ i = x ∨ i ∈ r
  done : ∀ i, D i → 0 ≤ f i ∧ ∀ k, k < ar.length → (ar.getD k a0).2.2 = i → 0 ≤ f (ar.getD k a0).1 ∧ f (ar.getD k a0).1 ≤ f i + 1
  row : ∀ i ∈ r, 0 ≤ f i ∧ i < N
  srt : r.Pairwise fun x y => f x ≤ f y
  low : ∀ i ∈ r, f x ≤ f i
  top : ∀ i, f i ≤ f x + 1
  here : 0 ≤ f x ∧ x < N
  arcs : ∀ k, k < c → k < ar.length → (ar.getD k a0).2.2 = x → 0 ≤ f (ar.getD k a0).1

theorem BfSt.start {N tgt : Nat} {ar : Arcs} (hto : tgt < N) : BfSt N ar tgt (setF (fun _ => -1) tgt 0) [tgt] (fun _ => False) := by
  have hv : ∀ i, setF (fun _ => (-1 : Int)) tgt 0 i = if i = tgt then 0 else -1 := fun i => rfl
  refine ⟨setF_same _ _ _, fun i => ?_, fun i _ h => ?_, fun i _ h => ?_, fun i h => ?_, fun i h => h.elim, fun i h => ?_, by simp, fun x hx i => ?_⟩
  · rw [hv]; split <;> omega
  · rw [hv] at h; split at h
    · assumption
    · omega
  · rw [hv] at h; split at h <;> omega
  · rw [hv] at h; split at h
    · right; simp; assumption
    · omega
  · simp at h; subst h; exact ⟨by rw [setF_same]; omega, hto⟩
  · simp at hx; subst hx; rw [setF_same, hv]; split <;> omega

/-- A round begins. -/
theorem BfSt.pop {N tgt x : Nat} {ar : Arcs} {f : Nat → Int} {r : List Nat} {D : Nat → Prop} (h : BfSt N ar tgt f (x :: r) D) : BfIn N ar tgt f r D x 0 := by
  have hs := h.srt
  rw [List.pairwise_cons] at hs
  refine ⟨h.zero, h.min, h.only, h.next, fun i hi => ?_, h.done, fun i hi => h.row i (by simp [hi]), hs.2, fun i hi => hs.1 i hi, h.top x (by simp), h.row x (by simp), fun k hk => by omega⟩
  rcases h.told i hi with q | q
  · exact .inl q
  · right; simpa using q

/-- An arc that leads elsewhere, or from one that has its number. -/
theorem BfIn.skip {N tgt x c : Nat} {ar : Arcs} {f : Nat → Int} {r : List Nat} {D : Nat → Prop} (h : BfIn N ar tgt f r D x c) (hn : ¬ ((ar.getD c a0).2.2 = x ∧ f (ar.getD c a0).1 < 0)) : BfIn N ar tgt f r D x (c + 1) := by
  refine ⟨h.zero, h.min, h.only, h.next, h.told, h.done, h.row, h.srt, h.low, h.top, h.here, fun k hk hl he => ?_⟩
  by_cases e : k = c
  · subst e
    by_cases q : f (ar.getD k a0).1 < 0
    · exact absurd ⟨he, q⟩ hn
    · omega
  · exact h.arcs k (by omega) hl he

/-- An arc from one that has no number yet. -/
theorem BfIn.put {N tgt x c : Nat} {ar : Arcs} {f : Nat → Int} {r : List Nat} {D : Nat → Prop} (h : BfIn N ar tgt f r D x c) (hc : c < ar.length) (hN : (ar.getD c a0).1 < N) (he : (ar.getD c a0).2.2 = x) (hf : f (ar.getD c a0).1 < 0) :
    BfIn N ar tgt (setF f (ar.getD c a0).1 (f x + 1)) (r ++ [(ar.getD c a0).1]) D x (c + 1) := by
  generalize hy : (ar.getD c a0).1 = y at *
  have old : ∀ i, 0 ≤ f i → setF f y (f x + 1) i = f i := fun i hi => setF_ne f _ (fun e => by subst e; omega)
  have hx := h.here.1
  have hxv : setF f y (f x + 1) x = f x := old x hx
  have all : ∀ i, setF f y (f x + 1) i = (if i = y then f x + 1 else f i) := fun i => rfl
  have up : ∀ i, 0 ≤ f i → 0 ≤ setF f y (f x + 1) i := fun i hi => by rw [old i hi]; exact hi
  refine ⟨by rw [old _ (by rw [h.zero]; omega)]; exact h.zero, fun i => ?_, fun i hi e => ?_, fun i hi e => ?_, fun i e => ?_, fun i hd => ?_, fun i hi => ?_, ?_, fun i hi => ?_, fun i => ?_, ⟨by rw [hxv]; exact hx, h.here.2⟩, fun k hk hl e => ?_⟩
  · rw [all]; split
    · omega
    · exact h.min i
  · rw [all] at e; split at e
    · omega
    · exact h.only i hi e
  · by_cases q : i = y
    · subst q
      refine ⟨c, hc, hy, ?_⟩
      rw [he, hxv, setF_same]; omega
    · rw [setF_ne _ _ q] at e ⊢
      obtain ⟨k, k1, k2, k3⟩ := h.next i hi e
      exact ⟨k, k1, k2, by rw [old _ (by omega)]; exact k3⟩
  · by_cases q : i = y
    · right; right; simp [q]
    · rw [setF_ne _ _ q] at e
      rcases h.told i e with a | a | a
      · exact .inl a
      · exact .inr (.inl a)
      · right; right; simp [a]
  · obtain ⟨d1, d2⟩ := h.done i hd
    refine ⟨up i d1, fun k hk e => ?_⟩
    obtain ⟨b1, b2⟩ := d2 k hk e
    rw [old _ b1, old _ d1]; exact ⟨b1, b2⟩
  · rcases List.mem_append.mp hi with a | a
    · exact ⟨up i (h.row i a).1, (h.row i a).2⟩
    · simp at a; subst a; exact ⟨by rw [setF_same]; omega, hN⟩
  · rw [List.pairwise_append]
    refine ⟨?_, by simp, fun a ha b hb => ?_⟩
    · refine h.srt.imp_of_mem fun {a b} ha hb hab => ?_
      rw [old a (h.row a ha).1, old b (h.row b hb).1]; exact hab
    · simp at hb; subst hb
      rw [old a (h.row a ha).1, setF_same]; exact h.top a
  · rw [hxv]
    rcases List.mem_append.mp hi with a | a
    · rw [old i (h.row i a).1]; exact h.low i a
    · simp at a; subst a; rw [setF_same]; omega
  · rw [hxv, all]; split
    · omega
    · exact h.top i
  · by_cases q : k = c
    · subst q; rw [hy, setF_same]; omega
    · have := h.arcs k (by omega) hl e
      rw [old _ this]; exact this

/-- A round ends. -/
theorem BfIn.fin {N tgt x c : Nat} {ar : Arcs} {f : Nat → Int} {r : List Nat} {D : Nat → Prop} (h : BfIn N ar tgt f r D x c) (hc : ar.length ≤ c) : BfSt N ar tgt f r (fun i => D i ∨ i = x) := by
  refine ⟨h.zero, h.min, h.only, h.next, fun i hi => ?_, fun i hd => ?_, h.row, h.srt, fun y hy i => ?_⟩
  · rcases h.told i hi with a | a | a
    · exact .inl (.inl a)
    · exact .inl (.inr a)
    · exact .inr a
  · rcases hd with hd | rfl
    · exact h.done i hd
    · exact ⟨h.here.1, fun k hk e => ⟨h.arcs k (by omega) hk e, h.top _⟩⟩
  · have hm : y ∈ r := by
      cases r with
      | nil => simp at hy
      | cons z r => simp at hy; subst hy; simp
    have h1 := h.low y hm
    have h2 := h.top i
    omega

/-- When no one waits the numbers are as Vm asks. -/
theorem BfSt.far {N tgt : Nat} {ar : Arcs} {f : Nat → Int} {D : Nat → Prop} (h : BfSt N ar tgt f [] D) : FarOk N ar tgt f := by
  refine ⟨h.zero, h.only, fun k hk hz => ?_, h.next⟩
  rcases h.told _ hz with a | a
  · exact (h.done _ a).2 k hk rfl
  · simp at a
end Go.Proofs.Ytdhnhpjcoeglmaa
