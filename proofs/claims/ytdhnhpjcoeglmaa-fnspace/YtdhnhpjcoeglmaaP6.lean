/- Contracts that the proof stands on, one behind the other. -/
import Derived.Test.YtdhnhpjcoeglmaaP5
import Derived.Laws.StructEq
import Derived.Maps.OwnSet
import Derived.Deep.RegionHeld3
import Derived.Deep.MidRow
import Derived.Deep.AppendLies
/- The search through all marks as a plain function on lists: what the program and the specification both follow. -/
namespace Go.Proofs.Ytdhnhpjcoeglmaa
open Go.RowKit

/-- The marks that are met so far, and the arcs (from, by, to). -/
structure Sea where
  ms : List (List Int)
  ar : List (Nat × Nat × Nat)

def canT (L : List (List Int)) (m : List Int) (t : Nat) : Bool := canB (L.getD (3 * t) []) m
def fireT (L : List (List Int)) (m : List Int) (t : Nat) : List Int := firedL L m (t : Int)

/-- A mark is met. -/
def meetS (B : Nat) (m : List Int) (k t : Nat) (s : Sea) : Except Nat Sea :=
  if m ∈ s.ms then .ok ⟨s.ms, s.ar ++ [(k, t, s.ms.idxOf m)]⟩
  else if s.ms.length = B then .error 2 else .ok ⟨s.ms ++ [m], s.ar ++ [(k, t, s.ms.length)]⟩

def oneS (p : Int) (L : List (List Int)) (B : Nat) (m : List Int) (k t : Nat) (s : Sea) : Except Nat Sea :=
  if goodB p (fireT L m t) then meetS B (fireT L m t) k t s else .error 3

/-- All of some transitions out of one mark. -/
def rowS (p : Int) (L : List (List Int)) (B : Nat) (m : List Int) (k : Nat) : List Nat → Sea → Except Nat Sea
  | [], s => .ok s
  | t :: r, s => if canT L m t then (match oneS p L B m k t s with | .ok s' => rowS p L B m k r s' | .error c => .error c) else rowS p L B m k r s

/-- All marks from number k on. -/
def seaS (p : Int) (n : Nat) (L : List (List Int)) (B : Nat) : Nat → Nat → Sea → Except Nat Sea
  | 0, _, s => .ok s
  | f + 1, k, s => if k < s.ms.length then (match rowS p L B (s.ms.getD k []) k (List.range n) s with | .ok s' => seaS p n L B f (k + 1) s' | .error c => .error c) else .ok s

def sea0 (ys : List Int) : Sea := ⟨[ys], []⟩

def searchS (p : Int) (n : Nat) (L : List (List Int)) (B : Nat) (ys : List Int) : Except Nat Sea := seaS p n L B B 0 (sea0 ys)

def codeS : Except Nat Sea → Nat
  | .ok _ => 1
  | .error c => c

def endS : Except Nat Sea → Sea
  | .ok s => s
  | .error _ => ⟨[], []⟩

/-- What holds of marks and arcs on the way. -/
structure SeaOk (p : Int) (n B : Nat) (s : Sea) : Prop where
  pos : 0 < s.ms.length
  le : s.ms.length ≤ B
  good : ∀ m ∈ s.ms, goodB p m = true
  nodup : s.ms.Nodup
  arc : ∀ a ∈ s.ar, a.1 < s.ms.length ∧ a.2.1 < n ∧ a.2.2 < s.ms.length

theorem SeaOk.start {p : Int} {n B : Nat} {ys : List Int} (hB : 1 ≤ B) (hy : goodB p ys = true) : SeaOk p n B (sea0 ys) :=
  ⟨by simp [sea0], by simpa [sea0] using hB, by simp [sea0, hy], by simp [sea0], by simp [sea0]⟩

theorem SeaOk.goodAt {p : Int} {n B : Nat} {s : Sea} (h : SeaOk p n B s) {k : Nat} (hk : k < s.ms.length) : goodB p (s.ms.getD k []) = true := by
  refine h.good _ ?_
  rw [List.getD_eq_getElem?_getD, List.getElem?_eq_getElem hk]
  exact List.getElem_mem hk

/-- One arc more, to a mark that is there. -/
theorem SeaOk.old {p : Int} {n B : Nat} {s : Sea} (h : SeaOk p n B s) {k t j : Nat} (hk : k < s.ms.length) (ht : t < n) (hj : j < s.ms.length) : SeaOk p n B ⟨s.ms, s.ar ++ [(k, t, j)]⟩ :=
  ⟨h.pos, h.le, h.good, h.nodup, fun a ha => by
    rcases List.mem_append.1 ha with ha | ha
    · exact h.arc a ha
    · simp at ha; subst ha; exact ⟨hk, ht, hj⟩⟩

/-- .. to a new one. -/
theorem SeaOk.new {p : Int} {n B : Nat} {s : Sea} (h : SeaOk p n B s) {m : List Int} {k t : Nat} (hm : goodB p m = true) (hn : m ∉ s.ms) (hB : s.ms.length ≠ B) (hk : k < s.ms.length) (ht : t < n) : SeaOk p n B ⟨s.ms ++ [m], s.ar ++ [(k, t, s.ms.length)]⟩ :=
  ⟨by simp, by have := h.le; simp; omega, fun x hx => by
    rcases List.mem_append.1 hx with hx | hx
    · exact h.good x hx
    · simp at hx; subst hx; exact hm, by
    rw [List.nodup_append]
    exact ⟨h.nodup, by simp, fun a ha b hb e => hn (by simp at hb; subst hb; subst e; exact ha)⟩, fun a ha => by
    rcases List.mem_append.1 ha with ha | ha
    · have := h.arc a ha; simp; omega
    · simp at ha; subst ha; simp; omega⟩

theorem meetS_ok {p : Int} {n B : Nat} {s s' : Sea} {m : List Int} {k t : Nat} (h : SeaOk p n B s) (hm : goodB p m = true) (hk : k < s.ms.length) (ht : t < n) (he : meetS B m k t s = .ok s') :
    SeaOk p n B s' ∧ s'.ar.length = s.ar.length + 1 ∧ s.ms <+: s'.ms := by
  unfold meetS at he
  by_cases h1 : m ∈ s.ms
  · rw [if_pos h1] at he
    cases he
    exact ⟨h.old hk ht (List.idxOf_lt_length_of_mem h1), by simp, List.prefix_refl _⟩
  · rw [if_neg h1] at he
    by_cases h2 : s.ms.length = B
    · rw [if_pos h2] at he; cases he
    · rw [if_neg h2] at he
      cases he
      exact ⟨h.new hm h1 h2 hk ht, by simp, List.prefix_append _ _⟩

theorem oneS_ok {p : Int} {n B : Nat} {L : List (List Int)} {s s' : Sea} {m : List Int} {k t : Nat} (h : SeaOk p n B s) (hk : k < s.ms.length) (ht : t < n) (he : oneS p L B m k t s = .ok s') :
    SeaOk p n B s' ∧ s'.ar.length = s.ar.length + 1 ∧ s.ms <+: s'.ms := by
  unfold oneS at he
  by_cases h1 : goodB p (fireT L m t) = true
  · rw [if_pos h1] at he; exact meetS_ok h h1 hk ht he
  · rw [if_neg h1] at he; cases he

theorem oneS_err {p : Int} {B : Nat} {L : List (List Int)} {s : Sea} {m : List Int} {k t c : Nat} (he : oneS p L B m k t s = .error c) : c = 2 ∨ c = 3 := by
  unfold oneS meetS at he
  repeat' split at he
  all_goals first | (cases he; omega) | (cases he)

theorem prefix_getD {α : Type} {l l' : List α} (h : l <+: l') {k : Nat} (hk : k < l.length) (d : α) : l'.getD k d = l.getD k d := by
  obtain ⟨r, rfl⟩ := h
  rw [List.getD_eq_getElem?_getD, List.getD_eq_getElem?_getD, List.getElem?_append_left hk]

theorem rowS_ok {p : Int} {n B : Nat} {L : List (List Int)} {m : List Int} {k : Nat} : ∀ {ts : List Nat} {s s' : Sea}, SeaOk p n B s → k < s.ms.length → (∀ t ∈ ts, t < n) → rowS p L B m k ts s = .ok s' →
    SeaOk p n B s' ∧ s'.ar.length ≤ s.ar.length + ts.length ∧ s.ms <+: s'.ms
  | [], s, s', h, _, _, he => by
    unfold rowS at he; cases he; exact ⟨h, by simp, List.prefix_refl _⟩
  | t :: r, s, s', h, hk, ht, he => by
    unfold rowS at he
    by_cases hc : canT L m t = true
    · rw [if_pos hc] at he
      cases h1 : oneS p L B m k t s with
      | error c => rw [h1] at he; cases he
      | ok s1 =>
        rw [h1] at he
        obtain ⟨a1, a2, a3⟩ := oneS_ok h hk (ht t (by simp)) h1
        obtain ⟨b1, b2, b3⟩ := rowS_ok a1 (Nat.lt_of_lt_of_le hk a3.length_le) (fun x hx => ht x (by simp [hx])) he
        exact ⟨b1, by simp; omega, a3.trans b3⟩
    · rw [if_neg hc] at he
      obtain ⟨b1, b2, b3⟩ := rowS_ok h hk (fun x hx => ht x (by simp [hx])) he
      exact ⟨b1, by simp; omega, b3⟩

theorem rowS_err {p : Int} {B : Nat} {L : List (List Int)} {m : List Int} {k : Nat} : ∀ {ts : List Nat} {s : Sea} {c : Nat}, rowS p L B m k ts s = .error c → c = 2 ∨ c = 3
  | [], s, c, he => by unfold rowS at he; cases he
  | t :: r, s, c, he => by
    unfold rowS at he
    split at he
    · split at he
      · exact rowS_err he
      · rename_i h1; cases he; exact oneS_err h1
    · exact rowS_err he

/-- The transitions that are not enabled may be left out. -/
theorem rowS_filter {p : Int} {B : Nat} {L : List (List Int)} {m : List Int} {k : Nat} : ∀ (ts : List Nat) (s : Sea), rowS p L B m k (ts.filter (canT L m)) s = rowS p L B m k ts s
  | [], s => rfl
  | t :: r, s => by
    by_cases hc : canT L m t = true
    · rw [List.filter_cons_of_pos hc]
      unfold rowS
      rw [if_pos hc, if_pos hc]
      split
      · exact rowS_filter r _
      · rfl
    · rw [List.filter_cons_of_neg (by simpa using hc), rowS_filter r s]
      conv => rhs; unfold rowS
      rw [if_neg hc]

theorem seaS_ok {p : Int} {n B : Nat} {L : List (List Int)} : ∀ {f k : Nat} {s s' : Sea}, SeaOk p n B s → seaS p n L B f k s = .ok s' → SeaOk p n B s' ∧ s'.ar.length ≤ s.ar.length + f * n ∧ s.ms <+: s'.ms
  | 0, k, s, s', h, he => by
    unfold seaS at he; cases he; exact ⟨h, by simp, List.prefix_refl _⟩
  | f + 1, k, s, s', h, he => by
    unfold seaS at he
    by_cases hk : k < s.ms.length
    · rw [if_pos hk] at he
      cases h1 : rowS p L B (s.ms.getD k []) k (List.range n) s with
      | error c => rw [h1] at he; cases he
      | ok s1 =>
        rw [h1] at he
        obtain ⟨a1, a2, a3⟩ := rowS_ok h hk (fun t ht => by simpa using ht) h1
        obtain ⟨b1, b2, b3⟩ := seaS_ok a1 he
        refine ⟨b1, ?_, a3.trans b3⟩
        rw [List.length_range] at a2
        rw [Nat.add_mul, Nat.one_mul]
        omega
    · rw [if_neg hk] at he; cases he; exact ⟨h, by simp, List.prefix_refl _⟩

theorem seaS_err {p : Int} {n B : Nat} {L : List (List Int)} : ∀ {f k : Nat} {s : Sea} {c : Nat}, seaS p n L B f k s = .error c → c = 2 ∨ c = 3
  | 0, k, s, c, he => by unfold seaS at he; cases he
  | f + 1, k, s, c, he => by
    unfold seaS at he
    split at he
    · split at he
      · exact seaS_err he
      · rename_i h1; cases he; exact rowS_err h1
    · cases he

/-- One mark more. -/
theorem seaS_go {p : Int} {n B : Nat} {L : List (List Int)} {k : Nat} {s : Sea} (h : SeaOk p n B s) (hk : k < s.ms.length) :
    seaS p n L B (B - k) k s = (match rowS p L B (s.ms.getD k []) k (List.range n) s with | .ok s' => seaS p n L B (B - (k + 1)) (k + 1) s' | .error c => .error c) := by
  have hle := h.le
  rw [show B - k = (B - (k + 1)) + 1 by omega]
  conv => lhs; unfold seaS
  rw [if_pos hk]

theorem seaS_done {p : Int} {n B : Nat} {L : List (List Int)} {k : Nat} {s : Sea} (hk : ¬ k < s.ms.length) : seaS p n L B (B - k) k s = .ok s := by
  cases B - k with
  | zero => rfl
  | succ f => unfold seaS; rw [if_neg hk]

theorem seaS_row {p : Int} {n B : Nat} {L : List (List Int)} {k : Nat} {s s' : Sea} {R : Except Nat Sea} (h : SeaOk p n B s) (hk : k < s.ms.length) (hR : seaS p n L B (B - k) k s = R) (h1 : rowS p L B (s.ms.getD k []) k (List.range n) s = .ok s') :
    seaS p n L B (B - (k + 1)) (k + 1) s' = R := by
  rw [seaS_go h hk, h1] at hR; exact hR

theorem seaS_stop {p : Int} {n B : Nat} {L : List (List Int)} {k c : Nat} {s : Sea} {R : Except Nat Sea} (h : SeaOk p n B s) (hk : k < s.ms.length) (hR : seaS p n L B (B - k) k s = R) (h1 : rowS p L B (s.ms.getD k []) k (List.range n) s = .error c) :
    R = .error c := by
  rw [seaS_go h hk, h1] at hR; exact hR.symm

/-- The transitions from t on. -/
def fromT (t n : Nat) : List Nat := List.range' t (n - t)

theorem fromT_all (n : Nat) : List.range n = fromT 0 n := by unfold fromT; rw [List.range_eq_range', Nat.sub_zero]
theorem fromT_cons {t n : Nat} (h : t < n) : fromT t n = t :: fromT (t + 1) n := by
  unfold fromT
  rw [show n - t = (n - (t + 1)) + 1 by omega, List.range'_succ]
theorem fromT_nil {t n : Nat} (h : ¬ t < n) : fromT t n = [] := by
  unfold fromT; rw [show n - t = 0 by omega]; rfl

theorem rowS_yes {p : Int} {n B : Nat} {L : List (List Int)} {m : List Int} {k t : Nat} {s s' : Sea} {R : Except Nat Sea} (ht : t < n) (hR : rowS p L B m k (fromT t n) s = R) (hc : canT L m t = true) (h1 : oneS p L B m k t s = .ok s') : rowS p L B m k (fromT (t + 1) n) s' = R := by
  rw [fromT_cons ht] at hR; unfold rowS at hR; rw [if_pos hc, h1] at hR; exact hR
theorem rowS_bad {p : Int} {n B : Nat} {L : List (List Int)} {m : List Int} {k t c : Nat} {s : Sea} {R : Except Nat Sea} (ht : t < n) (hR : rowS p L B m k (fromT t n) s = R) (hc : canT L m t = true) (h1 : oneS p L B m k t s = .error c) : R = .error c := by
  rw [fromT_cons ht] at hR; unfold rowS at hR; rw [if_pos hc, h1] at hR; exact hR.symm
theorem rowS_no {p : Int} {n B : Nat} {L : List (List Int)} {m : List Int} {k t : Nat} {s : Sea} {R : Except Nat Sea} (ht : t < n) (hR : rowS p L B m k (fromT t n) s = R) (hc : canT L m t = false) : rowS p L B m k (fromT (t + 1) n) s = R := by
  rw [fromT_cons ht] at hR; unfold rowS at hR; rw [if_neg (by simp [hc])] at hR; exact hR
theorem rowS_end {p : Int} {n B : Nat} {L : List (List Int)} {m : List Int} {k t : Nat} {s : Sea} {R : Except Nat Sea} (ht : ¬ t < n) (hR : rowS p L B m k (fromT t n) s = R) : R = .ok s := by
  rw [fromT_nil ht] at hR; exact hR.symm
end Go.Proofs.Ytdhnhpjcoeglmaa


/- What can come to one that is as asked: the least set that holds those and is closed backwards along the arcs; how many of the first N are told. Mathematics alone. -/
namespace Go.Proofs.Ytdhnhpjcoeglmaa
open Go.RowKit

/-- From i one can come to one that is as asked. -/
inductive CanTo (ar : List (Nat × Nat × Nat)) (G : Nat → Prop) : Nat → Prop
  | at_ {i : Nat} : G i → CanTo ar G i
  | step {i t j : Nat} : (i, t, j) ∈ ar → CanTo ar G j → CanTo ar G i

theorem CanTo.least {ar : List (Nat × Nat × Nat)} {G S : Nat → Prop} (hG : ∀ i, G i → S i) (hS : ∀ i t j, (i, t, j) ∈ ar → S j → S i) {i : Nat} (h : CanTo ar G i) : S i := by
  induction h with
  | at_ h => exact hG _ h
  | step h _ ih => exact hS _ _ _ h ih

/-- A set that holds those as asked, holds none else than can come there, and is closed backwards, is just those that can come there. -/
theorem canTo_iff {ar : List (Nat × Nat × Nat)} {G : Nat → Prop} {f : Nat → Bool} (hG : ∀ i, G i → f i = true) (hf : ∀ i, f i = true → CanTo ar G i) (hc : ∀ i t j, (i, t, j) ∈ ar → f j = true → f i = true) (i : Nat) : f i = true ↔ CanTo ar G i :=
  ⟨hf i, CanTo.least (S := fun i => f i = true) hG hc⟩

/-- How many of the first N are told. -/
def cntT (f : Nat → Bool) (N : Nat) : Nat := ((List.range N).filter f).length

theorem cntT_le (f : Nat → Bool) (N : Nat) : cntT f N ≤ N := by
  unfold cntT
  have := List.length_filter_le f (List.range N)
  rwa [List.length_range] at this

theorem cntT_succ (f : Nat → Bool) (N : Nat) : cntT f (N + 1) = cntT f N + (if f N then 1 else 0) := by
  unfold cntT
  rw [List.range_succ, List.filter_append, List.length_append]
  cases h : f N <;> simp [h]

def updT (f : Nat → Bool) (y : Nat) : Nat → Bool := fun t => f t || y == t

theorem updT_at (f : Nat → Bool) (y : Nat) : updT f y y = true := by simp [updT]
theorem updT_old {f : Nat → Bool} {y t : Nat} (h : f t = true) : updT f y t = true := by simp [updT, h]
theorem updT_ne (f : Nat → Bool) {y t : Nat} (h : y ≠ t) : updT f y t = f t := by simp [updT, h]
theorem updT_of {f : Nat → Bool} {y t : Nat} (h : updT f y t = true) : f t = true ∨ t = y := by
  by_cases e : y = t
  · exact .inr e.symm
  · rw [updT_ne f e] at h; exact .inl h

theorem cntT_upd {f : Nat → Bool} {y : Nat} (hy : f y = false) : ∀ N, cntT (updT f y) N = cntT f N + (if y < N then 1 else 0) := by
  intro N
  induction N with
  | zero => simp [cntT]
  | succ N ih =>
    rw [cntT_succ, cntT_succ, ih]
    by_cases e : y = N
    · subst e
      rw [updT_at, hy]
      simp
    · rw [updT_ne f e]
      by_cases h : y < N
      · have : y < N + 1 := by omega
        simp [h, this]; omega
      · have : ¬ y < N + 1 := by omega
        simp [h, this]

theorem cntT_all {f : Nat → Bool} : ∀ N, cntT f N = N ↔ ∀ i, i < N → f i = true := by
  intro N
  induction N with
  | zero => simp [cntT]
  | succ N ih =>
    rw [cntT_succ]
    have hle := cntT_le f N
    constructor
    · intro h i hi
      cases hN : f N
      · rw [hN] at h; simp at h; omega
      · rw [hN] at h
        have h1 : cntT f N = N := by simp at h; omega
        by_cases e : i = N
        · rw [e]; exact hN
        · exact ih.1 h1 i (by omega)
    · intro h
      rw [ih.2 fun i hi => h i (by omega), h N (by omega)]
      simp

theorem cntT_zero (N : Nat) : cntT (fun _ => false) N = 0 := by
  induction N with
  | zero => rfl
  | succ N ih => rw [cntT_succ, ih]; rfl

/-- Where two tell the same of each, both tell of all or neither does. -/
theorem allT_canTo {ar : List (Nat × Nat × Nat)} {G : Nat → Prop} {f g : Nat → Bool} {N : Nat} (hf : ∀ i, f i = true ↔ CanTo ar G i) (hg : ∀ i, g i = true ↔ CanTo ar G i) : (cntT f N = N) ↔ ∀ i, i < N → g i = true := by
  rw [cntT_all]
  exact ⟨fun h i hi => (hg i).2 ((hf i).1 (h i hi)), fun h i hi => (hf i).2 ((hg i).1 (h i hi))⟩

/-- What the program's search backwards keeps: those that are met (come), of which the first k are done with; f tells which are met. -/
structure BackSt (ar : List (Nat × Nat × Nat)) (G : Nat → Prop) (N k : Nat) (come : List Nat) (f : Nat → Bool) : Prop where
  lt : ∀ x ∈ come, x < N
  iff : ∀ i, f i = true ↔ i ∈ come
  cnt : come.length = cntT f N
  good : ∀ i, G i → f i = true
  can : ∀ i, f i = true → CanTo ar G i
  done : ∀ x ∈ come.take k, ∀ i t, (i, t, x) ∈ ar → f i = true

theorem BackSt.meet {ar : List (Nat × Nat × Nat)} {G : Nat → Prop} {N k : Nat} {come : List Nat} {f : Nat → Bool} (h : BackSt ar G N k come f) {i t x : Nat} (hx : x ∈ come) (ha : (i, t, x) ∈ ar) (hi : i < N) (hf : f i = false) (hk : k ≤ come.length) : BackSt ar G N k (come ++ [i]) (updT f i) := by
  refine ⟨fun y hy => ?_, fun y => ?_, ?_, fun y hy => updT_old (h.good y hy), fun y hy => ?_, fun y hy j s hj => ?_⟩
  · rcases List.mem_append.1 hy with h1 | h1
    · exact h.lt y h1
    · rw [List.mem_singleton.1 h1]; exact hi
  · rw [List.mem_append, List.mem_singleton, ← h.iff y]
    exact ⟨fun e => updT_of e, fun e => by rcases e with e | e; exact updT_old e; rw [e]; exact updT_at f i⟩
  · rw [List.length_append, List.length_singleton, cntT_upd hf N, if_pos hi, h.cnt]
  · rcases updT_of hy with e | e
    · exact h.can y e
    · rw [e]; exact .step ha (h.can x ((h.iff x).2 hx))
  · rw [List.take_append_of_le_length hk] at hy
    exact updT_old (h.done y hy j s hj)

theorem BackSt.next {ar : List (Nat × Nat × Nat)} {G : Nat → Prop} {N k x : Nat} {come : List Nat} {f : Nat → Bool} (h : BackSt ar G N k come f) (hx : come[k]? = some x) (hd : ∀ i t, (i, t, x) ∈ ar → f i = true) : BackSt ar G N (k + 1) come f := by
  refine ⟨h.lt, h.iff, h.cnt, h.good, h.can, fun y hy i t hi => ?_⟩
  rw [List.take_add_one, hx] at hy
  rcases List.mem_append.1 hy with h1 | h1
  · exact h.done y h1 i t hi
  · simp at h1; rw [h1] at hi; exact hd i t hi

/-- When all are done with, those met are just those that can come there. -/
theorem BackSt.fin {ar : List (Nat × Nat × Nat)} {G : Nat → Prop} {N k : Nat} {come : List Nat} {f : Nat → Bool} (h : BackSt ar G N k come f) (hk : come.length ≤ k) (i : Nat) : f i = true ↔ CanTo ar G i := by
  refine canTo_iff h.good h.can (fun i t j ha hj => ?_) i
  exact h.done j (by rw [List.take_of_length_le hk]; exact (h.iff j).1 hj) i t ha
end Go.Proofs.Ytdhnhpjcoeglmaa


/- What both Covers answer, for every number of places and every two lists: whether each number of the first is at least that of the second, and true, where both are good marks, else false and false; nothing that was there is written. -/
namespace Go.Proofs.Ytdhnhpjcoeglmaa
open Go.RowKit
set_option maxRecDepth 10000

theorem _root_.Go.RowKit.Below.drewN {B : Nat} {a w : World} (h : Below B a w) (q : Nat) : Below B a (w.drewN q) := ⟨h.os, h.tape, h.output, h.size, h.block⟩

def getF (xs : List Int) : Nat → Int := fun i => xs.getD i 0

theorem getF_of {xs : List Int} {k : Nat} {x : Int} (h : Hid (xs[k]? = some x)) : getF xs k = x := by simp [getF, h.out]

/-- Each number of the list is in 0..50. -/
def Small50 (f : Nat → Int) : Prop := ∀ i, 0 ≤ f i ∧ f i ≤ 50

theorem good_parts {p : Int} {xs : List Int} (h : goodB p xs = true) : Small50 (getF xs) ∧ xs.length ≤ 16 ∧ 1 ≤ xs.length ∧ (xs.length : Int) = p := by
  simp only [goodB, Bool.and_eq_true, decide_eq_true_eq] at h
  obtain ⟨⟨h1, h2⟩, h3⟩ := h
  refine ⟨fun i => ?_, (inB_le h1 h2).2, (inB_le h1 h2).1, h2⟩
  unfold getF
  by_cases hi : i < xs.length
  · rw [List.getD_eq_getElem?_getD, List.getElem?_eq_getElem hi]
    have := List.all_eq_true.mp h3 xs[i] (List.getElem_mem hi)
    simp [inB] at this
    simpa using this
  · rw [List.getD_eq_getElem?_getD, List.getElem?_eq_none (by omega)]
    simp

theorem small_fOf {xs : List Int} (h : Small50 (getF xs)) (n : Nat) : Small50 (fOf xs n) := by
  intro i
  unfold fOf
  split
  · exact h i
  · omega

/-- The first k numbers of f are at least those of g. -/
def CovUpto (f g : Nat → Int) (k : Nat) : Prop := ∀ i, i < k → g i ≤ f i
def covF (f g : Nat → Int) (n : Nat) : Bool := (List.range n).all fun i => decide (g i ≤ f i)

theorem covF_yes {f g : Nat → Int} {n : Nat} (h : CovUpto f g n) : covF f g n = true := by
  simp only [covF, List.all_eq_true, List.mem_range, decide_eq_true_eq]; exact h

theorem covF_iff {f g : Nat → Int} {n : Nat} : covF f g n = true ↔ CovUpto f g n := by
  simp [covF, CovUpto]

theorem covF_no {f g : Nat → Int} {n k : Nat} (hk : k < n) (h : f k < g k) : covF f g n = false := by
  rw [Bool.eq_false_iff]
  intro hc
  have := covF_iff.mp hc k hk
  omega

theorem CovUpto.step {f g : Nat → Int} {k : Nat} (h : CovUpto f g k) (hk : g k ≤ f k) : CovUpto f g (k + 1) := by
  intro i hi
  by_cases e : i = k
  · subst e; exact hk
  · exact h i (by omega)

theorem covF_pad (xs ys : List Int) (n : Nat) (hn : n ≤ 16) : covF (fOf xs n) (fOf ys n) 16 = covF (getF xs) (getF ys) n := by
  rw [Bool.eq_iff_iff, covF_iff, covF_iff]
  constructor
  · intro h i hi
    have := h i (by omega)
    unfold fOf at this
    rw [if_pos hi, if_pos hi] at this
    exact this
  · intro h i hi
    unfold fOf
    by_cases e : i < n
    · rw [if_pos e, if_pos e]; exact h i e
    · rw [if_neg e, if_neg e]; exact Int.le_refl 0

def covB (p : Int) (xs ys : List Int) : Bool := goodB p xs && goodB p ys && covF (getF xs) (getF ys) xs.length

def CovEnd (p : Int) (xs ys : List Int) (w : World) (e : Ending) (w' : World) : Prop :=
  e = .returned (.tuple #[.bool (covB p xs ys), .bool (goodB p xs && goodB p ys)]) ∧ Below w.heap.size w w'

theorem covEnd_no {p : Int} {xs ys : List Int} {w w' : World} (h : (goodB p xs && goodB p ys) = false) (hb : Below w.heap.size w w') : CovEnd p xs ys w (.returned (.tuple #[.bool false, .bool false])) w' := by
  refine ⟨?_, hb⟩; unfold covB; rw [h]; rfl

theorem covEnd_yes {p : Int} {xs ys : List Int} {w w' : World} {c : Bool} (h : (goodB p xs && goodB p ys) = true) (hc : covF (getF xs) (getF ys) xs.length = c) (hb : Below w.heap.size w w') : CovEnd p xs ys w (.returned (.tuple #[.bool c, .bool true])) w' := by
  refine ⟨?_, hb⟩; unfold covB; rw [h, hc]; simp

theorem two_len {p : Int} {xs ys : List Int} (h : (goodB p xs && goodB p ys) = true) : xs.length = ys.length ∧ xs.length ≤ 16 := by
  rw [Bool.and_eq_true] at h
  have h1 := good_parts h.1
  have h2 := good_parts h.2
  omega

end Go.Proofs.Ytdhnhpjcoeglmaa


/- What both CompareMarks answer, for every number of places and every two lists: -1, 0 or 1 by the first number in which they part, and true, where both are good marks, else 0 and false; nothing that was there is written. -/
namespace Go.Proofs.Ytdhnhpjcoeglmaa
open Go.RowKit

theorem Try.size5 : (Try.prog.info? 5).map (·.size) = some 1 := by kernel_rfl

def eqF (f g : Nat → Int) (l : List Nat) : Bool := l.all fun i => f i == g i

theorem run_part_tok (f : Nat → Int) (i : Nat) (hi : i < 16) (w : World) : (part 5 (tokF f) i).run Try.prog w = .ok (.int .u8 (f i)) w := by
  have h := tokF_at f i hi
  simp [part, isAgg, run_underlying Try.underlying5, h, go_sem]

theorem run_equalIn_tok (d e : Nat) (hd : d = e + 1) (f g : Nat → Int) (w : World) : (Op.equalIn (d + 1) 93 (.agg (tokF f)) (.agg (tokF g))).run Try.prog w = .ok (eqF f g (List.range 16)) w := by
  obtain ⟨i, hi, hs⟩ := Option.map_eq_some_iff.1 Try.size5
  simp only [Op.equalIn, Sem.run_bind, run_underlying Try.underlying93, Result.andThen_ok, sizeOf, typeInfo, run_program, hi, hs, Sem.run_pure, Std.Legacy.Range.forIn_eq_forIn_range', Nat.mul_one]
  have key : ∀ l : List Nat, (∀ i ∈ l, i < 16) → ∀ w : World, (Sem.run Try.prog (forIn l ((none : Option Bool), ()) fun i __s => do
      let a ← part 5 (tokF f) i
      let b ← part 5 (tokF g) i
      let r ← Op.equalIn d 5 a b
      if (!r) = true then pure (ForInStep.done (some false, ())) else pure (ForInStep.yield (none, ()))) w) = .ok (if eqF f g l = true then (none, ()) else (some false, ())) w := by
    intro l
    induction l with
    | nil => intro _ w; simp [eqF]
    | cons j l ih =>
      intro hl w
      have hj := hl j (by simp)
      have e1 : (Op.equalIn d 5 (.int .u8 (f j)) (.int .u8 (g j))).run Try.prog w = .ok (f j == g j) w := by
        rw [hd]; exact run_equalIn_int w e 5 .u8 .u8 _ _ Try.underlying5
      simp only [List.forIn_cons, Sem.run_bind, run_part_tok f j hj, run_part_tok g j hj, Result.andThen_ok, e1, Sem.run_ite]
      by_cases hq : f j = g j
      · have hq2 : (f j == g j) = true := by simp [hq]
        simp only [hq2, Bool.not_true, Bool.false_eq_true, if_false, Sem.run_pure, Result.andThen_ok]
        rw [ih (fun i h => hl i (by simp [h])) w]
        simp [eqF, hq2]
      · have hq2 : (f j == g j) = false := by simp [hq]
        simp only [hq2, Bool.not_false, if_true, Sem.run_pure, Result.andThen_ok]
        simp [eqF, hq2]
  have k16 := key (List.range' 0 16) (by intro i hi; simp [List.mem_range'] at hi; omega) w
  rw [show [:16].size = 16 from rfl, k16, show List.range 16 = List.range' 0 16 from rfl]
  cases eqF f g (List.range' 0 16) <;> rfl

def cmpN (f g : Nat → Int) : Nat → Nat → Int
  | 0, _ => 0
  | n + 1, k => if f k < g k then -1 else if g k < f k then 1 else cmpN f g n (k + 1)

def EqUpto (f g : Nat → Int) (k : Nat) : Prop := ∀ i, i < k → f i = g i

theorem EqUpto.step {f g : Nat → Int} {k : Nat} (h : EqUpto f g k) (h1 : ¬ f k < g k) (h2 : ¬ g k < f k) : EqUpto f g (k + 1) := by
  intro i hi
  by_cases e : i = k
  · subst e; omega
  · exact h i (by omega)

theorem cmpN_skip {f g : Nat → Int} {n k : Nat} (h : EqUpto f g k) (hk : k ≤ n) : cmpN f g n 0 = cmpN f g (n - k) k := by
  induction k with
  | zero => rfl
  | succ k ih =>
    rw [ih (fun i hi => h i (by omega)) (by omega), show n - k = (n - (k + 1)) + 1 by omega]
    have := h k (by omega)
    simp only [cmpN]
    rw [if_neg (by omega), if_neg (by omega)]

theorem cmpN_lt {f g : Nat → Int} {n k : Nat} (h : EqUpto f g k) (hk : k < n) (hl : f k < g k) : cmpN f g n 0 = -1 := by
  rw [cmpN_skip h (by omega), show n - k = (n - (k + 1)) + 1 by omega]
  simp only [cmpN]; rw [if_pos hl]

theorem cmpN_gt {f g : Nat → Int} {n k : Nat} (h : EqUpto f g k) (hk : k < n) (hl : g k < f k) : cmpN f g n 0 = 1 := by
  rw [cmpN_skip h (by omega), show n - k = (n - (k + 1)) + 1 by omega]
  simp only [cmpN]; rw [if_neg (by omega), if_pos hl]

theorem cmpN_eq {f g : Nat → Int} {n : Nat} (h : EqUpto f g n) : cmpN f g n 0 = 0 := by
  rw [cmpN_skip h (Nat.le_refl _), Nat.sub_self]; rfl

theorem eqF_upto {f g : Nat → Int} {n : Nat} : eqF f g (List.range n) = true ↔ EqUpto f g n := by
  simp [eqF, EqUpto]

theorem cmpN_zero {f g : Nat → Int} (j k : Nat) (h : ∀ i, k ≤ i → f i = g i) : cmpN f g j k = 0 := by
  induction j generalizing k with
  | zero => rfl
  | succ j ih =>
    have := h k (Nat.le_refl _)
    simp only [cmpN]
    rw [if_neg (by omega), if_neg (by omega)]
    exact ih (k + 1) (fun i hi => h i (by omega))

theorem cmpN_pad (xs ys : List Int) (n j m k : Nat) (hm : k + m = n) : cmpN (fOf xs n) (fOf ys n) (m + j) k = cmpN (getF xs) (getF ys) m k := by
  induction m generalizing k with
  | zero =>
    rw [Nat.zero_add]
    exact cmpN_zero j k (fun i hi => by unfold fOf; rw [if_neg (by omega), if_neg (by omega)])
  | succ m ih =>
    rw [show m + 1 + j = (m + j) + 1 by omega]
    simp only [cmpN]
    rw [ih (k + 1) (by omega)]
    have e1 : fOf xs n k = getF xs k := by unfold fOf getF; rw [if_pos (by omega)]
    have e2 : fOf ys n k = getF ys k := by unfold fOf getF; rw [if_pos (by omega)]
    rw [e1, e2]

/-- A call that answers an int and writes into nothing that was there. -/
def IntEnd (n : Int) (w : World) (e : Ending) (w' : World) : Prop := e = .returned (.int .i64 n) ∧ Below w.heap.size w w'

theorem ret_intC {a b : Int} (h : a = b) : Ending.returned (.int .i64 a) = .returned (.int .i64 b) := by rw [h]

def cmpB (p : Int) (xs ys : List Int) : Int := if goodB p xs && goodB p ys then cmpN (getF xs) (getF ys) xs.length 0 else 0

def CmpEnd (p : Int) (xs ys : List Int) (w : World) (e : Ending) (w' : World) : Prop :=
  e = .returned (.tuple #[.int .i64 (cmpB p xs ys), .bool (goodB p xs && goodB p ys)]) ∧ Below w.heap.size w w'

theorem cmpEnd_no {p : Int} {xs ys : List Int} {w w' : World} (h : (goodB p xs && goodB p ys) = false) (hb : Below w.heap.size w w') : CmpEnd p xs ys w (.returned (.tuple #[.int .i64 0, .bool false])) w' := by
  refine ⟨?_, hb⟩; unfold cmpB; rw [h]; rfl

theorem cmpEnd_yes {p : Int} {xs ys : List Int} {w w' : World} {c : Int} (h : (goodB p xs && goodB p ys) = true) (hc : cmpN (getF xs) (getF ys) xs.length 0 = c) (hb : Below w.heap.size w w') : CmpEnd p xs ys w (.returned (.tuple #[.int .i64 c, .bool true])) w' := by
  refine ⟨?_, hb⟩; unfold cmpB; rw [h, hc]; rfl

end Go.Proofs.Ytdhnhpjcoeglmaa


/- A map from marks to their numbers: its block holds the marks in the order in which they were met; what looking up, storing a new one and counting do. -/
namespace Go.Proofs.Ytdhnhpjcoeglmaa
open Go.RowKit
open Go.ChangeMaps (setBlock heap_setBlock_same heap_setBlock_other)
set_option maxRecDepth 10000

/-- The entries: each mark with its number. -/
def entsOf (l : Nat) (ms : List (List Int)) : Array MapEntry := (ms.mapIdx fun i m => ⟨.agg (packOf m l), .int .i64 (i : Int), i⟩).toArray

theorem entsOf_size (l : Nat) (ms : List (List Int)) : (entsOf l ms).size = ms.length := by simp [entsOf]

theorem entsOf_push (l : Nat) (ms : List (List Int)) (m : List Int) : entsOf l (ms ++ [m]) = (entsOf l ms).push ⟨.agg (packOf m l), .int .i64 (ms.length : Int), ms.length⟩ := by
  simp [entsOf, List.mapIdx_append]

/-- Block b is the map of the marks ms. -/
def MapIs (w : World) (b l : Nat) (ms : List (List Int)) : Prop := w.heap[b]? = some (.map (entsOf l ms) ms.length)

/-- Two marks of l places are packed alike where they are one. -/
theorem pack_eq {l : Nat} {m u : List Int} (hl : l ≤ 16) (hm : m.length = l) (hu : u.length = l) : eqF (fOf m l) (fOf u l) (List.range 16) = true ↔ m = u := by
  constructor
  · intro h
    have h' := eqF_upto.mp h
    apply List.ext_getElem?
    intro i
    by_cases hi : i < l
    · have := h' i (by omega)
      unfold fOf at this
      rw [if_pos hi, if_pos hi, List.getD_eq_getElem?_getD, List.getD_eq_getElem?_getD, List.getElem?_eq_getElem (by omega), List.getElem?_eq_getElem (by omega)] at this
      rw [List.getElem?_eq_getElem (by omega), List.getElem?_eq_getElem (by omega)]
      simpa using this
    · rw [List.getElem?_eq_none (by omega), List.getElem?_eq_none (by omega)]
  · rintro rfl
    exact eqF_upto.mpr fun i _ => rfl

theorem run_checkTokD (d : Nat) (em : Bool) (f : Nat → Int) (w : World) : (Instr.checkKey em (d + 1 + 1) 93 (.agg (tokF f))).run Try.prog w = .ok () w := by
  obtain ⟨i, hi, hs⟩ := Option.map_eq_some_iff.1 Try.size5
  have h1 : ∀ j, j < 16 → (Instr.checkKey em (d + 1) 5 (.int .u8 (f j))).run Try.prog w = .ok () w := fun j _ => by
    simp [Instr.checkKey, run_underlying Try.underlying5]
  have key : ∀ l : List Nat, (∀ i ∈ l, i < 16) → (Sem.run Try.prog (forIn l PUnit.unit fun i _ => do
      Instr.checkKey em (d + 1) 5 (← part 5 (tokF f) (i * (← sizeOf 5)))
      pure (ForInStep.yield PUnit.unit)) w) = .ok PUnit.unit w := by
    intro l
    induction l with
    | nil => intro _; simp
    | cons j l ih =>
      intro hl
      have hj := hl j (by simp)
      simp only [List.forIn_cons, Sem.run_bind, sizeOf, typeInfo, run_program, hi, hs, Nat.mul_one, run_part_tok f j hj, Result.andThen_ok, h1 j hj, Sem.run_pure]
      simpa [sizeOf, typeInfo, hi, hs] using ih (fun i h => hl i (by simp [h]))
  have k16 := key (List.range' 0 16) (by intro i hi; simp [List.mem_range'] at hi; omega)
  unfold Instr.checkKey
  simp only [Sem.run_bind, run_underlying Try.underlying93, Result.andThen_ok, Sem.run_pure, Std.Legacy.Range.forIn_eq_forIn_range']
  rw [show [:16].size = 16 from rfl, k16]
  rfl

theorem run_checkTok (em : Bool) (f : Nat → Int) (w : World) : (Instr.checkKey em 10000 93 (.agg (tokF f))).run Try.prog w = .ok () w := run_checkTokD 9998 em f w

theorem run_equalTok (f g : Nat → Int) (w : World) : (Op.equal 93 (.agg (tokF f)) (.agg (tokF g))).run Try.prog w = .ok (eqF f g (List.range 16)) w := run_equalIn_tok 9999 9998 rfl f g w

/-- The place of a mark among the first ones. -/
theorem run_askTok {l : Nat} (hl : l ≤ 16) (m : List Int) (hm : m.length = l) (w : World) : ∀ (ms : List (List Int)) (k : Nat), (∀ u ∈ ms, u.length = l) →
    (Instr.findAsking 93 (.agg (packOf m l)) (ms.mapIdx fun i u => (⟨.agg (packOf u l), .int .i64 ((k + i : Nat) : Int), k + i⟩ : MapEntry)) k).run Try.prog w =
      .ok (if m ∈ ms then some (k + ms.idxOf m, .int .i64 ((k + ms.idxOf m : Nat) : Int)) else none) w
  | [], k, _ => by simp [Instr.findAsking]
  | u :: ms, k, h => by
    have hu := h u (by simp)
    have he := run_equalTok (fOf m l) (fOf u l) w
    have ih := run_askTok hl m hm w ms (k + 1) (fun x hx => h x (by simp [hx]))
    have e1 : (ms.mapIdx fun i u => (⟨.agg (packOf u l), .int .i64 ((k + 1 + i : Nat) : Int), k + 1 + i⟩ : MapEntry)) = (ms.mapIdx fun i u => (⟨.agg (packOf u l), .int .i64 ((k + (i + 1) : Nat) : Int), k + (i + 1)⟩ : MapEntry)) := by
      congr 1; funext i u; rw [show k + 1 + i = k + (i + 1) by omega]
    rw [e1] at ih
    rw [List.mapIdx_cons]
    by_cases hq : m = u
    · subst hq
      rw [(pack_eq hl hm hm).mpr rfl] at he
      simp [Instr.findAsking, packOf, he]
    · have hq' : eqF (fOf m l) (fOf u l) (List.range 16) = false := by
        cases hc : eqF (fOf m l) (fOf u l) (List.range 16)
        · rfl
        · exact absurd ((pack_eq hl hm hu).mp hc) hq
      rw [hq'] at he
      have hidx : (u :: ms).idxOf m = ms.idxOf m + 1 := by
        rw [List.idxOf_cons, show (u == m) = false from by simpa using (fun e => hq e.symm : ¬ u = m)]; rfl
      have hmem : (m ∈ u :: ms) ↔ m ∈ ms := by simp [hq]
      unfold Instr.findAsking
      simp only [Sem.run_bind, show (Op.equal 93 (.agg (packOf m l)) (.agg (packOf u l))).run Try.prog w = .ok false w from he, Result.andThen_ok, Bool.false_eq_true, if_false, ih, hidx, hmem]
      split
      · rw [show k + 1 + ms.idxOf m = k + (ms.idxOf m + 1) by omega]
      · rfl

theorem run_findTok {l : Nat} (hl : l ≤ 16) (m : List Int) (hm : m.length = l) (w : World) (ms : List (List Int)) (h : ∀ u ∈ ms, u.length = l) :
    (Instr.findKey 93 (.agg (packOf m l)) (entsOf l ms).toList).run Try.prog w = .ok (if m ∈ ms then some (ms.idxOf m, .int .i64 ((ms.idxOf m : Nat) : Int)) else none) w := by
  have ha := run_askTok hl m hm w ms 0 h
  simp only [Nat.zero_add] at ha
  cases ms with
  | nil => simp [Instr.findKey, run_underlying Try.underlying93, entsOf, Instr.findNow, Result.andThen]
  | cons u r =>
    have hn : Instr.findNow (.array 16 5) (.agg (packOf m l)) (entsOf l (u :: r)).toList 0 = none := by
      simp [entsOf, List.mapIdx_cons, Instr.findNow, Instr.sameNow]
    unfold Instr.findKey
    simp only [Sem.run_bind, run_underlying Try.underlying93, Result.andThen_ok, hn]
    simpa [entsOf] using ha

theorem zeroInt (w : World) : (zeroValue 3).run Try.prog w = .ok (.int .i64 0) w := by kernel_rfl

/-- v, ok := numbers[m]. -/
theorem run_lookTok {l b : Nat} (hl : l ≤ 16) {m : List Int} (hm : m.length = l) {w : World} {ms : List (List Int)} (h : ∀ u ∈ ms, u.length = l) (hb : MapIs w b l ms) (c : Bool) :
    (Instr.lookup 131 (.map (some b)) (.agg (packOf m l)) c).run Try.prog w = .ok (if c then .tuple #[.int .i64 (if m ∈ ms then (ms.idxOf m : Int) else 0), .bool (decide (m ∈ ms))] else .int .i64 (if m ∈ ms then (ms.idxOf m : Int) else 0)) w := by
  have hf := run_findTok hl m hm w ms h
  have hck := run_checkTok (entsOf l ms).isEmpty (fOf m l) w
  unfold MapIs at hb
  by_cases hq : m ∈ ms
  · rw [if_pos hq] at hf
    cases c <;> simp [Instr.lookup, run_underlying Try.underlying131, MapKept.run_getObj_map hb, show (Instr.checkKey (entsOf l ms).isEmpty 10000 93 (.agg (packOf m l))).run Try.prog w = .ok () w from hck, hf, hq, Result.andThen]
  · rw [if_neg hq] at hf
    cases c <;> simp [Instr.lookup, run_underlying Try.underlying131, MapKept.run_getObj_map hb, show (Instr.checkKey (entsOf l ms).isEmpty 10000 93 (.agg (packOf m l))).run Try.prog w = .ok () w from hck, hf, hq, Result.andThen]

theorem run_lenTok {l b : Nat} {w : World} {ms : List (List Int)} (hb : MapIs w b l ms) (ty : TypeId) : (Builtin.len_ #[131] ty #[.map (some b)]).run Try.prog w = .ok (.int .i64 (ms.length : Int)) w := by
  unfold MapIs at hb
  simp [Builtin.len_, run_underlying Try.underlying131, MapKept.run_getObj_map hb, goInt, Result.andThen, entsOf_size]

/-- numbers[m] = its number, of a new one. -/
theorem run_putTok {l b : Nat} (hl : l ≤ 16) {m : List Int} (hm : m.length = l) {w : World} {ms : List (List Int)} (h : ∀ u ∈ ms, u.length = l) (hb : MapIs w b l ms) (hn : m ∉ ms) :
    (Instr.mapUpdate 131 (.map (some b)) (.agg (packOf m l)) (.int .i64 (ms.length : Int))).run Try.prog w = .ok () (setBlock w b (.map (entsOf l (ms ++ [m])) (ms.length + 1))) := by
  have hf := run_findTok hl m hm w ms h
  have hck := run_checkTok false (fOf m l) w
  unfold MapIs at hb
  rw [if_neg hn] at hf
  rw [entsOf_push]
  simp [Instr.mapUpdate, run_underlying Try.underlying131, MapKept.run_getObj_map hb, show (Instr.checkKey false 10000 93 (.agg (packOf m l))).run Try.prog w = .ok () w from hck, hf, MapKept.run_setObj_map _ hb, Result.andThen, setBlock]

theorem MapIs.put {l b : Nat} {w : World} {ms : List (List Int)} (hb : MapIs w b l ms) (m : List Int) : MapIs (setBlock w b (.map (entsOf l (ms ++ [m])) (ms.length + 1))) b l (ms ++ [m]) := by
  unfold MapIs at *
  rw [heap_setBlock_same hb]
  simp

theorem MapIs.kept {l b : Nat} {w w' : World} {ms : List (List Int)} (h : MapIs w b l ms) (hb : w'.heap[b]? = w.heap[b]?) : MapIs w' b l ms := hb.trans h
theorem MapIs.lt {l b : Nat} {w : World} {ms : List (List Int)} (h : MapIs w b l ms) : b < w.heap.size := (Array.getElem?_eq_some_iff.mp h).1
end Go.Proofs.Ytdhnhpjcoeglmaa


/- Steps of a region that draws its order, by hand: a call, an operation that is not wanted. -/
namespace Go.Proofs.Ytdhnhpjcoeglmaa
open Go.RowKit

theorem run_callw {P : Program} {o : Oper} {a : Act} {w : World} (f : FuncId) (fn : Func) (xs : Array Operand) (ts : Array TypeId) (hop : o.op = Op.call { callee := Callee.value (Operand.func f), args := xs, argTypes := ts })
    (hfn : P.funcs[f]? = some fn) (hnm : (fn.name == "runtime.NumGoroutine") = false) (hbd : fn.body.isNone = false) : (execOp a.eval o).run P w = .ok (.enter f (xs.map a.eval)) w := by
  have hnm' : ¬ fn.name = "runtime.NumGoroutine" := by simpa using hnm
  have hbd' : ¬ fn.body = none := by intro e; rw [e] at hbd; simp at hbd
  unfold execOp
  simp only [hop]
  simp [resolve, invoke, go_sem, Act.eval, callFunc, hfn, hnm', hbd']

/-- A call that is wanted as one step of a region that draws its order. -/
theorem step_callW {P : Program} {ops : Array Oper} {o : Oper} {a : Act} {w : World} {K : Act → World → Prop} {Q : Exit → Act → World → Prop} {E : Prop}
    (hw : Region.wanted o (yielded ops a.tmps) = true) (f : FuncId) (fn : Func) (xs : Array Operand) (ts : Array TypeId) (hop : o.op = Op.call { callee := Callee.value (Operand.func f), args := xs, argTypes := ts })
    (hfn : P.funcs[f]? = some fn) (hnm : (fn.name == "runtime.NumGoroutine") = false) (hbd : fn.body.isNone = false) (args : Array Value) (hargs : xs.map a.eval = args) (R : Ending → World → Prop) (hc : Calls P f args w R)
    (h : ∀ e w', R e w' → ∃ v, e = .returned v ∧ K (a.put o.dst v) w') :
    if Region.wanted o (yielded ops a.tmps) = true then Oper.wp P o a w K Q else E := by
  rw [if_pos hw]
  unfold Oper.wp
  rw [run_callw f fn xs ts hop hfn hnm hbd, hargs, Oper.upon_enter]
  refine hc.mono fun e w'' hh => ?_
  obtain ⟨v, rfl, hk⟩ := h e w'' hh
  exact hk

theorem mapw1 (g : Operand → Value) (x : Operand) (v : Value) (h : g x = v) : (#[x] : Array Operand).map g = #[v] := by simp [h]
theorem mapw2 (g : Operand → Value) (x y : Operand) (v u : Value) (h : g x = v) (h2 : g y = u) : (#[x, y] : Array Operand).map g = #[v, u] := by simp [h, h2]

section
variable {P : Program} {ops : Array Oper} {Q : Exit → Act → World → Prop} {md : Region.Mode} {S : World → Prop}

/-- What is not wanted is taken first. -/
theorem take_no {i : Nat} {oi : Oper} {fuel : Nat} {listed : Array Bool} {a : Act} {w : World} (d : Option Tmp) (hi : ops[i]? = some oi) (hd : oi.dst = d)
    (hs : Region.noSelect ops = true) (hf : Region.free md ops listed i = true) (hr : (Region.ready md ops listed).contains i = true)
    (hQ : ∀ c a w, Q (.panic c) (a.put d undef) w → Q (.panic c) a w) (hw : Region.wanted oi (yielded ops a.tmps) = false) (hS : S w)
    (h : wpAnyH P md ops Q S fuel (listed.setIfInBounds i true) (a.put d undef) w) : wpAnyH P md ops Q S (fuel + 1) listed a w := by
  subst hd
  exact wpAnyH_take hi hs hf hr hQ (.inr ⟨hw, rfl⟩) hS h

/-- What is wanted and yields its value wherever S holds is taken first. -/
theorem take_yes {i : Nat} {oi : Oper} {fuel : Nat} {listed : Array Bool} {a : Act} {w : World} (d : Option Tmp) (v : Value) (hi : ops[i]? = some oi) (hd : oi.dst = d)
    (hs : Region.noSelect ops = true) (hf : Region.free md ops listed i = true) (hr : (Region.ready md ops listed).contains i = true)
    (hQ : ∀ c a w, Q (.panic c) (a.put d v) w → Q (.panic c) a w) (hw : Region.wanted oi (yielded ops a.tmps) = true) (hy : ∀ w, S w → (execOp a.eval oi).run P w = .ok (.value v) w) (hS : S w)
    (h : wpAnyH P md ops Q S fuel (listed.setIfInBounds i true) (a.put d v) w) : wpAnyH P md ops Q S (fuel + 1) listed a w := by
  subst hd
  exact wpAnyH_take hi hs hf hr hQ (.inl ⟨hw, hy⟩) hS h

/-- A call that must come up next. -/
theorem call_next {i : Nat} {oi : Oper} {fuel : Nat} {listed : Array Bool} {a : Act} {w : World} (d : Option Tmp) (hi : ops[i]? = some oi) (hd : oi.dst = d) (hr : Region.ready md ops listed = [i])
    (hw : Region.wanted oi (yielded ops a.tmps) = true) (f : FuncId) (fn : Func) (xs : Array Operand) (ts : Array TypeId) (hop : oi.op = Op.call { callee := Callee.value (Operand.func f), args := xs, argTypes := ts })
    (hfn : P.funcs[f]? = some fn) (hnm : (fn.name == "runtime.NumGoroutine") = false) (hbd : fn.body.isNone = false) (args : Array Value) (hargs : xs.map a.eval = args) (R : Ending → World → Prop) (hc : Calls P f args w R)
    (h : ∀ e w', R e w' → ∃ v, e = .returned v ∧ S w' ∧ (S w' → wpAnyH P md ops Q S fuel (listed.setIfInBounds i true) (a.put d v) w')) : wpAnyH P md ops Q S (fuel + 1) listed a w := by
  subst hd
  refine wpAnyH_ready hr (by simp) (AllReadyH.cons hi (fun K hK => ?_) AllReadyH.nil)
  refine step_callW hw f fn xs ts hop hfn hnm hbd args hargs R hc ?_
  intro e w' hR
  obtain ⟨v, e1, h1, h2⟩ := h e w' hR
  exact ⟨v, e1, hK.out _ _ h1 h2⟩

/-- A store of a whole row that must come up next. -/
theorem store_next {i : Nat} {oi : Oper} {fuel : Nat} {listed : Array Bool} {a : Act} {w : World} (hi : ops[i]? = some oi) (hd : oi.dst = none) (hr : Region.ready md ops listed = [i])
    (hw : Region.wanted oi (yielded ops a.tmps) = true) (ty : TypeId) (x y : Operand) (hop : oi.op = .store ty x y)
    (g : Nat) (cells : Array Value) (hx : a.eval x = .pointer (some ⟨g, 0, none⟩)) (hy : a.eval y = .agg cells)
    (t : TypeId) (old : Array Value) (hg : w.heap[g]? = some (.cells old t (0, 0))) (hz : (P.info? ty).map (·.size) = some cells.size)
    (hold : old.size = cells.size) (h1 : cells.all (·.oneCell') = true)
    (hS : S (w.setRow g cells)) (h : S (w.setRow g cells) → wpAnyH P md ops Q S fuel (listed.setIfInBounds i true) a (w.setRow g cells)) : wpAnyH P md ops Q S (fuel + 1) listed a w := by
  refine wpAnyH_ready hr (by simp) (AllReadyH.cons hi (fun K hK => ?_) AllReadyH.nil)
  rw [if_pos hw]
  refine wp_store_row ty x y hop g cells hx hy t old hg hz hold h1 (hK.out _ _ ?_ ?_)
  · exact hS
  · rw [hd]; exact h

/-- A store of some cells in a row that must come up next. -/
theorem store_mid_next {i : Nat} {oi : Oper} {fuel : Nat} {listed : Array Bool} {a : Act} {w : World} (hi : ops[i]? = some oi) (hd : oi.dst = none) (hr : Region.ready md ops listed = [i])
    (hw : Region.wanted oi (yielded ops a.tmps) = true) (ty : TypeId) (x y : Operand) (hop : oi.op = .store ty x y)
    (b o : Nat) (cells : Array Value) (hx : a.eval x = .pointer (some ⟨b, o, none⟩)) (hy : a.eval y = .agg cells) (ht : w.there b o cells.size) (hz : (P.info? ty).map (·.size) = some cells.size)
    (h1 : cells.all (·.oneCell') = true)
    (hS : S (w.setCells b o cells.toList)) (h : S (w.setCells b o cells.toList) → wpAnyH P md ops Q S fuel (listed.setIfInBounds i true) a (w.setCells b o cells.toList)) : wpAnyH P md ops Q S (fuel + 1) listed a w := by
  refine wpAnyH_ready hr (by simp) (AllReadyH.cons hi (fun K hK => ?_) AllReadyH.nil)
  rw [if_pos hw]
  refine wp_store_mid ty x y hop b o cells hx hy ht hz h1 (hK.out _ _ ?_ ?_)
  · exact hS
  · rw [hd]; exact h
end

theorem mapw4 (g : Operand → Value) (x y z u : Operand) (a b c d : Value) (h : g x = a) (h2 : g y = b) (h3 : g z = c) (h4 : g u = d) : (#[x, y, z, u] : Array Operand).map g = #[a, b, c, d] := by simp [h, h2, h3, h4]

theorem setRow_sameW {w : World} {b : Nat} {C : Array Value} {t : TypeId} (hb : w.heap[b]? = some (.cells C t (0, 0))) (D : Array Value) : (w.setRow b D).heap[b]? = some (.cells D t (0, 0)) := by
  simp only [World.setRow, Array.getElem?_modify]
  rw [if_pos trivial, hb]
  rfl

theorem setRow_otherW (w : World) {b k : Nat} (h : k ≠ b) (D : Array Value) : (w.setRow b D).heap[k]? = w.heap[k]? := by
  simp only [World.setRow, Array.getElem?_modify]
  rw [if_neg (fun e => h e.symm)]
end Go.Proofs.Ytdhnhpjcoeglmaa


/- More steps of a region that draws its order, by hand. -/
namespace Go.Proofs.Ytdhnhpjcoeglmaa
open Go.RowKit

/-- An operation that yields a value as one step of a region that draws its order. -/
theorem step_valW {P : Program} {ops : Array Oper} {o : Oper} {a : Act} {w w' : World} {K : Act → World → Prop} {Q : Exit → Act → World → Prop} {E : Prop}
    (hw : Region.wanted o (yielded ops a.tmps) = true) (d : Option Tmp) (hd : o.dst = d) (v : Value) (hr : (execOp a.eval o).run P w = .ok (.value v) w') (h : K (a.put d v) w') :
    if Region.wanted o (yielded ops a.tmps) = true then Oper.wp P o a w K Q else E := by
  subst hd
  rw [if_pos hw]
  unfold Oper.wp
  rw [hr]
  exact h

/-- A call that is wanted, its place named. -/
theorem step_callWd {P : Program} {ops : Array Oper} {o : Oper} {a : Act} {w : World} {K : Act → World → Prop} {Q : Exit → Act → World → Prop} {E : Prop} (d : Option Tmp) (hd : o.dst = d)
    (hw : Region.wanted o (yielded ops a.tmps) = true) (f : FuncId) (fn : Func) (xs : Array Operand) (ts : Array TypeId) (hop : o.op = Op.call { callee := Callee.value (Operand.func f), args := xs, argTypes := ts })
    (hfn : P.funcs[f]? = some fn) (hnm : (fn.name == "runtime.NumGoroutine") = false) (hbd : fn.body.isNone = false) (args : Array Value) (hargs : xs.map a.eval = args) (R : Ending → World → Prop) (hc : Calls P f args w R)
    (h : ∀ e w', R e w' → ∃ v, e = .returned v ∧ K (a.put d v) w') :
    if Region.wanted o (yielded ops a.tmps) = true then Oper.wp P o a w K Q else E := by
  subst hd
  exact step_callW hw f fn xs ts hop hfn hnm hbd args hargs R hc h

/-- An append, its place named. -/
theorem step_appWd {P : Program} {ops : Array Oper} {o : Oper} {a : Act} {w : World} {K : Act → World → Prop} {Q : Exit → Act → World → Prop} {E : Prop} (d : Option Tmp) (hd : o.dst = d) (hgd : o.guard = none) (s x : Operand) (t : TypeId)
    (ho : o.op = .call { callee := .builtin .append, args := #[s, x], argTypes := #[t, t] })
    (base : Nat) (e : TypeId) (i : TypeInfo) (z : Value) (size bytes : Nat) (ht : P.underlying t = some (.slice e)) (hi : P.info? e = some i) (hz : i.zero = some z)
    (hsize : i.size = size) (hby : i.bytes = bytes) (hzs : z.cells.size = size) (hsz : 0 < size)
    (v : Value) (n : Nat) (xs : List Value) (hs : a.eval s = v) (hown : w.ownsRow base e size v n xs)
    (ad : Addr) (m c : Nat) (news : List Value) (hx : a.eval x = .slice (some ad) m c) (hl : news.length = m * size) (hnews : ∀ j u, news[j]? = some u → w.cell? (ad.add j) = some u) (h1 : ∀ u ∈ news, u.oneCell' = true)
    (hm : 0 < m) (h63 : n + m ≤ maxLen) (hbytes : (n + m) * bytes ≤ 140737488355328) (hbase : base ≤ w.heap.size) (H : Nat) (hH : w.heap.size = H)
    (h : ∀ g cap w', w'.ownsRow base e size (.slice (some ⟨g, 0, none⟩) (n + m) cap) (n + m) (xs ++ news) → w.grownBy w' v.ownBlock → (v.ownBlock = some g ∨ g = H) → g < w'.heap.size → K (a.put d (.slice (some ⟨g, 0, none⟩) (n + m) cap)) w') :
    if Region.wanted o (yielded ops a.tmps) = true then Oper.wp P o a w K Q else E := by
  subst hd
  exact step_append_lies w hgd s x t ho base e i z size bytes ht hi hz hsize hby hzs hsz v n xs hs hown ad m c news hx hl hnews h1 hm h63 hbytes hbase H hH h

section
variable {P : Program} {ops : Array Oper} {Q : Exit → Act → World → Prop} {md : Region.Mode} {S : World → Prop}

/-- A store of one cell that must come up next. -/
theorem store_one_next {i : Nat} {oi : Oper} {fuel : Nat} {listed : Array Bool} {a : Act} {w : World} (hi : ops[i]? = some oi) (hd : oi.dst = none) (hr : Region.ready md ops listed = [i])
    (hw : Region.wanted oi (yielded ops a.tmps) = true) (ty : TypeId) (x y : Operand) (hop : oi.op = .store ty x y)
    (b o : Nat) (p : Option Addr) (l c : Nat) (hx : a.eval x = .pointer (some ⟨b, o, none⟩)) (hy : a.eval y = .slice p l c) (C : Array Value) (T : TypeId) (hb : w.heap[b]? = some (.cells C T (0, 0))) (ho : o < C.size) (hz : (P.info? ty).map (·.size) = some 1)
    (hS : S (w.setCell ⟨b, o, none⟩ (.slice p l c))) (h : S (w.setCell ⟨b, o, none⟩ (.slice p l c)) → wpAnyH P md ops Q S fuel (listed.setIfInBounds i true) a (w.setCell ⟨b, o, none⟩ (.slice p l c))) : wpAnyH P md ops Q S (fuel + 1) listed a w := by
  refine wpAnyH_ready hr (by simp) (AllReadyH.cons hi (fun K hK => ?_) AllReadyH.nil)
  rw [if_pos hw]
  have hc : w.cell? ⟨b, o, none⟩ = some (C[o]'ho) := by rw [cell_of_row w b o C T _ hb, Array.getElem?_eq_getElem ho]
  have hf : w.frozen? ⟨b, o, none⟩ = false := frozen_of_row w b o C _ hb
  have hrun : (execOp a.eval oi).run P w = .ok .skip (w.setCell ⟨b, o, none⟩ (.slice p l c)) := by
    unfold execOp
    simp only [hop, hx, hy]
    obtain ⟨inf, hinf, hsz⟩ := Option.map_eq_some_iff.1 hz
    simp [go_sem, sizeOf, typeInfo, hinf, hsz, hc, hf]
  unfold Oper.wp
  rw [hrun]
  show K (a.put oi.dst undef) _
  rw [hd]
  exact hK.out _ _ hS h

end
end Go.Proofs.Ytdhnhpjcoeglmaa
