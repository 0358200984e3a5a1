/- The plain mathematics of reading a mark: the words of a text, the number of a word, and what a machine that reads byte by byte knows of them. -/
import Derived.Test.YtkpmpnbeedapgaaDoorGood
namespace Go.Proofs.YtkpmpnbeedapgaaDoor
open Go.RowKit

def stepW (st : List (List Int) × List Int) (b : Int) : List (List Int) × List Int := if b = 32 then (st.1 ++ [st.2], []) else (st.1, st.2 ++ [b])
def wordsSt (bs : List Int) : List (List Int) × List Int := bs.foldl stepW ([], [])
def words (bs : List Int) : List (List Int) := (wordsSt bs).1 ++ [(wordsSt bs).2]

theorem wordsSt_snoc (bs : List Int) (b : Int) : wordsSt (bs ++ [b]) = stepW (wordsSt bs) b := by simp [wordsSt, List.foldl_append]

theorem fold_ext (post : List Int) : ∀ (D : List (List Int)) (c : List Int), ∃ x rest, (post.foldl stepW (D, c)).1 ++ [(post.foldl stepW (D, c)).2] = D ++ (c ++ x) :: rest := by
  induction post with
  | nil => intro D c; exact ⟨[], [], by simp⟩
  | cons b post ih =>
    intro D c
    by_cases hb : b = 32
    · obtain ⟨x, rest, h⟩ := ih (D ++ [c]) []
      refine ⟨[], ([] ++ x) :: rest, ?_⟩
      rw [List.foldl_cons, show stepW (D, c) b = (D ++ [c], []) from by simp [stepW, hb], h]
      simp
    · obtain ⟨x, rest, h⟩ := ih D (c ++ [b])
      refine ⟨b :: x, rest, ?_⟩
      rw [List.foldl_cons, show stepW (D, c) b = (D, c ++ [b]) from by simp [stepW, hb], h]
      simp

theorem words_ext (pre post : List Int) : ∃ x rest, words (pre ++ post) = (wordsSt pre).1 ++ ((wordsSt pre).2 ++ x) :: rest := by
  obtain ⟨x, rest, h⟩ := fold_ext post (wordsSt pre).1 (wordsSt pre).2
  refine ⟨x, rest, ?_⟩
  unfold words
  rw [show wordsSt (pre ++ post) = post.foldl stepW ((wordsSt pre).1, (wordsSt pre).2) from by simp [wordsSt, List.foldl_append]]
  exact h

def digB (b : Int) : Bool := decide (48 ≤ b) && decide (b ≤ 57)
def valOf (w : List Int) : Int := w.foldl (fun n b => 10 * n + (b - 48)) 0
def shortB (w : List Int) : Bool := decide (1 ≤ w.length) && decide (w.length ≤ 6) && !(decide (w.getD 0 0 = 48) && decide (1 < w.length))
def readW (w : List Int) : Int := if shortB w && w.all digB then valOf w else -1

theorem valOf_snoc (w : List Int) (b : Int) : valOf (w ++ [b]) = 10 * valOf w + (b - 48) := by simp [valOf, List.foldl_append]

theorem fold_ge (x : List Int) : ∀ n : Int, 0 ≤ n → x.all digB = true → n ≤ x.foldl (fun n b => 10 * n + (b - 48)) n := by
  induction x with
  | nil => intro n _ _; simp
  | cons b x ih =>
    intro n hn h
    rw [List.all_cons, Bool.and_eq_true] at h
    have hb := h.1
    simp only [digB, Bool.and_eq_true, decide_eq_true_eq] at hb
    have := ih (10 * n + (b - 48)) (by omega) h.2
    rw [List.foldl_cons]
    omega

theorem valOf_nonneg (w : List Int) (h : w.all digB = true) : 0 ≤ valOf w := fold_ge w 0 (by omega) h

theorem readW_other {w : List Int} {b : Int} (hb : b ∈ w) (hd : digB b = false) : readW w = -1 := by
  have : w.all digB = false := by rw [List.all_eq_false]; exact ⟨b, hb, by simp [hd]⟩
  unfold readW; rw [this]; simp

theorem readW_nought {b : Int} {x : List Int} : readW (48 :: b :: x) = -1 := by
  unfold readW shortB; simp

theorem readW_nil : readW [] = -1 := by decide

theorem readW_big {c x : List Int} (hv : 50 < valOf c) : readW (c ++ x) = -1 ∨ 50 < readW (c ++ x) := by
  unfold readW
  split
  · right
    rename_i h
    rw [Bool.and_eq_true, List.all_append, Bool.and_eq_true] at h
    have := fold_ge x (valOf c) (by omega) h.2.2
    have e : valOf (c ++ x) = x.foldl (fun n b => 10 * n + (b - 48)) (valOf c) := by simp [valOf, List.foldl_append]
    omega
  · left; rfl

/-- How far the word is read, as the machine has it: 0 ahead of it, 1 behind a nought, 2 within it. -/
def Canon (r : Nat) (c : List Int) : Prop :=
  (r = 0 ∧ c = []) ∨ (r = 1 ∧ c = [48]) ∨ (r = 2 ∧ c.all digB = true ∧ valOf c ≤ 50 ∧ c.getD 0 0 ≠ 48 ∧ ((c.length = 1 ∧ 1 ≤ valOf c) ∨ (c.length = 2 ∧ 10 ≤ valOf c)))

theorem Canon.read {r : Nat} {c : List Int} (h : Canon r c) (h0 : r ≠ 0) : readW c = valOf c ∧ 0 ≤ valOf c ∧ valOf c ≤ 50 := by
  rcases h with ⟨rfl, _⟩ | ⟨rfl, rfl⟩ | ⟨rfl, hd, hv, hh, hl⟩
  · exact absurd rfl h0
  · decide
  · refine ⟨?_, by omega, hv⟩
    unfold readW shortB
    rw [hd]
    have e1 : decide (1 ≤ c.length) = true := by simp; omega
    have e2 : decide (c.length ≤ 6) = true := by simp; omega
    have e3 : decide (c.getD 0 0 = 48) = false := by simpa using hh
    rw [e1, e2, e3]; rfl

theorem Canon.digs {r : Nat} {c : List Int} (h : Canon r c) : c.all digB = true := by
  rcases h with ⟨_, rfl⟩ | ⟨_, rfl⟩ | ⟨_, hd, _⟩
  · rfl
  · decide
  · exact hd

theorem Canon.val {r : Nat} {c : List Int} (h : Canon r c) : 0 ≤ valOf c ∧ valOf c ≤ 50 := by
  rcases h with ⟨_, rfl⟩ | ⟨_, rfl⟩ | ⟨_, _, hv, _, hl⟩
  · decide
  · decide
  · omega

/-- A nought or a digit is laid on. -/
theorem Canon.dig {r : Nat} {c : List Int} {b : Int} (h : Canon r c) (h1 : r ≠ 1) (hb : 48 ≤ b ∧ b ≤ 57) (hn : b = 48 → r = 2) (hv : 10 * valOf c + (b - 48) ≤ 50) : Canon 2 (c ++ [b]) := by
  have hd : digB b = true := by simp [digB]; omega
  right; right
  rcases h with ⟨rfl, rfl⟩ | ⟨rfl, rfl⟩ | ⟨rfl, hcd, hcv, hh, hl⟩
  · have hb2 : b ≠ 48 := fun e => by have := hn e; omega
    refine ⟨rfl, by simp [hd], by rw [valOf_snoc]; exact hv, by simpa using hb2, .inl ⟨by simp, ?_⟩⟩
    rw [valOf_snoc]; show 1 ≤ 10 * valOf [] + _; simp [valOf]; omega
  · exact absurd rfl h1
  · refine ⟨rfl, by simp [hcd, hd], by rw [valOf_snoc]; exact hv, ?_, ?_⟩
    · cases c with
      | nil => simp at hl
      | cons y ys => simpa using hh
    · rw [valOf_snoc, List.length_append]
      rcases hl with ⟨hl, hx⟩ | ⟨hl, hx⟩
      · right; simp; omega
      · exfalso; omega

theorem Canon.nought : Canon 1 ([] ++ [48]) := by right; left; exact ⟨rfl, rfl⟩

/-- All words but the last are numbers of a mark. -/
def Done (D : List (List Int)) : Prop := ∀ d ∈ D, 0 ≤ readW d ∧ readW d ≤ 50

def readOk (p : Int) (bs : List Int) : Bool := decide (bs.length ≤ 100) && goodB p ((words bs).map readW)
def readR (p : Int) (bs : List Int) : List Int := if readOk p bs then (words bs).map readW else []

theorem not_word {p : Int} {bs : List Int} {w : List Int} (hw : w ∈ words bs) (h : readW w < 0 ∨ 50 < readW w) : readOk p bs = false := by
  have : allB ((words bs).map readW) 0 50 = false := by
    unfold allB; rw [List.all_eq_false]
    exact ⟨readW w, List.mem_map.mpr ⟨w, hw, rfl⟩, by simp [inB]; omega⟩
  unfold readOk goodB; rw [this]; simp

theorem not_len {p : Int} {bs : List Int} (h : ((words bs).length : Int) ≠ p) : readOk p bs = false := by
  unfold readOk goodB; simp [h]

/-- The machine's knowledge behind k bytes: at, read and the numbers laid. -/
structure Mach (bs : List Int) (p k a r : Nat) (m : List Int) : Prop where
  at_ : (wordsSt (bs.take k)).1.length = a
  lt : a < p
  canon : Canon r (wordsSt (bs.take k)).2
  done : Done (wordsSt (bs.take k)).1
  len : m.length = p
  nums : ∀ j, j < p → m.getD j 0 = ((wordsSt (bs.take k)).1.map readW ++ [valOf (wordsSt (bs.take k)).2]).getD j 0

theorem Mach.start (bs : List Int) (p : Nat) (hp : 1 ≤ p) (m : List Int) (hm : m.length = p) (h0 : ∀ j, m.getD j 0 = 0) : Mach bs p 0 0 0 m := by
  have e : wordsSt (bs.take 0) = ([], []) := by simp [wordsSt]
  refine ⟨by rw [e]; rfl, by omega, by rw [e]; exact .inl ⟨rfl, rfl⟩, by rw [e]; intro d hd; simp at hd, hm, fun j _ => ?_⟩
  rw [e, h0]
  cases j <;> simp [valOf]

theorem take_next {bs : List Int} {k : Nat} {b : Int} (hb : Hid (bs[k]? = some b)) : bs.take (k + 1) = bs.take k ++ [b] := by
  rw [List.take_add_one, hb.out]; rfl

theorem split_at' (bs : List Int) (k : Nat) : bs = bs.take k ++ bs.drop k := (List.take_append_drop k bs).symm

/-- A word that has gone wrong makes no mark. -/
theorem bad_word {bs : List Int} {p : Int} {k : Nat} (h : ∀ x, readW ((wordsSt (bs.take k)).2 ++ x) < 0 ∨ 50 < readW ((wordsSt (bs.take k)).2 ++ x)) : readOk p bs = false := by
  obtain ⟨x, rest, he⟩ := words_ext (bs.take k) (bs.drop k)
  rw [← split_at'] at he
  exact not_word (w := (wordsSt (bs.take k)).2 ++ x) (by rw [he]; simp) (h x)

theorem Mach.other {bs : List Int} {p k a r : Nat} {m : List Int} {b : Int} (hb : Hid (bs[k]? = some b)) (h32 : b ≠ 32) (hd : digB b = false) (_h : Mach bs p k a r m) : readOk (p : Int) bs = false := by
  refine bad_word (k := k + 1) fun x => .inl ?_
  rw [take_next hb, wordsSt_snoc, show stepW (wordsSt (bs.take k)) b = ((wordsSt (bs.take k)).1, (wordsSt (bs.take k)).2 ++ [b]) from by simp [stepW, h32]]
  rw [readW_other (b := b) (by simp) hd]; decide

theorem Mach.twoNoughts {bs : List Int} {p k a : Nat} {m : List Int} {b : Int} (hb : Hid (bs[k]? = some b)) (h32 : b ≠ 32) (h : Mach bs p k a 1 m) : readOk (p : Int) bs = false := by
  refine bad_word (k := k + 1) fun x => .inl ?_
  rw [take_next hb, wordsSt_snoc, show stepW (wordsSt (bs.take k)) b = ((wordsSt (bs.take k)).1, (wordsSt (bs.take k)).2 ++ [b]) from by simp [stepW, h32]]
  rcases h.canon with ⟨h0, _⟩ | ⟨_, hc⟩ | ⟨h0, _⟩
  · omega
  · show readW (_ ++ [b] ++ x) < 0
    rw [hc]; show readW (48 :: b :: x) < 0; rw [readW_nought]; decide
  · omega

theorem Mach.blankAhead {bs : List Int} {p k a : Nat} {m : List Int} (hb : Hid (bs[k]? = some 32)) (h : Mach bs p k a 0 m) : readOk (p : Int) bs = false := by
  obtain ⟨x, rest, he⟩ := words_ext (bs.take (k + 1)) (bs.drop (k + 1))
  rw [← split_at'] at he
  have hc : (wordsSt (bs.take k)).2 = [] := by
    rcases h.canon with ⟨_, hc⟩ | ⟨h0, _⟩ | ⟨h0, _⟩
    · exact hc
    · omega
    · omega
  refine not_word (w := []) ?_ (.inl (by rw [readW_nil]; decide))
  rw [he, take_next hb, wordsSt_snoc, show stepW (wordsSt (bs.take k)) 32 = ((wordsSt (bs.take k)).1 ++ [(wordsSt (bs.take k)).2], []) from by simp [stepW], hc]
  simp

theorem Mach.tooMany {bs : List Int} {p k a r : Nat} {m : List Int} (hb : Hid (bs[k]? = some 32)) (h : Mach bs p k a r m) (ha : a + 1 = p) : readOk (p : Int) bs = false := by
  obtain ⟨x, rest, he⟩ := words_ext (bs.take (k + 1)) (bs.drop (k + 1))
  rw [← split_at'] at he
  refine not_len ?_
  rw [he, take_next hb, wordsSt_snoc, show stepW (wordsSt (bs.take k)) 32 = ((wordsSt (bs.take k)).1 ++ [(wordsSt (bs.take k)).2], []) from by simp [stepW]]
  have := h.at_
  simp
  omega

theorem Mach.tooBig {bs : List Int} {p k a r : Nat} {m : List Int} {b : Int} (hb : Hid (bs[k]? = some b)) (hd : 48 ≤ b ∧ b ≤ 57) (_h : Mach bs p k a r m) (hv : 50 < 10 * valOf (wordsSt (bs.take k)).2 + (b - 48)) : readOk (p : Int) bs = false := by
  refine bad_word (k := k + 1) fun x => ?_
  rw [take_next hb, wordsSt_snoc, show stepW (wordsSt (bs.take k)) b = ((wordsSt (bs.take k)).1, (wordsSt (bs.take k)).2 ++ [b]) from by simp [stepW]; omega]
  rcases readW_big (c := (wordsSt (bs.take k)).2 ++ [b]) (x := x) (by rw [valOf_snoc]; exact hv) with e | e
  · left; show readW (_ ++ [b] ++ x) < 0; rw [e]; decide
  · right; exact e

theorem Mach.cell {bs : List Int} {p k a r : Nat} {m : List Int} (h : Mach bs p k a r m) : m.getD a 0 = valOf (wordsSt (bs.take k)).2 := by
  rw [h.nums a h.lt]
  have := h.at_
  simp [List.getD_eq_getElem?_getD, this]

theorem Mach.blank {bs : List Int} {p k a r : Nat} {m : List Int} (hb : Hid (bs[k]? = some 32)) (h : Mach bs p k a r m) (h0 : r ≠ 0) (ha : a + 1 < p) : Mach bs p (k + 1) (a + 1) 0 m := by
  have hr := h.canon.read h0
  have e : wordsSt (bs.take (k + 1)) = ((wordsSt (bs.take k)).1 ++ [(wordsSt (bs.take k)).2], []) := by rw [take_next hb, wordsSt_snoc]; simp [stepW]
  have hat := h.at_
  refine ⟨by rw [e]; simp [hat], ha, by rw [e]; exact .inl ⟨rfl, rfl⟩, ?_, h.len, fun j hj => ?_⟩
  · rw [e]; intro d hd
    rcases List.mem_append.mp hd with hd | hd
    · exact h.done d hd
    · simp at hd; subst hd; rw [hr.1]; exact hr.2
  · rw [h.nums j hj, e]
    simp only [List.map_append, List.map_cons, List.map_nil, hr.1]
    rw [show valOf [] = 0 from rfl]
    generalize List.map readW (wordsSt (bs.take k)).1 ++ [valOf (wordsSt (bs.take k)).2] = L
    simp only [List.getD_eq_getElem?_getD, List.getElem?_append]
    split
    · rfl
    · rename_i hge
      rw [List.getElem?_eq_none (by omega)]
      cases hq : j - L.length <;> simp

theorem Mach.digit {bs : List Int} {p k a r r' : Nat} {m m' : List Int} {b : Int} (hb : Hid (bs[k]? = some b)) (hd : 48 ≤ b ∧ b ≤ 57) (h : Mach bs p k a r m) (hc : Canon r' ((wordsSt (bs.take k)).2 ++ [b]))
    (hm : m'.length = p) (ha : m'.getD a 0 = 10 * valOf (wordsSt (bs.take k)).2 + (b - 48)) (ho : ∀ j, j ≠ a → m'.getD j 0 = m.getD j 0) : Mach bs p (k + 1) a r' m' := by
  have e : wordsSt (bs.take (k + 1)) = ((wordsSt (bs.take k)).1, (wordsSt (bs.take k)).2 ++ [b]) := by rw [take_next hb, wordsSt_snoc]; simp [stepW]; omega
  have hat := h.at_
  refine ⟨by rw [e]; exact hat, h.lt, by rw [e]; exact hc, by rw [e]; exact h.done, hm, fun j hj => ?_⟩
  rw [e]
  by_cases hja : j = a
  · subst hja
    rw [ha]
    simp [List.getD_eq_getElem?_getD, hat, valOf_snoc]
  · rw [ho j hja, h.nums j hj]
    simp only [List.getD_eq_getElem?_getD, List.getElem?_append, List.length_map, hat]
    split
    · rfl
    · rename_i hge
      have : 0 < j - a := by omega
      rw [List.getElem?_eq_none (by simp; omega), List.getElem?_eq_none (by simp; omega)]

theorem Mach.endAhead {bs : List Int} {p a : Nat} {m : List Int} (h : Mach bs p bs.length a 0 m) : readOk (p : Int) bs = false := by
  have hc := h.canon
  rw [List.take_length] at hc
  have e : (wordsSt bs).2 = [] := by
    rcases hc with ⟨_, hc⟩ | ⟨h0, _⟩ | ⟨h0, _⟩
    · exact hc
    · omega
    · omega
  refine not_word (w := []) ?_ (.inl (by rw [readW_nil]; decide))
  unfold words; rw [e]; simp

theorem Mach.short {bs : List Int} {p a r : Nat} {m : List Int} (h : Mach bs p bs.length a r m) (ha : a + 1 ≠ p) : readOk (p : Int) bs = false := by
  have hat := h.at_
  rw [List.take_length] at hat
  refine not_len ?_
  unfold words; simp [hat]; omega

theorem Mach.good {bs : List Int} {p a r : Nat} {m : List Int} (h : Mach bs p bs.length a r m) (h0 : r ≠ 0) (ha : a + 1 = p) (hp : inB (p : Int) 1 16 = true) (hl : bs.length ≤ 100) : readOk (p : Int) bs = true ∧ m = (words bs).map readW := by
  have hat := h.at_
  have hcan := h.canon
  have hdone := h.done
  have hnums := h.nums
  rw [List.take_length] at hat hcan hdone hnums
  have hr := hcan.read h0
  have hw : (words bs).map readW = (wordsSt bs).1.map readW ++ [valOf (wordsSt bs).2] := by
    unfold words; rw [List.map_append, List.map_cons, List.map_nil, hr.1]
  have hlen : ((words bs).map readW).length = p := by rw [hw]; simp [hat, ha]
  constructor
  · unfold readOk goodB
    rw [hp, hlen]
    have : allB ((words bs).map readW) 0 50 = true := by
      unfold allB; rw [hw, List.all_append, Bool.and_eq_true]
      constructor
      · rw [List.all_eq_true]; intro x hx
        obtain ⟨d, hd, rfl⟩ := List.mem_map.mp hx
        have := hdone d hd
        simp [inB]; omega
      · simp [inB]; omega
    rw [this]; simp [hl]
  · apply List.ext_getElem
    · rw [h.len, hlen]
    · intro j h1 h2
      have := hnums j (by rw [h.len] at h1; exact h1)
      rw [← hw] at this
      simpa [List.getD_eq_getElem?_getD, List.getElem?_eq_getElem h1, List.getElem?_eq_getElem h2] using this
end Go.Proofs.YtkpmpnbeedapgaaDoor
