/- Writing a mark and reading its text undo each other: plain mathematics. -/
import Derived.Test.YtkpmpnbeedapgaaDoorRs1
import Derived.Test.YtkpmpnbeedapgaaDoorMi
namespace Go.Proofs.YtkpmpnbeedapgaaDoor
open Go.RowKit Go.Lib

theorem bytesOf_app (a b : ByteArray) : bytesOf (a ++ b) = bytesOf a ++ bytesOf b := by simp [bytesOf]

theorem bytesOf_inj {a b : ByteArray} (h : bytesOf a = bytesOf b) : a = b := by
  unfold bytesOf at h
  have h2 : a.data.toList = b.data.toList := (List.map_inj_right (fun x y hxy => by
    have : x.toNat = y.toNat := by exact_mod_cast hxy
    exact UInt8.toNat_inj.mp this)).mp h
  have h3 : a.data = b.data := Array.toList_inj.mp h2
  cases a; cases b; simp_all

def nb (m : Nat) : List Int := bytesOf (numB m)

theorem nb_lo {m : Nat} (h : m < 10) : nb m = [48 + (m : Int)] := by
  unfold nb numB; rw [if_pos h]
  show [((dB m).toNat : Int)] = _
  rw [dB_nat h]; simp

theorem nb_hi {m : Nat} (h : 10 ≤ m) (h2 : m < 100) : nb m = [48 + ((m / 10 : Nat) : Int), 48 + ((m % 10 : Nat) : Int)] := by
  unfold nb numB; rw [if_neg (by omega)]
  show [((dB (m / 10)).toNat : Int), ((dB (m % 10)).toNat : Int)] = _
  rw [dB_nat (by omega), dB_nat (by omega)]; simp

theorem nb_read {m : Nat} (h : m ≤ 50) : readW (nb m) = (m : Int) := by
  by_cases h1 : m < 10
  · rw [nb_lo h1]
    unfold readW shortB valOf digB
    simp
    split <;> omega
  · rw [nb_hi (by omega) (by omega)]
    unfold readW shortB valOf digB
    simp
    split <;> omega

theorem nb_noBlank {m : Nat} (h : m < 100) : ∀ b ∈ nb m, b ≠ 32 := by
  intro b hb
  by_cases h1 : m < 10
  · rw [nb_lo h1] at hb; simp at hb; omega
  · rw [nb_hi (by omega) h] at hb; simp at hb; omega

theorem wordsSt_word (pre w : List Int) (h : ∀ b ∈ w, b ≠ 32) : wordsSt (pre ++ w) = ((wordsSt pre).1, (wordsSt pre).2 ++ w) := by
  induction w generalizing pre with
  | nil => simp
  | cons b w ih =>
    have e : pre ++ b :: w = (pre ++ [b]) ++ w := by simp
    rw [e, ih (pre ++ [b]) (fun x hx => h x (by simp [hx])), wordsSt_snoc]
    have hb := h b (by simp)
    simp [stepW, hb]

theorem bytes_head (f : Nat → Nat) (k : Nat) : bytesOf (headU f k) = if k = 0 then [] else bytesOf (textU f k) ++ [32] := by
  unfold headU
  split
  · rfl
  · rw [bytesOf_app]; rfl

theorem words_text (f : Nat → Nat) (hf : ∀ i, f i ≤ 50) (k : Nat) : wordsSt (bytesOf (textU f (k + 1))) = ((List.range k).map (fun i => nb (f i)), nb (f k)) := by
  induction k with
  | zero =>
    rw [textU_succ, bytesOf_app, bytes_head, if_pos rfl, List.nil_append]
    show wordsSt (nb (f 0)) = _
    have := wordsSt_word [] (nb (f 0)) (nb_noBlank (by have := hf 0; omega))
    simpa [wordsSt] using this
  | succ k ih =>
    rw [textU_succ, bytesOf_app, bytes_head, if_neg (by omega)]
    show wordsSt (_ ++ [32] ++ nb (f (k + 1))) = _
    rw [wordsSt_word _ _ (nb_noBlank (by have := hf (k + 1); omega)), wordsSt_snoc, ih]
    simp [stepW, List.range_succ]

theorem text_len (f : Nat → Nat) (k : Nat) (hk : k ≤ 16) : (bytesOf (textU f k)).length ≤ 100 := by
  rw [bytesOf_len]; have := textU_size f k; omega

/-- What is written is read back. -/
theorem read_text {p : Int} {xs : List Int} (h : goodB p xs = true) : readOk p (bytesOf (txtB p xs)) = true ∧ readR p (bytesOf (txtB p xs)) = xs := by
  have hp := good_small h
  have e1 : txtB p xs = textU (natF xs) xs.length := by unfold txtB; rw [h]; rfl
  obtain ⟨k, hk⟩ : ∃ k, xs.length = k + 1 := ⟨xs.length - 1, by omega⟩
  have hf : ∀ i, natF xs i ≤ 50 := fun i => by unfold natF; have := hp.1 i; omega
  have hw := words_text (natF xs) hf k
  have hnums : (words (bytesOf (txtB p xs))).map readW = xs := by
    rw [e1, hk]
    unfold words
    rw [hw]
    have : (List.range k).map (fun i => nb (natF xs i)) ++ [nb (natF xs k)] = (List.range (k + 1)).map (fun i => nb (natF xs i)) := by simp [List.range_succ]
    rw [this, List.map_map]
    apply List.ext_getElem
    · simp [hk]
    · intro i h1 h2
      simp only [List.getElem_map, List.getElem_range, Function.comp]
      rw [nb_read (hf i)]
      unfold natF
      have := hp.1 i
      rw [List.getD_eq_getElem?_getD, List.getElem?_eq_getElem h2] at this ⊢
      simp at this ⊢; omega
  have hl : (bytesOf (txtB p xs)).length ≤ 100 := by rw [e1]; exact text_len _ _ (by omega)
  have hok : readOk p (bytesOf (txtB p xs)) = true := by unfold readOk; rw [hnums, h]; simp [hl]
  exact ⟨hok, by unfold readR; rw [hok, hnums]; rfl⟩

def flat (D : List (List Int)) : List Int := D.flatMap fun w => w ++ [32]

theorem flat_words (bs : List Int) : flat (wordsSt bs).1 ++ (wordsSt bs).2 = bs := by
  suffices ∀ (post : List Int) (D : List (List Int)) (c : List Int), flat (post.foldl stepW (D, c)).1 ++ (post.foldl stepW (D, c)).2 = flat D ++ c ++ post by
    have := this bs [] []; simpa [wordsSt, flat] using this
  intro post
  induction post with
  | nil => intro D c; simp
  | cons b post ih =>
    intro D c
    rw [List.foldl_cons]
    by_cases hb : b = 32
    · rw [show stepW (D, c) b = (D ++ [c], []) from by simp [stepW, hb], ih]
      simp [flat, hb]
    · rw [show stepW (D, c) b = (D, c ++ [b]) from by simp [stepW, hb], ih]
      simp

theorem canon_word {w : List Int} (h0 : 0 ≤ readW w) (h50 : readW w ≤ 50) : w = nb (readW w).toNat := by
  have hs : shortB w = true ∧ w.all digB = true := by
    unfold readW at h0
    split at h0
    · rename_i h; rw [Bool.and_eq_true] at h; exact h
    · omega
  have hr : readW w = valOf w := readW_yes hs.1 hs.2
  rw [hr] at h0 h50 ⊢
  have hs1 := hs.1
  have hd := hs.2
  unfold shortB at hs1
  match w, hs1, hd, h0, h50 with
  | [], hs1, _, _, _ => simp at hs1
  | [a], _, hd, h0, h50 =>
    simp [digB] at hd
    have e : valOf [a] = a - 48 := by simp [valOf]
    rw [e] at h50 ⊢
    rw [nb_lo (by omega)]
    simp; omega
  | [a, b], hs1, hd, h0, h50 =>
    simp [digB] at hd hs1
    have e : valOf [a, b] = 10 * (a - 48) + (b - 48) := by simp [valOf]
    rw [e] at h50 ⊢
    rw [nb_hi (by omega) (by omega)]
    simp; omega
  | a :: b :: c :: r, hs1, hd, h0, h50 =>
    exfalso
    simp [digB] at hd hs1
    have hr := fold_ge r (10 * (10 * (a - 48) + (b - 48)) + (c - 48)) (by omega) (by rw [List.all_eq_true]; intro x hx; have := hd.2.2.2 x hx; simp [digB]; omega)
    have e : valOf (a :: b :: c :: r) = r.foldl (fun n b => 10 * n + (b - 48)) (10 * (10 * (a - 48) + (b - 48)) + (c - 48)) := by simp [valOf]
    omega

theorem flat_text (f : Nat → Nat) (k : Nat) : bytesOf (textU f (k + 1)) = flat ((List.range k).map fun i => nb (f i)) ++ nb (f k) := by
  induction k with
  | zero => rw [textU_succ, bytesOf_app, bytes_head, if_pos rfl]; rfl
  | succ k ih =>
    rw [textU_succ, bytesOf_app, bytes_head, if_neg (by omega), ih]
    simp [flat, List.range_succ, nb]

/-- What is read is written back. -/
theorem text_read {p : Int} {t : ByteArray} (h : readOk p (bytesOf t) = true) : txtB p (readR p (bytesOf t)) = t ∧ goodB p (readR p (bytesOf t)) = true := by
  have hr : readR p (bytesOf t) = (words (bytesOf t)).map readW := by unfold readR; rw [h]; rfl
  have hg : goodB p (readR p (bytesOf t)) = true := by
    rw [hr]; unfold readOk at h; rw [Bool.and_eq_true] at h; exact h.2
  refine ⟨?_, hg⟩
  have hsm := good_small hg
  apply bytesOf_inj
  have e1 : txtB p (readR p (bytesOf t)) = textU (natF (readR p (bytesOf t))) (readR p (bytesOf t)).length := by unfold txtB; rw [hg]; rfl
  have hword : ∀ i (hi : i < (words (bytesOf t)).length), nb (natF (readR p (bytesOf t)) i) = (words (bytesOf t))[i] := by
    intro i hi
    have hb := hsm.1 i
    have e2 : (readR p (bytesOf t)).getD i 0 = readW (words (bytesOf t))[i] := by rw [hr, List.getD_eq_getElem?_getD, List.getElem?_map, List.getElem?_eq_getElem hi]; rfl
    rw [e2] at hb
    unfold natF; rw [e2]
    exact (canon_word hb.1 hb.2).symm
  have hlen : (readR p (bytesOf t)).length = (wordsSt (bytesOf t)).1.length + 1 := by rw [hr]; simp [words]
  rw [e1, hlen, flat_text]
  have hD : (List.range (wordsSt (bytesOf t)).1.length).map (fun i => nb (natF (readR p (bytesOf t)) i)) = (wordsSt (bytesOf t)).1 := by
    apply List.ext_getElem
    · simp
    · intro i h1 h2
      simp only [List.getElem_map, List.getElem_range]
      rw [hword i (by simp [words]; omega)]
      simp [words, List.getElem_append_left h2]
  have hc : nb (natF (readR p (bytesOf t)) (wordsSt (bytesOf t)).1.length) = (wordsSt (bytesOf t)).2 := by
    rw [hword _ (by simp [words])]
    simp [words]
  rw [hD, hc, flat_words]
end Go.Proofs.YtkpmpnbeedapgaaDoor
