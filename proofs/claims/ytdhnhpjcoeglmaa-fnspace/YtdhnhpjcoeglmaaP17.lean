/- Contracts that the proof stands on, one behind the other. -/
import Derived.Test.YtdhnhpjcoeglmaaP16
import Derived.Deep.MidRow
/- The way that is told fires from the start to the mark; where a mark is home it can be come to. Mathematics alone. -/
namespace Go.Proofs.Ytdhnhpjcoeglmaa
open Go.RowKit

theorem getD_idxOfV {ms : List (List Int)} {x : List Int} (h : x ∈ ms) : ms.getD (ms.idxOf x) [] = x := by
  have hl := List.idxOf_lt_length_of_mem h
  rw [List.getD_eq_getElem?_getD, List.getElem?_eq_getElem hl]
  exact List.getElem_idxOf hl

theorem oneS_goes {p : Int} {B : Nat} {L : List (List Int)} {s s' : Sea} {m : List Int} {k t : Nat} (he : oneS p L B m k t s = .ok s') : ∃ j, s'.ar = s.ar ++ [(k, t, j)] ∧ s.ms <+: s'.ms ∧ j < s'.ms.length ∧ s'.ms.getD j [] = fireT L m t := by
  unfold oneS at he
  by_cases h1 : goodB p (fireT L m t) = true
  · rw [if_pos h1] at he
    unfold meetS at he
    by_cases h2 : fireT L m t ∈ s.ms
    · rw [if_pos h2] at he; cases he; exact ⟨_, rfl, List.prefix_refl _, List.idxOf_lt_length_of_mem h2, getD_idxOfV h2⟩
    · rw [if_neg h2] at he
      by_cases h3 : s.ms.length = B
      · rw [if_pos h3] at he; cases he
      · rw [if_neg h3] at he; cases he; exact ⟨_, rfl, List.prefix_append _ _, by simp, by simp⟩
  · rw [if_neg h1] at he; cases he

theorem rowS_goes {p : Int} {B : Nat} {L : List (List Int)} {m : List Int} {k : Nat} : ∀ {ts : List Nat} {s s' : Sea}, rowS p L B m k ts s = .ok s' →
    s.ms <+: s'.ms ∧ ∀ a ∈ s'.ar, a ∈ s.ar ∨ (a.1 = k ∧ a.2.2 < s'.ms.length ∧ s'.ms.getD a.2.2 [] = fireT L m a.2.1)
  | [], s, s', he => by
    unfold rowS at he; cases he
    exact ⟨List.prefix_refl _, fun a ha => .inl ha⟩
  | t :: r, s, s', he => by
    unfold rowS at he
    by_cases hc : canT L m t = true
    · rw [if_pos hc] at he
      cases h1 : oneS p L B m k t s with
      | error c => rw [h1] at he; cases he
      | ok s1 =>
        rw [h1] at he
        obtain ⟨j, e1, e2, e3, e4⟩ := oneS_goes h1
        obtain ⟨b1, b2⟩ := rowS_goes he
        refine ⟨e2.trans b1, fun a ha => ?_⟩
        rcases b2 a ha with h | h
        · rw [e1] at h
          rcases List.mem_append.mp h with h | h
          · exact .inl h
          · simp at h; subst h
            exact .inr ⟨rfl, Nat.lt_of_lt_of_le e3 b1.length_le, by rw [prefix_getD b1 e3]; exact e4⟩
        · exact .inr h
    · rw [if_neg hc] at he
      exact rowS_goes he

theorem seaS_goes {p : Int} {n B : Nat} {L : List (List Int)} : ∀ {f k : Nat} {s s' : Sea}, SeaOk p n B s → (∀ a ∈ s.ar, s.ms.getD a.2.2 [] = fireT L (s.ms.getD a.1 []) a.2.1) → seaS p n L B f k s = .ok s' → ∀ a ∈ s'.ar, s'.ms.getD a.2.2 [] = fireT L (s'.ms.getD a.1 []) a.2.1
  | 0, k, s, s', h, ha, he => by unfold seaS at he; cases he; exact ha
  | f + 1, k, s, s', h, ha, he => by
    unfold seaS at he
    by_cases hk : k < s.ms.length
    · rw [if_pos hk] at he
      cases h1 : rowS p L B (s.ms.getD k []) k (List.range n) s with
      | error c => rw [h1] at he; cases he
      | ok s1 =>
        rw [h1] at he
        obtain ⟨a1, _, a3⟩ := rowS_ok h hk (fun t ht => by simpa using ht) h1
        obtain ⟨b1, b2⟩ := rowS_goes h1
        refine seaS_goes a1 (fun a haa => ?_) he
        rcases b2 a haa with h2 | ⟨h2, h3, h4⟩
        · rw [prefix_getD b1 (h.arc a h2).1, prefix_getD b1 (h.arc a h2).2.2]; exact ha a h2
        · rw [h4, h2, prefix_getD b1 hk]
    · rw [if_neg hk] at he; cases he; exact ha

/-- A space that is told whole, and its tree. -/
structure SpTree (p : Int) (n : Nat) (L : List (List Int)) (ys : List Int) (bg : Int) : Prop where
  told : SpTold p n L ys bg
  goes : ∀ a ∈ (spSea p n L ys bg).ar, (spSea p n L ys bg).ms.getD a.2.2 [] = fireT L ((spSea p n L ys bg).ms.getD a.1 []) a.2.1
  tree : TreeOk (spSea p n L ys bg).ms.length (spSea p n L ys bg).ar
  net : netOk p n L = true

theorem tree_of {p : Int} {n : Nat} {L : List (List Int)} {ys : List Int} {bg : Int} (h : spCode p n L ys bg = 1) : SpTree p n L ys bg := by
  have T := told_of h
  have hT := T.ok.pos
  have ha : askB p n L ys bg = true := by
    cases hh : askB p n L ys bg with
    | true => rfl
    | false => unfold spCode at h; rw [hh] at h; simp at h
  unfold askB at ha
  simp only [Bool.and_eq_true] at ha
  obtain ⟨⟨g1, g2⟩, g3⟩ := ha
  have hB : 1 ≤ bg.toNat := by simp [inB] at g3; omega
  cases hs : searchS p n L bg.toNat ys with
  | error c =>
    exfalso
    unfold spSea at hT; rw [hs] at hT; simp [endS] at hT
  | ok s =>
    have es : spSea p n L ys bg = s := by unfold spSea; rw [hs]; rfl
    refine ⟨T, ?_, ?_, g1⟩
    · rw [es]
      unfold searchS at hs
      exact seaS_goes (SeaOk.start (n := n) hB g2) (fun a haa => by simp [sea0] at haa) hs
    · rw [es]; exact searchS_tree hs

theorem run_snoc {p : Int} {n : Nat} {L : List (List Int)} {t : Int} : ∀ {ts : List Int} {ys : List Int}, runN p n L ys ts = ts.length → fireOk p n L (runL p n L ys ts) t = true → runN p n L ys (ts ++ [t]) = (ts ++ [t]).length ∧ runL p n L ys (ts ++ [t]) = firedL L (runL p n L ys ts) t
  | [], ys, _, h2 => by
    simp only [runL] at h2
    simp [runN, runL, h2]
  | u :: ts, ys, h1, h2 => by
    by_cases hf : fireOk p n L ys u = true
    · simp only [runN, if_pos hf, List.length_cons] at h1
      simp only [runL, if_pos hf] at h2
      obtain ⟨a, b⟩ := run_snoc (ts := ts) (ys := firedL L ys u) (by omega) h2
      simp only [List.cons_append, runN, runL, if_pos hf, List.length_cons]
      exact ⟨by rw [a], b⟩
    · simp only [runN, if_neg hf, List.length_cons] at h1
      omega

theorem way_runs {p : Int} {n : Nat} {L : List (List Int)} {ys : List Int} {bg : Int} (h : SpTree p n L ys bg) : ∀ (j : Nat), j < (spSea p n L ys bg).ms.length →
    runN p n L ys ((wayL (spSea p n L ys bg).ar j).map fun (t : Nat) => (t : Int)) = (wayL (spSea p n L ys bg).ar j).length ∧ runL p n L ys ((wayL (spSea p n L ys bg).ar j).map fun (t : Nat) => (t : Int)) = (spSea p n L ys bg).ms.getD j [] ∧ ∀ t ∈ wayL (spSea p n L ys bg).ar j, t < n := by
  intro j
  induction j using Nat.strongRecOn with
  | _ j ih =>
    intro hj
    by_cases h0 : j = 0
    · subst h0
      rw [wayL_zero]
      exact ⟨rfl, h.told.first.symm, fun t ht => by simp at ht⟩
    · obtain ⟨hl, he, h1, h2⟩ := h.tree.fi (Nat.pos_of_ne_zero h0) hj
      obtain ⟨r1, r2, r3⟩ := ih _ h1 h2
      have hm : mbA (spSea p n L ys bg).ar j ∈ (spSea p n L ys bg).ar := by
        unfold mbA
        rw [List.getD_eq_getElem?_getD, List.getElem?_eq_getElem hl]
        exact List.getElem_mem hl
      have hgo := h.goes _ hm
      rw [he] at hgo
      have hcan := h.told.arcs.snd _ hm
      have hby := (h.told.ok.arc _ hm).2.1
      have hg1 := h.told.ok.goodAt h2
      have hg2 := h.told.ok.goodAt hj
      rw [h.tree.way_up (Nat.pos_of_ne_zero h0) hj]
      have hf : fireOk p n L (runL p n L ys ((wayL (spSea p n L ys bg).ar (parA (spSea p n L ys bg).ar j)).map fun (t : Nat) => (t : Int))) ((byA (spSea p n L ys bg).ar j : Nat) : Int) = true := by
        rw [r2]
        unfold fireOk
        rw [h.net, hg1]
        have e1 : inB ((byA (spSea p n L ys bg).ar j : Nat) : Int) 0 ((n : Int) - 1) = true := by
          have : byA (spSea p n L ys bg).ar j < n := hby
          simp [inB]; omega
        have e2 : canB (inOf L ((byA (spSea p n L ys bg).ar j : Nat) : Int)) ((spSea p n L ys bg).ms.getD (parA (spSea p n L ys bg).ar j) []) = true := hcan
        have e3 : goodB p (firedL L ((spSea p n L ys bg).ms.getD (parA (spSea p n L ys bg).ar j) []) ((byA (spSea p n L ys bg).ar j : Nat) : Int)) = true := by
          have : (spSea p n L ys bg).ms.getD j [] = firedL L ((spSea p n L ys bg).ms.getD (parA (spSea p n L ys bg).ar j) []) ((byA (spSea p n L ys bg).ar j : Nat) : Int) := hgo
          rw [← this]; exact hg2
        rw [e1, e2, e3]; rfl
      obtain ⟨s1, s2⟩ := run_snoc (by rw [List.length_map]; exact r1) hf
      rw [List.map_append]
      refine ⟨by rw [show List.map (fun (t : Nat) => (t : Int)) [byA (spSea p n L ys bg).ar j] = [((byA (spSea p n L ys bg).ar j : Nat) : Int)] from rfl, s1]; simp, ?_, fun t ht => ?_⟩
      · rw [show List.map (fun (t : Nat) => (t : Int)) [byA (spSea p n L ys bg).ar j] = [((byA (spSea p n L ys bg).ar j : Nat) : Int)] from rfl, s2, r2]
        exact hgo.symm
      · rcases List.mem_append.mp ht with h | h
        · exact r3 t h
        · simp at h; subst h; exact hby

/-- The way that is told fires whole, and ends in the mark. -/
theorem way_fires {p : Int} {n : Nat} {L : List (List Int)} {ys xs : List Int} {bg : Int} (h : wtOk p n L ys bg xs = true) : allOk p n L ys (wtR p n L ys bg xs) = true ∧ faR p n L ys (wtR p n L ys bg xs) = xs ∧ faN p n L ys (wtR p n L ys bg xs) = (wtR p n L ys bg xs).length := by
  have hlen := wtR_len p n L ys bg xs
  have h' := h
  unfold wtOk at h'
  simp only [Bool.and_eq_true, decide_eq_true_eq] at h'
  obtain ⟨⟨hc, hx⟩, hl⟩ := h'
  have T := tree_of hc
  obtain ⟨r1, r2, r3⟩ := way_runs T _ (List.idxOf_lt_length_of_mem hx)
  have eR : wtR p n L ys bg xs = (wayL (spSea p n L ys bg).ar ((spSea p n L ys bg).ms.idxOf xs)).map fun (t : Nat) => (t : Int) := by unfold wtR; rw [if_pos h]; rfl
  have hall : allOk p n L ys (wtR p n L ys bg xs) = true := by
    unfold allOk
    rw [T.net, T.told.good, decide_eq_true hlen]
    rw [eR]
    simp only [Bool.true_and, allB, List.all_eq_true, List.mem_map]
    rintro x ⟨t, ht, rfl⟩
    have := r3 t ht
    simp [inB]; omega
  refine ⟨hall, ?_, ?_⟩
  · unfold faR; rw [if_pos hall, eR, r2]; exact getD_idxOfV hx
  · unfold faN; rw [if_pos hall, eR, r1, List.length_map]

theorem canTo_some {ar : Arcs} {P : Nat → Prop} {i : Nat} (h : CanTo ar P i) : ∃ x, P x := by
  induction h with
  | at_ hx => exact ⟨_, hx⟩
  | _ _ _ ih => exact ih

/-- Where one can always come to a mark one can come to it. -/
theorem home_can {p : Int} {n : Nat} {L : List (List Int)} {ys xs : List Int} {bg : Int} (h : ihR p n L ys bg xs = true) : saOk p n L ys bg xs = true ∧ caR p n L ys bg xs = true := by
  unfold ihR at h
  simp only [Bool.and_eq_true, decide_eq_true_eq] at h
  obtain ⟨h1, h2⟩ := h
  obtain ⟨hc, _⟩ := saOk_parts h1
  have T := told_of hc
  obtain ⟨x, hx1, hx2⟩ := canTo_some (h2 0 T.ok.pos)
  refine ⟨h1, ?_⟩
  unfold caR
  rw [h1, ← hx2]
  simp only [Bool.true_and, decide_eq_true_eq]
  rw [List.getD_eq_getElem?_getD, List.getElem?_eq_getElem hx1]
  exact List.getElem_mem hx1
end Go.Proofs.Ytdhnhpjcoeglmaa


/- Of a space that is told whole: each arc fires from mark to mark; what is enabled in a mark fires to a mark. Mathematics alone. -/
namespace Go.Proofs.Ytdhnhpjcoeglmaa
open Go.RowKit

theorem rowS_outs {p : Int} {B : Nat} {L : List (List Int)} {m : List Int} {k : Nat} : ∀ {ts : List Nat} {s s' : Sea}, rowS p L B m k ts s = .ok s' → (∀ a ∈ s.ar, a ∈ s'.ar) ∧ ∀ t ∈ ts, canT L m t = true → ∃ j, (k, t, j) ∈ s'.ar
  | [], s, s', he => by
    unfold rowS at he; cases he
    exact ⟨fun a ha => ha, fun t ht => by simp at ht⟩
  | t :: r, s, s', he => by
    unfold rowS at he
    by_cases hc : canT L m t = true
    · rw [if_pos hc] at he
      cases h1 : oneS p L B m k t s with
      | error c => rw [h1] at he; cases he
      | ok s1 =>
        rw [h1] at he
        obtain ⟨j, e1, e2⟩ := oneS_arc h1
        obtain ⟨b1, b2⟩ := rowS_outs he
        refine ⟨fun a ha => b1 a (by rw [e1]; simp [ha]), fun x hx hcx => ?_⟩
        rcases List.mem_cons.mp hx with rfl | hx
        · exact ⟨j, b1 _ (by rw [e1]; simp)⟩
        · exact b2 x hx hcx
    · rw [if_neg hc] at he
      obtain ⟨b1, b2⟩ := rowS_outs he
      refine ⟨b1, fun x hx hcx => ?_⟩
      rcases List.mem_cons.mp hx with rfl | hx
      · exact absurd hcx hc
      · exact b2 x hx hcx

theorem seaS_outs {p : Int} {n B : Nat} {L : List (List Int)} : ∀ {f k : Nat} {s s' : Sea}, SeaOk p n B s → f + k = B → k ≤ s.ms.length → (∀ i, i < k → ∀ t, t < n → canT L (s.ms.getD i []) t = true → ∃ j, (i, t, j) ∈ s.ar) → seaS p n L B f k s = .ok s' →
    ∀ i, i < s'.ms.length → ∀ t, t < n → canT L (s'.ms.getD i []) t = true → ∃ j, (i, t, j) ∈ s'.ar
  | 0, k, s, s', h, hf, hk, ha, he => by
    unfold seaS at he; cases he
    have := h.le
    exact fun i hi => ha i (by omega)
  | f + 1, k, s, s', h, hf, hkl, ha, he => by
    unfold seaS at he
    by_cases hk : k < s.ms.length
    · rw [if_pos hk] at he
      cases h1 : rowS p L B (s.ms.getD k []) k (List.range n) s with
      | error c => rw [h1] at he; cases he
      | ok s1 =>
        rw [h1] at he
        obtain ⟨a1, _, a3⟩ := rowS_ok h hk (fun t ht => by simpa using ht) h1
        obtain ⟨b1, _⟩ := rowS_arc h1
        obtain ⟨c1, c2⟩ := rowS_outs h1
        refine seaS_outs a1 (by omega) (Nat.lt_of_lt_of_le hk a3.length_le) (fun i hi t ht hc => ?_) he
        by_cases hik : i < k
        · rw [prefix_getD b1 (by omega)] at hc
          obtain ⟨j, hj⟩ := ha i hik t ht hc
          exact ⟨j, c1 _ hj⟩
        · have hik2 : i = k := by omega
          subst hik2
          rw [prefix_getD b1 hk] at hc
          exact c2 t (by simpa using ht) hc
    · rw [if_neg hk] at he; cases he
      exact fun i hi => ha i (by omega)

theorem outs_of {p : Int} {n : Nat} {L : List (List Int)} {ys : List Int} {bg : Int} (h : spCode p n L ys bg = 1) : ∀ i, i < (spSea p n L ys bg).ms.length → ∀ t, t < n → canT L ((spSea p n L ys bg).ms.getD i []) t = true → ∃ j, (i, t, j) ∈ (spSea p n L ys bg).ar := by
  have hT := (told_of h).ok.pos
  have ha : askB p n L ys bg = true := by
    cases hh : askB p n L ys bg with
    | true => rfl
    | false => unfold spCode at h; rw [hh] at h; simp at h
  unfold askB at ha
  simp only [Bool.and_eq_true] at ha
  obtain ⟨⟨g1, g2⟩, g3⟩ := ha
  have hB : 1 ≤ bg.toNat := by simp [inB] at g3; omega
  cases hs : searchS p n L bg.toNat ys with
  | error c =>
    exfalso
    unfold spSea at hT; rw [hs] at hT; simp [endS] at hT
  | ok s =>
    have es : spSea p n L ys bg = s := by unfold spSea; rw [hs]; rfl
    rw [es]
    unfold searchS at hs
    exact seaS_outs (SeaOk.start (n := n) hB g2) (by omega) (Nat.zero_le _) (fun i hi => by omega) hs

/-- An arc fires. -/
theorem arc_fires {p : Int} {n : Nat} {L : List (List Int)} {ys : List Int} {bg : Int} (h : SpTree p n L ys bg) {a : Nat × Nat × Nat} (ha : a ∈ (spSea p n L ys bg).ar) :
    fireOk p n L ((spSea p n L ys bg).ms.getD a.1 []) (a.2.1 : Int) = true ∧ fireR p n L ((spSea p n L ys bg).ms.getD a.1 []) (a.2.1 : Int) = (spSea p n L ys bg).ms.getD a.2.2 [] := by
  obtain ⟨h1, h2, h3⟩ := h.told.ok.arc a ha
  have hg1 := h.told.ok.goodAt h1
  have hg2 := h.told.ok.goodAt h3
  have hgo := h.goes a ha
  have hcan := h.told.arcs.snd a ha
  have hf : fireOk p n L ((spSea p n L ys bg).ms.getD a.1 []) (a.2.1 : Int) = true := by
    unfold fireOk
    rw [h.net, hg1]
    have e1 : inB (a.2.1 : Int) 0 ((n : Int) - 1) = true := by simp [inB]; omega
    have e2 : canB (inOf L (a.2.1 : Int)) ((spSea p n L ys bg).ms.getD a.1 []) = true := hcan
    have e3 : goodB p (firedL L ((spSea p n L ys bg).ms.getD a.1 []) (a.2.1 : Int)) = true := by
      have : (spSea p n L ys bg).ms.getD a.2.2 [] = firedL L ((spSea p n L ys bg).ms.getD a.1 []) (a.2.1 : Int) := hgo
      rw [← this]; exact hg2
    rw [e1, e2, e3]; rfl
  refine ⟨hf, ?_⟩
  unfold fireR; rw [if_pos hf]; exact hgo.symm

/-- What is enabled in a mark fires to a mark. -/
theorem out_fires {p : Int} {n : Nat} {L : List (List Int)} {ys : List Int} {bg : Int} (hc : spCode p n L ys bg = 1) {i : Nat} (hi : i < (spSea p n L ys bg).ms.length) {t : Int} (ht : t ∈ enR p n L ((spSea p n L ys bg).ms.getD i [])) :
    fireOk p n L ((spSea p n L ys bg).ms.getD i []) t = true ∧ fireR p n L ((spSea p n L ys bg).ms.getD i []) t ∈ (spSea p n L ys bg).ms := by
  have T := tree_of hc
  unfold enR at ht
  split at ht
  · unfold numsL at ht
    rw [List.mem_map] at ht
    obtain ⟨x, hx, rfl⟩ := ht
    rw [List.mem_filter, List.mem_range] at hx
    obtain ⟨j, hj⟩ := outs_of hc i hi x hx.1 hx.2
    obtain ⟨f1, f2⟩ := arc_fires T hj
    have h3 := (T.told.ok.arc _ hj).2.2
    refine ⟨f1, ?_⟩
    rw [f2, List.getD_eq_getElem?_getD, List.getElem?_eq_getElem h3]
    exact List.getElem_mem h3
  · simp at ht

/-- In a mark of the space things are enabled, and it can be come to. -/
theorem mark_can {p : Int} {n : Nat} {L : List (List Int)} {ys : List Int} {bg : Int} (hc : spCode p n L ys bg = 1) {i : Nat} (hi : i < (spSea p n L ys bg).ms.length) :
    enOk p n L ((spSea p n L ys bg).ms.getD i []) = true ∧ saOk p n L ys bg ((spSea p n L ys bg).ms.getD i []) = true ∧ caR p n L ys bg ((spSea p n L ys bg).ms.getD i []) = true := by
  have T := tree_of hc
  have hg := T.told.ok.goodAt hi
  have hs := saOk_yes hc hg
  refine ⟨?_, hs, ?_⟩
  · unfold enOk; rw [T.net, hg]; rfl
  · unfold caR; rw [hs]
    simp only [Bool.true_and, decide_eq_true_eq]
    rw [List.getD_eq_getElem?_getD, List.getElem?_eq_getElem hi]
    exact List.getElem_mem hi
end Go.Proofs.Ytdhnhpjcoeglmaa


/- FirstDead of the program. -/
namespace Go.Proofs.Ytdhnhpjcoeglmaa
open Go.RowKit
set_option maxRecDepth 10000

theorem cell_kept {w w' : World} {a : Addr} {v : Value} (h : w.cell? a = some v) (hb : Below w.heap.size w w') : w'.cell? a = some v := by
  have hl : a.block < w.heap.size := by
    by_cases hl : a.block < w.heap.size
    · exact hl
    · simp [World.cell?, Array.getElem?_eq_none (show w.heap.size ≤ a.block by omega)] at h
  exact (hb.cell hl).trans h

end Go.Proofs.Ytdhnhpjcoeglmaa


/- Slices of lists: what szIntSS, toIntSS, eqIntSS, markIntSS and heldIntSS answer, make and write. -/
namespace Go.Proofs.Ytdhnhpjcoeglmaa
open Go.RowKit
set_option maxRecDepth 10000

theorem Lists.at {w : World} {a : Option Addr} {n : Nat} {L : List (List Int)} (h : Lists w a n L) {k : Nat} (hk : k < n) :
    ∃ b off a' n' c', a = some ⟨b, off, none⟩ ∧ b < w.heap.size ∧ w.cell? ⟨b, off + k, none⟩ = some (.slice a' n' c') ∧ n' ≤ maxLen ∧ Row w a' n' (L.getD k []) := by
  rcases h.2 with h0 | ⟨b, off, e, hl, hc⟩
  · omega
  · obtain ⟨a', n', c', h1, h2, h3⟩ := hc k hk
    exact ⟨b, off, a', n', c', e, hl, h1, h2, h3⟩


theorem Try.info31 : (Try.prog.info? 31).map (fun i => (i.zero, i.size, i.bytes)) = some (some (.slice none 0 0), 1, 24) := by kernel_rfl

theorem PartL.step1 {v w : World} {B n k b0 : Nat} {T : TypeId} {L : List (List Int)} {x0 : List Int} (h : PartL v B n k T L) (hk : k < n) (hb : Below v.heap.size v w)
    (h0 : v.heap.size ≤ b0) (g0 : w.heap[b0]? = some (.cells (cellsOf x0) 3 (0, 0))) (e0 : L.getD k [] = x0) :
    PartL (w.setCell ⟨B, k, none⟩ (.slice (some ⟨b0, 0, none⟩) x0.length x0.length)) B n (k + 1) T L := by
  obtain ⟨C, f, h1, h2, h3, h4⟩ := h
  have hB := (Array.getElem?_eq_some_iff.mp h1).1
  have hold : ∀ j, j < k → f j < v.heap.size := fun j hj => (Array.getElem?_eq_some_iff.mp (h3 j hj).2.2).1
  refine ⟨_, fun j => if j < k then f j else b0, heap_setCell_same _ _ _ _ _ _ ((hb.block B hB).trans h1), by simp [h2], fun j hj => ?_, fun i j hij hj => ?_⟩
  · by_cases hj3 : j < k
    · obtain ⟨q1, q2, q3⟩ := h3 j hj3
      simp only [if_pos hj3]
      refine ⟨?_, q2, ?_⟩
      · rw [Array.getElem?_setIfInBounds_ne (by omega)]; exact q1
      · rw [Below.heap_setCell _ _ _ _ (show f j ≠ B by omega)]; exact (hb.block _ (hold j hj3)).trans q3
    · simp only [if_neg hj3]
      obtain rfl : j = k := by omega
      rw [e0]
      refine ⟨?_, by omega, ?_⟩
      · rw [Array.getElem?_setIfInBounds, if_pos rfl, if_pos (by omega)]
      · rw [Below.heap_setCell _ _ _ _ (show b0 ≠ B by omega)]; exact g0
  · have := h4 i j hij
    by_cases hi3 : i < k
    · have := hold i hi3
      simp only [if_pos hi3]
      split
      all_goals omega
    · omega

/-- The cell k of the row is there, and can be written. -/
theorem PartL.spot {w : World} {B n k : Nat} {T : TypeId} {L : List (List Int)} (h : PartL w B n k T L) {j : Nat} (hj : j < n) : ∃ v, w.cell? ⟨B, j, none⟩ = some v ∧ w.frozen? ⟨B, j, none⟩ = false := by
  obtain ⟨C, f, h1, h2, h3, h4⟩ := h
  exact ⟨_, by rw [cell_of_row w B j C _ _ h1]; exact Array.getElem?_eq_getElem (by omega), frozen_of_row w B j C _ h1⟩

theorem PartL.lists1 {w : World} {B n : Nat} {T : TypeId} {L : List (List Int)} (h : PartL w B n n T L) (hl : L.length = n) (hs : sizeN n L ≤ 1048576) : Lists w (some ⟨B, 0, none⟩) n L := by
  obtain ⟨C, f, h1, h2, h3, h4⟩ := h
  refine ⟨hl, .inr ⟨B, 0, rfl, (Array.getElem?_eq_some_iff.mp h1).1, fun j hj => ?_⟩⟩
  obtain ⟨e1, e2, e3⟩ := h3 j hj
  refine ⟨_, _, _, by rw [cell_of_row w B (0 + j) C T _ h1, Nat.zero_add]; exact e1, ?_, Own.row (B := 0) ⟨rfl, _, rfl, Nat.zero_le _, e3⟩⟩
  have := len_le L j
  unfold sizeN at hs; unfold maxLen; omega

/-- How a call that makes one list ends. -/
def NewRow (xs : List Int) (w : World) (e : Ending) (w' : World) : Prop :=
  ∃ b, e = .returned (.slice (some ⟨b, 0, none⟩) xs.length xs.length) ∧ w.heap.size ≤ b ∧ w'.heap[b]? = some (.cells (cellsOf xs) 3 (0, 0)) ∧ Below w.heap.size w w'

/-- Lists that were made: none, or behind a block that leads to them. -/
def NetF (w : World) (a : Option Addr) (B hi n : Nat) (M : Nat → List Int) : Prop := n = 0 ∨ (a = some ⟨B, 0, none⟩ ∧ PartF w B hi n 31 M)

theorem NetF.seq1 {w : World} {a : Option Addr} {B hi n k0 : Nat} {M : Nat → List Int} (h : NetF w a B hi n (markedF k0 M n)) {k : Nat} (hk : k < n) :
    ∃ b l, a = some ⟨B, 0, none⟩ ∧ w.cell? ⟨B, k, none⟩ = some (.slice (some ⟨b, 0, none⟩) l l) ∧ Hid ((M k).length = l) ∧ Hid (Row w (some ⟨b, 0, none⟩) l (seqL (k0 + cntF M k) l)) := by
  rcases h with h0 | ⟨rfl, hp⟩
  · omega
  · obtain ⟨b, h1, h2, h3, h4, _⟩ := hp.one hk
    have hm : markedF k0 M n k = seqL (k0 + cntF M k) (M k).length := by unfold markedF; rw [if_pos hk]
    rw [hm, seqL_len] at h1 h4
    exact ⟨b, _, rfl, h1, rfl, h4.row⟩

end Go.Proofs.Ytdhnhpjcoeglmaa


/- The program's lists of some marks, each in a block of its own. -/
namespace Go.Proofs.Ytdhnhpjcoeglmaa
open Go.RowKit
set_option maxRecDepth 10000

/-- A slice of marks, one behind the other, each of l places. -/
structure TokL (w : World) (a : Option Addr) (N l : Nat) (ms : List (List Int)) : Prop where
  len : ms.length = N
  cells : N = 0 ∨ ∃ G o, a = some ⟨G, o, none⟩ ∧ G < w.heap.size ∧ ∀ k, k < N → w.rangeAt G (o + k * 16) ((packOf (ms.getD k []) l).toList)

theorem encU_len (l : Nat) (m : List Int) : (packOf m l).toList.length = 16 := by simp [packOf_size]

theorem wpList_load_tokU {ops : Array Oper} {rest : List Oper} {op : Oper} {a : Act} {w : World} {Q : Exit → Act → World → Prop} (hgd : op.guard = none) (x : Operand) (ho : op.op = .load 93 x)
    (b o : Nat) (hx : a.eval x = .pointer (some ⟨b, o, none⟩)) (l : Nat) (m : List Int) (hc : w.rangeAt b o (packOf m l).toList)
    (h : wpList Try.prog ops Q rest (a.put op.dst (.agg (packOf m l))) w) : wpList Try.prog ops Q (op :: rest) a w := by
  refine wpList_load_mid hgd 93 x ho b o hx (packOf m l).toList _ hc Try.underlying93 rfl (by rw [encU_len]; exact Try.size93) ?_
  simpa using h

theorem TokL.grow {w w' : World} {a : Option Addr} {N l : Nat} {ms : List (List Int)} (h : TokL w a N l ms) (hb : Below w.heap.size w w') : TokL w' a N l ms := by
  refine ⟨h.len, ?_⟩
  rcases h.cells with h0 | ⟨G, o, e, hG, hc⟩
  · exact .inl h0
  · exact .inr ⟨G, o, e, Nat.lt_of_lt_of_le hG hb.size, fun k hk j v hv => (hb.cell (p := ⟨G, o + k * 16 + j, none⟩) hG).trans (hc k hk j v hv)⟩

theorem TokL.at_ {w : World} {a : Option Addr} {N l : Nat} {ms : List (List Int)} (h : TokL w a N l ms) {k : Nat} (hk : k < N) : ∃ G o, a = some ⟨G, o, none⟩ ∧ G < w.heap.size ∧ w.rangeAt G (o + k * 16) ((packOf (ms.getD k []) l).toList) := by
  rcases h.cells with h0 | ⟨G, o, e, hG, hc⟩
  · omega
  · exact ⟨G, o, e, hG, hc k hk⟩

theorem listF_fU {m : List Int} {l : Nat} (h : m.length = l) : listF (fOf m l) l = m := by
  apply List.ext_getElem (by rw [listF_len]; omega)
  intro i h1 h2
  simp only [listF, List.getElem_map, List.getElem_range, fOf]
  rw [if_pos (by rw [listF_len] at h1; exact h1)]
  simp [h2]

theorem Try.info31u : (Try.prog.info? 31).map (fun i => (i.zero, i.size, i.bytes)) = some (some (.slice none 0 0), 1, 24) := by kernel_rfl

set_option maxHeartbeats 2000000 in
theorem listsTok_any (l N c : Nat) (a : Option Addr) (ms : List (List Int)) (w : World) (h : TokL w a N l ms) (hl : l ≤ 16) (hN : N ≤ 400) (hg : ∀ k, k < N → (ms.getD k []).length = l ∧ ∀ i, 0 ≤ (ms.getD k []).getD i 0 ∧ (ms.getD k []).getD i 0 ≤ 50) :
    Calls Try.prog 157 #[.int .i64 (l : Int), .slice a N c] w fun e w' => ∃ M, e = .returned (.slice (some ⟨M, 0, none⟩) N N) ∧ w.heap.size ≤ M ∧ PartL w' M N N 31 ms ∧ Below w.heap.size w w' := by
  have hmk := run_make_many (P := Try.prog) 52 31 _ 1 24 Try.underlying52 Try.info31u .i64 .i64 N (by omega) (by omega)
  simp only [Value.cells, Nat.mul_one] at hmk
  have HT := hide h
  have HG := hide hg
  clear h hg
  go_enter Try.func157, Try.ntmps157
  have HP1 := hide (show PartL (w.alloc (.cells (madeCells #[.slice none 0 0] N) 31)) w.heap.size N 0 31 ms from ⟨_, fun _ => 0, heap_alloc_new _ _, by rw [size_madeCells], fun j hj => absurd hj (by omega), fun i j _ hj => absurd hj (by omega)⟩)
  have HB1 := hide (below_al w (.cells (madeCells #[.slice none 0 0] N) 31))
  go_wp2_with fail
  generalize w.alloc (.cells (madeCells #[.slice none 0 0] N) 31) = v1 at *
  go_loopw [13] (fun i wr => ∃ k : Nat, k ≤ N ∧ i = .int .i64 k ∧ Hid (PartL wr w.heap.size N k 31 ms) ∧ Hid (Below w.heap.size w wr)) (fun i _ => N - (intOf i).toNat)
  case atStart => exact ⟨0, Nat.zero_le _, rfl, HP1, HB1⟩
  case round =>
    obtain ⟨k, hk, rfl, hp, hbw⟩ := hrel
    clear hmk HP1 HB1
    by_cases hlt : k < N
    rotate_left
    · have hk' : k = N := by omega
      rw [hk'] at hp
      have HPF := hide hp.out
      clear hp
      subst hk'
      go_wp2_with fail
      go_ret
      exact ⟨_, rfl, Nat.le_refl _, HPF.out, hbw.out⟩
    obtain ⟨G, o, rfl, hGl, hrg⟩ := (HT.out.grow hbw.out).at_ hlt
    obtain ⟨m, hm⟩ : ∃ m, Hid (ms.getD k [] = m) := ⟨_, rfl⟩
    have HGk := hide (HG.out k hlt)
    rw [hm.out] at hrg HGk
    have hkN : (k : Int) < (N : Int) := by omega
    have hk0 : (0 : Int) ≤ (k : Int) := by omega
    have hk4 : (k : Int) ≤ 400 := by omega
    have hA1 := below_al wr (.cells #[.int .u8 0, .int .u8 0, .int .u8 0, .int .u8 0, .int .u8 0, .int .u8 0, .int .u8 0, .int .u8 0, .int .u8 0, .int .u8 0, .int .u8 0, .int .u8 0, .int .u8 0, .int .u8 0, .int .u8 0, .int .u8 0] 93)
    have hg0 := heap_alloc_new wr (.cells #[.int .u8 0, .int .u8 0, .int .u8 0, .int .u8 0, .int .u8 0, .int .u8 0, .int .u8 0, .int .u8 0, .int .u8 0, .int .u8 0, .int .u8 0, .int .u8 0, .int .u8 0, .int .u8 0, .int .u8 0, .int .u8 0] 93)
    have hV := below_setRow hA1 wr.heap.size (Nat.le_refl _) (packOf m l)
    have hz := setRow_same hg0 (packOf m l)
    have HB2 := hide hV
    go_wp2_with (first
      | ((show wpList _ _ _ (⟨some 17, .load 93 (.tmp 16), _, _, _, _⟩ :: _) _ _); refine wpList_load_tokU rfl (.tmp 16) rfl G (o + k * 16) rfl l m hrg ?_)
      | ((show wpList _ _ _ (⟨none, .store 93 (.tmp 7) (.tmp 17), _, _, _, _⟩ :: _) _ _); refine wpList_store_row rfl 93 _ _ rfl _ _ rfl rfl 93 _ hg0 (by rw [packOf_size]; exact Try.size93) (by rw [packOf_size]; rfl) (packOf_one _ _) ?_)
      | ((show wpList _ _ _ (⟨some 20, .load 93 (.tmp 7), _, _, _, _⟩ :: _) _ _); refine wpList_load_row rfl 93 (.tmp 7) rfl _ rfl 93 (packOf m l) (0, 0) _ hz Try.underlying93 rfl (by rw [packOf_size]; exact Try.size93) ?_))
    clear hg0 hz hA1 hV hrg
    generalize (wr.alloc (.cells #[.int .u8 0, .int .u8 0, .int .u8 0, .int .u8 0, .int .u8 0, .int .u8 0, .int .u8 0, .int .u8 0, .int .u8 0, .int .u8 0, .int .u8 0, .int .u8 0, .int .u8 0, .int .u8 0, .int .u8 0, .int .u8 0] 93)).setRow wr.heap.size (packOf m l) = w2 at *
    refine (list_any (fOf m l) l w2 hl (fun i => by have := HGk.out.2 i; unfold fOf; split <;> omega)).mono ?_
    rintro e w3 ⟨rfl, rfl⟩
    have hA2 := (below_al w2 (.cells (tokF (fOf m l)) 93)).trans ((below_al (w2.alloc (.cells (tokF (fOf m l)) 93)) (.cells (cellsOf (listF (fOf m l) l)) 3)).mono (by simp))
    have hnew := heap_alloc2_new w2 (.cells (tokF (fOf m l)) 93) (.cells (cellsOf (listF (fOf m l) l)) 3)
    have hml := HGk.out.1
    rw [listF_fU hml] at hnew hA2 ⊢
    have hbb := HB2.out.trans (hA2.mono HB2.out.size)
    have hst := hp.out.step1 hlt hbb (show wr.heap.size ≤ w2.heap.size + 1 by have := HB2.out.size; omega) hnew hm.out
    rw [hml] at hst
    have HP := hide hst
    have HB := hide ((hbw.out.trans (hbb.mono hbw.out.size)).setCell (p := ⟨w.heap.size, k, none⟩) (Nat.le_refl _) (.slice (some ⟨w2.heap.size + 1, 0, none⟩) l l))
    obtain ⟨v0, hv0, hfr⟩ := (hp.out.grow hbb).spot hlt
    clear hst hnew hA2 hbb hml
    go_wp2_with fail
    go_roundw
    case rel => exact ⟨k + 1, by omega, by go_num, HP, HB⟩
    case measure => simp [intOf]; omega
end Go.Proofs.Ytdhnhpjcoeglmaa


/- The program's lists of a space. -/
namespace Go.Proofs.Ytdhnhpjcoeglmaa
open Go.RowKit
set_option maxRecDepth 10000

theorem cell_rowU {w : World} {b g : Nat} (h : b ≠ g) (D : Array Value) (k : Nat) : (w.setRow g D).cell? ⟨b, k, none⟩ = w.cell? ⟨b, k, none⟩ := by
  simp only [World.cell?]
  rw [setRow_otherW _ h _]

theorem spaceOne_res {fn : Func} {q : Tmp} (hr : fn.results = #[.cell q 61]) (tmps : Array Value) (W : World) (b : Nat) (C : Array Value) (h4 : tmps.getD q undef = .pointer (some ⟨b, 0, none⟩))
    (hs : C.size = 2) (q4 : W.heap[b]? = some (.cells C 61 (0, 0))) : (results fn tmps).run Try.prog W = .ok (.agg C) W := by
  have r1 : (loadVar 61 ⟨b, 0, none⟩).run Try.prog W = .ok (.agg C) W := run_loadVar_row _ _ 61 61 C (0, 0) _ q4 Try.underlying61 rfl (by rw [hs]; exact size_space)
  have e : (results fn tmps).run Try.prog W = ((asAddr (tmps.getD q undef)).run Try.prog W).andThen fun a w1 => ((loadVar 61 a).run Try.prog w1) := by
    simp only [results, hr]
    simp [Sem.run_bind, Result.andThen]
  rw [e, h4]
  show ((loadVar 61 ⟨b, 0, none⟩).run Try.prog W) = _
  exact r1

theorem part_row {w : World} {B n k g : Nat} {T : TypeId} {L : List (List Int)} (h : PartL w B n k T L) (hg : g < B) (D : Array Value) : PartL (w.setRow g D) B n k T L := by
  obtain ⟨C, f, h1, h2, h3, h4⟩ := h
  refine ⟨C, f, (setRow_otherW _ (show B ≠ g by omega) _).trans h1, h2, fun j hj => ?_, h4⟩
  obtain ⟨e1, e2, e3⟩ := h3 j hj
  exact ⟨e1, e2, (setRow_otherW _ (show f j ≠ g by omega) _).trans e3⟩

set_option maxHeartbeats 2000000 in
/-- The lists of whatever lies in a space's struct. -/
theorem listsV_any (V : Array Value) (l N c : Nat) (a aa : Option Addr) (na ac : Nat) (ms : List (List Int)) (w : World) (hV0 : V[0]? = some (.int .i64 (l : Int))) (hV3 : V[3]? = some (.slice a N c)) (hV4 : V[4]? = some (.slice aa na ac))
    (h : TokL w a N l ms) (hl : l ≤ 16) (hN : N ≤ 400) (hg : ∀ k, k < N → (ms.getD k []).length = l ∧ ∀ i, 0 ≤ (ms.getD k []).getD i 0 ∧ (ms.getD k []).getD i 0 ≤ 50) :
    Calls Try.prog 116 #[.agg V] w fun e w' => ∃ M, e = .returned (.agg #[.slice (some ⟨M, 0, none⟩) N N, .slice aa na ac]) ∧ w.heap.size ≤ M ∧ PartL w' M N N 31 ms ∧ Below w.heap.size w w' := by
  have hAl := (below_al w (.cells V 134)).trans ((below_al (w.alloc (.cells V 134)) (.cells #[.slice none 0 0, .slice none 0 0] 61)).mono (by simp))
  have hb0 := keep (heap_alloc_new w (.cells V 134)) (below_al (w.alloc (.cells V 134)) (.cells #[.slice none 0 0, .slice none 0 0] 61))
  have HR0 := hide (heap_alloc2_new w (.cells V 134) (.cells #[.slice none 0 0, .slice none 0 0] 61))
  have HT0 := hide (h.grow hAl)
  have HB0 := hide hAl
  have HG := hide hg
  have HC : Hid (∀ W, Below ((w.alloc (.cells V 134)).alloc (.cells #[.slice none 0 0, .slice none 0 0] 61)).heap.size ((w.alloc (.cells V 134)).alloc (.cells #[.slice none 0 0, .slice none 0 0] 61)) W → W.cell? ⟨w.heap.size, 0, none⟩ = some (.int .i64 (l : Int)) ∧ W.cell? ⟨w.heap.size, 3, none⟩ = some (.slice a N c) ∧ W.cell? ⟨w.heap.size, 4, none⟩ = some (.slice aa na ac)) := fun W hW => by
    have hk := keep hb0 hW
    exact ⟨(cell_of_row W w.heap.size 0 _ _ _ hk).trans hV0, (cell_of_row W w.heap.size 3 _ _ _ hk).trans hV3, (cell_of_row W w.heap.size 4 _ _ _ hk).trans hV4⟩
  clear h hAl hg hb0 hV0 hV3 hV4
  go_enter Try.func116, Try.ntmps116
  go_upto_region 1 with fail
  have hs0 : Hid (((w.alloc (.cells V 134)).alloc (.cells #[.slice none 0 0, .slice none 0 0] 61)).heap.size = w.heap.size + 2) := by show _ = _; simp
  generalize (w.alloc (.cells V 134)).alloc (.cells #[.slice none 0 0, .slice none 0 0] 61) = v at *
  have hdr := (Below.refl v.heap.size v).drew
  have HB1 := hide (HB0.out.trans (hdr.mono HB0.out.size))
  have HT1 := hide (HT0.out.grow hdr)
  have HR1 := hide (keep HR0.out hdr)
  have HC1 := hide (fun W (hW : Below v.drew.heap.size v.drew W) => HC.out W (hdr.trans (hW.mono hdr.size)))
  have hz1 : Hid (v.drew.heap.size = w.heap.size + 2) := hs0
  refine wp_region_held_drew (S := fun W => W.cell? ⟨w.heap.size, 0, none⟩ = some (.int .i64 (l : Int)) ∧ W.cell? ⟨w.heap.size, 3, none⟩ = some (.slice a N c) ∧ W.cell? ⟨w.heap.size, 4, none⟩ = some (.slice aa na ac)) (by kernel_rfl) (HC.out _ hdr) (fun hHeld => ?_)
  clear HB0 HT0 HR0 HC hs0 hdr hHeld
  have hS1 := HC1.out _ (Below.refl _ v.drew)
  generalize v.drew = v1 at *
  refine take_yes (i := 0) (some 3) (.pointer (some ⟨w.heap.size, 0, none⟩)) rfl rfl (by kernel_rfl) (by kernel_rfl) (by kernel_rfl) (fun _ _ _ h => h) (by rfl) ?_ (by assumption) ?_
  · intro W' hSw
    obtain ⟨hz0, hz3, hz4⟩ := hSw
    go_simp
  simp only [Act.put, List.setIfInBounds_toArray, List.set_cons_zero, List.set_cons_succ]
  refine take_yes (i := 1) (some 4) (.pointer (some ⟨w.heap.size, 0, none⟩)) rfl rfl (by kernel_rfl) (by kernel_rfl) (by kernel_rfl) (fun _ _ _ h => h) (by rfl) ?_ (by assumption) ?_
  · intro W' hSw
    obtain ⟨hz0, hz3, hz4⟩ := hSw
    go_simp
  simp only [Act.put, List.setIfInBounds_toArray, List.set_cons_zero, List.set_cons_succ]
  refine take_yes (i := 2) (some 5) (.int .i64 (l : Int)) rfl rfl (by kernel_rfl) (by kernel_rfl) (by kernel_rfl) (fun _ _ _ h => h) (by rfl) ?_ (by assumption) ?_
  · intro W' hSw
    obtain ⟨hz0, hz3, hz4⟩ := hSw
    go_simp
  simp only [Act.put, List.setIfInBounds_toArray, List.set_cons_zero, List.set_cons_succ]
  refine take_yes (i := 3) (some 6) (.pointer (some ⟨w.heap.size, 3, none⟩)) rfl rfl (by kernel_rfl) (by kernel_rfl) (by kernel_rfl) (fun _ _ _ h => h) (by rfl) ?_ (by assumption) ?_
  · intro W' hSw
    obtain ⟨hz0, hz3, hz4⟩ := hSw
    go_simp
  simp only [Act.put, List.setIfInBounds_toArray, List.set_cons_zero, List.set_cons_succ]
  refine take_yes (i := 4) (some 7) (.slice a N c) rfl rfl (by kernel_rfl) (by kernel_rfl) (by kernel_rfl) (fun _ _ _ h => h) (by rfl) ?_ (by assumption) ?_
  · intro W' hSw
    obtain ⟨hz0, hz3, hz4⟩ := hSw
    go_simp
  simp only [Act.put, List.setIfInBounds_toArray, List.set_cons_zero, List.set_cons_succ]
  refine take_yes (i := 6) (some 9) (.pointer (some ⟨w.heap.size, 4, none⟩)) rfl rfl (by kernel_rfl) (by kernel_rfl) (by kernel_rfl) (fun _ _ _ h => h) (by rfl) ?_ (by assumption) ?_
  · intro W' hSw
    obtain ⟨hz0, hz3, hz4⟩ := hSw
    go_simp
  simp only [Act.put, List.setIfInBounds_toArray, List.set_cons_zero, List.set_cons_succ]
  refine take_yes (i := 7) (some 10) (.slice aa na ac) rfl rfl (by kernel_rfl) (by kernel_rfl) (by kernel_rfl) (fun _ _ _ h => h) (by rfl) ?_ (by assumption) ?_
  · intro W' hSw
    obtain ⟨hz0, hz3, hz4⟩ := hSw
    go_simp
  simp only [Act.put, List.setIfInBounds_toArray, List.set_cons_zero, List.set_cons_succ]
  refine call_next (i := 5) (some 8) rfl rfl (by kernel_rfl) (by rfl) 157 _ _ _ rfl Try.func157 (by decide) rfl #[.int .i64 (l : Int), .slice a N c] (mapw2 _ _ _ _ _ rfl rfl) _ (listsTok_any l N c a ms v1 HT1.out hl hN HG.out) ?_
  rintro e w2 ⟨M, rfl, hM, hP, hb2⟩
  have HB2 := hide (HB1.out.trans (hb2.mono HB1.out.size))
  have HR2 := hide (keep HR1.out hb2)
  have HP2 := hide hP
  have HM : Hid (w.heap.size + 2 ≤ M) := by have := hz1.out; show _ ≤ _; omega
  have hS2 := HC1.out _ hb2
  refine ⟨_, rfl, hS2, fun _ => ?_⟩
  simp only [Act.put, List.setIfInBounds_toArray, List.set_cons_zero, List.set_cons_succ]
  clear HB1 HR1 HC1 hb2 hP HT1 HG hS1 hM hz1
  refine take_yes (i := 8) (some 11) (.agg #[.slice (some ⟨M, 0, none⟩) N N, .slice aa na ac]) rfl rfl (by kernel_rfl) (by kernel_rfl) (by kernel_rfl) (fun _ _ _ h => h) (by rfl) ?_ (by assumption) ?_
  · intro W' hSw
    obtain ⟨hz0, hz3, hz4⟩ := hSw
    go_simp
  simp only [Act.put, List.setIfInBounds_toArray, List.set_cons_zero, List.set_cons_succ]
  have hone2 : (#[.slice (some ⟨M, 0, none⟩) N N, .slice aa na ac] : Array Value).all (·.oneCell') = true := by simp [Value.oneCell']
  have hz := setRow_same HR2.out #[.slice (some ⟨M, 0, none⟩) N N, .slice aa na ac]
  have HBW := hide (below_setRow HB2.out (w.heap.size + 1) (by omega) #[.slice (some ⟨M, 0, none⟩) N N, .slice aa na ac])
  have HPS := hide (part_row (g := w.heap.size + 1) HP2.out (by have := HM.out; omega) #[.slice (some ⟨M, 0, none⟩) N N, .slice aa na ac])
  have hS3 : (fun W : World => W.cell? ⟨w.heap.size, 0, none⟩ = some (.int .i64 (l : Int)) ∧ W.cell? ⟨w.heap.size, 3, none⟩ = some (.slice a N c) ∧ W.cell? ⟨w.heap.size, 4, none⟩ = some (.slice aa na ac)) (w2.setRow (w.heap.size + 1) #[.slice (some ⟨M, 0, none⟩) N N, .slice aa na ac]) := by
    obtain ⟨hz0, hz3, hz4⟩ := hS2
    have hne : w.heap.size ≠ w.heap.size + 1 := by omega
    exact ⟨(cell_rowU hne _ _).trans hz0, (cell_rowU hne _ _).trans hz3, (cell_rowU hne _ _).trans hz4⟩
  refine store_next (i := 9) rfl rfl (by kernel_rfl) (by rfl) 61 _ _ rfl (w.heap.size + 1) _ rfl rfl 61 _ HR2.out size_space rfl hone2 hS3 (fun _ => ?_)
  refine wpAnyH_done (by kernel_rfl) ?_ _
  go_wp2_with fail
  refine bodyPost_ret (v := .agg #[.slice (some ⟨M, 0, none⟩) N N, .slice aa na ac]) ?_ rfl ⟨_, rfl, by have := HM.out; omega, HPS.out, HBW.out⟩
  exact spaceOne_res Try.results116 _ _ (w.heap.size + 1) _ rfl rfl hz

theorem lists_any {p : Int} {n l : Nat} {L : List (List Int)} {ys : List Int} {bg : Int} {s : Sea} (hok : SpOk p n l L ys bg s) (BS mb G : Nat) (aa : Option Addr) (ac : Nat) (w : World) (ht : TokAll w G l s.ms) :
    Calls Try.prog 116 #[.agg (spV p n BS mb G s.ms.length (.slice aa s.ar.length ac))] w fun e w' => ∃ M, e = .returned (.agg #[.slice (some ⟨M, 0, none⟩) s.ms.length s.ms.length, .slice aa s.ar.length ac]) ∧ w.heap.size ≤ M ∧ PartL w' M s.ms.length s.ms.length 31 s.ms ∧ Below w.heap.size w w' := by
  have hlp := hok.hl
  refine listsV_any (spV p n BS mb G s.ms.length (.slice aa s.ar.length ac)) l s.ms.length s.ms.length (some ⟨G, 0, none⟩) aa s.ar.length ac s.ms w (by rw [hlp]; rfl) rfl rfl ⟨rfl, .inr ⟨G, 0, rfl, ht.lt, fun k hk => ?_⟩⟩ hok.l16 hok.m4 (fun k hk => hok.goodAt hk)
  have h := ht.cells k hk
  rw [Nat.zero_add]
  exact h
end Go.Proofs.Ytdhnhpjcoeglmaa


/- Explore of both, in one form. -/
namespace Go.Proofs.Ytdhnhpjcoeglmaa
open Go.RowKit
set_option maxRecDepth 10000

def xpMs (p : Int) (n : Nat) (L : List (List Int)) (ys : List Int) (bg : Int) : List (List Int) := if spCode p n L ys bg = 1 then (spSea p n L ys bg).ms else []
def xpAr (p : Int) (n : Nat) (L : List (List Int)) (ys : List Int) (bg : Int) : List (Nat × Nat × Nat) := if spCode p n L ys bg = 1 then (spSea p n L ys bg).ar else []

theorem spCode_ask (p : Int) (n : Nat) (L : List (List Int)) (ys : List Int) (bg : Int) : ((spCode p n L ys bg : Int) != 0) = askB p n L ys bg := by
  unfold spCode
  cases h : askB p n L ys bg
  · rfl
  · simp only [if_true]
    cases hs : searchS p n L bg.toNat ys with
    | ok s => rfl
    | error c =>
      rcases seaS_err hs with rfl | rfl <;> rfl

theorem xpMs_yes {p : Int} {n l : Nat} {L : List (List Int)} {ys : List Int} {bg : Int} {s : Sea} (hc : spCode p n L ys bg = 1) (hs : SpOk p n l L ys bg s) : xpMs p n L ys bg = s.ms ∧ xpAr p n L ys bg = s.ar := by
  unfold xpMs xpAr; rw [if_pos hc, if_pos hc, hs.is]; exact ⟨rfl, rfl⟩
theorem xpMs_no {p : Int} {n : Nat} {L : List (List Int)} {ys : List Int} {bg : Int} (hc : spCode p n L ys bg ≠ 1) : xpMs p n L ys bg = [] ∧ xpAr p n L ys bg = [] := by
  unfold xpMs xpAr; rw [if_neg hc, if_neg hc]; exact ⟨rfl, rfl⟩

/-- How the specification's Explore ends. -/
def XsEnd (p : Int) (n : Nat) (L : List (List Int)) (ys : List Int) (bg : Int) (w : World) (e : Ending) (w' : World) : Prop :=
  ∃ ma mc aa ac, e = .returned (.tuple #[.agg #[.slice ma (xpMs p n L ys bg).length mc, .slice aa (xpAr p n L ys bg).length ac], .int .i64 (spCode p n L ys bg : Int), .bool (askB p n L ys bg)]) ∧ Lists w' ma (xpMs p n L ys bg).length (xpMs p n L ys bg) ∧ (∃ B, w'.ownsRow B 66 3 (.slice aa (xpAr p n L ys bg).length ac) (xpAr p n L ys bg).length (arcsL (xpAr p n L ys bg))) ∧ Below w.heap.size w w'

theorem exploreS_end (p : Int) (a am : Option Addr) (n c nm cm : Nat) (L : List (List Int)) (ys : List Int) (bg : Int) (w : World) (h : Lists w a (3 * n) L) (rm : Row w am nm ys) (hs : sizeN n L ≤ 1048576) (hnm : nm ≤ 1048576) :
    Calls Try.prog 48 #[.agg #[.int .i64 p, .slice a n c], .slice am nm cm, .int .i64 bg] w fun e w' => XsEnd p n L ys bg w e w' := by
  refine (xplore_any p a am n c nm cm L ys bg w h rm hs hnm).mono ?_
  rintro e w' ⟨hb, hx⟩
  rcases hx with ⟨hc, s, ma, mc, aa, ac, hok, rfl, hm, ha⟩ | ⟨hc, rfl⟩
  · obtain ⟨e1, e2⟩ := xpMs_yes hc hok
    unfold XsEnd
    rw [e1, e2, hc, hok.ask]
    exact ⟨ma, mc, aa, ac, rfl, hm.lists (by have := hok.l16; unfold maxLen; omega), ⟨_, ha⟩, hb⟩
  · obtain ⟨e1, e2⟩ := xpMs_no hc
    unfold XsEnd
    rw [e1, e2]
    exact ⟨none, 0, none, 0, rfl, ⟨rfl, .inl rfl⟩, ⟨0, World.ownsRow_nil _ _ _ _⟩, hb⟩

/-- How the program's Explore ends: all that is answered lies in blocks of its own. -/
def XiEnd (p : Int) (n : Nat) (L : List (List Int)) (ys : List Int) (bg : Int) (w : World) (e : Ending) (w' : World) : Prop :=
  ∃ M aa ac, e = .returned (.tuple #[.agg #[.slice (some ⟨M, 0, none⟩) (xpMs p n L ys bg).length (xpMs p n L ys bg).length, .slice aa (xpAr p n L ys bg).length ac], .int .i64 (spCode p n L ys bg : Int), .bool (askB p n L ys bg)]) ∧
    w.heap.size ≤ M ∧ PartL w' M (xpMs p n L ys bg).length (xpMs p n L ys bg).length 31 (xpMs p n L ys bg) ∧ w'.ownsRow w.heap.size 66 3 (.slice aa (xpAr p n L ys bg).length ac) (xpAr p n L ys bg).length (arcsL (xpAr p n L ys bg)) ∧ (∀ g, (Value.slice aa (xpAr p n L ys bg).length ac).ownBlock = some g → g < M) ∧ Below w.heap.size w w'

theorem listsZ_any (w : World) : Calls Try.prog 116 #[.agg spZ] w fun e w' => ∃ M, e = .returned (.agg #[.slice (some ⟨M, 0, none⟩) 0 0, .slice none 0 0]) ∧ w.heap.size ≤ M ∧ PartL w' M 0 0 31 [] ∧ Below w.heap.size w w' :=
  listsV_any spZ 0 0 0 none none 0 0 [] w rfl rfl rfl ⟨rfl, .inl rfl⟩ (by omega) (by omega) (fun k hk => absurd hk (by omega))

set_option maxHeartbeats 1000000 in
theorem exploreI_any (p : Int) (a am : Option Addr) (n c nm cm : Nat) (L : List (List Int)) (ys : List Int) (bg : Int) (w : World) (h : Lists w a (3 * n) L) (rm : Row w am nm ys) (hs : sizeN n L ≤ 1048576) (hnm : nm ≤ 1048576) :
    Calls Try.prog 47 #[.agg #[.int .i64 p, .slice a n c], .slice am nm cm, .int .i64 bg] w fun e w' => XiEnd p n L ys bg w e w' := by
  have hAl := (below_al w (.cells #[.int .i64 p, .slice a n c] 26)).trans ((below_al (w.alloc (.cells #[.int .i64 p, .slice a n c] 26)) (.cells #[.slice none 0 0, .slice none 0 0] 61)).mono (by simp))
  have HX := hide (spaceOf_any p a am n c nm cm L ys bg _ (h.below hAl) (rm.below hAl) hs hnm)
  have HR0 := hide (heap_alloc2_new w (.cells #[.int .i64 p, .slice a n c] 26) (.cells #[.slice none 0 0, .slice none 0 0] 61))
  have HB0 := hide hAl
  have hlt0 := row_lt HR0.out
  clear h rm hAl
  go_enter Try.func47, Try.ntmps47
  go_wp2_with fail
  generalize (w.alloc (.cells #[.int .i64 p, .slice a n c] 26)).alloc (.cells #[.slice none 0 0, .slice none 0 0] 61) = v0 at *
  refine HX.out.mono ?_
  rintro e w1 ⟨hb1, hxx⟩
  have HB1 := hide (HB0.out.trans (hb1.mono HB0.out.size))
  have HR1 := hide (keep HR0.out hb1)
  have hv01 := hb1.size
  clear hb1 HX HR0
  have hg0 := heap_alloc_new w1 (.cells spZ 134)
  have hA3 := below_al w1 (.cells spZ 134)
  obtain ⟨sv, e', rfl, hone, hsz, HSV⟩ : ∃ sv : Array Value, ∃ _u : Unit, e = .returned (.tuple #[.agg sv, .int .i64 (spCode p n L ys bg : Int)]) ∧ sv.all (·.oneCell') = true ∧ sv.size = 5 ∧
      Hid (∀ W, Below w1.heap.size w1 W → Calls Try.prog 116 #[.agg sv] W fun e W' => ∃ M aa ac, e = .returned (.agg #[.slice (some ⟨M, 0, none⟩) (xpMs p n L ys bg).length (xpMs p n L ys bg).length, .slice aa (xpAr p n L ys bg).length ac]) ∧ W.heap.size ≤ M ∧ PartL W' M (xpMs p n L ys bg).length (xpMs p n L ys bg).length 31 (xpMs p n L ys bg) ∧ W'.ownsRow v0.heap.size 66 3 (.slice aa (xpAr p n L ys bg).length ac) (xpAr p n L ys bg).length (arcsL (xpAr p n L ys bg)) ∧ (∀ g, (Value.slice aa (xpAr p n L ys bg).length ac).ownBlock = some g → g < M) ∧ Below W.heap.size W W') := by
    rcases hxx with ⟨hcode, s, BS, mb, G, av, hok, hst, ⟨aa, ac, rfl⟩, rfl⟩ | ⟨hcode, rfl⟩
    · obtain ⟨e1, e2⟩ := xpMs_yes hcode hok
      refine ⟨_, (), by rw [hcode]; rfl, spV_one _ _ _ _ _ _ _ _ _, rfl, fun W hW => ?_⟩
      rw [e1, e2]
      refine (lists_any hok BS mb G aa ac W (hst.toks.grow hW)).mono ?_
      rintro e W' ⟨M, rfl, hM, hP, hb⟩
      have hh := hW.trans (hb.mono hW.size)
      exact ⟨M, aa, ac, rfl, hM, hP, ownsRow_kept hst.arcs fun g hg => hh.block g (own_lt hst.arcs hg).2, fun g hg => Nat.lt_of_lt_of_le (own_lt hst.arcs hg).2 (Nat.le_trans hW.size hM), hb⟩
    · obtain ⟨e1, e2⟩ := xpMs_no hcode
      refine ⟨_, (), rfl, spZ_one, rfl, fun W hW => ?_⟩
      rw [e1, e2]
      refine (listsZ_any W).mono ?_
      rintro e W' ⟨M, rfl, hM, hP, hb⟩
      exact ⟨M, none, 0, rfl, hM, hP, World.ownsRow_nil _ _ _ _, fun g hg => by simp [Value.ownBlock] at hg, hb⟩
  have HASK := hide (spCode_ask p n L ys bg)
  have hV := below_setRow hA3 w1.heap.size (Nat.le_refl _) sv
  have hz5 := setRow_same hg0 sv
  have HL := hide (HSV.out _ hV)
  have HB3 := hide (HB1.out.trans (hV.mono HB1.out.size))
  have HR3 := hide (keep HR1.out hV)
  have hsz3 := hV.size
  clear hxx hA3 hV HB1 HR1 HSV e'
  obtain ⟨ms, hms⟩ : ∃ ms, Hid (xpMs p n L ys bg = ms) := ⟨_, rfl⟩
  obtain ⟨ar, har⟩ : ∃ ar, Hid (xpAr p n L ys bg = ar) := ⟨_, rfl⟩
  obtain ⟨cd, hcd⟩ : ∃ cd, Hid ((spCode p n L ys bg : Int) = cd) := ⟨_, rfl⟩
  obtain ⟨ak, hak⟩ : ∃ ak, Hid (askB p n L ys bg = ak) := ⟨_, rfl⟩
  rw [hms.out, har.out] at HL
  rw [hcd.out, hak.out] at HASK
  have hask := HASK.out
  have HEND := hide (show ∀ e W', (∃ M aa ac, e = .returned (.tuple #[.agg #[.slice (some ⟨M, 0, none⟩) ms.length ms.length, .slice aa ar.length ac], .int .i64 cd, .bool ak]) ∧
    w.heap.size ≤ M ∧ PartL W' M ms.length ms.length 31 ms ∧ W'.ownsRow w.heap.size 66 3 (.slice aa ar.length ac) ar.length (arcsL ar) ∧ (∀ g, (Value.slice aa ar.length ac).ownBlock = some g → g < M) ∧ Below w.heap.size w W') → XiEnd p n L ys bg w e W' from fun e W' hh => by
      unfold XiEnd; rw [hms.out, har.out, hcd.out, hak.out]; exact hh)
  rw [hcd.out]
  go_wp2_with (first
    | ((show wpList _ _ _ (⟨none, .store 134 (.tmp 9) (.tmp 16), _, _, _, _⟩ :: _) _ _); refine wpList_store_row rfl 134 _ _ rfl _ _ rfl rfl 134 _ hg0 (by rw [hsz]; exact Try.size134) (by rw [hsz]; rfl) hone ?_)
    | ((show wpList _ _ _ (⟨some 18, .load 134 (.tmp 9), _, _, _, _⟩ :: _) _ _); refine wpList_load_row rfl 134 (.tmp 9) rfl _ rfl 134 sv (0, 0) _ hz5 Try.underlying134 rfl (by rw [hsz]; exact Try.size134) ?_))
  clear hg0 hz5
  generalize (w1.alloc (.cells spZ 134)).setRow w1.heap.size sv = w3 at *
  refine HL.out.mono ?_
  rintro e w4 ⟨M, aa, ac, rfl, hM, hP, hO, hgm, hb⟩
  have HB4 := hide (HB3.out.trans (hb.mono HB3.out.size))
  have hR4 := keep HR3.out hb
  have hw3 := HB3.out.size
  have hv0 := HB0.out.size
  have hone2 : (#[.slice (some ⟨M, 0, none⟩) ms.length ms.length, .slice aa ar.length ac] : Array Value).all (·.oneCell') = true := by simp [Value.oneCell']
  have hz := setRow_same hR4 #[.slice (some ⟨M, 0, none⟩) ms.length ms.length, .slice aa ar.length ac]
  have hP2 := part_row (g := w.heap.size + 1) hP (by omega) #[.slice (some ⟨M, 0, none⟩) ms.length ms.length, .slice aa ar.length ac]
  have hO2 := (ownsRow_kept (w' := w4.setRow (w.heap.size + 1) #[.slice (some ⟨M, 0, none⟩) ms.length ms.length, .slice aa ar.length ac]) hO fun g hg => setRow_otherW _ (by have := (own_lt hO hg).1; omega) _).mono hv0
  have HE := hide (HEND.out _ _ ⟨M, aa, ac, rfl, by omega, hP2, hO2, hgm, below_setRow HB4.out (w.heap.size + 1) (by omega) _⟩)
  clear hP hO hP2 hO2 hb HEND
  go_wp2_with ((show wpList _ _ _ (⟨none, .store 61 (.tmp 6) (.tmp 19), _, _, _, _⟩ :: _) _ _); refine wpList_store_row rfl 61 _ _ rfl _ _ rfl rfl 61 _ hR4 size_space rfl hone2 ?_)
  refine bodyPost_ret (v := .tuple #[.agg #[.slice (some ⟨M, 0, none⟩) ms.length ms.length, .slice aa ar.length ac], .int .i64 cd, .bool ak]) ?_ rfl HE.out
  exact space_res3 Try.results47 _ _ (w.heap.size + 1) _ _ _ rfl rfl rfl rfl hz
end Go.Proofs.Ytdhnhpjcoeglmaa
