/- Contracts that the proof stands on, one behind the other. -/
import Derived.Test.YtdhnhpjcoeglmaaP8
import Derived.Maps.RangeWalk
/- The program's fireFrom: all that is enabled in a mark is fired; for every state of the search. -/
namespace Go.Proofs.Ytdhnhpjcoeglmaa
open Go.RowKit
open Go.ChangeMaps (setBlock heap_setBlock_same heap_setBlock_other)
set_option maxRecDepth 10000

/-- What a step does to a mark by sets is what it does by lists. -/
theorem step_links {p : Int} {n l : Nat} {L : List (List Int)} {m : List Int} {t : Nat} (hnet : netOk p n L = true) (hm : goodB p m = true) (hl : (l : Int) = p) (ht : t < n) :
    subB (maskL (L.getD (3 * t) [])) (maskL (posL (fOf m l) 16)) = canT L m t ∧
    (canT L m t = true → goodB p (fireT L m t) = capB (maskL (L.getD (3 * t) [])) (maskL (L.getD (3 * t + 1) [])) (maskL (L.getD (3 * t + 2) [])) (fOf m l) 16) ∧
    tokF (partF (maskL (L.getD (3 * t) [])) (maskL (L.getD (3 * t + 1) [])) (maskL (L.getD (3 * t + 2) [])) (fOf m l) 16) = packOf (fireT L m t) l := by
  obtain ⟨⟨hp1, hp2⟩, hyl, hyb⟩ := goodB_parts hm
  have htri := tri_rise (triOkOf hnet ht)
  have hly : m.length = l := by omega
  have hf : fireT L m t = fireL (L.getD (3 * t) []) (L.getD (3 * t + 1) []) (L.getD (3 * t + 2) []) m := by
    unfold fireT firedL inOf outOf resOf; rw [Int.toNat_natCast]
  refine ⟨can_sub ⟨hp1, hp2⟩ hl hyb htri.1, fun hc => ?_, ?_⟩
  · rw [hf]; exact good_cap ⟨hp1, hp2⟩ hl hly hyb htri.1 htri.2.1 htri.2.2 hc
  · rw [hf]
    unfold packOf
    apply Array.ext_getElem?
    intro i
    by_cases hi : i < 16
    · rw [tokF_at _ _ hi, tokF_at _ _ hi]
      unfold partF
      rw [if_pos hi, step_fire hl hly htri.1 htri.2.1 htri.2.2 i]
      rfl
    · rw [Array.getElem?_eq_none (by rw [tokF_size]; omega), Array.getElem?_eq_none (by rw [tokF_size]; omega)]

theorem idxOf_at {ms : List (List Int)} {k : Nat} (h : ms.Nodup) (hk : k < ms.length) : ms.idxOf (ms.getD k []) = k := by
  rw [List.getD_eq_getElem?_getD, List.getElem?_eq_getElem hk]
  exact h.idxOf_getElem k hk

theorem mem_at {ms : List (List Int)} {k : Nat} (hk : k < ms.length) : ms.getD k [] ∈ ms := by
  rw [List.getD_eq_getElem?_getD, List.getElem?_eq_getElem hk]; exact List.getElem_mem hk

/-- How fireFrom ends. -/
def FrEnd (W0 : World) (b BS mb : Nat) (p : Int) (n l Bg : Nat) (L : List (List Int)) (k : Nat) (R : Except Nat Sea) (e : Ending) (w' : World) : Prop :=
  match R with
  | .ok s' => e = .returned (.int .i64 1) ∧ ∃ wv av, Sm W0 w' b BS mb p n l Bg L wv av s'.ms (s'.ms.drop (k + 1)) s'.ar
  | .error c => e = .returned (.int .i64 (c : Int)) ∧ Below W0.heap.size W0 w'

theorem frEnd_ok {W0 w' : World} {b BS mb : Nat} {p : Int} {n l Bg : Nat} {L : List (List Int)} {k : Nat} {R : Except Nat Sea} {s' : Sea} {wv av : Value} (hR : R = .ok s') (h : Sm W0 w' b BS mb p n l Bg L wv av s'.ms (s'.ms.drop (k + 1)) s'.ar) : FrEnd W0 b BS mb p n l Bg L k R (.returned (.int .i64 1)) w' := by
  subst hR; exact ⟨rfl, _, _, h⟩
theorem frEnd_err {W0 w' : World} {b BS mb : Nat} {p : Int} {n l Bg : Nat} {L : List (List Int)} {k : Nat} {R : Except Nat Sea} {c : Nat} {z : Int} (hR : R = .error c) (hz : (c : Int) = z) (h : Below W0.heap.size W0 w') : FrEnd W0 b BS mb p n l Bg L k R (.returned (.int .i64 z)) w' := by
  subst hR hz; exact ⟨rfl, h⟩

/-- What the loop of fireFrom keeps in mind. -/
structure FrSt (W0 wr : World) (b BS mb : Nat) (p : Int) (n l Bg : Nat) (L : List (List Int)) (k H A t : Nat) (m : List Int) (R : Except Nat Sea) (s : Sea) (wv av : Value) : Prop where
  ok : SeaOk p n Bg s
  hk : k < s.ms.length
  at_ : s.ms.getD k [] = m
  row : rowS p L Bg m k (fromT t n) s = R
  sm : Sm W0 wr b BS mb p n l Bg L wv av s.ms (s.ms.drop (k + 1)) s.ar
  box : wr.heap[H]? = some (.cells (packOf m l) 93 (0, 0))
  len : s.ar.length ≤ A + t
  hH : W0.heap.size ≤ H ∧ H ≠ b ∧ H ≠ mb ∧ (∀ g, wv.ownBlock = some g → g ≠ H) ∧ (∀ g, av.ownBlock = some g → g ≠ H)

theorem FrSt.go {W0 wr w' : World} {b BS mb : Nat} {p : Int} {n l Bg : Nat} {L : List (List Int)} {k H A t : Nat} {m : List Int} {R : Except Nat Sea} {s : Sea} {wv av : Value} (h : FrSt W0 wr b BS mb p n l Bg L k H A t m R s wv av) (hb : Below wr.heap.size wr w') : FrSt W0 w' b BS mb p n l Bg L k H A t m R s wv av :=
  ⟨h.ok, h.hk, h.at_, h.row, h.sm.go hb, keep h.box hb, h.len, h.hH⟩

theorem FrSt.lens {W0 wr : World} {b BS mb : Nat} {p : Int} {n l Bg : Nat} {L : List (List Int)} {k H A t : Nat} {m : List Int} {R : Except Nat Sea} {s : Sea} {wv av : Value} (h : FrSt W0 wr b BS mb p n l Bg L k H A t m R s wv av) (hl : (l : Int) = p) : ∀ u ∈ s.ms, u.length = l := fun u hu => by
  have := (goodB_parts (h.ok.good u hu)).2.1
  omega

theorem turned_below {w w' : World} {b mb : Nat} {wv : Value} (hb : Below w.heap.size w w') : Turned w w' b mb wv wv := ⟨fun g h _ _ _ => hb.block g h, fun _ h => .inl h, hb.size⟩

/-- The program's meet, told by the function that the search goes by. -/
theorem meet_go {W0 w : World} {b BS mb : Nat} {p : Int} {n l Bg : Nat} {L : List (List Int)} {wv av : Value} {s : Sea} {k t : Nat} {m : List Int} (hs : Sm W0 w b BS mb p n l Bg L wv av s.ms (s.ms.drop (k + 1)) s.ar) (hok : SeaOk p n Bg s) (hl : (l : Int) = p) (hm : goodB p m = true) (hk : k < s.ms.length) (hB4 : Bg ≤ 400) :
    Calls Try.prog 178 #[.pointer (some ⟨b, 0, none⟩), .agg (packOf m l)] w fun e w' =>
      (∃ j ms' wv', e = .returned (.tuple #[.int .i64 (j : Nat), .bool true]) ∧ j ≤ 400 ∧ meetS Bg m k t s = .ok ⟨ms', s.ar ++ [(k, t, j)]⟩ ∧ Sm W0 w' b BS mb p n l Bg L wv' av ms' (ms'.drop (k + 1)) s.ar ∧ Turned w w' b mb wv wv') ∨
      (e = .returned (.tuple #[.int .i64 0, .bool false]) ∧ meetS Bg m k t s = .error 2 ∧ Below w.heap.size w w') := by
  have hml : m.length = l := by have := (goodB_parts hm).2.1; omega
  have hl16 : l ≤ 16 := by have := (goodB_parts hm).1; omega
  have hms : ∀ u ∈ s.ms, u.length = l := fun u hu => by have := (goodB_parts (hok.good u hu)).2.1; omega
  have hle := hok.le
  by_cases hq : m ∈ s.ms
  · refine (meet_old hs hl16 hms hml hq).mono ?_
    rintro e w' ⟨rfl, hb⟩
    refine .inl ⟨_, s.ms, wv, rfl, ?_, ?_, hs.go hb, turned_below hb⟩
    · have := List.idxOf_lt_length_of_mem hq; omega
    · unfold meetS; rw [if_pos hq]
  · by_cases hf : s.ms.length = Bg
    · refine (meet_full hs hl16 hms hml hq hf).mono ?_
      rintro e w' ⟨rfl, hb⟩
      refine .inr ⟨rfl, ?_, hb⟩
      unfold meetS; rw [if_neg hq, if_pos hf]
    · refine (meet_new hs hl16 hms hml hq hf hB4 (by rw [List.length_drop]; omega) hle hs.bel).mono ?_
      rintro e w' ⟨rfl, wv', hs', ht⟩
      refine .inl ⟨_, s.ms ++ [m], wv', rfl, by omega, ?_, ?_, ht⟩
      · unfold meetS; rw [if_neg hq, if_neg hf]
      · rw [List.drop_append_of_le_length (by omega)]; exact hs'

theorem Try.infoA : (Try.prog.info? 66).map (fun i => (i.zero, i.size, i.bytes)) = some (some (.agg #[.int .i64 0, .int .i64 0, .int .i64 0]), 3, 24) := by kernel_rfl

theorem FrSt.meets {W0 wr w1 : World} {b BS mb : Nat} {p : Int} {n l Bg : Nat} {L : List (List Int)} {k H A t : Nat} {m : List Int} {R : Except Nat Sea} {s : Sea} {wv wv1 av : Value} (h : FrSt W0 wr b BS mb p n l Bg L k H A t m R s wv av) (ht : Turned wr w1 b mb wv wv1) :
    w1.heap[H]? = some (.cells (packOf m l) 93 (0, 0)) ∧ ∀ g, wv1.ownBlock = some g → g ≠ H := by
  obtain ⟨h1, h2, h3, h4, h5⟩ := h.hH
  have hlt := row_lt h.box
  refine ⟨(ht.far H hlt h2 h3 fun e => h4 H e rfl).trans h.box, fun g hg => ?_⟩
  rcases ht.own g hg with e | e
  · exact h4 g e
  · omega

theorem FrSt.no {W0 wr : World} {b BS mb : Nat} {p : Int} {n l Bg : Nat} {L : List (List Int)} {k H A t : Nat} {m : List Int} {R : Except Nat Sea} {s : Sea} {wv av : Value} (h : FrSt W0 wr b BS mb p n l Bg L k H A t m R s wv av) (ht : t < n) (hc : canT L m t = false) : FrSt W0 wr b BS mb p n l Bg L k H A (t + 1) m R s wv av :=
  ⟨h.ok, h.hk, h.at_, rowS_no ht h.row hc, h.sm, h.box, by have := h.len; omega, h.hH⟩

/-- An arc more. -/
theorem FrSt.step {W0 wr w1 w2 : World} {b BS mb : Nat} {p : Int} {n l Bg : Nat} {L : List (List Int)} {k H A t j : Nat} {m : List Int} {R : Except Nat Sea} {s : Sea} {wv wv1 av v : Value} {ms' : List (List Int)} (h : FrSt W0 wr b BS mb p n l Bg L k H A t m R s wv av) (ht : t < n) (hc : canT L m t = true)
    (h1 : oneS p L Bg m k t s = .ok ⟨ms', s.ar ++ [(k, t, j)]⟩) (hT : Turned wr w1 b mb wv wv1) (hs : Sm W0 w1 b BS mb p n l Bg L wv1 av ms' (ms'.drop (k + 1)) s.ar)
    (hg : w1.grownBy w2 av.ownBlock) (ho : w2.ownsRow W0.heap.size 66 3 v (s.ar.length + 1) (arcsL s.ar ++ [.int .i64 (k : Int), .int .i64 (t : Int), .int .i64 (j : Int)])) (hl : av.ownBlock = v.ownBlock ∨ ∃ g, v.ownBlock = some g ∧ w1.heap.size ≤ g) :
    FrSt W0 (w2.setCell ⟨b, 5, none⟩ v) b BS mb p n l Bg L k H A (t + 1) m R ⟨ms', s.ar ++ [(k, t, j)]⟩ wv1 v := by
  obtain ⟨a1, a2, a3⟩ := oneS_ok h.ok h.hk ht h1
  obtain ⟨hb1, hb2⟩ := h.meets hT
  obtain ⟨c1, c2, c3, c4, c5⟩ := h.hH
  have hHl := row_lt h.box
  have hHl1 := row_lt hb1
  refine ⟨a1, Nat.lt_of_lt_of_le h.hk a3.length_le, (prefix_getD a3 h.hk []).trans h.at_, rowS_yes ht h.row hc h1, ?_, ?_, by have := h.len; simp; omega, c1, c2, c3, hb2, ?_⟩
  · refine hs.arc hg (by rw [List.length_append, arcsL_snoc]; exact ho) fun g hgv => ?_
    rcases hl with e | ⟨g', e, hg'⟩
    · left; rw [e]; exact hgv
    · right; rw [e] at hgv; have := Option.some.inj hgv; omega
  · exact (Below.heap_setCell _ _ _ _ c2).trans ((hg.block H hHl1 fun e => c5 H e.symm rfl).trans hb1)
  · intro g hgv
    rcases hl with e | ⟨g', e, hg'⟩
    · exact c5 g (by rw [e]; exact hgv)
    · rw [e] at hgv; have := Option.some.inj hgv; omega

theorem FrSt.err {W0 wr : World} {b BS mb : Nat} {p : Int} {n l Bg : Nat} {L : List (List Int)} {k H A t c : Nat} {m : List Int} {R : Except Nat Sea} {s : Sea} {wv av : Value} {z : Int} (h : FrSt W0 wr b BS mb p n l Bg L k H A t m R s wv av) (hR : R = .error c) (hz : (c : Int) = z) : FrEnd W0 b BS mb p n l Bg L k R (.returned (.int .i64 z)) wr :=
  frEnd_err hR hz h.sm.bel

theorem own_form {w : World} {B : Nat} {e : TypeId} {size : Nat} {v : Value} {n : Nat} {xs : List Value} (h : w.ownsRow B e size v n xs) : ∃ a c, v = .slice a n c := by
  rcases h.2 with ⟨rfl, rfl⟩ | ⟨g, cap, cur, rfl, _⟩
  · exact ⟨_, _, rfl⟩
  · exact ⟨_, _, rfl⟩

theorem oneS_good {p : Int} {L : List (List Int)} {B : Nat} {m : List Int} {k t : Nat} {s : Sea} (h : goodB p (fireT L m t) = true) : oneS p L B m k t s = meetS B (fireT L m t) k t s := by unfold oneS; rw [if_pos h]
theorem oneS_no {p : Int} {L : List (List Int)} {B : Nat} {m : List Int} {k t : Nat} {s : Sea} (h : goodB p (fireT L m t) = false) : oneS p L B m k t s = .error 3 := by unfold oneS; rw [if_neg (by rw [h]; decide)]


set_option maxHeartbeats 8000000 in
theorem fireFrom_any {W0 w : World} {b BS mb : Nat} {p : Int} {n l Bg : Nat} {L : List (List Int)} {wv av : Value} {s : Sea} {k A : Nat} {m : List Int} (hs : Sm W0 w b BS mb p n l Bg L wv av s.ms (s.ms.drop (k + 1)) s.ar) (hok : SeaOk p n Bg s) (hl : (l : Int) = p) (hnet : netOk p n L = true) (hk : k < s.ms.length) (hm : s.ms.getD k [] = m) (hB4 : Bg ≤ 400) (hA : s.ar.length ≤ A) (hA2 : A ≤ 9600) (hbw : Below W0.heap.size W0 w) :
    Calls Try.prog 179 #[.pointer (some ⟨b, 0, none⟩), .agg (packOf m l)] w fun e w' => FrEnd W0 b BS mb p n l Bg L k (rowS p L Bg m k (List.range n) s) e w' := by
  have hg := hok.goodAt hk
  rw [hm] at hg
  obtain ⟨⟨hp1, hp2⟩, hyl, hyb⟩ := goodB_parts hg
  have hn24 := netOkN hnet
  have hl16 : l ≤ 16 := by omega
  have hml : m.length = l := by omega
  have hfs : Hid (∀ i, 0 ≤ fOf m l i ∧ fOf m l i ≤ 50) := fun i => by
    unfold fOf; split
    · exact hyb i
    · omega
  have HMS : Hid (∀ u ∈ s.ms, u.length = l) := fun u hu => by have := (goodB_parts (hok.good u hu)).2.1; omega
  have HIX : Hid (s.ms.idxOf m = k) := by rw [Hid, ← hm]; exact idxOf_at hok.nodup hk
  have HMM : Hid (m ∈ s.ms) := by rw [Hid, ← hm]; exact mem_at hk
  obtain ⟨R, hR⟩ : ∃ R, Hid (rowS p L Bg m k (List.range n) s = R) := ⟨_, rfl⟩
  rw [hR.out]
  have hbs := hs.blt
  have hHH : w.heap.size ≠ b ∧ w.heap.size ≠ mb ∧ (∀ g, wv.ownBlock = some g → g ≠ w.heap.size) ∧ (∀ g, av.ownBlock = some g → g ≠ w.heap.size) :=
    ⟨by omega, by have := hs.map.lt; omega, fun g hg => by have := (hs.que.lt hg).2; omega, fun g hg => by have := (own_lt hs.arcs hg).2; omega⟩
  have HF := hide (show FrSt W0 (w.alloc (.cells (packOf m l) 93)) b BS mb p n l Bg L k w.heap.size A 0 m R s wv av from
    ⟨hok, hk, hm, by rw [← fromT_all]; exact hR.out, hs.go (below_al w _), heap_alloc_new _ _, by omega, ⟨hbw.size, hHH⟩⟩)
  have HNET := hide hnet
  have HG := hide hg
  clear hs hok hm hA hbw hg hnet hyb hR hHH hyl
  go_enter Try.func179, Try.ntmps179
  go_upto_region 1 with fail
  generalize w.alloc (.cells (packOf m l) 93) = v at *
  refine wp_region_held_drew (S := fun W => W.cell? ⟨b, 3, none⟩ = some (.map (some mb)) ∧ W.heap[w.heap.size]? = some (.cells (packOf m l) 93 (0, 0)) ∧ MapIs W mb l s.ms) (by kernel_rfl) ?_ (fun hHeld => ?_)
  · exact ⟨HF.out.sm.cells.2.2.2.1, HF.out.box, HF.out.sm.map⟩
  refine take_yes (i := 0) (some 12) (.pointer (some ⟨b, 0, none⟩)) rfl rfl (by kernel_rfl) (by kernel_rfl) (by kernel_rfl) (fun _ _ _ h => h) (by rfl) ?_ (by assumption) ?_
  · intro W' hSw
    go_simp
  simp only [Act.put, List.setIfInBounds_toArray, List.set_cons_zero, List.set_cons_succ]
  refine take_yes (i := 1) (some 13) (.pointer (some ⟨b, 0, none⟩)) rfl rfl (by kernel_rfl) (by kernel_rfl) (by kernel_rfl) (fun _ _ _ h => h) (by rfl) ?_ (by assumption) ?_
  · intro W' hSw
    go_simp
  simp only [Act.put, List.setIfInBounds_toArray, List.set_cons_zero, List.set_cons_succ]
  refine take_yes (i := 2) (some 14) (.pointer (some ⟨b, 3, none⟩)) rfl rfl (by kernel_rfl) (by kernel_rfl) (by kernel_rfl) (fun _ _ _ h => h) (by rfl) ?_ (by assumption) ?_
  · intro W' hSw
    go_simp
  simp only [Act.put, List.setIfInBounds_toArray, List.set_cons_zero, List.set_cons_succ]
  refine take_yes (i := 3) (some 15) (.map (some mb)) rfl rfl (by kernel_rfl) (by kernel_rfl) (by kernel_rfl) (fun _ _ _ h => h) (by rfl) ?_ (by assumption) ?_
  · intro W' hSw
    obtain ⟨hz0, hz1, hz2⟩ := hSw
    go_simp
  simp only [Act.put, List.setIfInBounds_toArray, List.set_cons_zero, List.set_cons_succ]
  refine take_yes (i := 4) (some 16) (.agg (packOf m l)) rfl rfl (by kernel_rfl) (by kernel_rfl) (by kernel_rfl) (fun _ _ _ h => h) (by rfl) ?_ (by assumption) ?_
  · intro W' hSw
    obtain ⟨hz0, hz1, hz2⟩ := hSw
    exact exec_load_row 93 _ rfl _ rfl 93 _ _ _ hz1 Try.underlying93 rfl (by rw [packOf_size]; exact Try.size93)
  simp only [Act.put, List.setIfInBounds_toArray, List.set_cons_zero, List.set_cons_succ]
  refine take_yes (i := 5) (some 17) (.int .i64 (k : Int)) rfl rfl (by kernel_rfl) (by kernel_rfl) (by kernel_rfl) (fun _ _ _ h => h) (by rfl) ?_ (by assumption) ?_
  · intro W' hSw
    obtain ⟨hz0, hz1, hz2⟩ := hSw
    have hr := run_lookTok hl16 hml HMS.out hz2 false
    rw [if_neg (by decide), if_pos HMM.out, HIX.out] at hr
    exact exec_lookup 131 (.tmp 15) (.tmp 16) false rfl (.map (some mb)) (.agg (packOf m l)) _ rfl rfl hr
  simp only [Act.put, List.setIfInBounds_toArray, List.set_cons_zero, List.set_cons_succ]
  refine take_yes (i := 6) (some 18) (.agg (packOf m l)) rfl rfl (by kernel_rfl) (by kernel_rfl) (by kernel_rfl) (fun _ _ _ h => h) (by rfl) ?_ (by assumption) ?_
  · intro W' hSw
    obtain ⟨hz0, hz1, hz2⟩ := hSw
    exact exec_load_row 93 _ rfl _ rfl 93 _ _ _ hz1 Try.underlying93 rfl (by rw [packOf_size]; exact Try.size93)
  simp only [Act.put, List.setIfInBounds_toArray, List.set_cons_zero, List.set_cons_succ]
  have HF1 : Hid (FrSt W0 v.drew b BS mb p n l Bg L k w.heap.size A 0 m R s wv av) := HF.out.go (Below.refl _ _).drew
  clear HF
  generalize v.drew = v1 at *
  have HF2 := hide (HF1.out.go (below_al v1 (.cells (tokF (fOf m l)) 93)))
  refine call_next (i := 7) (some 19) rfl rfl (by kernel_rfl) (by rfl) 120 _ _ _ rfl Try.func120 (by decide) rfl #[.agg (packOf m l)] (mapw1 _ _ _ rfl) _ (markedI_any (fOf m l) v1 (fun i => by have := hfs.out i; omega)) ?_
  rintro e w' ⟨rfl, rfl⟩
  refine ⟨_, rfl, ⟨HF2.out.sm.cells.2.2.2.1, HF2.out.box, HF2.out.sm.map⟩, fun _ => ?_⟩
  simp only [Act.put, List.setIfInBounds_toArray, List.set_cons_zero, List.set_cons_succ]
  clear HF1 hHeld
  generalize v1.alloc (.cells (tokF (fOf m l)) 93) = v2 at *
  refine take_yes (i := 8) (some 5) (.int .i64 (k : Int)) rfl rfl (by kernel_rfl) (by kernel_rfl) (by kernel_rfl) (fun _ _ _ h => h) (by rfl) ?_ (by assumption) ?_
  · intro W' hSw
    go_simp
  simp only [Act.put, List.setIfInBounds_toArray, List.set_cons_zero, List.set_cons_succ]
  refine take_yes (i := 9) (some 6) (.int .u16 (maskL (posL (fOf m l) 16) : Int)) rfl rfl (by kernel_rfl) (by kernel_rfl) (by kernel_rfl) (fun _ _ _ h => h) (by rfl) ?_ (by assumption) ?_
  · intro W' hSw
    go_simp
  simp only [Act.put, List.setIfInBounds_toArray, List.set_cons_zero, List.set_cons_succ]
  refine wpAnyH_done (by kernel_rfl) ?_ _
  obtain ⟨M, hM⟩ : ∃ M, Hid (maskL (posL (fOf m l) 16) = M) := ⟨_, rfl⟩
  rw [hM.out]
  have hc1 := HF2.out.sm.cells.2.1
  go_wp2_with fail
  clear hc1
  go_loopw [26] (fun i wr => ∃ (t : Nat) (s' : Sea) (wv' av' : Value), t ≤ n ∧ i = .int .i64 t ∧ Hid (FrSt W0 wr b BS mb p n l Bg L k w.heap.size A t m R s' wv' av')) (fun i _ => n - (intOf i).toNat)
  case atStart => exact ⟨0, s, wv, av, Nat.zero_le _, rfl, HF2⟩
  case round =>
    clear HF2
    obtain ⟨t, s', wv', av', ht, rfl, hf⟩ := hrel
    by_cases hlt : t < n
    rotate_left
    · have hR := hide (frEnd_ok (rowS_end hlt hf.out.row) hf.out.sm)
      have hti : ¬ (t : Int) < (n : Int) := by omega
      go_wp2_with fail
      go_ret
      exact hR.out
    obtain ⟨hc0, hc1, hc2⟩ := hf.out.sm.steps.at' hlt
    have htri := tri_rise (triOkOf HNET.out hlt)
    have HS0 := hide (mask16' htri.1 ⟨hp1, hp2⟩)
    have HS1 := hide (mask16' htri.2.1 ⟨hp1, hp2⟩)
    have HS2 := hide (mask16' htri.2.2 ⟨hp1, hp2⟩)
    have HLK := hide (step_links HNET.out HG.out hl hlt)
    obtain ⟨s0, hs0⟩ : ∃ x, Hid (maskL (L.getD (3 * t) []) = x) := ⟨_, rfl⟩
    obtain ⟨s1, hs1⟩ : ∃ x, Hid (maskL (L.getD (3 * t + 1) []) = x) := ⟨_, rfl⟩
    obtain ⟨s2, hs2⟩ : ∃ x, Hid (maskL (L.getD (3 * t + 2) []) = x) := ⟨_, rfl⟩
    rw [hs0.out, hs1.out, hs2.out] at HLK
    rw [hM.out] at HLK
    rw [hs0.out] at hc0 HS0
    rw [hs1.out] at hc1 HS1
    rw [hs2.out] at hc2 HS2
    have hti : (t : Int) < (n : Int) := by omega
    have ht0 : (0 : Int) ≤ (t : Int) := by omega
    have HF3 := hide ((hf.out.go (below_al wr (.cells #[.int .u16 (s0 : Int), .int .u16 (s1 : Int), .int .u16 (s2 : Int)] 88))).go (below_al _ (.cells #[.int .u16 (s0 : Int), .int .u16 (s1 : Int), .int .u16 (s2 : Int)] 88)))
    have PT3 := keep (heap_alloc_new wr (.cells #[.int .u16 (s0 : Int), .int .u16 (s1 : Int), .int .u16 (s2 : Int)] 88)) (below_al _ (.cells #[.int .u16 (s0 : Int), .int .u16 (s1 : Int), .int .u16 (s2 : Int)] 88))
    clear htri hs0 hs1 hs2 hf
    go_wp2_with fail
    refine (enables_any M s0 s1 s2 _ HS0.out).mono ?_
    rintro e w' ⟨rfl, rfl⟩
    rw [HLK.out.1]
    clear hc0 hc1 hc2
    generalize (wr.alloc (.cells #[.int .u16 (s0 : Int), .int .u16 (s1 : Int), .int .u16 (s2 : Int)] 88)).alloc (.cells #[.int .u16 (s0 : Int), .int .u16 (s1 : Int), .int .u16 (s2 : Int)] 88) = v3 at *
    by_cases hcan : canT L m t = true
    rotate_left
    · have hcan' : canT L m t = false := by simpa using hcan
      have HN := hide (HF3.out.no hlt hcan')
      rw [hcan']
      clear hcan hcan' PT3
      go_wp2_with fail
      go_roundw
      case rel => exact ⟨t + 1, s', wv', av', by omega, by go_num, HN⟩
      case measure => simp [intOf]; omega
    have HC := hide hcan
    have HEN : Hid (∀ i, s0.testBit i = true → 0 < fOf m l i) := fun i hi => by
      have h := HLK.out.1.trans hcan
      rw [← hM.out] at h
      have := subF_iff.mp h i hi
      rw [posL_bit] at this
      simp only [Bool.and_eq_true, decide_eq_true_eq] at this
      exact this.2
    rw [hcan]
    have hq0 := cell_of_row v3 wr.heap.size 0 _ _ _ PT3
    have hq1 := cell_of_row v3 wr.heap.size 1 _ _ _ PT3
    have hq2 := cell_of_row v3 wr.heap.size 2 _ _ _ PT3
    simp at hq0 hq1 hq2
    have hbx := HF3.out.box
    clear hcan
    go_wp2_with (refine wpList_load_row rfl 93 _ rfl _ rfl 93 (packOf m l) (0, 0) _ hbx Try.underlying93 rfl (by rw [packOf_size]; exact Try.size93) ?_)
    refine (after_any s0 s1 s2 (fOf m l) _ HS0.out HS1.out HS2.out hfs.out HEN.out).mono ?_
    rintro e w3 ⟨h, rfl, hh, hb3⟩
    have HF4 := hide (HF3.out.go hb3)
    have hz3 := hb3.size
    clear HF3 hb3 hq0 hq1 hq2 hbx PT3 HEN
    have hg0 := heap_alloc_new w3 (.cells #[.int .u8 0, .int .u8 0, .int .u8 0, .int .u8 0, .int .u8 0, .int .u8 0, .int .u8 0, .int .u8 0, .int .u8 0, .int .u8 0, .int .u8 0, .int .u8 0, .int .u8 0, .int .u8 0, .int .u8 0, .int .u8 0] 93)
    have hg1 := setRow_same hg0 (tokF h)
    have HF5 : Hid (FrSt W0 ((w3.alloc (.cells #[.int .u8 0, .int .u8 0, .int .u8 0, .int .u8 0, .int .u8 0, .int .u8 0, .int .u8 0, .int .u8 0, .int .u8 0, .int .u8 0, .int .u8 0, .int .u8 0, .int .u8 0, .int .u8 0, .int .u8 0, .int .u8 0] 93)).setRow w3.heap.size (tokF h)) b BS mb p n l Bg L k w.heap.size A t m R s' wv' av') :=
      HF4.out.go (below_setRow (below_al w3 (.cells #[.int .u8 0, .int .u8 0, .int .u8 0, .int .u8 0, .int .u8 0, .int .u8 0, .int .u8 0, .int .u8 0, .int .u8 0, .int .u8 0, .int .u8 0, .int .u8 0, .int .u8 0, .int .u8 0, .int .u8 0, .int .u8 0] 93)) w3.heap.size (Nat.le_refl _) (tokF h))
    have hcap := HLK.out.2.1 HC.out
    by_cases hgd : goodB p (fireT L m t) = true
    rotate_left
    · have hgd' : goodB p (fireT L m t) = false := by simpa using hgd
      have hcf := hcap.symm.trans hgd'
      have HN := hide (HF5.out.err (rowS_bad hlt HF5.out.row HC.out (oneS_no hgd')) (show ((3 : Nat) : Int) = 3 from rfl))
      rw [hcf]
      clear hgd hgd' hcf hcap hh HF4 HF5
      go_wp2_with (refine wpList_store_row rfl 93 _ _ rfl _ _ rfl rfl 93 _ hg0 (by rw [tokF_size]; exact Try.size93) (by rw [tokF_size]; rfl) (tokF_one _) ?_)
      go_ret
      exact HN.out
    have hct := hcap.symm.trans hgd
    have HGD := hide hgd
    have hh2 := hh.out hct
    have htk : tokF h = packOf (fireT L m t) l := by rw [hh2]; exact HLK.out.2.2
    rw [hct]
    rw [htk] at hg1 HF5 ⊢
    clear hgd hct hcap hh hh2 htk HF4
    have hg2 := hg1
    go_wp2_with (first
      | refine wpList_store_row rfl 93 _ _ rfl _ _ rfl rfl 93 _ hg0 (by rw [packOf_size]; exact Try.size93) (by rw [packOf_size]; rfl) (packOf_one _ _) ?_
      | refine wpList_load_row rfl 93 _ rfl _ rfl 93 (packOf (fireT L m t) l) (0, 0) _ hg2 Try.underlying93 rfl (by rw [packOf_size]; exact Try.size93) ?_)
    clear hg0 hg1 hg2
    generalize (w3.alloc (.cells #[.int .u8 0, .int .u8 0, .int .u8 0, .int .u8 0, .int .u8 0, .int .u8 0, .int .u8 0, .int .u8 0, .int .u8 0, .int .u8 0, .int .u8 0, .int .u8 0, .int .u8 0, .int .u8 0, .int .u8 0, .int .u8 0] 93)).setRow w3.heap.size (packOf (fireT L m t) l) = w4 at *
    refine (meet_go HF5.out.sm HF5.out.ok hl HGD.out HF5.out.hk hB4 (t := t)).mono ?_
    rintro e w5 (⟨j, ms', wv5, rfl, hj4, hmt, hs5, ht5⟩ | ⟨rfl, hmt, hb5⟩)
    rotate_left
    · have HN := hide ((HF5.out.go hb5).err (rowS_bad hlt HF5.out.row HC.out ((oneS_good HGD.out).trans hmt)) (show ((2 : Nat) : Int) = 2 from rfl))
      clear HF5 hmt hb5
      go_wp2_with fail
      go_ret
      exact HN.out
    have HONE := hide ((oneS_good HGD.out).trans hmt)
    have HS5 := hide hs5
    have HT5 := hide ht5
    clear hmt hs5 ht5
    obtain ⟨aa, ac, haf⟩ := own_form HS5.out.arcs
    subst haf
    have HS6 := hide (HS5.out.go (below_al w5 (.cells #[.int .i64 (k : Int), .int .i64 (t : Int), .int .i64 (j : Int)] 66)))
    have HT6 : Hid (Turned w4 (w5.alloc (.cells #[.int .i64 (k : Int), .int .i64 (t : Int), .int .i64 (j : Int)] 66)) b mb wv' wv5) :=
      ⟨fun g h1 h2 h3 h4 => (heap_al_old _ _ _ (Nat.lt_of_lt_of_le h1 HT5.out.size)).trans (HT5.out.far g h1 h2 h3 h4), HT5.out.own, by have := HT5.out.size; simp; omega⟩
    have HNW := hide (World.news_of_block (heap_alloc_new w5 (.cells #[.int .i64 (k : Int), .int .i64 (t : Int), .int .i64 (j : Int)] 66)))
    have hlen5 := HF5.out.len
    have hzz := HS6.out.bel.size
    obtain ⟨i2, hi2, hy0, hy1, hy2⟩ := info_split Try.infoA
    obtain ⟨hx0, hx1, hx2, hx3, hx4, hx5⟩ := HS5.out.cells
    have hjj : (j : Int) ≤ 400 := by omega
    go_wp2_with (at_builtin; refine wpList_append_lies _ rfl (.tmp 55) (.tmp 60) 59 rfl W0.heap.size 66 i2 _ 3 24 Try.underlying59 hi2 hy0 hy1 hy2 rfl (by decide) (.slice aa s'.ar.length ac) s'.ar.length (arcsL s'.ar) rfl HS6.out.arcs ⟨w5.heap.size, 0, none⟩ 1 1 [.int .i64 (k : Int), .int .i64 (t : Int), .int .i64 (j : Int)] rfl rfl HNW.out (by simp [Value.oneCell']) (by decide) (by unfold maxLen; omega) (by omega) hzz _ rfl ?_; intro g cp W' hown hgr hlies hglt; have hst := (hgr.block b HS6.out.blt (fun e => (HS6.out.sepa b e.symm).1 rfl)).trans HS6.out.st; have hz4 : W'.cell? ⟨b, 5, none⟩ = some (.slice aa s'.ar.length ac) := cell_of_row W' b 5 _ _ _ hst; have hz5 : W'.frozen? ⟨b, 5, none⟩ = false := frozen_of_row W' b 5 _ _ hst)
    have HFF := hide (HF5.out.step hlt HC.out HONE.out HT6.out HS6.out hgr hown (hlies.imp (fun h => h) (fun h => ⟨g, rfl, by rw [h]; exact Nat.le_refl _⟩)))
    clear hst hown hgr hlies hglt HF5 HS5 HS6 HT5 HT6 HNW HONE hx0 hx1 hx2 hx3 hx4 hx5 hi2 hz4 hz5
    go_roundw
    case rel => exact ⟨t + 1, _, _, _, by omega, by go_num, HFF⟩
    case measure => simp [intOf]; omega
end Go.Proofs.Ytdhnhpjcoeglmaa


/- The program's run: the search goes on until no mark waits; for every state at its start. -/
namespace Go.Proofs.Ytdhnhpjcoeglmaa
open Go.RowKit
open Go.ChangeMaps (setBlock heap_setBlock_same heap_setBlock_other)
set_option maxRecDepth 10000

def encQ (l : Nat) (m : List Int) : List Value := (packOf m l).toList
theorem encQ_len (l : Nat) (m : List Int) : (encQ l m).length = 16 := by simp [encQ, packOf_size]

theorem wpList_load_tokQ {ops : Array Oper} {rest : List Oper} {op : Oper} {a : Act} {w : World} {Q : Exit → Act → World → Prop} (hgd : op.guard = none) (x : Operand) (ho : op.op = .load 93 x)
    (b o : Nat) (hx : a.eval x = .pointer (some ⟨b, o, none⟩)) (l : Nat) (m : List Int) (hc : w.rangeAt b o (encQ l m))
    (h : wpList Try.prog ops Q rest (a.put op.dst (.agg (packOf m l))) w) : wpList Try.prog ops Q (op :: rest) a w := by
  refine wpList_load_mid hgd 93 x ho b o hx (encQ l m) _ hc Try.underlying93 rfl (by rw [encQ_len]; exact Try.size93) ?_
  simpa [encQ] using h

theorem run_pop (w : World) (g off q cap : Nat) (h1 : 1 ≤ q) : (Instr.sliceAt 132 (.slice (some ⟨g, off, none⟩) q cap) (some (.int .i64 1)) none none).run Try.prog w = .ok (.slice (some ⟨g, if cap = 1 then off else off + 16, none⟩) (q - 1) (cap - 1)) w := by
  obtain ⟨i0, hi, hz0, hz1, hz2⟩ := info_splitTQ Try.infoTQ
  have h3 : (1 : Int) ≤ (q : Int) := by omega
  by_cases hc : cap = 1
  · simp [Instr.sliceAt, Instr.slice, Instr.sliceBounds, Instr.sliceBound, asIntOf, run_underlying Try.underlying132, sizeOf, typeInfo, hi, h3, Result.andThen, hc]
  · simp [Instr.sliceAt, Instr.slice, Instr.sliceBounds, Instr.sliceBound, asIntOf, run_underlying Try.underlying132, sizeOf, typeInfo, hi, hz1, h3, Result.andThen, hc, Addr.add_mid]

theorem wpList_pop {ops : Array Oper} {rest : List Oper} {op : Oper} {a : Act} {w : World} {Q : Exit → Act → World → Prop} (hgd : op.guard = none) (x : Operand) (ho : op.op = .slice 132 x (some (.const (.int .i64 1))) none none)
    (g off q cap : Nat) (o2 : Nat) (ho2 : (if cap = 1 then off else off + 16) = o2) (hx : a.eval x = .slice (some ⟨g, off, none⟩) q cap) (h1 : 1 ≤ q)
    (h : wpList Try.prog ops Q rest (a.put op.dst (.slice (some ⟨g, o2, none⟩) (q - 1) (cap - 1))) w) : wpList Try.prog ops Q (op :: rest) a w := by
  subst ho2
  refine wpList_plain hgd fun K hK => ?_
  have hr : (execOp a.eval op).run Try.prog w = .ok (.value (.slice (some ⟨g, if cap = 1 then off else off + 16, none⟩) (q - 1) (cap - 1))) w := by
    unfold execOp
    simp only [ho, hx, Option.map_some, Option.map_none]
    rw [show a.eval (.const (.int .i64 1)) = .int .i64 1 from rfl, Sem.run_bind, run_pop w g off q cap h1]
    rfl
  unfold Oper.wp
  rw [hr]
  exact hK _ _ h

/-- How many marks are done, as memory tells it. -/
def doneW (w : World) (b mb : Nat) : Nat :=
  (match w.heap[mb]? with | some (.map es _) => es.size | _ => 0) - (match w.cell? ⟨b, 4, none⟩ with | some (.slice _ n _) => n | _ => 0)

theorem Sm.done {W0 w : World} {b BS mb : Nat} {p : Int} {n l Bg : Nat} {L : List (List Int)} {wv av : Value} {ms qs : List (List Int)} {ar : List (Nat × Nat × Nat)} (h : Sm W0 w b BS mb p n l Bg L wv av ms qs ar) : doneW w b mb = ms.length - qs.length := by
  have h1 := h.map
  unfold MapIs at h1
  have h2 := h.cells.2.2.2.2.1
  unfold doneW
  rw [h1, h2]
  rcases h.que.2 with ⟨e, e2⟩ | ⟨g, off, cap, e, _⟩
  · rw [e]; simp [entsOf_size, e2]
  · rw [e]; simp [entsOf_size]

/-- How run ends. -/
def RuEnd (W0 : World) (b BS mb : Nat) (p : Int) (n l Bg : Nat) (L : List (List Int)) (R : Except Nat Sea) (e : Ending) (w' : World) : Prop :=
  match R with
  | .ok s' => e = .returned (.int .i64 1) ∧ SeaOk p n Bg s' ∧ s'.ar.length ≤ 9600 ∧ ∃ wv av, Sm W0 w' b BS mb p n l Bg L wv av s'.ms [] s'.ar
  | .error c => e = .returned (.int .i64 (c : Int)) ∧ (c = 2 ∨ c = 3) ∧ Below W0.heap.size W0 w'

theorem ruEnd_ok {W0 w' : World} {b BS mb : Nat} {p : Int} {n l Bg : Nat} {L : List (List Int)} {R : Except Nat Sea} {s' : Sea} {wv av : Value} (hR : R = .ok s') (h0 : SeaOk p n Bg s') (h1 : s'.ar.length ≤ 9600) (h : Sm W0 w' b BS mb p n l Bg L wv av s'.ms [] s'.ar) : RuEnd W0 b BS mb p n l Bg L R (.returned (.int .i64 1)) w' := by
  subst hR; exact ⟨rfl, h0, h1, _, _, h⟩
theorem ruEnd_err {W0 w' : World} {b BS mb : Nat} {p : Int} {n l Bg : Nat} {L : List (List Int)} {R : Except Nat Sea} {c : Nat} (hR : R = .error c) (hc : c = 2 ∨ c = 3) (h : Below W0.heap.size W0 w') : RuEnd W0 b BS mb p n l Bg L R (.returned (.int .i64 (c : Int))) w' := by
  subst hR; exact ⟨rfl, hc, h⟩

/-- What the loop of run keeps in mind. -/
structure RuSt (W0 wr : World) (b BS mb : Nat) (p : Int) (n l Bg : Nat) (L : List (List Int)) (k : Nat) (R : Except Nat Sea) (s : Sea) (wv av : Value) : Prop where
  ok : SeaOk p n Bg s
  hk : k ≤ s.ms.length
  sea : seaS p n L Bg (Bg - k) k s = R
  sm : Sm W0 wr b BS mb p n l Bg L wv av s.ms (s.ms.drop k) s.ar
  len : s.ar.length ≤ k * n

theorem drop_at {ms : List (List Int)} {k : Nat} (hk : k < ms.length) : ms.drop k = ms.getD k [] :: ms.drop (k + 1) := by
  rw [List.getD_eq_getElem?_getD, List.getElem?_eq_getElem hk]
  exact List.drop_eq_getElem_cons hk

/-- The first of those that wait is cut off. -/
theorem RuSt.pop {W0 wr : World} {b BS mb : Nat} {p : Int} {n l Bg : Nat} {L : List (List Int)} {k : Nat} {R : Except Nat Sea} {s : Sea} {wv av : Value} (h : RuSt W0 wr b BS mb p n l Bg L k R s wv av) (hk : k < s.ms.length) :
    ∃ g off cap, wv = .slice (some ⟨g, off, none⟩) (s.ms.length - k) cap ∧ s.ms.length - k ≤ cap ∧ cap ≤ maxLen ∧ wr.rangeAt g off (encQ l (s.ms.getD k [])) ∧ popV 16 wv = .slice (some ⟨g, if cap = 1 then off else off + 16, none⟩) (s.ms.length - k - 1) (cap - 1) ∧
      ∀ w', Below wr.heap.size wr w' → Sm W0 (w'.setCell ⟨b, 4, none⟩ (popV 16 wv)) b BS mb p n l Bg L (popV 16 wv) av s.ms (s.ms.drop (k + 1)) s.ar := by
  have hq := h.sm.que
  rw [drop_at hk] at hq
  have hlen : (s.ms.drop (k + 1)).length + 1 = s.ms.length - k := by rw [List.length_drop]; omega
  rw [List.length_cons] at hq
  have hp := hq.pop
  rw [toksL_drop] at hp
  have hb := popV_block 16 hq
  rcases hq.2 with ⟨_, h0⟩ | ⟨g, off, cap, rfl, h1, h2, h3, h4, h5, h6⟩
  · omega
  · rw [hlen] at *
    refine ⟨g, off, cap, rfl, h3, h4, ?_, rfl, ?_⟩
    · intro j v hv
      refine h5 j v ?_
      have hv' : (packOf (s.ms.getD k []) l).toList[j]? = some v := hv
      rw [toksL_cons, List.getElem?_append_left (List.getElem?_eq_some_iff.mp hv').1]; exact hv'
    · intro w' hbw
      have hs := h.sm.go hbw
      refine hs.waiting ⟨rfl, rfl, rfl, Nat.le_refl _, fun _ _ _ => rfl⟩ ?_ fun g' hg' => .inl ?_
      · exact hp.grow hbw
      · rw [hb] at hg'; exact hg'


set_option maxHeartbeats 400000 in
theorem run_any {W0 w : World} {b BS mb : Nat} {p : Int} {n l Bg : Nat} {L : List (List Int)} {wv av : Value} {m : List Int} (hs : Sm W0 w b BS mb p n l Bg L wv av [] [] []) (hl : (l : Int) = p) (hnet : netOk p n L = true) (hg : goodB p m = true) (hB1 : 1 ≤ Bg) (hB4 : Bg ≤ 400) (hbw : Below W0.heap.size W0 w) :
    Calls Try.prog 155 #[.pointer (some ⟨b, 0, none⟩), .agg (packOf m l)] w fun e w' => RuEnd W0 b BS mb p n l Bg L (searchS p n L Bg m) e w' := by
  obtain ⟨⟨hp1, hp2⟩, hyl, hyb⟩ := goodB_parts hg
  have hn24 := netOkN hnet
  have hl16 : l ≤ 16 := by omega
  have hml : m.length = l := by omega
  obtain ⟨R, hR⟩ : ∃ R, Hid (searchS p n L Bg m = R) := ⟨_, rfl⟩
  rw [hR.out]
  have hb0 := heap_alloc_new w (.cells (packOf m l) 93)
  have HM := hide (meet_new (m := m) (hs.go (below_al w (.cells (packOf m l) 93))) hl16 (by simp) hml (by simp) (by simp; omega) hB4 (by simp) (by simp) (hbw.alloc hbw.size _))
  have HNET := hide hnet
  have HG := hide hg
  clear hs hbw hnet hg hyb
  go_enter Try.func155, Try.ntmps155
  go_wp2_with (refine wpList_load_row rfl 93 _ rfl _ rfl 93 (packOf m l) (0, 0) _ hb0 Try.underlying93 rfl (by rw [packOf_size]; exact Try.size93) ?_)
  refine HM.out.mono ?_
  rintro e w1 ⟨rfl, wv1, hs1, _⟩
  have HF := hide (show RuSt W0 w1 b BS mb p n l Bg L 0 R (sea0 m) wv1 av from
    ⟨SeaOk.start hB1 HG.out, by simp, by rw [Nat.sub_zero]; exact hR.out, by simpa [sea0] using hs1, by simp [sea0]⟩)
  clear hs1 HM hb0 hR
  go_wp2_with fail
  go_loopw [6] (fun _ wr => ∃ (k : Nat) (s : Sea) (wv av : Value), Hid (RuSt W0 wr b BS mb p n l Bg L k R s wv av)) (fun _ wr => Bg - doneW wr b mb)
  case atStart => exact ⟨0, _, _, _, HF⟩
  case round =>
    clear HF
    obtain ⟨k, s, wv', av', hf⟩ := hrel
    have hdn := hf.out.sm.done
    have hle := hf.out.ok.le
    have hkl := hf.out.hk
    rw [List.length_drop] at hdn
    have hcw := hf.out.sm.cells.2.2.2.2.1
    have hfz := hf.out.sm.free 4
    have hkn : k * n ≤ 9600 := by
      have : k * n ≤ 400 * 24 := Nat.mul_le_mul (by omega) hn24
      omega
    by_cases hlt : k < s.ms.length
    rotate_left
    · have hR := hide (ruEnd_ok (b := b) (BS := BS) (mb := mb) (p := p) (n := n) (l := l) (Bg := Bg) (L := L) ((hf.out.sea.symm.trans (seaS_done hlt))) hf.out.ok (by have := hf.out.len; omega) (show Sm W0 wr b BS mb p n l Bg L wv' av' s.ms [] s.ar from by have := hf.out.sm; rwa [List.drop_eq_nil_of_le (by omega)] at this))
      obtain ⟨wa, wc, hwf⟩ : ∃ a c, wv' = .slice a 0 c := by
        have h2 := hf.out.sm.que.2
        have h1 : (s.ms.drop k).length = 0 := by rw [List.length_drop]; omega
        rcases h2 with ⟨rfl, _⟩ | ⟨g, off, cap, rfl, _⟩
        · exact ⟨_, _, rfl⟩
        · rw [h1]; exact ⟨_, _, rfl⟩
      subst hwf
      clear hf hdn
      go_wp2_with fail
      go_ret
      exact hR.out
    obtain ⟨g, off, cap, rfl, hcl, hcm, hrg, hpv, hpop⟩ := hf.out.pop hlt
    rw [hpv] at hpop
    have HRG := hide hrg
    have HPOP := hide hpop
    have hn1 : ((s.ms.length - k : Nat) : Int) ≤ 400 := by omega
    have hn0 : (0 : Int) < ((s.ms.length - k : Nat) : Int) := by omega
    have hc1 : (1 : Int) ≤ (cap : Int) := by omega
    obtain ⟨q, hq⟩ : ∃ q, Hid (s.ms.length - k = q) := ⟨_, rfl⟩
    have hqc : (q : Int) ≤ (cap : Int) := by have := hq.out; omega
    rw [hq.out] at hcw HPOP hn1 hn0
    clear hpv hrg hpop hcl
    have hml1 : (cap : Int) ≤ 9223372036854775807 := by unfold maxLen at hcm; omega
    obtain ⟨m1, hm1⟩ : ∃ m1, Hid (s.ms.getD k [] = m1) := ⟨_, rfl⟩
    rw [hm1.out] at HRG
    have hq1 : 1 ≤ q := by omega
    have hq2 : q ≤ cap := by omega
    have hg0 := heap_alloc_new wr (.cells #[.int .u8 0, .int .u8 0, .int .u8 0, .int .u8 0, .int .u8 0, .int .u8 0, .int .u8 0, .int .u8 0, .int .u8 0, .int .u8 0, .int .u8 0, .int .u8 0, .int .u8 0, .int .u8 0, .int .u8 0, .int .u8 0] 93)
    have hA1 := below_al wr (.cells #[.int .u8 0, .int .u8 0, .int .u8 0, .int .u8 0, .int .u8 0, .int .u8 0, .int .u8 0, .int .u8 0, .int .u8 0, .int .u8 0, .int .u8 0, .int .u8 0, .int .u8 0, .int .u8 0, .int .u8 0, .int .u8 0] 93)
    have HBX := hide (below_setRow hA1 wr.heap.size (Nat.le_refl _) (packOf m1 l))
    have hg1 := setRow_same hg0 (packOf m1 l)
    have hblt := hf.out.sm.blt
    have hcw2 : ((wr.alloc (.cells #[.int .u8 0, .int .u8 0, .int .u8 0, .int .u8 0, .int .u8 0, .int .u8 0, .int .u8 0, .int .u8 0, .int .u8 0, .int .u8 0, .int .u8 0, .int .u8 0, .int .u8 0, .int .u8 0, .int .u8 0, .int .u8 0] 93)).setRow wr.heap.size (packOf m1 l)).cell? ⟨b, 4, none⟩ = some (.slice (some ⟨g, off, none⟩) q cap) := (HBX.out.cell (p := ⟨b, 4, none⟩) hblt).trans hcw
    have hfz2 : ((wr.alloc (.cells #[.int .u8 0, .int .u8 0, .int .u8 0, .int .u8 0, .int .u8 0, .int .u8 0, .int .u8 0, .int .u8 0, .int .u8 0, .int .u8 0, .int .u8 0, .int .u8 0, .int .u8 0, .int .u8 0, .int .u8 0, .int .u8 0] 93)).setRow wr.heap.size (packOf m1 l)).frozen? ⟨b, 4, none⟩ = false := (HBX.out.frozen (p := ⟨b, 4, none⟩) hblt).trans hfz
    have HS2 := hide (HPOP.out _ HBX.out)
    obtain ⟨o2, ho2⟩ : ∃ o2, Hid ((if cap = 1 then off else off + 16) = o2) := ⟨_, rfl⟩
    rw [ho2.out] at HS2
    have hg2 : (((wr.alloc (.cells #[.int .u8 0, .int .u8 0, .int .u8 0, .int .u8 0, .int .u8 0, .int .u8 0, .int .u8 0, .int .u8 0, .int .u8 0, .int .u8 0, .int .u8 0, .int .u8 0, .int .u8 0, .int .u8 0, .int .u8 0, .int .u8 0] 93)).setRow wr.heap.size (packOf m1 l)).setCell ⟨b, 4, none⟩ (.slice (some ⟨g, o2, none⟩) (q - 1) (cap - 1))).heap[wr.heap.size]? = some (.cells (packOf m1 l) 93 (0, 0)) := (Below.heap_setCell _ _ _ _ (show wr.heap.size ≠ b by omega)).trans hg1
    clear HPOP hA1 hg1
    go_wp2_with (first
      | ((show wpList _ _ _ (⟨some 21, .load 93 (.tmp 20), _, _, _, _⟩ :: _) _ _); refine wpList_load_tokQ rfl (.tmp 20) rfl g off rfl l m1 HRG.out ?_)
      | ((show wpList _ _ _ (⟨none, .store 93 (.tmp 5) (.tmp 21), _, _, _, _⟩ :: _) _ _); refine wpList_store_row rfl 93 _ _ rfl _ _ rfl rfl 93 _ hg0 (by rw [packOf_size]; exact Try.size93) (by rw [packOf_size]; rfl) (packOf_one _ _) ?_; clear hg0; generalize (wr.alloc (.cells #[.int .u8 0, .int .u8 0, .int .u8 0, .int .u8 0, .int .u8 0, .int .u8 0, .int .u8 0, .int .u8 0, .int .u8 0, .int .u8 0, .int .u8 0, .int .u8 0, .int .u8 0, .int .u8 0, .int .u8 0, .int .u8 0] 93)).setRow wr.heap.size (packOf m1 l) = w2 at *)
      | ((show wpList _ _ _ (⟨some 27, _, _, _, _, _⟩ :: _) _ _); refine wpList_pop rfl (.tmp 26) rfl g off q cap o2 ho2.out rfl hq1 ?_)
      | ((show wpList _ _ _ (⟨some 31, _, _, _, _, _⟩ :: _) _ _); refine wpList_load_row rfl 93 (.tmp 5) rfl _ rfl 93 (packOf m1 l) (0, 0) _ hg2 Try.underlying93 rfl (by rw [packOf_size]; exact Try.size93) ?_))
    refine (fireFrom_any (A := k * n) HS2.out hf.out.ok hl HNET.out hlt hm1.out hB4 hf.out.len hkn HS2.out.bel).mono ?_
    rintro e w3 hfr
    clear hg2 hcw2 hfz2
    cases hrow : rowS p L Bg m1 k (List.range n) s with
    | ok s2 =>
      rw [hrow] at hfr
      obtain ⟨rfl, wv3, av3, hs3⟩ := hfr
      have hrow' : rowS p L Bg (s.ms.getD k []) k (List.range n) s = .ok s2 := by rw [hm1.out]; exact hrow
      obtain ⟨a1, a2, a3⟩ := rowS_ok hf.out.ok hlt (fun x hx => by simpa using hx) hrow'
      have hk2 : k + 1 ≤ s2.ms.length := Nat.le_trans hlt a3.length_le
      have HN := hide (show RuSt W0 w3 b BS mb p n l Bg L (k + 1) R s2 wv3 av3 from
        ⟨a1, hk2, seaS_row hf.out.ok hlt hf.out.sea hrow', hs3, by rw [Nat.add_mul, Nat.one_mul]; have := hf.out.len; rw [List.length_range] at a2; omega⟩)
      have hd2 := hs3.done
      rw [List.length_drop] at hd2
      have hle2 := a1.le
      have HME : Hid (Bg - doneW w3 b mb < Bg - doneW wr b mb) := by show _ < _; rw [hd2, hdn]; omega
      clear hs3 hd2 hdn hrow hrow' a1 a2 a3 hf HS2
      go_wp2_with fail
      go_roundw
      case rel => exact ⟨k + 1, s2, wv3, av3, HN⟩
      case measure => exact HME.out
    | error c =>
      rw [hrow] at hfr
      obtain ⟨rfl, hb3⟩ := hfr
      have hrow' : rowS p L Bg (s.ms.getD k []) k (List.range n) s = .error c := by rw [hm1.out]; exact hrow
      have hRc := seaS_stop hf.out.ok hlt hf.out.sea hrow'
      have hcc := rowS_err hrow'
      have HN := hide (ruEnd_err (b := b) (BS := BS) (mb := mb) (p := p) (n := n) (l := l) (Bg := Bg) (L := L) hRc hcc hb3)
      clear hrow hrow' hRc hf HS2 hdn
      rcases hcc with rfl | rfl
      · go_wp2_with fail
        go_ret
        exact HN.out
      · go_wp2_with fail
        go_ret
        exact HN.out
end Go.Proofs.Ytdhnhpjcoeglmaa


/- The program's inOrder: the marks of the map by their numbers, in whatever order the map is gone through. -/
namespace Go.Proofs.Ytdhnhpjcoeglmaa
open Go.RowKit
open Go.ChangeMaps (setBlock heap_setBlock_same heap_setBlock_other)
set_option maxRecDepth 10000

/-- Block G holds the marks ms, one behind the other. -/
structure TokAll (w : World) (G l : Nat) (ms : List (List Int)) : Prop where
  lt : G < w.heap.size
  cells : ∀ i, i < ms.length → w.rangeAt G (i * 16) (encQ l (ms.getD i []))

theorem TokAll.grow {w w' : World} {G l : Nat} {ms : List (List Int)} (h : TokAll w G l ms) (hb : Below w.heap.size w w') : TokAll w' G l ms :=
  ⟨Nat.lt_of_lt_of_le h.lt hb.size, fun i hi j v hv => (hb.cell (p := ⟨G, i * 16 + j, none⟩) h.lt).trans (h.cells i hi j v hv)⟩

theorem wpList_next_at {P : Program} {w : World} {ops : Array Oper} {rest : List Oper} {o : Oper} {a : Act} {Q : Exit → Act → World → Prop} (hgd : o.guard = none) (it : Operand) (hop : o.op = .next it false) (r bm since c0 : Nat) (seen : Array Nat) (es : Array MapEntry) (clock : Nat)
    (hit : a.eval it = .pointer (some ⟨r, 0, none⟩)) (hr : w.heap[r]? = some (.mapIter (some bm) since seen c0)) (hb : w.heap[bm]? = some (.map es clock)) (hold : ∀ x ∈ es.toList, x.born < since) (hsc : since ≤ c0)
    (hDone : (Go.leftOf es seen).size = 0 → wpList P ops Q rest (a.put o.dst (.tuple #[.bool false])) w)
    (hMore : ∀ e ∈ (Go.leftOf es seen).toList, ∀ w1 : World, Hid (w1 = w ∨ w1 = w.drew) → wpList P ops Q rest (a.put o.dst (.tuple #[.bool true, e.key, e.val])) (setBlock w1 r (.mapIter (some bm) since (seen.push e.born) clock))) :
    wpList P ops Q (o :: rest) a w := by
  refine wpList_plain hgd fun K hK => ?_
  rcases run_next_at (P := P) w o.type r bm since c0 seen es clock hr hb hold hsc with ⟨h0, hrun⟩ | ⟨e, he, w1, hw1, hrun⟩
  · unfold Oper.wp
    simp [execOp, hop, hit, hrun, Result.andThen]
    exact hK _ _ (hDone h0)
  · unfold Oper.wp
    simp [execOp, hop, hit, hrun, Result.andThen]
    exact hK _ _ (hMore e he w1 hw1)

theorem mem_ents {l : Nat} {ms : List (List Int)} {e : MapEntry} (h : e ∈ (entsOf l ms).toList) : ∃ i, i < ms.length ∧ e = ⟨.agg (packOf (ms.getD i []) l), .int .i64 (i : Int), i⟩ := by
  unfold entsOf at h
  simp only [List.mem_mapIdx] at h
  obtain ⟨i, hi, rfl⟩ := h
  exact ⟨i, hi, by rw [List.getD_eq_getElem?_getD, List.getElem?_eq_getElem hi]; rfl⟩

theorem ent_mem (l : Nat) (ms : List (List Int)) {i : Nat} (hi : i < ms.length) : (⟨.agg (packOf (ms.getD i []) l), .int .i64 (i : Int), i⟩ : MapEntry) ∈ (entsOf l ms).toList := by
  unfold entsOf
  simp only [List.mem_mapIdx]
  exact ⟨i, hi, by rw [List.getD_eq_getElem?_getD, List.getElem?_eq_getElem hi]; rfl⟩

theorem ents_born (l : Nat) (ms : List (List Int)) : ((entsOf l ms).toList.map (·.born)).Nodup := by
  have : (entsOf l ms).toList.map (·.born) = List.range ms.length := by
    unfold entsOf
    apply List.ext_getElem?
    intro i
    simp [List.getElem?_mapIdx]
    by_cases hi : i < ms.length
    · simp [hi]
    · simp [List.getElem?_eq_none (show ms.length ≤ i by omega), List.getElem?_eq_none (show (List.range ms.length).length ≤ i by simp; omega)]
  rw [this]
  exact List.nodup_range

/-- What the loop of inOrder keeps in mind. -/
structure IoSt (w wr : World) (r mb G l : Nat) (ms : List (List Int)) (seen : Array Nat) : Prop where
  bel : Below w.heap.size w wr
  map : MapIs wr mb l ms
  it : ∃ c0, wr.heap[r]? = some (.mapIter (some mb) ms.length seen c0) ∧ ms.length ≤ c0
  hr : w.heap.size ≤ r
  hG : w.heap.size ≤ G
  ne : r ≠ G
  hm : mb < w.heap.size
  there : wr.there G 0 (ms.length * 16)
  done : ∀ i, i < ms.length → seen.contains i = true → wr.rangeAt G (i * 16) (encQ l (ms.getD i []))

theorem IoSt.left {w wr : World} {r mb G l : Nat} {ms : List (List Int)} {seen : Array Nat} (h : IoSt w wr r mb G l ms seen) : wr.rangeLeft mb r = (Go.leftOf (entsOf l ms) seen).size := by
  obtain ⟨c0, h1, _⟩ := h.it
  have h2 := h.map
  unfold MapIs at h2
  unfold World.rangeLeft
  rw [h2, h1]

theorem there_lt {w : World} {G o n : Nat} (h : w.there G o n) (hn : 0 < n) : G < w.heap.size := by
  obtain ⟨u, hu⟩ := Option.isSome_iff_exists.1 (h 0 hn).1
  exact World.block_lt_of_cell? w _ hu

/-- One entry has come out. -/
theorem IoSt.next {w wr w1 : World} {r mb G l : Nat} {ms : List (List Int)} {seen : Array Nat} (h : IoSt w wr r mb G l ms seen) (h1 : w1 = wr ∨ w1 = wr.drew) (i : Nat) :
    let w2 := setBlock w1 r (.mapIter (some mb) ms.length (seen.push i) ms.length)
    Below w.heap.size w w2 ∧ MapIs w2 mb l ms ∧ w2.heap[r]? = some (.mapIter (some mb) ms.length (seen.push i) ms.length) ∧ w2.there G 0 (ms.length * 16) ∧ (∀ j, j < ms.length → seen.contains j = true → w2.rangeAt G (j * 16) (encQ l (ms.getD j []))) := by
  obtain ⟨c0, hit, _⟩ := h.it
  have e1 : w1.heap = wr.heap ∧ w1.os = wr.os ∧ w1.tape = wr.tape ∧ w1.output = wr.output := by rcases h1 with rfl | rfl <;> exact ⟨rfl, rfl, rfl, rfl⟩
  have hrl : r < wr.heap.size := (Array.getElem?_eq_some_iff.mp hit).1
  have oth : ∀ g, g ≠ r → (setBlock w1 r (.mapIter (some mb) ms.length (seen.push i) ms.length)).heap[g]? = wr.heap[g]? := fun g hg => by
    show (w1.heap.setIfInBounds r _)[g]? = _
    rw [e1.1, Array.getElem?_setIfInBounds, if_neg (fun e => hg e.symm)]
  have hne := h.hm
  have hrr := h.hr
  refine ⟨⟨e1.2.1.trans h.bel.os, e1.2.2.1.trans h.bel.tape, e1.2.2.2.trans h.bel.output, by simp [setBlock, e1.1]; exact h.bel.size, fun k hk => (oth k (by omega)).trans (h.bel.block k hk)⟩, (oth mb (by omega)).trans h.map, ?_, fun j hj => ?_, fun j hj hs k v hv => ?_⟩
  · show (w1.heap.setIfInBounds r _)[r]? = _
    rw [e1.1, Array.getElem?_setIfInBounds, if_pos rfl, if_pos hrl]
  · rw [World.cell?_of_block (a := ⟨G, 0 + j, none⟩) (oth G (Ne.symm h.ne)), World.frozen?_of_block (a := ⟨G, 0 + j, none⟩) (oth G (Ne.symm h.ne))]
    exact h.there j hj
  · rw [World.cell?_of_block (a := ⟨G, j * 16 + k, none⟩) (oth G (Ne.symm h.ne))]
    exact h.done j hj hs k v hv


set_option maxHeartbeats 1000000 in
theorem inOrder_any {w : World} {mb l : Nat} {ms : List (List Int)} (hm : MapIs w mb l ms) (h0 : 0 < ms.length) (h4 : ms.length ≤ 400) :
    Calls Try.prog 156 #[.map (some mb)] w fun e w' => ∃ G, e = .returned (.slice (some ⟨G, 0, none⟩) ms.length ms.length) ∧ w.heap.size ≤ G ∧ TokAll w' G l ms ∧ Below w.heap.size w w' := by
  have hlen := run_lenTok hm
  have hn0 : (0 : Int) < (ms.length : Int) := by omega
  have hn4 : (ms.length : Int) ≤ 400 := by omega
  have hmk := run_make_many (P := Try.prog) 132 93 _ 16 16 Try.underlying132 Try.infoTQ .i64 .i64 ms.length (by omega) (by omega)
  have HM := hide hm
  have hml := hm.lt
  clear hm
  go_enter Try.func156, Try.ntmps156
  go_upto_region 2 with fail
  have HT := hide (show (w.alloc (.cells (madeCells #[.int .u8 0, .int .u8 0, .int .u8 0, .int .u8 0, .int .u8 0, .int .u8 0, .int .u8 0, .int .u8 0, .int .u8 0, .int .u8 0, .int .u8 0, .int .u8 0, .int .u8 0, .int .u8 0, .int .u8 0, .int .u8 0] (ms.length * 16)) 93)).there w.heap.size 0 (ms.length * 16) from fun j hj => by
    rw [Nat.zero_add, cell_of_row _ _ _ _ _ _ (heap_alloc_new w _), Array.getElem?_eq_getElem (by rw [size_madeCells]; exact hj)]
    exact ⟨rfl, frozen_of_row _ _ _ _ _ (heap_alloc_new w _)⟩)
  have HB := hide (below_al w (.cells (madeCells #[.int .u8 0, .int .u8 0, .int .u8 0, .int .u8 0, .int .u8 0, .int .u8 0, .int .u8 0, .int .u8 0, .int .u8 0, .int .u8 0, .int .u8 0, .int .u8 0, .int .u8 0, .int .u8 0, .int .u8 0, .int .u8 0] (ms.length * 16)) 93))
  have HM1 : Hid (MapIs (w.alloc (.cells (madeCells #[.int .u8 0, .int .u8 0, .int .u8 0, .int .u8 0, .int .u8 0, .int .u8 0, .int .u8 0, .int .u8 0, .int .u8 0, .int .u8 0, .int .u8 0, .int .u8 0, .int .u8 0, .int .u8 0, .int .u8 0, .int .u8 0] (ms.length * 16)) 93)) mb l ms) := HM.out.kept (HB.out.block mb hml)
  have hsz : (w.alloc (.cells (madeCells #[.int .u8 0, .int .u8 0, .int .u8 0, .int .u8 0, .int .u8 0, .int .u8 0, .int .u8 0, .int .u8 0, .int .u8 0, .int .u8 0, .int .u8 0, .int .u8 0, .int .u8 0, .int .u8 0, .int .u8 0, .int .u8 0] (ms.length * 16)) 93)).heap.size = w.heap.size + 1 := by simp
  have hrg := run_range_map (P := Try.prog) (w.alloc (.cells (madeCells #[.int .u8 0, .int .u8 0, .int .u8 0, .int .u8 0, .int .u8 0, .int .u8 0, .int .u8 0, .int .u8 0, .int .u8 0, .int .u8 0, .int .u8 0, .int .u8 0, .int .u8 0, .int .u8 0, .int .u8 0, .int .u8 0] (ms.length * 16)) 93)) 131 93 3 mb (entsOf l ms) ms.length Try.underlying131 HM1.out
  rw [hsz] at hrg
  have HI := hide (show IoSt w ((w.alloc (.cells (madeCells #[.int .u8 0, .int .u8 0, .int .u8 0, .int .u8 0, .int .u8 0, .int .u8 0, .int .u8 0, .int .u8 0, .int .u8 0, .int .u8 0, .int .u8 0, .int .u8 0, .int .u8 0, .int .u8 0, .int .u8 0, .int .u8 0] (ms.length * 16)) 93)).alloc (.mapIter (some mb) ms.length #[] ms.length)) (w.heap.size + 1) mb w.heap.size l ms #[] from by
    have hA := below_al (w.alloc (.cells (madeCells #[.int .u8 0, .int .u8 0, .int .u8 0, .int .u8 0, .int .u8 0, .int .u8 0, .int .u8 0, .int .u8 0, .int .u8 0, .int .u8 0, .int .u8 0, .int .u8 0, .int .u8 0, .int .u8 0, .int .u8 0, .int .u8 0] (ms.length * 16)) 93)) (.mapIter (some mb) ms.length #[] ms.length)
    refine ⟨HB.out.trans (hA.mono HB.out.size), HM1.out.kept (hA.block mb (by omega)), ⟨ms.length, ?_, Nat.le_refl _⟩, by omega, Nat.le_refl _, by omega, hml, World.there_alloc HT.out _, fun i _ h => by simp at h⟩
    rw [← hsz]; exact heap_alloc_new _ _)
  clear HT HB HM1 HM
  go_wp2_with fail
  clear hrg hsz hlen hmk
  generalize (w.alloc (.cells (madeCells #[.int .u8 0, .int .u8 0, .int .u8 0, .int .u8 0, .int .u8 0, .int .u8 0, .int .u8 0, .int .u8 0, .int .u8 0, .int .u8 0, .int .u8 0, .int .u8 0, .int .u8 0, .int .u8 0, .int .u8 0, .int .u8 0] (ms.length * 16)) 93)).alloc (.mapIter (some mb) ms.length #[] ms.length) = v0 at *
  obtain ⟨r, hr⟩ : ∃ r, Hid (w.heap.size + 1 = r) := ⟨_, rfl⟩
  rw [hr.out] at HI ⊢
  go_loopw [4] (fun _ wr => ∃ seen, Hid (IoSt w wr r mb w.heap.size l ms seen)) (fun _ wr => wr.rangeLeft mb r)
  case atStart => exact ⟨#[], HI⟩
  case round =>
    clear HI
    obtain ⟨seen, hi⟩ := hrel
    obtain ⟨c0, hit, hc0⟩ := hi.out.it
    have hmp : wr.heap[mb]? = some (.map (entsOf l ms) ms.length) := hi.out.map
    have hold : ∀ x ∈ (entsOf l ms).toList, x.born < ms.length := fun x hx => by
      obtain ⟨i, hi, rfl⟩ := mem_ents hx; exact hi
    have HLF := hide hi.out.left
    go_wp2_with (at_next; refine wpList_next_at rfl (.tmp 10) rfl r mb ms.length c0 seen (entsOf l ms) ms.length (by first | rfl | simp) hit hmp hold hc0 ?_ ?_)
    · intro hl0
      have hTA := hide (show TokAll wr w.heap.size l ms from ⟨there_lt hi.out.there (by omega), fun i hi' => hi.out.done i hi' (by
        have := all_seen (entsOf l ms) seen (by rw [hl0]; rfl) _ (ent_mem l ms hi')
        exact this)⟩)
      clear hl0 hit hmp hold HLF
      go_wp2_with fail
      go_ret
      exact ⟨w.heap.size, rfl, Nat.le_refl _, hTA.out, hi.out.bel⟩
    · intro e he w1 hw1
      have he' : e ∈ (Go.leftOf (entsOf l ms) seen).toList := Array.mem_toList_iff.2 he
      have HSH := hide (left_shrinks _ _ _ he')
      obtain ⟨hm1, hns⟩ := mem_left he'
      obtain ⟨i, hil, rfl⟩ := mem_ents hm1
      obtain ⟨k1, k2, k3, k4, k5⟩ := hi.out.next hw1.out i
      have hen := run_entry_at (P := Try.prog) _ r mb ms.length seen (entsOf l ms) ms.length _ k3 k2 hm1 (ents_born l ms)
      obtain ⟨m, hmq⟩ : ∃ m, Hid (ms.getD i [] = m) := ⟨_, rfl⟩
      simp only [hmq.out] at hen ⊢
      have HSN := hide hi.out
      clear hi he he' hm1 hit hmp hold hw1
      generalize setBlock w1 r (.mapIter (some mb) ms.length (seen.push i) ms.length) = w2 at *
      have hil0 : (0 : Int) ≤ (i : Int) := by omega
      have hil1 : (i : Int) < (ms.length : Int) := by omega
      have hg0 := heap_alloc_new w2 (.cells #[.int .u8 0, .int .u8 0, .int .u8 0, .int .u8 0, .int .u8 0, .int .u8 0, .int .u8 0, .int .u8 0, .int .u8 0, .int .u8 0, .int .u8 0, .int .u8 0, .int .u8 0, .int .u8 0, .int .u8 0, .int .u8 0] 93)
      have hg1 := setRow_same hg0 (packOf m l)
      have hBX := below_setRow (below_al w2 (.cells #[.int .u8 0, .int .u8 0, .int .u8 0, .int .u8 0, .int .u8 0, .int .u8 0, .int .u8 0, .int .u8 0, .int .u8 0, .int .u8 0, .int .u8 0, .int .u8 0, .int .u8 0, .int .u8 0, .int .u8 0, .int .u8 0] 93)) w2.heap.size (Nat.le_refl _) (packOf m l)
      have hGl := there_lt k4 (by omega)
      have hth : ((w2.alloc (.cells #[.int .u8 0, .int .u8 0, .int .u8 0, .int .u8 0, .int .u8 0, .int .u8 0, .int .u8 0, .int .u8 0, .int .u8 0, .int .u8 0, .int .u8 0, .int .u8 0, .int .u8 0, .int .u8 0, .int .u8 0, .int .u8 0] 93)).setRow w2.heap.size (packOf m l)).there w.heap.size (i * 16) (packOf m l).size := fun j hj => by
        rw [packOf_size] at hj
        have := k4 (i * 16 + j) (by omega)
        rw [Nat.zero_add] at this
        rw [hBX.cell (p := ⟨w.heap.size, i * 16 + j, none⟩) hGl, hBX.frozen (p := ⟨w.heap.size, i * 16 + j, none⟩) hGl]
        exact this
      have HIO : Hid (IoSt w (((w2.alloc (.cells #[.int .u8 0, .int .u8 0, .int .u8 0, .int .u8 0, .int .u8 0, .int .u8 0, .int .u8 0, .int .u8 0, .int .u8 0, .int .u8 0, .int .u8 0, .int .u8 0, .int .u8 0, .int .u8 0, .int .u8 0, .int .u8 0] 93)).setRow w2.heap.size (packOf m l)).setCells w.heap.size (i * 16) (packOf m l).toList) r mb w.heap.size l ms (seen.push i)) := by
        have hgr := grown_setCells w.heap.size (packOf m l).toList (i * 16) ((w2.alloc (.cells #[.int .u8 0, .int .u8 0, .int .u8 0, .int .u8 0, .int .u8 0, .int .u8 0, .int .u8 0, .int .u8 0, .int .u8 0, .int .u8 0, .int .u8 0, .int .u8 0, .int .u8 0, .int .u8 0, .int .u8 0, .int .u8 0] 93)).setRow w2.heap.size (packOf m l))
        have hBm := hBX.mono k1.size
        refine ⟨below_setCells (k1.trans hBm) w.heap.size (i * 16) HSN.out.hG _, k2.kept ?_, ⟨ms.length, ?_, Nat.le_refl _⟩, HSN.out.hr, HSN.out.hG, HSN.out.ne, HSN.out.hm, ?_, ?_⟩
        · exact (hgr.block mb (by have := hBX.size; have := k2.lt; omega) (fun e => by have := Option.some.inj e; have := HSN.out.hG; have := HSN.out.hm; omega)).trans (hBX.block mb k2.lt)
        · have hrl := (Array.getElem?_eq_some_iff.mp k3).1
          exact ((hgr.block r (by have := hBX.size; omega) (fun e => HSN.out.ne (Option.some.inj e))).trans (hBX.block r hrl)).trans k3
        · intro j hj
          have := k4 j hj
          rw [Nat.zero_add] at this ⊢
          refine ⟨World.isSome_setCells w.heap.size _ _ _ _ ?_, ?_⟩
          · rw [hBX.cell (p := ⟨w.heap.size, j, none⟩) hGl]; exact this.1
          · rw [World.frozen?_setCells, hBX.frozen (p := ⟨w.heap.size, j, none⟩) hGl]; exact this.2
        · intro j hj hsn
          by_cases hji : j = i
          · subst hji
            rw [hmq.out]
            exact World.rangeAt_setCells_same _ _ _ _ (by simpa using hth)
          · have hsj : seen.contains j = true := by
              rw [contains_push] at hsn
              simpa [hji] using hsn
            refine World.rangeAt_setCells_apart (fun k v hv => ?_) _ _ _ (.inr ?_)
            · exact (hBX.cell (p := ⟨w.heap.size, j * 16 + k, none⟩) hGl).trans (k5 j hj hsj k v hv)
            · rw [encQ_len, Array.length_toList, packOf_size]; omega
      have HLT : Hid (((((w2.alloc (.cells #[.int .u8 0, .int .u8 0, .int .u8 0, .int .u8 0, .int .u8 0, .int .u8 0, .int .u8 0, .int .u8 0, .int .u8 0, .int .u8 0, .int .u8 0, .int .u8 0, .int .u8 0, .int .u8 0, .int .u8 0, .int .u8 0] 93)).setRow w2.heap.size (packOf m l)).setCells w.heap.size (i * 16) (packOf m l).toList)).rangeLeft mb r < wr.rangeLeft mb r) := by
        show _ < _
        rw [HIO.out.left, HLF.out]
        exact HSH.out
      clear k1 k2 k3 k4 k5 hBX HSN HSH HLF hmq hns
      go_wp2_with (first
        | ((show wpList _ _ _ (⟨none, .store 93 (.tmp 4) (.tmp 14), _, _, _, _⟩ :: _) _ _); refine wpList_store_row rfl 93 _ _ rfl _ _ rfl rfl 93 _ hg0 (by rw [packOf_size]; exact Try.size93) (by rw [packOf_size]; rfl) (packOf_one _ _) ?_)
        | ((show wpList _ _ _ (⟨some 18, .load 93 (.tmp 4), _, _, _, _⟩ :: _) _ _); refine wpList_load_row rfl 93 (.tmp 4) rfl _ rfl 93 (packOf m l) (0, 0) _ hg1 Try.underlying93 rfl (by rw [packOf_size]; exact Try.size93) ?_)
        | ((show wpList _ _ _ (⟨none, .store 93 (.tmp 19) (.tmp 18), _, _, _, _⟩ :: _) _ _); refine wpList_store_mid rfl 93 (.tmp 19) (.tmp 18) rfl w.heap.size (i * 16) (packOf m l) rfl rfl hth (by rw [packOf_size]; exact Try.size93) (packOf_one _ _) ?_))
      go_frame
      go_roundw
      case rel => exact ⟨_, HIO⟩
      case measure => exact HLT.out
end Go.Proofs.Ytdhnhpjcoeglmaa
