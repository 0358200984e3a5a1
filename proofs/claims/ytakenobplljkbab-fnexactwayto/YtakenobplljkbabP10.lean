/- Contracts that the proof stands on, one behind the other. -/
import Derived.Test.YtakenobplljkbabP9
/- The specification's l4Explore, walked whole. -/
namespace Go.Proofs.Ytakenobplljkbab
open Go.RowKit
set_option maxRecDepth 10000

/-- Numbers as cells. -/
def intsV (ts : List Nat) : List Value := ts.map fun (t : Nat) => Value.int .i64 (t : Int)

/-- How l4Explore ends. -/
def ExEnd (p : Int) (n l Bg : Nat) (R : Except Nat Sea) (w : World) (e : Ending) (w' : World) : Prop :=
  Below w.heap.size w w' ∧
  match R with
  | .ok s => SeaOk p n Bg s ∧ s.ar.length ≤ 9600 ∧ ∃ mv av, e = .returned (.tuple #[.agg #[mv, av], .int .i64 1]) ∧ MRow w' w.heap.size mv l s.ms ∧ w'.ownsRow w.heap.size 98 3 av s.ar.length (arcsL s.ar)
  | .error c => e = .returned (.tuple #[.agg #[.slice none 0 0, .slice none 0 0], .int .i64 (c : Int)]) ∧ (c = 2 ∨ c = 3)

theorem exEnd_err {p : Int} {n l Bg : Nat} {R : Except Nat Sea} {w w' : World} {c : Nat} {z : Int} (hR : R = .error c) (hc : c = 2 ∨ c = 3) (hz : (c : Int) = z) (hb : Below w.heap.size w w') : ExEnd p n l Bg R w (.returned (.tuple #[.agg #[.slice none 0 0, .slice none 0 0], .int .i64 z])) w' := by
  subst hR hz; exact ⟨hb, rfl, hc⟩

/-- What the outer loop keeps in mind. -/
structure SeOut (w0 w : World) (hN h6 b : Nat) (p : Int) (a : Option Addr) (n c l Bg : Nat) (L : List (List Int)) (k : Nat) (R : Except Nat Sea) (s : Sea) (mv av : Value) : Prop where
  ok : SeaOk p n Bg s
  hk : k ≤ s.ms.length
  sea : seaS p n L Bg (Bg - k) k s = R
  st : SeSt w0 w hN h6 b p a n c l mv av s.ms s.ar
  len : s.ar.length ≤ k * n

/-- What the inner loop keeps in mind. -/
structure SeIn (w0 w : World) (hN h6 b : Nat) (p : Int) (a : Option Addr) (n c l Bg : Nat) (L : List (List Int)) (k A i : Nat) (m : List Int) (ts : List Nat) (R1 : Except Nat Sea) (s : Sea) (mv av ev : Value) (eb : Nat) : Prop where
  ok : SeaOk p n Bg s
  hk : k < s.ms.length
  at_ : s.ms.getD k [] = m
  row : rowS p L Bg m k (ts.drop i) s = R1
  st : SeSt w0 w hN h6 b p a n c l mv av s.ms s.ar
  len : s.ar.length ≤ A + i
  ens : w.ownsRow eb 3 1 ev ts.length (intsV ts)

theorem SeIn.go {w0 w w' : World} {hN h6 b : Nat} {p : Int} {a : Option Addr} {n c l Bg : Nat} {L : List (List Int)} {k A i : Nat} {m : List Int} {ts : List Nat} {R1 : Except Nat Sea} {s : Sea} {mv av ev : Value} {eb : Nat} (h : SeIn w0 w hN h6 b p a n c l Bg L k A i m ts R1 s mv av ev eb) (hb : Below w.heap.size w w') : SeIn w0 w' hN h6 b p a n c l Bg L k A i m ts R1 s mv av ev eb :=
  ⟨h.ok, h.hk, h.at_, h.row, h.st.go hb, h.len, own_turn h.ens (Turn3.of_below hb)⟩

/-- An arc more, and maybe a mark. -/
theorem SeIn.step {w0 w w' : World} {hN h6 b : Nat} {p : Int} {a : Option Addr} {n c l Bg : Nat} {L : List (List Int)} {k A i t : Nat} {m : List Int} {ts : List Nat} {R1 : Except Nat Sea} {s : Sea} {mv av mv2 av2 ev : Value} {eb j : Nat} {ms2 : List (List Int)} (h : SeIn w0 w hN h6 b p a n c l Bg L k A i m ts R1 s mv av ev eb)
    (hd : ts.drop i = t :: ts.drop (i + 1)) (ht : t < n) (hc : canT L m t = true) (h1 : oneS p L Bg m k t s = .ok ⟨ms2, s.ar ++ [(k, t, j)]⟩) (hst : SeSt w0 w' hN h6 b p a n c l mv2 av2 ms2 (s.ar ++ [(k, t, j)])) (hens : w'.ownsRow eb 3 1 ev ts.length (intsV ts)) :
    SeIn w0 w' hN h6 b p a n c l Bg L k A (i + 1) m ts R1 ⟨ms2, s.ar ++ [(k, t, j)]⟩ mv2 av2 ev eb := by
  obtain ⟨a1, a2, a3⟩ := oneS_ok h.ok h.hk ht h1
  have hr := h.row
  rw [hd] at hr
  refine ⟨a1, Nat.lt_of_lt_of_le h.hk a3.length_le, (prefix_getD a3 h.hk []).trans h.at_, ?_, hst, by have := h.len; simp; omega, hens⟩
  unfold rowS at hr; rw [if_pos hc, h1] at hr; exact hr

theorem SeIn.bad {w0 w : World} {hN h6 b : Nat} {p : Int} {a : Option Addr} {n c l Bg : Nat} {L : List (List Int)} {k A i t cd : Nat} {m : List Int} {ts : List Nat} {R1 : Except Nat Sea} {s : Sea} {mv av ev : Value} {eb : Nat} (h : SeIn w0 w hN h6 b p a n c l Bg L k A i m ts R1 s mv av ev eb)
    (hd : ts.drop i = t :: ts.drop (i + 1)) (hc : canT L m t = true) (h1 : oneS p L Bg m k t s = .error cd) : R1 = .error cd := by
  have hr := h.row
  rw [hd] at hr
  unfold rowS at hr; rw [if_pos hc, h1] at hr; exact hr.symm

/-- The transitions that are enabled. -/
def enT (L : List (List Int)) (n : Nat) (m : List Int) : List Nat := (List.range n).filter (canT L m)

theorem enT_nums (L : List (List Int)) (n : Nat) (m : List Int) : (numsL (fun i => canB (L.getD (3 * i) []) m) n).map (Value.int .i64) = intsV (enT L n m) := by
  unfold numsL enT canT intsV
  rw [List.map_map]; rfl

theorem enT_len (L : List (List Int)) (n : Nat) (m : List Int) : (enT L n m).length ≤ n := by
  unfold enT
  have := List.length_filter_le (canT L m) (List.range n)
  rw [List.length_range] at this
  exact this

theorem enT_at {L : List (List Int)} {n : Nat} {m : List Int} {i : Nat} (hi : i < (enT L n m).length) : ∃ t, (enT L n m)[i]? = some t ∧ t < n ∧ canT L m t = true ∧ (enT L n m).drop i = t :: (enT L n m).drop (i + 1) := by
  refine ⟨(enT L n m)[i], List.getElem?_eq_getElem hi, ?_, ?_, List.drop_eq_getElem_cons hi⟩
  · have hm : (enT L n m)[i] ∈ (List.range n).filter (canT L m) := List.getElem_mem hi
    exact List.mem_range.1 (List.mem_filter.1 hm).1
  · have hm : (enT L n m)[i] ∈ (List.range n).filter (canT L m) := List.getElem_mem hi
    exact (List.mem_filter.1 hm).2

theorem rowS_cons_yes {p : Int} {B : Nat} {L : List (List Int)} {m : List Int} {k t : Nat} {ts : List Nat} {s s' : Sea} {R : Except Nat Sea} (hR : rowS p L B m k (t :: ts) s = R) (hc : canT L m t = true) (h1 : oneS p L B m k t s = .ok s') : rowS p L B m k ts s' = R := by
  unfold rowS at hR; rw [if_pos hc, h1] at hR; exact hR
theorem rowS_cons_bad {p : Int} {B : Nat} {L : List (List Int)} {m : List Int} {k t c : Nat} {ts : List Nat} {s : Sea} {R : Except Nat Sea} (hR : rowS p L B m k (t :: ts) s = R) (hc : canT L m t = true) (h1 : oneS p L B m k t s = .error c) : R = .error c := by
  unfold rowS at hR; rw [if_pos hc, h1] at hR; exact hR.symm

theorem Try.infoSl : (Try.prog.info? 40).map (fun i => (i.zero, i.size, i.bytes)) = some (some (.slice none 0 0), 1, 24) := by kernel_rfl

theorem size_space : (Try.prog.info? 66).map (·.size) = some 2 := by kernel_rfl

theorem space_res2 {fn : Func} {q u : Tmp} (hr : fn.results = #[.cell q 66, .tmp u]) (tmps : Array Value) (W : World) (b : Nat) (C : Array Value) (v : Value) (h4 : tmps.getD q undef = .pointer (some ⟨b, 0, none⟩)) (h5 : tmps.getD u undef = v)
    (hs : C.size = 2) (q4 : W.heap[b]? = some (.cells C 66 (0, 0))) : (results fn tmps).run Try.prog W = .ok (.tuple #[.agg C, v]) W := by
  refine (results_cell_tmp hr _ _ _).trans ?_
  rw [h4, h5]
  show ((loadVar 66 ⟨b, 0, none⟩).run Try.prog _).andThen _ = _
  rw [run_loadVar_row _ _ 66 66 C (0, 0) _ q4 Try.underlying66 rfl (by rw [hs]; exact size_space)]
  rfl

/-- The answer's own cells are written. -/
theorem SeSt.ret {w0 w : World} {hN h6 b : Nat} {p : Int} {a : Option Addr} {n c l : Nat} {mv av : Value} {ms : List (List Int)} {ar : List (Nat × Nat × Nat)} (h : SeSt w0 w hN h6 b p a n c l mv av ms ar) (h6l : w0.heap.size ≤ h6) (C : Array Value) :
    Below w0.heap.size w0 (w.setRow h6 C) ∧ MRow (w.setRow h6 C) w0.heap.size mv l ms ∧ (w.setRow h6 C).ownsRow w0.heap.size 98 3 av ar.length (arcsL ar) := by
  have oth : ∀ (g : Nat) (D : Array Value) (T : TypeId), w.heap[g]? = some (Obj.cells D T (0, 0)) → T ≠ 66 → (w.setRow h6 C).heap[g]? = w.heap[g]? := fun g D T h1 h2 => setRow_other _ _ _ _ (fun e => by
    subst e; have := h.res; rw [h1] at this; simp at this; exact h2 this.2)
  refine ⟨below_setRow h.bel _ h6l _, h.marks.kept ⟨by simp [World.setRow], fun g D h1 => oth g D _ h1 (by decide)⟩ fun g hg => ?_, ownsRow_kept h.arcs fun g hg => ?_⟩
  · obtain ⟨cs, h1, _⟩ := h.marks
    obtain ⟨cur, hc⟩ := own_ty h1 hg
    exact oth g _ _ hc (by decide)
  · obtain ⟨cur, hc⟩ := own_ty h.arcs hg
    exact oth g _ _ hc (by decide)

theorem ens_at {w : World} {eb : Nat} {ev : Value} {ts : List Nat} (h : w.ownsRow eb 3 1 ev ts.length (intsV ts)) {i : Nat} (hi : i < ts.length) {t : Nat} (ht : ts[i]? = some t) :
    ∃ g c, ev = .slice (some ⟨g, 0, none⟩) ts.length c ∧ w.cell? ⟨g, i, none⟩ = some (.int .i64 (t : Int)) := by
  obtain ⟨g, c, rfl, _, _⟩ := h.form (by omega)
  exact ⟨g, c, rfl, by rw [h.cellAt i (by omega)]; unfold intsV; rw [List.getElem?_map, ht]; rfl⟩


set_option maxHeartbeats 1000000 in
theorem exploreS_any (p : Int) (a : Option Addr) (bm om n c l cm Bg : Nat) (L : List (List Int)) (m0 : List Int) (w : World) (h : Lists w a (3 * n) L) (rm : Row w (some ⟨bm, om, none⟩) l m0) (hs : sizeN n L ≤ 1048576) (hnet : netOk p n L = true) (hg : goodB p m0 = true) (hl : (l : Int) = p) (hB1 : 1 ≤ Bg) (hB4 : Bg ≤ 400) :
    Calls Try.prog 68 #[.agg #[.int .i64 p, .slice a n c], .slice (some ⟨bm, om, none⟩) l cm, .int .i64 (Bg : Int)] w fun e w' => ExEnd p n l Bg (searchS p n L Bg m0) w e w' := by
  obtain ⟨⟨hp1, hp2⟩, hyl, hyb⟩ := goodB_parts hg
  have hn24 := netOkN hnet
  have hl16 : l ≤ 16 := by omega
  have hmx : l ≤ maxLen := by unfold maxLen; omega
  obtain ⟨R, hR⟩ : ∃ R, Hid (searchS p n L Bg m0 = R) := ⟨_, rfl⟩
  rw [hR.out]
  have hA1 := below_al w (.cells #[.int .i64 p, .slice a n c] 31)
  have hA2 := below_al (w.alloc (.cells #[.int .i64 p, .slice a n c] 31)) (.cells #[.slice none 0 0, .slice none 0 0] 66)
  have hAA := hA1.trans (hA2.mono hA1.size)
  have HN0 := hide (keep (heap_alloc_new w (.cells #[.int .i64 p, .slice a n c] 31)) hA2)
  have hz1 : (w.alloc (.cells #[.int .i64 p, .slice a n c] 31)).heap.size = w.heap.size + 1 := by simp
  have HR0 := heap_alloc_new (w.alloc (.cells #[.int .i64 p, .slice a n c] 31)) (.cells #[.slice none 0 0, .slice none 0 0] 66)
  rw [hz1] at HR0
  have HR0 := hide HR0
  have HO := hide (own_any bm om l cm m0 _ (rm.below hAA) (by omega))
  have HL := hide h
  have HB0 := hide hAA
  have HNET := hide hnet
  have HG := hide hg
  clear h rm hA1 hA2 hAA hz1 hnet hg hyb
  go_enter Try.func68, Try.ntmps68
  go_wp2_with fail
  generalize (w.alloc (.cells #[.int .i64 p, .slice a n c] 31)).alloc (.cells #[.slice none 0 0, .slice none 0 0] 66) = v0 at *
  refine HO.out.mono ?_
  rintro e w1 ⟨g0, c0, rfl, hg0, hc0, hout, hb1⟩
  have hA3 := below_al w1 (.cells #[.slice (some ⟨g0, 0, none⟩) l c0] 40)
  have hA4 := below_al (w1.alloc (.cells #[.slice (some ⟨g0, 0, none⟩) l c0] 40)) (.cells #[.slice (some ⟨w1.heap.size, 0, none⟩) 1 1, .slice none 0 0] 66)
  have hz2 : (w1.alloc (.cells #[.slice (some ⟨g0, 0, none⟩) l c0] 40)).heap.size = w1.heap.size + 1 := by simp
  have hAB := hb1.trans ((hA3.trans (hA4.mono hA3.size)).mono hb1.size)
  have HST : Hid (SeSt w ((w1.alloc (.cells #[.slice (some ⟨g0, 0, none⟩) l c0] 40)).alloc (.cells #[.slice (some ⟨w1.heap.size, 0, none⟩) 1 1, .slice none 0 0] 66)) w.heap.size (w.heap.size + 1) (w1.heap.size + 1) p a n c l (.slice (some ⟨w1.heap.size, 0, none⟩) 1 1) (.slice none 0 0) [m0] []) := by
    have hv0 := row_lt HR0.out
    have hs1 := hb1.size
    have hs0 := HB0.out.size
    have hnb := heap_alloc_new (w1.alloc (.cells #[.slice (some ⟨g0, 0, none⟩) l c0] 40)) (.cells #[.slice (some ⟨w1.heap.size, 0, none⟩) 1 1, .slice none 0 0] 66)
    rw [hz2] at hnb
    refine ⟨HB0.out.trans (hAB.mono HB0.out.size), keep HN0.out hAB, keep HR0.out hAB, hnb, by omega, by omega, ⟨[.slice (some ⟨g0, 0, none⟩) l c0], ⟨rfl, .inr ⟨w1.heap.size, 1, _, rfl, by omega, keep (heap_alloc_new w1 _) hA4, by simp, by decide, rfl, rfl⟩⟩, fun i hi => ?_⟩, World.ownsRow_nil _ _ _ _⟩
    simp at hi
    subst hi
    exact ⟨g0, c0, rfl, (hout.grow hA3).grow hA4⟩
  clear hA3 hA4 hAB HO hz2
  go_wp2_with fail
  generalize (w1.alloc (.cells #[.slice (some ⟨g0, 0, none⟩) l c0] 40)).alloc (.cells #[.slice (some ⟨w1.heap.size, 0, none⟩) 1 1, .slice none 0 0] 66) = v1 at *
  have HOUT := hide (show SeOut w v1 w.heap.size (w.heap.size + 1) (w1.heap.size + 1) p a n c l Bg L 0 R (sea0 m0) _ _ from ⟨SeaOk.start hB1 HG.out, by simp, by rw [Nat.sub_zero]; exact hR.out, HST.out, by simp [sea0]⟩)
  obtain ⟨b, hbb⟩ : ∃ b, Hid (w1.heap.size + 1 = b) := ⟨_, rfl⟩
  rw [hbb.out] at HOUT ⊢
  clear HST hb1 hout HN0 HR0
  go_loopw [9] (fun i wr => ∃ (k : Nat) (s : Sea) (mv av : Value), i = .int .i64 (k : Int) ∧ Hid (SeOut w wr w.heap.size (w.heap.size + 1) b p a n c l Bg L k R s mv av)) (fun i _ => Bg - (intOf i).toNat)
  case atStart => exact ⟨0, _, _, _, rfl, HOUT⟩
  case round =>
    clear HOUT
    obtain ⟨k, s, mv, av, rfl, ho⟩ := hrel
    obtain ⟨ma, mc, hmf⟩ := ho.out.st.marks.form
    obtain ⟨aa, ac, haf⟩ := own_form ho.out.st.arcs
    subst hmf haf
    obtain ⟨hs0, hs1⟩ := cells2 ho.out.st.st
    have hle := ho.out.ok.le
    have hkl := ho.out.hk
    have hm4 : ((s.ms.length : Nat) : Int) ≤ 400 := by omega
    have hk4 : (k : Int) ≤ 400 := by omega
    have hkn : k * n ≤ 9600 := by
      have : k * n ≤ 400 * 24 := Nat.mul_le_mul (by omega) hn24
      omega
    by_cases hlt : k < s.ms.length
    rotate_left
    · have hres := ho.out.st.res
      obtain ⟨r1, r2, r3⟩ := ho.out.st.ret (Nat.le_succ _) #[.slice ma s.ms.length mc, .slice aa s.ar.length ac]
      have hrr := setRow_same hres #[.slice ma s.ms.length mc, .slice aa s.ar.length ac]
      have HFIN : Hid (ExEnd p n l Bg R w (.returned (.tuple #[.agg #[.slice ma s.ms.length mc, .slice aa s.ar.length ac], .int .i64 1])) (wr.setRow (w.heap.size + 1) #[.slice ma s.ms.length mc, .slice aa s.ar.length ac])) := by
        have hRs := ho.out.sea.symm.trans (seaS_done hlt)
        rw [hRs]
        exact ⟨r1, ho.out.ok, by have := ho.out.len; omega, _, _, rfl, r2, r3⟩
      have hki : ¬ (k : Int) < ((s.ms.length : Nat) : Int) := by omega
      clear ho r1 r2 r3
      go_wp2_with ((show wpList _ _ _ (⟨none, .store 66 (.tmp 6) (.tmp 89), _, _, _, _⟩ :: _) _ _); refine wpList_store_row rfl 66 _ _ rfl _ _ rfl rfl 66 _ hres size_space rfl (one2 rfl rfl) ?_)
      refine bodyPost_ret (v := .tuple #[.agg #[.slice ma s.ms.length mc, .slice aa s.ar.length ac], .int .i64 1]) ?_ rfl HFIN.out
      exact space_res2 Try.results68 _ _ (w.heap.size + 1) _ _ rfl rfl rfl hrr
    have hki : (k : Int) < ((s.ms.length : Nat) : Int) := by omega
    obtain ⟨m, hmq⟩ : ∃ m, Hid (s.ms.getD k [] = m) := ⟨_, rfl⟩
    have hgm := ho.out.ok.goodAt hlt
    rw [hmq.out] at hgm
    obtain ⟨mb, mg, mgc, rfl, hmb, hmc, hmr⟩ := ho.out.st.marks.at_ hlt
    rw [hmq.out] at hmr
    obtain ⟨hn0, hn1⟩ := cells2 ho.out.st.net
    have hk0 : (0 : Int) ≤ (k : Int) := by omega
    go_upto_region 5 with fail
    have HO2 : Hid (SeOut w wr.drew w.heap.size (w.heap.size + 1) b p a n c l Bg L k R s (.slice (some ⟨mb, 0, none⟩) s.ms.length mc) (.slice aa s.ar.length ac)) := ⟨ho.out.ok, ho.out.hk, ho.out.sea, ho.out.st.go (Below.refl _ _).drew, ho.out.len⟩
    have HMR : Hid (OutR wr.drew mg l m) := hmr.grow (Below.refl _ _).drew
    have HMC : Hid (wr.drew.cell? ⟨mb, k, none⟩ = some (.slice (some ⟨mg, 0, none⟩) l mgc)) := hmc
    have HMB : Hid (mb < wr.drew.heap.size) := hmb
    refine wp_region_held_drew (S := fun W => W.cell? ⟨w.heap.size, 0, none⟩ = some (.int .i64 p) ∧ W.cell? ⟨w.heap.size, 1, none⟩ = some (.slice a n c) ∧ W.cell? ⟨b, 0, none⟩ = some (.slice (some ⟨mb, 0, none⟩) s.ms.length mc) ∧ W.cell? ⟨mb, k, none⟩ = some (.slice (some ⟨mg, 0, none⟩) l mgc)) (by kernel_rfl) ?_ (fun hHeld => ?_)
    · exact ⟨hn0, hn1, hs0, hmc⟩
    clear ho hn0 hn1 hs0 hs1 hmr hmc hmb
    generalize wr.drew = v2 at *
    refine take_yes (i := 0) (some 25) (.agg #[.int .i64 p, .slice a n c]) rfl rfl (by kernel_rfl) (by kernel_rfl) (by kernel_rfl) (fun _ _ _ h => h) (by rfl) ?_ (by assumption) ?_
    · intro W' hSw
      obtain ⟨hz0, hz1, hz2, hz3⟩ := hSw
      go_simp
    simp only [Act.put, List.setIfInBounds_toArray, List.set_cons_zero, List.set_cons_succ]
    refine take_yes (i := 1) (some 26) (.pointer (some ⟨b, 0, none⟩)) rfl rfl (by kernel_rfl) (by kernel_rfl) (by kernel_rfl) (fun _ _ _ h => h) (by rfl) ?_ (by assumption) ?_
    · intro W' hSw
      go_simp
    simp only [Act.put, List.setIfInBounds_toArray, List.set_cons_zero, List.set_cons_succ]
    refine take_yes (i := 2) (some 27) (.slice (some ⟨mb, 0, none⟩) s.ms.length mc) rfl rfl (by kernel_rfl) (by kernel_rfl) (by kernel_rfl) (fun _ _ _ h => h) (by rfl) ?_ (by assumption) ?_
    · intro W' hSw
      obtain ⟨hz0, hz1, hz2, hz3⟩ := hSw
      go_simp
    simp only [Act.put, List.setIfInBounds_toArray, List.set_cons_zero, List.set_cons_succ]
    refine take_yes (i := 3) (some 28) (.int .i64 (k : Int)) rfl rfl (by kernel_rfl) (by kernel_rfl) (by kernel_rfl) (fun _ _ _ h => h) (by rfl) ?_ (by assumption) ?_
    · intro W' hSw
      go_simp
    simp only [Act.put, List.setIfInBounds_toArray, List.set_cons_zero, List.set_cons_succ]
    refine take_yes (i := 4) (some 29) (.pointer (some ⟨mb, k, none⟩)) rfl rfl (by kernel_rfl) (by kernel_rfl) (by kernel_rfl) (fun _ _ _ h => h) (by rfl) ?_ (by assumption) ?_
    · intro W' hSw
      go_simp
    simp only [Act.put, List.setIfInBounds_toArray, List.set_cons_zero, List.set_cons_succ]
    refine take_yes (i := 5) (some 30) (.slice (some ⟨mg, 0, none⟩) l mgc) rfl rfl (by kernel_rfl) (by kernel_rfl) (by kernel_rfl) (fun _ _ _ h => h) (by rfl) ?_ (by assumption) ?_
    · intro W' hSw
      obtain ⟨hz0, hz1, hz2, hz3⟩ := hSw
      go_simp
    simp only [Act.put, List.setIfInBounds_toArray, List.set_cons_zero, List.set_cons_succ]
    refine take_yes (i := 8) (some 33) (.int .i64 0) rfl rfl (by kernel_rfl) (by kernel_rfl) (by kernel_rfl) (fun _ _ _ h => h) (by rfl) ?_ (by assumption) ?_
    · intro W' hSw
      go_simp
    simp only [Act.put, List.setIfInBounds_toArray, List.set_cons_zero, List.set_cons_succ]
    have hin : ∀ k, k < n → ∀ x ∈ L.getD (3 * k) [], 0 ≤ x ∧ x < (l : Int) := fun k hk x hx => by
      have htri := tri_rise (triOkOf HNET.out hk)
      have := riseB_mem htri.1 x hx
      omega
    refine call_next (i := 6) (some 31) rfl rfl (by kernel_rfl) (by rfl) 81 _ _ _ rfl Try.func81 (by decide) rfl #[.agg #[.int .i64 p, .slice a n c], .slice (some ⟨mg, 0, none⟩) l mgc] (mapw2 _ _ _ _ _ rfl rfl) _ (enabledS_any p a (some ⟨mg, 0, none⟩) n c l mgc L m v2 (HL.out.below HO2.out.st.bel) HMR.out.row hs hn24 hin) ?_
    rintro e v3 ⟨ev, en, rfl, hown, hb3⟩
    rw [enT_nums] at hown
    have hen : en = (enT L n m).length := by have := hown.1; rw [Nat.mul_one] at this; rw [← this]; simp [intsV]
    subst hen
    obtain ⟨ea, ec, hef⟩ := own_form hown
    subst hef
    have HO3 : Hid (SeOut w v3 w.heap.size (w.heap.size + 1) b p a n c l Bg L k R s (.slice (some ⟨mb, 0, none⟩) s.ms.length mc) (.slice aa s.ar.length ac)) := ⟨HO2.out.ok, HO2.out.hk, HO2.out.sea, HO2.out.st.go hb3, HO2.out.len⟩
    have HMC3 := (hb3.cell (p := ⟨mb, k, none⟩) HMB.out).trans HMC.out
    obtain ⟨y0, y1⟩ := cells2 HO3.out.st.net
    obtain ⟨y2, y3⟩ := cells2 HO3.out.st.st
    refine ⟨_, rfl, ⟨y0, y1, y2, HMC3⟩, fun _ => ?_⟩
    simp only [Act.put, List.setIfInBounds_toArray, List.set_cons_zero, List.set_cons_succ]
    refine take_yes (i := 7) (some 32) (.int .i64 ((enT L n m).length : Int)) rfl rfl (by kernel_rfl) (by kernel_rfl) (by kernel_rfl) (fun _ _ _ h => h) (by rfl) ?_ (by assumption) ?_
    · intro W' hSw
      go_simp
    simp only [Act.put, List.setIfInBounds_toArray, List.set_cons_zero, List.set_cons_succ]
    refine wpAnyH_done (by kernel_rfl) ?_ _
    obtain ⟨R1, hR1⟩ : ∃ R1, Hid (rowS p L Bg m k (List.range n) s = R1) := ⟨_, rfl⟩
    have HIN := hide (show SeIn w v3 w.heap.size (w.heap.size + 1) b p a n c l Bg L k (k * n) 0 m (enT L n m) R1 s (.slice (some ⟨mb, 0, none⟩) s.ms.length mc) (.slice aa s.ar.length ac) (.slice ea (enT L n m).length ec) v2.heap.size from
      ⟨HO3.out.ok, hlt, hmq.out, by rw [List.drop_zero]; unfold enT; rw [rowS_filter]; exact hR1.out, HO3.out.st, HO3.out.len, hown⟩)
    have HSEA : Hid (∀ s', R1 = .ok s' → seaS p n L Bg (Bg - (k + 1)) (k + 1) s' = R) := fun s' h1 => seaS_row HO3.out.ok hlt HO3.out.sea (by rw [hmq.out]; exact hR1.out.trans h1)
    have HSER : Hid (∀ cd, R1 = .error cd → R = .error cd) := fun cd h1 => seaS_stop HO3.out.ok hlt HO3.out.sea (by rw [hmq.out]; exact hR1.out.trans h1)
    have HGM := hide hgm
    have hel := enT_len L n m
    have hel0 : (((enT L n m).length : Nat) : Int) ≤ 24 := by omega
    clear HO2 HO3 HMR HMC HMB HMC3 hown hHeld y0 y1 y2 y3 hb3 hR1 hgm hin
    go_wp2_with fail
    go_loopw [33] (fun iv wq => ∃ (i : Nat) (s' : Sea) (mv' av' : Value), i ≤ (enT L n m).length ∧ iv = .int .i64 (i : Int) ∧ Hid (SeIn w wq w.heap.size (w.heap.size + 1) b p a n c l Bg L k (k * n) i m (enT L n m) R1 s' mv' av' (.slice ea (enT L n m).length ec) v2.heap.size)) (fun iv _ => (enT L n m).length - (intOf iv).toNat)
    case atStart => exact ⟨0, s, _, _, Nat.zero_le _, rfl, HIN⟩
    case round =>
      clear HIN
      obtain ⟨i, s', mv', av', hi, rfl, hf⟩ := hrel
      have hle' := hf.out.ok.le
      have hm4' : ((s'.ms.length : Nat) : Int) ≤ 400 := by omega
      by_cases hil : i < (enT L n m).length
      rotate_left
      · have hii : ¬ (i : Int) < (((enT L n m).length : Nat) : Int) := by omega
        have hRs : R1 = .ok s' := by
          have := hf.out.row
          rw [List.drop_eq_nil_of_le (by omega)] at this
          exact this.symm
        have HNX := hide (show SeOut w wr w.heap.size (w.heap.size + 1) b p a n c l Bg L (k + 1) R s' mv' av' from
          ⟨hf.out.ok, hf.out.hk, HSEA.out s' hRs, hf.out.st, by rw [Nat.add_mul, Nat.one_mul]; have := hf.out.len; omega⟩)
        clear hf hRs
        go_wp2_with fail
        go_roundw
        case rel => exact ⟨k + 1, s', mv', av', by go_num, HNX⟩
        case measure => simp [intOf]; omega
      obtain ⟨t, ht, htn, hcan, hdrop⟩ := enT_at hil
      obtain ⟨eg, ec', hee, hec⟩ := ens_at hf.out.ens hil ht
      simp only [Value.slice.injEq] at hee
      obtain ⟨rfl, _, rfl⟩ := hee
      obtain ⟨ma', mc', hmf⟩ := hf.out.st.marks.form
      obtain ⟨aa', ac', haf⟩ := own_form hf.out.st.arcs
      subst hmf haf
      obtain ⟨hs0, hs1⟩ := cells2 hf.out.st.st
      obtain ⟨mb', mg', mgc', rfl, hmb, hmc, hmr⟩ := hf.out.st.marks.at_ hf.out.hk
      rw [hf.out.at_] at hmr
      obtain ⟨hn0, hn1⟩ := cells2 hf.out.st.net
      obtain ⟨tb, toff, a0, n0, e0, a1, n1, e1, a2, n2, e2, rfl, htb, htr, m0', m1', m2', r0, r1, r2⟩ := (HL.out.below hf.out.st.bel).tri htn
      obtain ⟨hd0, hd1, hd2⟩ := rangeAt_cells3 htr
      have htri := tri_rise (triOkOf HNET.out htn)
      have hq0 := len_le L (3 * t)
      have hq1 := len_le L (3 * t + 1)
      have hq2 := len_le L (3 * t + 2)
      have hsz : n + sizeL L ≤ 1048576 := hs
      have q0 : n0 ≤ 1048576 := by have := r0.1; omega
      have q1 : n1 ≤ 1048576 := by have := r1.1; omega
      have q2 : n2 ≤ 1048576 := by have := r2.1; omega
      have hii : (i : Int) < (((enT L n m).length : Nat) : Int) := by omega
      have hi0 : (0 : Int) ≤ (i : Int) := by omega
      have hti : (t : Int) < (n : Int) := by omega
      have ht0 : (0 : Int) ≤ (t : Int) := by omega
      have hki' : (k : Int) < ((s'.ms.length : Nat) : Int) := by have := hf.out.hk; omega
      obtain ⟨x0, hx0⟩ : ∃ x, Hid (L.getD (3 * t) [] = x) := ⟨_, rfl⟩
      obtain ⟨x1, hx1⟩ : ∃ x, Hid (L.getD (3 * t + 1) [] = x) := ⟨_, rfl⟩
      obtain ⟨x2, hx2⟩ : ∃ x, Hid (L.getD (3 * t + 2) [] = x) := ⟨_, rfl⟩
      rw [hx0.out] at r0 htri
      rw [hx1.out] at r1 htri
      rw [hx2.out] at r2 htri
      have HFT : Hid (fireL x0 x1 x2 m = fireT L m t) := by
        show _ = _
        unfold fireT firedL inOf outOf resOf; rw [Int.toNat_natCast, hx0.out, hx1.out, hx2.out]
      have HRR := hide (And.intro r0 (And.intro r1 r2))
      have HTRI := hide htri
      clear htr m0' m1' m2' r0 r1 r2 hq0 hq1 hq2 hx0 hx1 hx2 htri
      go_upto_region 8 with fail
      clear hec
      have HSN : Hid (SeIn w wr.drew w.heap.size (w.heap.size + 1) b p (some ⟨tb, toff, none⟩) n c l Bg L k (k * n) i m (enT L n m) R1 s' (.slice (some ⟨mb', 0, none⟩) s'.ms.length mc') (.slice aa' s'.ar.length ac') (.slice (some ⟨eg, 0, none⟩) (enT L n m).length ec) v2.heap.size) := hf.out.go (Below.refl _ _).drew
      have HMR : Hid (OutR wr.drew mg' l m) := hmr.grow (Below.refl _ _).drew
      have HR2 : Hid (Row wr.drew a0 n0 x0 ∧ Row wr.drew a1 n1 x1 ∧ Row wr.drew a2 n2 x2) := HRR.out
      refine wp_region_held_drew (S := fun W => W.cell? ⟨w.heap.size, 1, none⟩ = some (.slice (some ⟨tb, toff, none⟩) n c) ∧ W.cell? ⟨tb, toff + t * 3, none⟩ = some (.slice a0 n0 e0) ∧ W.cell? ⟨tb, toff + t * 3 + 1, none⟩ = some (.slice a1 n1 e1) ∧ W.cell? ⟨tb, toff + t * 3 + 2, none⟩ = some (.slice a2 n2 e2) ∧ W.cell? ⟨b, 0, none⟩ = some (.slice (some ⟨mb', 0, none⟩) s'.ms.length mc') ∧ W.cell? ⟨mb', k, none⟩ = some (.slice (some ⟨mg', 0, none⟩) l mgc')) (by kernel_rfl) ?_ (fun hHeld => ?_)
      · exact ⟨hn1, hd0, hd1, hd2, hs0, hmc⟩
      have hwb := hf.out.st.bel.size
      have HTB : Hid (tb < wr.drew.heap.size) := htb
      have HMB : Hid (mb' < wr.drew.heap.size) := hmb
      clear hf hn0 hn1 hs0 hs1 hmr hmc hmb hd0 hd1 hd2 htb HRR
      generalize wr.drew = v4 at *
      refine take_yes (i := 0) (some 37) (.pointer (some ⟨w.heap.size, 1, none⟩)) rfl rfl (by kernel_rfl) (by kernel_rfl) (by kernel_rfl) (fun _ _ _ h => h) (by rfl) ?_ (by assumption) ?_
      · intro W' hSw
        go_simp
      simp only [Act.put, List.setIfInBounds_toArray, List.set_cons_zero, List.set_cons_succ]
      refine take_yes (i := 1) (some 38) (.slice (some ⟨tb, toff, none⟩) n c) rfl rfl (by kernel_rfl) (by kernel_rfl) (by kernel_rfl) (fun _ _ _ h => h) (by rfl) ?_ (by assumption) ?_
      · intro W' hSw
        obtain ⟨hz0, hz1, hz2, hz3, hz4, hz5⟩ := hSw
        go_simp
      simp only [Act.put, List.setIfInBounds_toArray, List.set_cons_zero, List.set_cons_succ]
      refine take_yes (i := 2) (some 39) (.int .i64 (t : Int)) rfl rfl (by kernel_rfl) (by kernel_rfl) (by kernel_rfl) (fun _ _ _ h => h) (by rfl) ?_ (by assumption) ?_
      · intro W' hSw
        go_simp
      simp only [Act.put, List.setIfInBounds_toArray, List.set_cons_zero, List.set_cons_succ]
      refine take_yes (i := 3) (some 40) (.pointer (some ⟨tb, toff + t * 3, none⟩)) rfl rfl (by kernel_rfl) (by kernel_rfl) (by kernel_rfl) (fun _ _ _ h => h) (by rfl) ?_ (by assumption) ?_
      · intro W' hSw
        go_simp
      simp only [Act.put, List.setIfInBounds_toArray, List.set_cons_zero, List.set_cons_succ]
      refine take_yes (i := 4) (some 41) (.agg #[.slice a0 n0 e0, .slice a1 n1 e1, .slice a2 n2 e2]) rfl rfl (by kernel_rfl) (by kernel_rfl) (by kernel_rfl) (fun _ _ _ h => h) (by rfl) ?_ (by assumption) ?_
      · intro W' hSw
        obtain ⟨hz0, hz1, hz2, hz3, hz4, hz5⟩ := hSw
        go_simp
      simp only [Act.put, List.setIfInBounds_toArray, List.set_cons_zero, List.set_cons_succ]
      refine take_yes (i := 5) (some 42) (.pointer (some ⟨b, 0, none⟩)) rfl rfl (by kernel_rfl) (by kernel_rfl) (by kernel_rfl) (fun _ _ _ h => h) (by rfl) ?_ (by assumption) ?_
      · intro W' hSw
        go_simp
      simp only [Act.put, List.setIfInBounds_toArray, List.set_cons_zero, List.set_cons_succ]
      refine take_yes (i := 6) (some 43) (.slice (some ⟨mb', 0, none⟩) s'.ms.length mc') rfl rfl (by kernel_rfl) (by kernel_rfl) (by kernel_rfl) (fun _ _ _ h => h) (by rfl) ?_ (by assumption) ?_
      · intro W' hSw
        obtain ⟨hz0, hz1, hz2, hz3, hz4, hz5⟩ := hSw
        go_simp
      simp only [Act.put, List.setIfInBounds_toArray, List.set_cons_zero, List.set_cons_succ]
      refine take_yes (i := 7) (some 44) (.int .i64 (k : Int)) rfl rfl (by kernel_rfl) (by kernel_rfl) (by kernel_rfl) (fun _ _ _ h => h) (by rfl) ?_ (by assumption) ?_
      · intro W' hSw
        go_simp
      simp only [Act.put, List.setIfInBounds_toArray, List.set_cons_zero, List.set_cons_succ]
      refine take_yes (i := 8) (some 45) (.pointer (some ⟨mb', k, none⟩)) rfl rfl (by kernel_rfl) (by kernel_rfl) (by kernel_rfl) (fun _ _ _ h => h) (by rfl) ?_ (by assumption) ?_
      · intro W' hSw
        go_simp
      simp only [Act.put, List.setIfInBounds_toArray, List.set_cons_zero, List.set_cons_succ]
      refine take_yes (i := 9) (some 46) (.slice (some ⟨mg', 0, none⟩) l mgc') rfl rfl (by kernel_rfl) (by kernel_rfl) (by kernel_rfl) (fun _ _ _ h => h) (by rfl) ?_ (by assumption) ?_
      · intro W' hSw
        obtain ⟨hz0, hz1, hz2, hz3, hz4, hz5⟩ := hSw
        go_simp
      simp only [Act.put, List.setIfInBounds_toArray, List.set_cons_zero, List.set_cons_succ]
      refine call_next (i := 10) (some 47) rfl rfl (by kernel_rfl) (by rfl) 82 _ _ _ rfl Try.func82 (by decide) rfl #[.agg #[.slice a0 n0 e0, .slice a1 n1 e1, .slice a2 n2 e2], .slice (some ⟨mg', 0, none⟩) l mgc'] (mapw2 _ _ _ _ _ rfl rfl) _ (fireS_any a0 a1 a2 n0 n1 n2 e0 e1 e2 l mg' 0 mgc' x0 x1 x2 m v4 HR2.out.1 HR2.out.2.1 HR2.out.2.2 HMR.out.row q0 q1 q2 hl16 (by rw [hl]; exact HTRI.out.1) (by rw [hl]; exact HTRI.out.2.1) (by rw [hl]; exact HTRI.out.2.2) (goodB_parts HGM.out).2.2) ?_
      rintro e v5 ⟨fg, fc, rfl, hfg, hfo, hb5⟩
      rw [HFT.out] at hfo
      have HS5 := hide (HSN.out.go hb5)
      have hd5 : ∀ o, v5.cell? ⟨tb, o, none⟩ = v4.cell? ⟨tb, o, none⟩ := fun o => hb5.cell (p := ⟨tb, o, none⟩) HTB.out
      have hm5 : ∀ o, v5.cell? ⟨mb', o, none⟩ = v4.cell? ⟨mb', o, none⟩ := fun o => hb5.cell (p := ⟨mb', o, none⟩) HMB.out
      refine ⟨_, rfl, ⟨(cells2 HS5.out.st.net).2, (hd5 _).trans hHeld.2.1, (hd5 _).trans hHeld.2.2.1, (hd5 _).trans hHeld.2.2.2.1, (cells2 HS5.out.st.st).1, (hm5 _).trans hHeld.2.2.2.2.2⟩, fun _ => ?_⟩
      simp only [Act.put, List.setIfInBounds_toArray, List.set_cons_zero, List.set_cons_succ]
      refine take_yes (i := 11) (some 12) (.slice (some ⟨fg, 0, none⟩) l fc) rfl rfl (by kernel_rfl) (by kernel_rfl) (by kernel_rfl) (fun _ _ _ h => h) (by rfl) ?_ (by assumption) ?_
      · intro W' hSw
        go_simp
      simp only [Act.put, List.setIfInBounds_toArray, List.set_cons_zero, List.set_cons_succ]
      refine wpAnyH_done (by kernel_rfl) ?_ _
      have HFO := hide hfo
      clear hHeld HSN HMR HR2 HTB HMB hd5 hm5 hb5 hfo HTRI HFT
      obtain ⟨y0, y1⟩ := cells2 HS5.out.st.net
      obtain ⟨y2, y3⟩ := cells2 HS5.out.st.st
      have HGD := hide (goodS_any p (some ⟨fg, 0, none⟩) l fc (fireT L m t) v5 HFO.out.row (by omega))
      go_wp2_with fail
      refine HGD.out.mono ?_
      rintro e w' ⟨rfl, rfl⟩
      by_cases hgd : goodB p (fireT L m t) = true
      rotate_left
      · have hgd' : goodB p (fireT L m t) = false := by simpa using hgd
        rw [hgd']
        have hres := HS5.out.st.res
        have hrr := setRow_same hres #[.slice none 0 0, .slice none 0 0]
        have hbz := (HS5.out.st.ret (Nat.le_succ _) #[.slice none 0 0, .slice none 0 0]).1
        have HN := hide (exEnd_err (p := p) (n := n) (l := l) (Bg := Bg) (w := w) (HSER.out _ (HS5.out.bad hdrop hcan (oneS_no hgd'))) (by decide) (show ((3 : Nat) : Int) = 3 from rfl) hbz)
        clear hbz
        go_wp2_with ((show wpList _ _ _ (⟨none, .store 66 (.tmp 6) (.tmp 53), _, _, _, _⟩ :: _) _ _); refine wpList_store_row rfl 66 _ _ rfl _ _ rfl rfl 66 _ hres size_space rfl (one2 rfl rfl) ?_)
        refine bodyPost_ret (v := .tuple #[.agg #[.slice none 0 0, .slice none 0 0], .int .i64 3]) ?_ rfl HN.out
        exact space_res2 Try.results68 _ _ (w.heap.size + 1) _ _ rfl rfl rfl hrr
      rw [hgd]
      have HFI := hide (find_any (some ⟨mb', 0, none⟩) (some ⟨fg, 0, none⟩) s'.ms.length mc' l fc s'.ms (fireT L m t) w' (HS5.out.st.marks.lists hmx) HFO.out.row (by omega) (by omega))
      have hon : oneS p L Bg m k t s' = meetS Bg (fireT L m t) k t s' := oneS_good hgd
      have harl := HS5.out.len
      clear HGD hgd
      go_wp2_with fail
      refine HFI.out.mono ?_
      rintro e w'' ⟨rfl, q, rfl⟩
      have HS6 := hide (HS5.out.go (below_drewN' w' q))
      have HFO6 := hide (HFO.out.grow (below_drewN' w' q))
      clear HFI HFO y0 y1 y2 y3 HS5
      have HS5 := HS6
      clear HS6
      generalize w'.drewN q = v6 at *
      obtain ⟨y2, y3⟩ := cells2 HS5.out.st.st
      by_cases hmem : fireT L m t ∈ s'.ms
      · have hfl : findL s'.ms (fireT L m t) = ((s'.ms.idxOf (fireT L m t) : Nat) : Int) := by unfold findL; rw [if_pos hmem]
        have hjl := List.idxOf_lt_length_of_mem hmem
        obtain ⟨j, hj⟩ : ∃ j, Hid (s'.ms.idxOf (fireT L m t) = j) := ⟨_, rfl⟩
        rw [hj.out] at hfl hjl
        have HONE : Hid (oneS p L Bg m k t s' = .ok ⟨s'.ms, s'.ar ++ [(k, t, j)]⟩) := by
          show _ = _
          rw [hon]; unfold meetS; rw [if_pos hmem, hj.out]
        rw [hfl]
        have hj0 : ¬ ((j : Nat) : Int) < 0 := by omega
        have hj4 : ((j : Nat) : Int) ≤ 400 := by omega
        have HST5 := hide HS5.out.st
        have HEN5 := hide HS5.out.ens
        clear hmem hfl hon hjl hj
        obtain ⟨z0, z1⟩ := cells2 HST5.out.st
        have HA6 := hide (HST5.out.go (below_al v6 (.cells #[.int .i64 (k : Int), .int .i64 (t : Int), .int .i64 (j : Nat)] 98)))
        have HE6 := hide (own_turn HEN5.out (Turn3.of_below (below_al v6 (.cells #[.int .i64 (k : Int), .int .i64 (t : Int), .int .i64 (j : Nat)] 98))))
        have HNW := hide (World.news_of_block (heap_alloc_new v6 (.cells #[.int .i64 (k : Int), .int .i64 (t : Int), .int .i64 (j : Nat)] 98)))
        have hzz := HA6.out.bel.size
        obtain ⟨i2, hi2, hy0, hy1, hy2⟩ := info_split Try.infoA
        go_wp2_with (at_builtin; refine wpList_append_lies _ rfl (.tmp 80) (.tmp 85) 64 rfl w.heap.size 98 i2 _ 3 24 Try.underlying64 hi2 hy0 hy1 hy2 rfl (by decide) (.slice aa' s'.ar.length ac') s'.ar.length (arcsL s'.ar) rfl HA6.out.arcs ⟨v6.heap.size, 0, none⟩ 1 1 [.int .i64 (k : Int), .int .i64 (t : Int), .int .i64 (j : Nat)] rfl rfl HNW.out (by simp [Value.oneCell']) (by decide) (by unfold maxLen; omega) (by omega) hzz _ rfl ?_; intro g cp W' hown hgr hlies hglt; have hst := (hgr.block b (row_lt HA6.out.st) (fun e => by obtain ⟨cur, hcur⟩ := own_ty HA6.out.arcs e.symm; have := HA6.out.st; rw [hcur] at this; simp at this)).trans HA6.out.st; have hz4 : W'.cell? ⟨b, 1, none⟩ = some (.slice aa' s'.ar.length ac') := cell_of_row W' b 1 _ _ _ hst; have hz5 : W'.frozen? ⟨b, 1, none⟩ = false := frozen_of_row W' b 1 _ _ hst)
        obtain ⟨st1, st2⟩ := HA6.out.arc hgr (ar' := s'.ar ++ [(k, t, j)]) (by rw [List.length_append, arcsL_snoc]; exact hown)
        have HFF := hide (HS5.out.step hdrop htn hcan HONE.out st1 (own_turn HE6.out st2))
        clear hst hown hgr hlies hglt st1 st2 HS5 HST5 HA6 HEN5 HE6 HNW HONE z0 z1 hi2 hz4 hz5
        go_roundw
        case rel => exact ⟨i + 1, _, _, _, by omega, by go_num, HFF⟩
        case measure => simp [intOf]; omega
      · have hfl : findL s'.ms (fireT L m t) = -1 := by unfold findL; rw [if_neg hmem]
        rw [hfl]
        clear hfl
        by_cases hfull : s'.ms.length = Bg
        · have hfu : ((s'.ms.length : Nat) : Int) = (Bg : Int) := by omega
          have hbe : (((s'.ms.length : Nat) : Int) == (Bg : Int)) = true := by simpa using hfu
          have hbad : oneS p L Bg m k t s' = .error 2 := by rw [hon]; unfold meetS; rw [if_neg hmem, if_pos hfull]
          have hres := HS5.out.st.res
          have hrr := setRow_same hres #[.slice none 0 0, .slice none 0 0]
          have hbz := (HS5.out.st.ret (Nat.le_succ _) #[.slice none 0 0, .slice none 0 0]).1
          have HN := hide (exEnd_err (p := p) (n := n) (l := l) (Bg := Bg) (w := w) (HSER.out _ (HS5.out.bad hdrop hcan hbad)) (by decide) (show ((2 : Nat) : Int) = 2 from rfl) hbz)
          clear hbz
          go_wp2_with ((show wpList _ _ _ (⟨none, .store 66 (.tmp 6) (.tmp 67), _, _, _, _⟩ :: _) _ _); refine wpList_store_row rfl 66 _ _ rfl _ _ rfl rfl 66 _ hres size_space rfl (one2 rfl rfl) ?_)
          refine bodyPost_ret (v := .tuple #[.agg #[.slice none 0 0, .slice none 0 0], .int .i64 2]) ?_ rfl HN.out
          exact space_res2 Try.results68 _ _ (w.heap.size + 1) _ _ rfl rfl rfl hrr
        have hfu : ¬ ((s'.ms.length : Nat) : Int) = (Bg : Int) := by omega
        have hbe : (((s'.ms.length : Nat) : Int) == (Bg : Int)) = false := by simpa using hfu
        have HONE : Hid (oneS p L Bg m k t s' = .ok ⟨s'.ms ++ [fireT L m t], s'.ar ++ [(k, t, s'.ms.length)]⟩) := by
          show _ = _
          rw [hon]; unfold meetS; rw [if_neg hmem, if_neg hfull]
        clear hmem hon hfull
        have hjm : ((s'.ms.length : Nat) : Int) ≤ 400 := by omega
        obtain ⟨cs, hcs, hcm⟩ := HS5.out.st.marks
        have hAl := below_al v6 (.cells #[.slice (some ⟨fg, 0, none⟩) l fc] 40)
        have HX := hide (HS5.out.st.go hAl)
        have HCS : Hid ((v6.alloc (.cells #[.slice (some ⟨fg, 0, none⟩) l fc] 40)).ownsRow w.heap.size 40 1 (.slice (some ⟨mb', 0, none⟩) s'.ms.length mc') s'.ms.length cs) := ownsRow_kept hcs fun g hg => hAl.block g (own_lt hcs hg).2
        have HCM : Hid (∀ i, i < s'.ms.length → ∃ g c, cs[i]? = some (.slice (some ⟨g, 0, none⟩) l c) ∧ OutR (v6.alloc (.cells #[.slice (some ⟨fg, 0, none⟩) l fc] 40)) g l (s'.ms.getD i [])) := fun i hi => by
          obtain ⟨g, c, e1, e2⟩ := hcm i hi
          exact ⟨g, c, e1, e2.grow hAl⟩
        have HFO7 := hide (HFO6.out.grow hAl)
        have HEN6 := hide (own_turn HS5.out.ens (Turn3.of_below hAl))
        have HNX := hide (World.news_of_block (heap_alloc_new v6 (.cells #[.slice (some ⟨fg, 0, none⟩) l fc] 40)))
        have hzx := HX.out.bel.size
        obtain ⟨i3, hi3, hw0, hw1, hw2⟩ := info_split Try.infoSl
        clear hcs hcm hAl
        go_upto_region 17 with (at_builtin; refine wpList_append_lies _ rfl (.tmp 74) (.tmp 76) 26 rfl w.heap.size 40 i3 _ 1 24 Try.underlying26 hi3 hw0 hw1 hw2 rfl (by decide) (.slice (some ⟨mb', 0, none⟩) s'.ms.length mc') s'.ms.length cs rfl HCS.out ⟨v6.heap.size, 0, none⟩ 1 1 [.slice (some ⟨fg, 0, none⟩) l fc] rfl rfl HNX.out (by simp [Value.oneCell']) (by decide) (by unfold maxLen; omega) (by omega) hzx _ rfl ?_; intro gm cpm Wm hom hgm hlm hgl; have hsm := (hgm.block b (row_lt HX.out.st) (fun e => by obtain ⟨cur, hcur⟩ := own_ty HCS.out e.symm; have := HX.out.st; rw [hcur] at this; simp at this)).trans HX.out.st; have hw4 : Wm.cell? ⟨b, 0, none⟩ = some (.slice (some ⟨mb', 0, none⟩) s'.ms.length mc') := cell_of_row Wm b 0 _ _ _ hsm; have hw5 : Wm.frozen? ⟨b, 0, none⟩ = false := frozen_of_row Wm b 0 _ _ hsm)
        obtain ⟨su1, su2⟩ := HX.out.mark HCS.out HCM.out hgm hom HFO7.out
        have HST5 := hide su1
        have HEN5 := hide (own_turn HEN6.out su2)
        clear hom hgm hlm hgl hsm hw4 hw5 su1 su2 HX HCS HCM HFO7 HEN6 HNX hi3 y2 y3
        generalize Wm.setCell ⟨b, 0, none⟩ (.slice (some ⟨gm, 0, none⟩) (s'.ms.length + 1) cpm) = v7 at *
        obtain ⟨z0, z1⟩ := cells2 HST5.out.st
        have HA6 := hide (HST5.out.go (below_al v7 (.cells #[.int .i64 (k : Int), .int .i64 (t : Int), .int .i64 (s'.ms.length : Nat)] 98)))
        have HE6 := hide (own_turn HEN5.out (Turn3.of_below (below_al v7 (.cells #[.int .i64 (k : Int), .int .i64 (t : Int), .int .i64 (s'.ms.length : Nat)] 98))))
        have HNW := hide (World.news_of_block (heap_alloc_new v7 (.cells #[.int .i64 (k : Int), .int .i64 (t : Int), .int .i64 (s'.ms.length : Nat)] 98)))
        have hzz := HA6.out.bel.size
        obtain ⟨i2, hi2, hy0, hy1, hy2⟩ := info_split Try.infoA
        go_wp2_with (at_builtin; refine wpList_append_lies _ rfl (.tmp 80) (.tmp 85) 64 rfl w.heap.size 98 i2 _ 3 24 Try.underlying64 hi2 hy0 hy1 hy2 rfl (by decide) (.slice aa' s'.ar.length ac') s'.ar.length (arcsL s'.ar) rfl HA6.out.arcs ⟨v7.heap.size, 0, none⟩ 1 1 [.int .i64 (k : Int), .int .i64 (t : Int), .int .i64 (s'.ms.length : Nat)] rfl rfl HNW.out (by simp [Value.oneCell']) (by decide) (by unfold maxLen; omega) (by omega) hzz _ rfl ?_; intro g cp W' hown hgr hlies hglt; have hst := (hgr.block b (row_lt HA6.out.st) (fun e => by obtain ⟨cur, hcur⟩ := own_ty HA6.out.arcs e.symm; have := HA6.out.st; rw [hcur] at this; simp at this)).trans HA6.out.st; have hz4 : W'.cell? ⟨b, 1, none⟩ = some (.slice aa' s'.ar.length ac') := cell_of_row W' b 1 _ _ _ hst; have hz5 : W'.frozen? ⟨b, 1, none⟩ = false := frozen_of_row W' b 1 _ _ hst)
        obtain ⟨st1, st2⟩ := HA6.out.arc hgr (ar' := s'.ar ++ [(k, t, s'.ms.length)]) (by rw [List.length_append, arcsL_snoc]; exact hown)
        have HFF := hide (HS5.out.step hdrop htn hcan HONE.out st1 (own_turn HE6.out st2))
        clear hst hown hgr hlies hglt st1 st2 HS5 HST5 HA6 HEN5 HE6 HNW HONE z0 z1 hi2 hz4 hz5
        go_roundw
        case rel => exact ⟨i + 1, _, _, _, by omega, by go_num, HFF⟩
        case measure => simp [intOf]; omega
end Go.Proofs.Ytakenobplljkbab


/- The specification's Explore and l4All, for every net, list and budget in memory. -/
namespace Go.Proofs.Ytakenobplljkbab
open Go.RowKit
set_option maxRecDepth 10000

set_option maxHeartbeats 400000 in
theorem asked_any (p : Int) (a am : Option Addr) (n c nm cm : Nat) (L : List (List Int)) (ys : List Int) (bg : Int) (w : World) (h : Lists w a (3 * n) L) (rm : Row w am nm ys) (hs : sizeN n L ≤ 1048576) (hnm : nm ≤ 1048576) :
    Calls Try.prog 67 #[.agg #[.int .i64 p, .slice a n c], .slice am nm cm, .int .i64 bg] w fun e w' => e = .returned (.bool (askB p n L ys bg)) ∧ Below w.heap.size w w' := by
  have hAl := below_al w (.cells #[.int .i64 p, .slice a n c] 31)
  have HG := hide (marked_any p a am n c nm cm L ys _ (h.below hAl) (rm.below hAl) hs hnm)
  have HB0 := hide hAl
  clear h rm hAl
  by_cases g : (netOk p n L && goodB p ys) = true
  · have HQ : Hid (inB bg 1 400 = askB p n L ys bg) := by show _ = _; unfold askB; rw [g]; rfl
    rw [g] at HG
    go_enter Try.func67, Try.ntmps67
    go_wp2_with fail
    refine HG.out.mono ?_
    rintro e w1 ⟨rfl, hb⟩
    have HB1 := hide (HB0.out.trans (hb.mono HB0.out.size))
    clear hb HB0
    go_wp2_with (go_at_call 74; refine (in_any _ _ _ _).mono ?_; rintro e w' ⟨rfl, rfl⟩)
    go_ret
    exact ⟨ret_bool HQ.out, HB1.out⟩
  · have g' : (netOk p n L && goodB p ys) = false := by simpa using g
    have HQ : Hid (false = askB p n L ys bg) := by show _ = _; unfold askB; rw [g']; rfl
    rw [g'] at HG
    go_enter Try.func67, Try.ntmps67
    go_wp2_with fail
    refine HG.out.mono ?_
    rintro e w1 ⟨rfl, hb⟩
    have HB1 := hide (HB0.out.trans (hb.mono HB0.out.size))
    clear hb HB0
    go_wp2_with fail
    go_ret
    exact ⟨ret_bool HQ.out, HB1.out⟩

/-- How the specification's Explore ends. -/
def XpEnd (p : Int) (n l : Nat) (L : List (List Int)) (ys : List Int) (bg : Int) (w : World) (e : Ending) (w' : World) : Prop :=
  Below w.heap.size w w' ∧
    ((spCode p n L ys bg = 1 ∧ ∃ s ma mc aa ac, SpOk p n l L ys bg s ∧ e = .returned (.tuple #[.agg #[.slice ma s.ms.length mc, .slice aa s.ar.length ac], .int .i64 1, .bool true]) ∧ MRow w' w.heap.size (.slice ma s.ms.length mc) l s.ms ∧ w'.ownsRow w.heap.size 98 3 (.slice aa s.ar.length ac) s.ar.length (arcsL s.ar)) ∨
     (spCode p n L ys bg ≠ 1 ∧ e = .returned (.tuple #[.agg #[.slice none 0 0, .slice none 0 0], .int .i64 (spCode p n L ys bg : Int), .bool (askB p n L ys bg)])))

/-- How l4All ends. -/
def AlEnd (p : Int) (n l : Nat) (L : List (List Int)) (ys : List Int) (bg : Int) (w : World) (e : Ending) (w' : World) : Prop :=
  Below w.heap.size w w' ∧
    ((spCode p n L ys bg = 1 ∧ ∃ s ma mc aa ac, SpOk p n l L ys bg s ∧ e = .returned (.tuple #[.agg #[.slice ma s.ms.length mc, .slice aa s.ar.length ac], .bool true]) ∧ MRow w' w.heap.size (.slice ma s.ms.length mc) l s.ms ∧ w'.ownsRow w.heap.size 98 3 (.slice aa s.ar.length ac) s.ar.length (arcsL s.ar)) ∨
     (spCode p n L ys bg ≠ 1 ∧ e = .returned (.tuple #[.agg #[.slice none 0 0, .slice none 0 0], .bool false])))

theorem space_res3 {fn : Func} {q u t : Tmp} (hr : fn.results = #[.cell q 66, .tmp u, .tmp t]) (tmps : Array Value) (W : World) (b : Nat) (C : Array Value) (v v2 : Value) (h4 : tmps.getD q undef = .pointer (some ⟨b, 0, none⟩)) (h5 : tmps.getD u undef = v) (h6 : tmps.getD t undef = v2)
    (hs : C.size = 2) (q4 : W.heap[b]? = some (.cells C 66 (0, 0))) : (results fn tmps).run Try.prog W = .ok (.tuple #[.agg C, v, v2]) W := by
  have h1 : (results fn tmps).run Try.prog W = ((asAddr (tmps.getD q undef)).run Try.prog W).andThen fun a w₁ => ((loadVar 66 a).run Try.prog w₁).andThen fun v w₂ => .ok (.tuple #[v, tmps.getD u undef, tmps.getD t undef]) w₂ := by
    simp only [results, hr]
    simp [Sem.run_bind, Result.andThen]
  rw [h1, h4, h5, h6]
  show ((loadVar 66 ⟨b, 0, none⟩).run Try.prog _).andThen _ = _
  rw [run_loadVar_row _ _ 66 66 C (0, 0) _ q4 Try.underlying66 rfl (by rw [hs]; exact size_space)]
  rfl

/-- Rows of the answer stay while a cell block of another kind is written. -/
theorem MRow.setRow {w : World} {B l g : Nat} {v : Value} {ms : List (List Int)} {D : Array Value} (h : MRow w B v l ms) (hg : w.heap[g]? = some (.cells D 66 (0, 0))) (C : Array Value) : MRow (w.setRow g C) B v l ms := by
  refine h.kept ⟨by simp [World.setRow], fun i E h1 => setRow_other _ _ _ _ fun e => ?_⟩ fun i hi => setRow_other _ _ _ _ fun e => ?_
  · subst e; rw [hg] at h1; simp at h1
  · obtain ⟨cs, h1, _⟩ := h
    obtain ⟨cur, hc⟩ := own_ty h1 hi
    subst e; rw [hg] at hc; simp at hc

theorem arcs_setRow {w : World} {B g n : Nat} {v : Value} {xs : List Value} {D : Array Value} (h : w.ownsRow B 98 3 v n xs) (hg : w.heap[g]? = some (.cells D 66 (0, 0))) (C : Array Value) : (w.setRow g C).ownsRow B 98 3 v n xs :=
  ownsRow_kept h fun i hi => setRow_other _ _ _ _ fun e => by
    obtain ⟨cur, hc⟩ := own_ty h hi
    subst e; rw [hg] at hc; simp at hc

theorem MRow.mono {w : World} {B B' l : Nat} {v : Value} {ms : List (List Int)} (h : MRow w B v l ms) (hB : B' ≤ B) : MRow w B' v l ms := by
  obtain ⟨cs, h1, h2⟩ := h
  exact ⟨cs, h1.mono hB, h2⟩


set_option maxHeartbeats 1000000 in
theorem xplore_any (p : Int) (a am : Option Addr) (n c nm cm : Nat) (L : List (List Int)) (ys : List Int) (bg : Int) (w : World) (h : Lists w a (3 * n) L) (rm : Row w am nm ys) (hs : sizeN n L ≤ 1048576) (hnm : nm ≤ 1048576) :
    Calls Try.prog 49 #[.agg #[.int .i64 p, .slice a n c], .slice am nm cm, .int .i64 bg] w fun e w' => XpEnd p n nm L ys bg w e w' := by
  have hA1 := below_al w (.cells #[.int .i64 p, .slice a n c] 31)
  have hA2 := below_al (w.alloc (.cells #[.int .i64 p, .slice a n c] 31)) (.cells #[.slice none 0 0, .slice none 0 0] 66)
  have hAA := hA1.trans (hA2.mono hA1.size)
  have HN0 := hide (keep (heap_alloc_new w (.cells #[.int .i64 p, .slice a n c] 31)) hA2)
  have HR0 := hide (heap_alloc2_new w (.cells #[.int .i64 p, .slice a n c] 31) (.cells #[.slice none 0 0, .slice none 0 0] 66))
  have HASK := hide (asked_any p a am n c nm cm L ys bg _ (h.below hAA) (rm.below hAA) hs hnm)
  have HL := hide h
  have RM := hide rm
  have HB0 := hide hAA
  clear h rm hA1 hA2 hAA
  go_enter Try.func49, Try.ntmps49
  go_wp2_with fail
  generalize (w.alloc (.cells #[.int .i64 p, .slice a n c] 31)).alloc (.cells #[.slice none 0 0, .slice none 0 0] 66) = v0 at *
  refine HASK.out.mono ?_
  rintro e w1 ⟨rfl, hb1⟩
  have HN1 := hide (keep HN0.out hb1)
  have HR1 := keep HR0.out hb1
  have HB1 := hide (HB0.out.trans (hb1.mono HB0.out.size))
  clear hb1 HN0 HR0 HB0 HASK
  by_cases hask : askB p n L ys bg = true
  rotate_left
  · have hask' : askB p n L ys bg = false := by simpa using hask
    have HN := hide (show XpEnd p n nm L ys bg w (.returned (.tuple #[.agg #[.slice none 0 0, .slice none 0 0], .int .i64 0, .bool false])) (w1.setRow (w.heap.size + 1) #[.slice none 0 0, .slice none 0 0]) from by
      have e : spCode p n L ys bg = 0 := by unfold spCode; rw [hask']; rfl
      exact ⟨below_setRow HB1.out (w.heap.size + 1) (Nat.le_succ _) _, .inr ⟨by rw [e]; decide, by rw [e, hask']; rfl⟩⟩)
    rw [hask']
    clear hask hask'
    go_wp2_with ((show wpList _ _ _ (⟨none, .store 66 (.tmp 6) (.tmp 16), _, _, _, _⟩ :: _) _ _); refine wpList_store_row rfl 66 _ _ rfl _ _ rfl rfl 66 _ HR1 size_space rfl (one2 rfl rfl) ?_)
    refine bodyPost_ret (v := .tuple #[.agg #[.slice none 0 0, .slice none 0 0], .int .i64 0, .bool false]) ?_ rfl HN.out
    exact space_res3 Try.results49 _ _ (w.heap.size + 1) _ _ _ rfl rfl rfl rfl (setRow_same HR1 _)
  have hgg := hask
  unfold askB at hgg
  rw [Bool.and_eq_true, Bool.and_eq_true] at hgg
  obtain ⟨⟨g1, g2⟩, g3⟩ := hgg
  have hbg : 1 ≤ bg ∧ bg ≤ 400 := by simpa [inB] using g3
  obtain ⟨Bg, rfl⟩ : ∃ Bg : Nat, bg = (Bg : Int) := ⟨bg.toNat, by omega⟩
  have hpl : (nm : Int) = p := by have := (goodB_parts g2).2.1; have := RM.out.1; omega
  have hp1 := (goodB_parts g2).1
  obtain ⟨bm, om, rfl⟩ : ∃ bm om, am = some ⟨bm, om, none⟩ := by
    obtain ⟨bm, om, y, he, _⟩ := RM.out.at (show 0 < nm by omega)
    exact ⟨bm, om, he⟩
  have HEX := hide (exploreS_any p a bm om n c nm cm Bg L ys w1 (HL.out.below HB1.out) (RM.out.below HB1.out) hs g1 g2 hpl (by omega) (by omega))
  have HA := hide hask
  have HGG := hide (And.intro g1 g2)
  rw [hask]
  clear hask g1 g2 g3
  obtain ⟨hc0, hc1⟩ := cells2 HN1.out
  go_wp2_with fail
  refine HEX.out.mono ?_
  rintro e w2 ⟨hb2, hxx⟩
  have HR2 := keep HR1 hb2
  have HB2 := hide (HB1.out.trans (hb2.mono HB1.out.size))
  cases hsr : searchS p n L Bg ys with
  | error cd =>
    rw [hsr] at hxx
    obtain ⟨rfl, hcc⟩ := hxx
    have hA3 := below_al w2 (.cells #[.slice none 0 0, .slice none 0 0] 66)
    have HR3 := keep HR2 hA3
    have HN := hide (show XpEnd p n nm L ys (Bg : Int) w (.returned (.tuple #[.agg #[.slice none 0 0, .slice none 0 0], .int .i64 (cd : Int), .bool true])) ((w2.alloc (.cells #[.slice none 0 0, .slice none 0 0] 66)).setRow (w.heap.size + 1) #[.slice none 0 0, .slice none 0 0]) from by
      have e : spCode p n L ys (Bg : Int) = cd := by unfold spCode; rw [HA.out, Int.toNat_natCast, hsr]; rfl
      exact ⟨below_setRow (HB2.out.trans (hA3.mono HB2.out.size)) (w.heap.size + 1) (Nat.le_succ _) _, .inr ⟨by rw [e]; omega, by rw [e, HA.out]⟩⟩)
    have hcd : (cd : Int) ≤ 3 := by omega
    clear hsr HEX hA3
    go_wp2_with ((show wpList _ _ _ (⟨none, .store 66 (.tmp 6) (.tmp 24), _, _, _, _⟩ :: _) _ _); refine wpList_store_row rfl 66 _ _ rfl _ _ rfl rfl 66 _ HR3 size_space rfl (one2 rfl rfl) ?_)
    refine bodyPost_ret (v := .tuple #[.agg #[.slice none 0 0, .slice none 0 0], .int .i64 (cd : Int), .bool true]) ?_ rfl HN.out
    exact space_res3 Try.results49 _ _ (w.heap.size + 1) _ _ _ rfl rfl rfl rfl (setRow_same HR3 _)
  | ok s =>
    rw [hsr] at hxx
    obtain ⟨hok, hlen, mv, av, rfl, hmr, har⟩ := hxx
    obtain ⟨ma, mc, rfl⟩ := hmr.form
    obtain ⟨aa, ac, rfl⟩ := own_form har
    have hA3 := below_al w2 (.cells #[.slice ma s.ms.length mc, .slice aa s.ar.length ac] 66)
    have HR3 := keep HR2 hA3
    have HN := hide (show XpEnd p n nm L ys (Bg : Int) w (.returned (.tuple #[.agg #[.slice ma s.ms.length mc, .slice aa s.ar.length ac], .int .i64 1, .bool true])) ((w2.alloc (.cells #[.slice ma s.ms.length mc, .slice aa s.ar.length ac] 66)).setRow (w.heap.size + 1) #[.slice ma s.ms.length mc, .slice aa s.ar.length ac]) from by
      have e : spCode p n L ys (Bg : Int) = 1 := by unfold spCode; rw [HA.out, Int.toNat_natCast, hsr]; rfl
      refine ⟨below_setRow (HB2.out.trans (hA3.mono HB2.out.size)) (w.heap.size + 1) (Nat.le_succ _) _, .inl ⟨e, s, ma, mc, aa, ac, ⟨HA.out, by rw [Int.toNat_natCast]; exact hsr, by rw [Int.toNat_natCast]; exact hok, hlen, hpl, HGG.out.1, hp1, netOkN HGG.out.1, by rw [Int.toNat_natCast]; omega⟩, rfl, ?_, ?_⟩⟩
      · exact ((hmr.go hA3).setRow HR3 _).mono HB1.out.size
      · exact (arcs_setRow (ownsRow_kept har fun g hg => hA3.block g (own_lt har hg).2) HR3 _).mono HB1.out.size)
    clear hsr HEX hA3 hmr har
    go_wp2_with ((show wpList _ _ _ (⟨none, .store 66 (.tmp 6) (.tmp 24), _, _, _, _⟩ :: _) _ _); refine wpList_store_row rfl 66 _ _ rfl _ _ rfl rfl 66 _ HR3 size_space rfl (one2 rfl rfl) ?_)
    refine bodyPost_ret (v := .tuple #[.agg #[.slice ma s.ms.length mc, .slice aa s.ar.length ac], .int .i64 1, .bool true]) ?_ rfl HN.out
    exact space_res3 Try.results49 _ _ (w.heap.size + 1) _ _ _ rfl rfl rfl rfl (setRow_same HR3 _)

set_option maxHeartbeats 1000000 in
theorem all_any4 (p : Int) (a am : Option Addr) (n c nm cm : Nat) (L : List (List Int)) (ys : List Int) (bg : Int) (w : World) (h : Lists w a (3 * n) L) (rm : Row w am nm ys) (hs : sizeN n L ≤ 1048576) (hnm : nm ≤ 1048576) :
    Calls Try.prog 32 #[.agg #[.int .i64 p, .slice a n c], .slice am nm cm, .int .i64 bg] w fun e w' => AlEnd p n nm L ys bg w e w' := by
  have hA1 := below_al w (.cells #[.int .i64 p, .slice a n c] 31)
  have hA2 := below_al (w.alloc (.cells #[.int .i64 p, .slice a n c] 31)) (.cells #[.slice none 0 0, .slice none 0 0] 66)
  have hAA := hA1.trans (hA2.mono hA1.size)
  have HR0 := hide (heap_alloc2_new w (.cells #[.int .i64 p, .slice a n c] 31) (.cells #[.slice none 0 0, .slice none 0 0] 66))
  have HX := hide (xplore_any p a am n c nm cm L ys bg _ (h.below hAA) (rm.below hAA) hs hnm)
  have HB0 := hide hAA
  clear h rm hA1 hA2 hAA
  go_enter Try.func32, Try.ntmps32
  go_wp2_with fail
  generalize (w.alloc (.cells #[.int .i64 p, .slice a n c] 31)).alloc (.cells #[.slice none 0 0, .slice none 0 0] 66) = v0 at *
  refine HX.out.mono ?_
  rintro e w1 ⟨hb1, hxx⟩
  have HR1 := keep HR0.out hb1
  have HB1 := hide (HB0.out.trans (hb1.mono HB0.out.size))
  have HBs := hide HB0.out.size
  clear hb1 HR0 HB0 HX
  rcases hxx with ⟨hcode, s, ma, mc, aa, ac, hok, rfl, hmr, har⟩ | ⟨hcode, rfl⟩
  · have hA3 := below_al w1 (.cells #[.slice ma s.ms.length mc, .slice aa s.ar.length ac] 66)
    have HR3 := keep HR1 hA3
    have HN := hide (show AlEnd p n nm L ys bg w (.returned (.tuple #[.agg #[.slice ma s.ms.length mc, .slice aa s.ar.length ac], .bool true])) ((w1.alloc (.cells #[.slice ma s.ms.length mc, .slice aa s.ar.length ac] 66)).setRow (w.heap.size + 1) #[.slice ma s.ms.length mc, .slice aa s.ar.length ac]) from by
      refine ⟨below_setRow (HB1.out.trans (hA3.mono HB1.out.size)) (w.heap.size + 1) (Nat.le_succ _) _, .inl ⟨hcode, s, ma, mc, aa, ac, hok, rfl, ?_, ?_⟩⟩
      · exact ((hmr.go hA3).setRow HR3 _).mono HBs.out
      · exact (arcs_setRow (ownsRow_kept har fun g hg => hA3.block g (own_lt har hg).2) HR3 _).mono HBs.out)
    clear hA3 hmr har hcode hok
    go_wp2_with ((show wpList _ _ _ (⟨none, .store 66 (.tmp 6) (.tmp 19), _, _, _, _⟩ :: _) _ _); refine wpList_store_row rfl 66 _ _ rfl _ _ rfl rfl 66 _ HR3 size_space rfl (one2 rfl rfl) ?_)
    refine bodyPost_ret (v := .tuple #[.agg #[.slice ma s.ms.length mc, .slice aa s.ar.length ac], .bool true]) ?_ rfl HN.out
    exact space_res2 Try.results32 _ _ (w.heap.size + 1) _ _ rfl rfl rfl (setRow_same HR3 _)
  · have hA3 := below_al w1 (.cells #[.slice none 0 0, .slice none 0 0] 66)
    have HR3 := keep HR1 hA3
    have HN := hide (show AlEnd p n nm L ys bg w (.returned (.tuple #[.agg #[.slice none 0 0, .slice none 0 0], .bool false])) ((w1.alloc (.cells #[.slice none 0 0, .slice none 0 0] 66)).setRow (w.heap.size + 1) #[.slice none 0 0, .slice none 0 0]) from
      ⟨below_setRow (HB1.out.trans (hA3.mono HB1.out.size)) (w.heap.size + 1) (Nat.le_succ _) _, .inr ⟨hcode, rfl⟩⟩)
    obtain ⟨cd, hcd⟩ : ∃ cd, Hid (spCode p n L ys bg = cd) := ⟨_, rfl⟩
    rw [hcd.out] at hcode ⊢
    have hc1 : ¬ ((cd : Nat) : Int) = 1 := by omega
    have hbe : (((cd : Nat) : Int) == 1) = false := by simpa using hc1
    clear hA3 hcode hcd
    cases hq : askB p n L ys bg
    all_goals
      go_wp2_with ((show wpList _ _ _ (⟨none, .store 66 (.tmp 6) (.tmp 19), _, _, _, _⟩ :: _) _ _); refine wpList_store_row rfl 66 _ _ rfl _ _ rfl rfl 66 _ HR3 size_space rfl (one2 rfl rfl) ?_)
      refine bodyPost_ret (v := .tuple #[.agg #[.slice none 0 0, .slice none 0 0], .bool false]) ?_ rfl HN.out
      exact space_res2 Try.results32 _ _ (w.heap.size + 1) _ _ rfl rfl rfl (setRow_same HR3 _)
end Go.Proofs.Ytakenobplljkbab
