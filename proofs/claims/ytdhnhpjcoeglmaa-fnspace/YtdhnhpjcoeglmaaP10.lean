/- Contracts that the proof stands on, one behind the other. -/
import Derived.Test.YtdhnhpjcoeglmaaP9
/- The program's spaceOf: all marks that can be come to, told whole or with a code; for every net, list and budget in memory. -/
namespace Go.Proofs.Ytdhnhpjcoeglmaa
open Go.RowKit
set_option maxRecDepth 10000

/-- Whether the arguments are as the chapter says. -/
def askB (p : Int) (n : Nat) (L : List (List Int)) (ys : List Int) (bg : Int) : Bool := (netOk p n L && goodB p ys) && inB bg 1 400

/-- The code that is told. -/
def spCode (p : Int) (n : Nat) (L : List (List Int)) (ys : List Int) (bg : Int) : Nat := if askB p n L ys bg then codeS (searchS p n L bg.toNat ys) else 0

/-- A space that is told whole, in memory. -/
structure SpSt (B : Nat) (w : World) (p : Int) (n l : Nat) (L : List (List Int)) (s : Sea) (BS mb G : Nat) (av : Value) : Prop where
  steps : PartS w BS (3 * n) (3 * n) L
  map : MapIs w mb l s.ms
  toks : TokAll w G l s.ms
  arcs : w.ownsRow B 66 3 av s.ar.length (arcsL s.ar)
  hBS : B ≤ BS
  hmb : B ≤ mb
  hG : B ≤ G

theorem SpSt.grow {B : Nat} {w w' : World} {p : Int} {n l : Nat} {L : List (List Int)} {s : Sea} {BS mb G : Nat} {av : Value} (h : SpSt B w p n l L s BS mb G av) (hb : Below w.heap.size w w') : SpSt B w' p n l L s BS mb G av :=
  ⟨h.steps.grow hb, h.map.kept (hb.block mb h.map.lt), h.toks.grow hb, ownsRow_kept h.arcs fun g hg => hb.block g (own_lt h.arcs hg).2, h.hBS, h.hmb, h.hG⟩

/-- The struct of a space. -/
abbrev spV (p : Int) (n : Nat) (BS mb G N : Nat) (av : Value) : Array Value := #[.int .i64 p, .slice (some ⟨BS, 0, none⟩) n n, .map (some mb), .slice (some ⟨G, 0, none⟩) N N, av]
abbrev spZ : Array Value := #[.int .i64 0, .slice none 0 0, .map none, .slice none 0 0, .slice none 0 0]

/-- What is known of a space that is told. -/
structure SpOk (p : Int) (n l : Nat) (L : List (List Int)) (ys : List Int) (bg : Int) (s : Sea) : Prop where
  ask : askB p n L ys bg = true
  sea : searchS p n L bg.toNat ys = .ok s
  ok : SeaOk p n bg.toNat s
  len : s.ar.length ≤ 9600
  hl : (l : Int) = p
  net : netOk p n L = true
  hp : 1 ≤ p ∧ p ≤ 16
  n24 : n ≤ 24
  b4 : bg.toNat ≤ 400

/-- How spaceOf ends. -/
def SpEnd (p : Int) (n l : Nat) (L : List (List Int)) (ys : List Int) (bg : Int) (w : World) (e : Ending) (w' : World) : Prop :=
  Below w.heap.size w w' ∧
    ((spCode p n L ys bg = 1 ∧ ∃ s BS mb G av, SpOk p n l L ys bg s ∧ SpSt w.heap.size w' p n l L s BS mb G av ∧ (∃ a c, av = .slice a s.ar.length c) ∧ e = .returned (.tuple #[.agg (spV p n BS mb G s.ms.length av), .int .i64 1])) ∨
     (spCode p n L ys bg ≠ 1 ∧ e = .returned (.tuple #[.agg spZ, .int .i64 (spCode p n L ys bg : Int)])))

theorem spEnd_no {p : Int} {n nm : Nat} {L : List (List Int)} {ys : List Int} {bg : Int} {w w' : World} (h : askB p n L ys bg = false) (hb : Below w.heap.size w w') : SpEnd p n nm L ys bg w (.returned (.tuple #[.agg spZ, .int .i64 0])) w' := by
  have e : spCode p n L ys bg = 0 := by unfold spCode; rw [h]; rfl
  exact ⟨hb, .inr ⟨by rw [e]; decide, by rw [e]; rfl⟩⟩

theorem spEnd_err {p : Int} {n l : Nat} {L : List (List Int)} {ys : List Int} {bg : Int} {w w' : World} {c : Nat} {z : Int} (h : askB p n L ys bg = true) (hc : searchS p n L bg.toNat ys = .error c) (h23 : c = 2 ∨ c = 3) (hz : (c : Int) = z) (hb : Below w.heap.size w w') : SpEnd p n l L ys bg w (.returned (.tuple #[.agg spZ, .int .i64 z])) w' := by
  have e : spCode p n L ys bg = c := by unfold spCode; rw [h, hc]; rfl
  exact ⟨hb, .inr ⟨by rw [e]; omega, by rw [e, hz]⟩⟩

theorem Try.size134 : (Try.prog.info? 134).map (·.size) = some 5 := by kernel_rfl
theorem Try.size166 : (Try.prog.info? 166).map (·.size) = some 6 := by kernel_rfl

theorem space_res {fn : Func} {q u : Tmp} (hr : fn.results = #[.cell q 134, .tmp u]) (tmps : Array Value) (W : World) (b : Nat) (C : Array Value) (v : Value) (h4 : tmps.getD q undef = .pointer (some ⟨b, 0, none⟩)) (h5 : tmps.getD u undef = v)
    (hs : C.size = 5) (q4 : W.heap[b]? = some (.cells C 134 (0, 0))) : (results fn tmps).run Try.prog W = .ok (.tuple #[.agg C, v]) W := by
  refine (results_cell_tmp hr _ _ _).trans ?_
  rw [h4, h5]
  show ((loadVar 134 ⟨b, 0, none⟩).run Try.prog _).andThen _ = _
  rw [run_loadVar_row _ _ 134 134 C (0, 0) _ q4 Try.underlying134 rfl (by rw [hs]; exact Try.size134)]
  rfl

theorem one5 {a b c d e : Value} (ha : a.oneCell' = true) (hb : b.oneCell' = true) (hc : c.oneCell' = true) (hd : d.oneCell' = true) (he : e.oneCell' = true) : (#[a, b, c, d, e] : Array Value).all (·.oneCell') = true := by simp [ha, hb, hc, hd, he]

theorem one6 {a b c d e f : Value} (ha : a.oneCell' = true) (hb : b.oneCell' = true) (hc : c.oneCell' = true) (hd : d.oneCell' = true) (he : e.oneCell' = true) (hf : f.oneCell' = true) : (#[a, b, c, d, e, f] : Array Value).all (·.oneCell') = true := by simp [ha, hb, hc, hd, he, hf]

theorem cells5 {w : World} {b : Nat} {x0 x1 x2 x3 x4 : Value} {T : TypeId} (h : w.heap[b]? = some (.cells #[x0, x1, x2, x3, x4] T (0, 0))) :
    (w.cell? ⟨b, 0, none⟩ = some x0 ∧ w.cell? ⟨b, 1, none⟩ = some x1 ∧ w.cell? ⟨b, 2, none⟩ = some x2 ∧ w.cell? ⟨b, 3, none⟩ = some x3 ∧ w.cell? ⟨b, 4, none⟩ = some x4) ∧ ∀ o, w.frozen? ⟨b, o, none⟩ = false := by
  refine ⟨⟨?_, ?_, ?_, ?_, ?_⟩, fun o => frozen_of_row w b o _ _ h⟩ <;> rw [cell_of_row w b _ _ _ _ h] <;> rfl


set_option maxHeartbeats 1000000 in
theorem spaceOf_any (p : Int) (a am : Option Addr) (n c nm cm : Nat) (L : List (List Int)) (ys : List Int) (bg : Int) (w : World) (h : Lists w a (3 * n) L) (rm : Row w am nm ys) (hs : sizeN n L ≤ 1048576) (hnm : nm ≤ 1048576) :
    Calls Try.prog 115 #[.agg #[.int .i64 p, .slice a n c], .slice am nm cm, .int .i64 bg] w fun e w' => SpEnd p n nm L ys bg w e w' := by
  have hAl := (below_al w (.cells #[.int .i64 p, .slice a n c] 26)).trans ((below_al (w.alloc (.cells #[.int .i64 p, .slice a n c] 26)) (.cells spZ 134)).mono (by simp))
  have HT := hide (netTok_any p a am n c nm cm L ys _ (h.below hAl) (rm.below hAl) hs hnm)
  have HLY := hide rm.1
  have HB0 := hide hAl
  have hR0 := heap_alloc2_new w (.cells #[.int .i64 p, .slice a n c] 26) (.cells spZ 134)
  clear h rm hAl
  go_enter Try.func115, Try.ntmps115
  go_wp2_with fail
  refine HT.out.mono ?_
  rintro e w1 ⟨p', a', m', c', l, rfl, hx, hb⟩
  have hz := HB0.out.size
  have HB1 := hide (HB0.out.trans (hb.mono HB0.out.size))
  have hz1 := HB1.out.size
  have hR1 := keep hR0 hb
  have hR1l := row_lt hR1
  have hA1 := below_al w1 (.cells #[.int .i64 p', .slice a' m' c'] 82)
  have hA2 := below_al (w1.alloc (.cells #[.int .i64 p', .slice a' m' c'] 82)) (.cells #[.int .u8 0, .int .u8 0, .int .u8 0, .int .u8 0, .int .u8 0, .int .u8 0, .int .u8 0, .int .u8 0, .int .u8 0, .int .u8 0, .int .u8 0, .int .u8 0, .int .u8 0, .int .u8 0, .int .u8 0, .int .u8 0] 93)
  have hs1 : (w1.alloc (.cells #[.int .i64 p', .slice a' m' c'] 82)).heap.size = w1.heap.size + 1 := by simp
  have hg0 := heap_alloc_new (w1.alloc (.cells #[.int .i64 p', .slice a' m' c'] 82)) (.cells #[.int .u8 0, .int .u8 0, .int .u8 0, .int .u8 0, .int .u8 0, .int .u8 0, .int .u8 0, .int .u8 0, .int .u8 0, .int .u8 0, .int .u8 0, .int .u8 0, .int .u8 0, .int .u8 0, .int .u8 0, .int .u8 0] 93)
  rw [hs1] at hg0
  have hAA := hA1.trans (hA2.mono hA1.size)
  have hSB := below_setRow hAA (w1.heap.size + 1) (Nat.le_succ _) (packOf ys l)
  have HV := hide hSB
  have Q7 := hide (keepR (keep (heap_alloc_new w1 (.cells #[.int .i64 p', .slice a' m' c'] 82)) hA2) (show w1.heap.size ≠ w1.heap.size + 1 by omega) (packOf ys l))
  have Q8 := hide (setRow_same hg0 (packOf ys l))
  have hRV := keep hR1 hSB
  have HBV := hide (HB1.out.trans (hSB.mono HB1.out.size))
  clear hb HT HB0 hA1 hA2 hs1 hAA hSB hR0 hR1
  go_upto_region 2 with ((show wpList _ _ _ (⟨none, .store 93 (.tmp 9) (.tmp 18), _, _, _, _⟩ :: _) _ _); refine wpList_store_row rfl 93 _ _ rfl _ _ rfl rfl 93 _ hg0 (by rw [packOf_size]; exact Try.size93) (by rw [packOf_size]; rfl) (packOf_one _ _) ?_)
  clear hg0
  generalize (((w1.alloc (.cells #[.int .i64 p', .slice a' m' c'] 82)).alloc (.cells #[.int .u8 0, .int .u8 0, .int .u8 0, .int .u8 0, .int .u8 0, .int .u8 0, .int .u8 0, .int .u8 0, .int .u8 0, .int .u8 0, .int .u8 0, .int .u8 0, .int .u8 0, .int .u8 0, .int .u8 0, .int .u8 0] 93)).setRow (w1.heap.size + 1) (packOf ys l)) = V at *
  by_cases hask : askB p n L ys bg = true
  rotate_left
  · have hask' : askB p n L ys bg = false := by simpa using hask
    have HN := hide (spEnd_no (nm := nm) (w := w) hask' (below_setRow HBV.out (w.heap.size + 1) (Nat.le_succ _) spZ))
    clear hask HV Q7 Q8 hx
    unfold askB inB at hask'
    by_cases g : (netOk p n L && goodB p ys) = true
    · rw [g] at hask' ⊢
      by_cases h1 : bg < 1
      · have h2 : ¬ 400 < bg := by omega
        go_wp2_with ((show wpList _ _ _ (⟨none, .store 134 (.tmp 6) (.tmp 30), _, _, _, _⟩ :: _) _ _); refine wpList_store_row rfl 134 _ _ rfl _ _ rfl rfl 134 _ hRV Try.size134 rfl (one5 rfl rfl rfl rfl rfl) ?_)
        refine bodyPost_ret (v := .tuple #[.agg spZ, .int .i64 0]) ?_ rfl HN.out
        exact space_res Try.results115 _ _ (w.heap.size + 1) _ _ rfl rfl rfl (setRow_same hRV _)
      · have h2 : 400 < bg := by
          by_cases h2 : 400 < bg
          · exact h2
          · exfalso
            have e1 : 1 ≤ bg := by omega
            have e2 : bg ≤ 400 := by omega
            simp [e1, e2] at hask'
        go_wp2_with ((show wpList _ _ _ (⟨none, .store 134 (.tmp 6) (.tmp 30), _, _, _, _⟩ :: _) _ _); refine wpList_store_row rfl 134 _ _ rfl _ _ rfl rfl 134 _ hRV Try.size134 rfl (one5 rfl rfl rfl rfl rfl) ?_)
        refine bodyPost_ret (v := .tuple #[.agg spZ, .int .i64 0]) ?_ rfl HN.out
        exact space_res Try.results115 _ _ (w.heap.size + 1) _ _ rfl rfl rfl (setRow_same hRV _)
    · have g' : (netOk p n L && goodB p ys) = false := by simpa using g
      rw [g']
      go_wp2_with ((show wpList _ _ _ (⟨none, .store 134 (.tmp 6) (.tmp 30), _, _, _, _⟩ :: _) _ _); refine wpList_store_row rfl 134 _ _ rfl _ _ rfl rfl 134 _ hRV Try.size134 rfl (one5 rfl rfl rfl rfl rfl) ?_)
      refine bodyPost_ret (v := .tuple #[.agg spZ, .int .i64 0]) ?_ rfl HN.out
      exact space_res Try.results115 _ _ (w.heap.size + 1) _ _ rfl rfl rfl (setRow_same hRV _)
  have hgg := hask
  unfold askB at hgg
  rw [Bool.and_eq_true] at hgg
  obtain ⟨g1, g2⟩ := hgg
  have hbg : 1 ≤ bg ∧ bg ≤ 400 := by simpa [inB] using g2
  obtain ⟨Bg, rfl⟩ : ∃ Bg : Nat, bg = (Bg : Int) := ⟨bg.toNat, by omega⟩
  have hB1 : 1 ≤ Bg := by omega
  have hB4 : Bg ≤ 400 := by omega
  have HASK := hide hask
  obtain ⟨e1, e2, e3, e4, B, e5, e6, e7⟩ := hx.out g1
  rw [Bool.and_eq_true] at g1
  have hBl := e7.lt
  have HPS := hide (e7.grow HV.out)
  subst e1 e2 e3 e4 e5
  have HNET := hide g1.1
  have HGO := hide g1.2
  have hVs := HV.out.size
  have hBw : w.heap.size ≤ B := by omega
  have hVw : w.heap.size + 1 < V.heap.size := by omega
  have hBw2 : w.heap.size + 1 < B := by simp at e6; omega
  obtain ⟨hq0, hq1⟩ := cells2 Q7.out
  have hA1 := below_al V (.map #[] 0)
  have hA2 := below_al (V.alloc (.map #[] 0)) (.cells #[.int .i64 0, .slice none 0 0, .int .i64 0, .map none, .slice none 0 0, .slice none 0 0] 166)
  have hz3 : (V.alloc (.map #[] 0)).heap.size = V.heap.size + 1 := by simp
  have hg0 := heap_alloc_new (V.alloc (.map #[] 0)) (.cells #[.int .i64 0, .slice none 0 0, .int .i64 0, .map none, .slice none 0 0, .slice none 0 0] 166)
  rw [hz3] at hg0
  have hAA := hA1.trans (hA2.mono hA1.size)
  have hVV := below_setRow hAA (V.heap.size + 1) (Nat.le_succ _) #[.int .i64 p', .slice (some ⟨B, 0, none⟩) c' c', .int .i64 (Bg : Int), .map (some V.heap.size), .slice none 0 0, .slice none 0 0]
  have Q82 := keep Q8.out hVV
  have Q72 := hide (keep Q7.out hVV)
  have hRV0 := hide hRV
  have Q70 := hide Q7.out
  have hmb : (((V.alloc (.map #[] 0)).alloc (.cells #[.int .i64 0, .slice none 0 0, .int .i64 0, .map none, .slice none 0 0, .slice none 0 0] 166)).setRow (V.heap.size + 1) #[.int .i64 p', .slice (some ⟨B, 0, none⟩) c' c', .int .i64 (Bg : Int), .map (some V.heap.size), .slice none 0 0, .slice none 0 0]).heap[V.heap.size]? = some (.map #[] 0) := (setRow_other _ _ _ _ (show V.heap.size ≠ V.heap.size + 1 by omega)).trans ((hA2.block V.heap.size (by rw [hz3]; omega)).trans (heap_alloc_new V (.map #[] 0)))
  have HBV2 := hide hVV
  have HSM := hide (show Sm V (((V.alloc (.map #[] 0)).alloc (.cells #[.int .i64 0, .slice none 0 0, .int .i64 0, .map none, .slice none 0 0, .slice none 0 0] 166)).setRow (V.heap.size + 1) #[.int .i64 p', .slice (some ⟨B, 0, none⟩) c' c', .int .i64 (Bg : Int), .map (some V.heap.size), .slice none 0 0, .slice none 0 0]) (V.heap.size + 1) B V.heap.size p' c' l Bg L (.slice none 0 0) (.slice none 0 0) [] [] [] from
    ⟨HBV2.out, setRow_same hg0 _, HPS.out.grow hVV, by unfold MapIs; simpa [entsOf] using hmb, Tail.nil _ _ _, World.ownsRow_nil _ _ _ _, by omega, Nat.le_refl _, trivial, by omega, by omega, by omega, (fun g hg => by simp [Value.ownBlock] at hg), fun g hg => by simp [Value.ownBlock] at hg⟩)
  have hmm := @run_makeMap Try.prog
  have h1n : ¬ (Bg : Int) < 1 := by omega
  have h4n : ¬ (400 : Int) < (Bg : Int) := by omega
  have hpl : (l : Int) = p' := by have := (goodB_parts g1.2).2.1; have := HLY.out; omega
  rw [g1.1, g1.2]
  clear hask hx HV HPS hA1 hA2 hAA hVV hmb hRV e6 e7 g1 g2 hbg
  go_wp2_with (first
    | ((show wpList _ _ _ (⟨none, .store 166 (.tmp 11) (.tmp 34), _, _, _, _⟩ :: _) _ _); refine wpList_store_row rfl 166 _ _ rfl _ _ rfl rfl 166 _ hg0 Try.size166 rfl (one6 rfl rfl rfl rfl rfl rfl) ?_)
    | ((show wpList _ _ _ (⟨some 35, .load 93 (.tmp 9), _, _, _, _⟩ :: _) _ _); refine wpList_load_row rfl 93 (.tmp 9) rfl _ rfl 93 (packOf ys l) (0, 0) _ Q82 Try.underlying93 rfl (by rw [packOf_size]; exact Try.size93) ?_))
  have HRUN := hide (run_any HSM.out hpl HNET.out HGO.out hB1 hB4 HBV2.out)
  clear hg0 Q82
  refine HRUN.out.mono ?_
  rintro e w3 hru
  have HSA := HASK
  cases hsr : searchS p' c' L Bg ys with
  | error cd =>
    rw [hsr] at hru
    obtain ⟨rfl, hcc, hb3⟩ := hru
    have hR3 := keep hRV0.out hb3
    have hBw3 := HBV.out.trans (hb3.mono HBV.out.size)
    have HN := hide (fun z (hz : (cd : Int) = z) => spEnd_err (l := l) (w := w) HASK.out (by rw [Int.toNat_natCast]; exact hsr) hcc hz (below_setRow hBw3 (w.heap.size + 1) (Nat.le_succ _) spZ))
    clear hsr HRUN HSM HBV2
    rcases hcc with rfl | rfl
    · go_wp2_with ((show wpList _ _ _ (⟨none, .store 134 (.tmp 6) (.tmp 39), _, _, _, _⟩ :: _) _ _); refine wpList_store_row rfl 134 _ _ rfl _ _ rfl rfl 134 _ hR3 Try.size134 rfl (one5 rfl rfl rfl rfl rfl) ?_)
      refine bodyPost_ret (v := .tuple #[.agg spZ, .int .i64 2]) ?_ rfl (HN.out 2 rfl)
      exact space_res Try.results115 _ _ (w.heap.size + 1) _ _ rfl rfl rfl (setRow_same hR3 _)
    · go_wp2_with ((show wpList _ _ _ (⟨none, .store 134 (.tmp 6) (.tmp 39), _, _, _, _⟩ :: _) _ _); refine wpList_store_row rfl 134 _ _ rfl _ _ rfl rfl 134 _ hR3 Try.size134 rfl (one5 rfl rfl rfl rfl rfl) ?_)
      refine bodyPost_ret (v := .tuple #[.agg spZ, .int .i64 3]) ?_ rfl (HN.out 3 rfl)
      exact space_res Try.results115 _ _ (w.heap.size + 1) _ _ rfl rfl rfl (setRow_same hR3 _)
  | ok s =>
    rw [hsr] at hru
    obtain ⟨rfl, hok, hlen, wv, av, hsm⟩ := hru
    have HS3 := hide hsm
    have HOK := hide hok
    clear hsm hok
    go_upto_region 8 with fail
    obtain ⟨aa, ac, haf⟩ := own_form HS3.out.arcs
    subst haf
    have HBV3 := HS3.out.bel
    have Q73 := keep Q70.out HBV3
    have hR3 := keep hRV0.out HBV3
    have HS4 : Hid (Sm V w3.drew (V.heap.size + 1) B V.heap.size p' c' l Bg L wv (.slice aa s.ar.length ac) s.ms [] s.ar) := HS3.out.go (Below.refl _ _).drew
    have hR4 : w3.drew.heap[w.heap.size + 1]? = some (.cells spZ 134 (0, 0)) := keep hR3 (Below.refl _ w3).drew
    have Q74 : w3.drew.heap[w1.heap.size]? = some (.cells #[.int .i64 p', .slice (some ⟨B, 0, none⟩) c' c'] 82 (0, 0)) := keep Q73 (Below.refl _ w3).drew
    have HBV4 : Hid (Below V.heap.size V w3.drew) := HBV3.drew
    clear HS3 HBV3 Q73 hR3 HRUN HSM HBV2 Q70 hRV0
    refine wp_region_held_drew (S := fun W => W.cell? ⟨w1.heap.size, 0, none⟩ = some (.int .i64 p') ∧ W.cell? ⟨w1.heap.size, 1, none⟩ = some (.slice (some ⟨B, 0, none⟩) c' c') ∧ W.cell? ⟨V.heap.size + 1, 3, none⟩ = some (.map (some V.heap.size)) ∧ W.cell? ⟨V.heap.size + 1, 5, none⟩ = some (.slice aa s.ar.length ac)) (by kernel_rfl) ?_ (fun hHeld => ?_)
    · exact ⟨(cells2 Q74).1, (cells2 Q74).2, HS4.out.cells.2.2.2.1, HS4.out.cells.2.2.2.2.2⟩
    generalize w3.drew = w4 at *
    refine take_yes (i := 0) (some 41) (.agg #[.int .i64 p', .slice (some ⟨B, 0, none⟩) c' c']) rfl rfl (by kernel_rfl) (by kernel_rfl) (by kernel_rfl) (fun _ _ _ h => h) (by rfl) ?_ (by assumption) ?_
    · intro W' hSw
      obtain ⟨hz0, hz1, hz2, hz3⟩ := hSw
      go_simp
    simp only [Act.put, List.setIfInBounds_toArray, List.set_cons_zero, List.set_cons_succ]
    refine take_yes (i := 1) (some 42) (.pointer (some ⟨V.heap.size + 1, 3, none⟩)) rfl rfl (by kernel_rfl) (by kernel_rfl) (by kernel_rfl) (fun _ _ _ h => h) (by rfl) ?_ (by assumption) ?_
    · intro W' hSw
      go_simp
    simp only [Act.put, List.setIfInBounds_toArray, List.set_cons_zero, List.set_cons_succ]
    refine take_yes (i := 2) (some 43) (.map (some V.heap.size)) rfl rfl (by kernel_rfl) (by kernel_rfl) (by kernel_rfl) (fun _ _ _ h => h) (by rfl) ?_ (by assumption) ?_
    · intro W' hSw
      obtain ⟨hz0, hz1, hz2, hz3⟩ := hSw
      go_simp
    simp only [Act.put, List.setIfInBounds_toArray, List.set_cons_zero, List.set_cons_succ]
    refine take_yes (i := 3) (some 44) (.pointer (some ⟨V.heap.size + 1, 3, none⟩)) rfl rfl (by kernel_rfl) (by kernel_rfl) (by kernel_rfl) (fun _ _ _ h => h) (by rfl) ?_ (by assumption) ?_
    · intro W' hSw
      go_simp
    simp only [Act.put, List.setIfInBounds_toArray, List.set_cons_zero, List.set_cons_succ]
    refine take_yes (i := 4) (some 45) (.map (some V.heap.size)) rfl rfl (by kernel_rfl) (by kernel_rfl) (by kernel_rfl) (fun _ _ _ h => h) (by rfl) ?_ (by assumption) ?_
    · intro W' hSw
      obtain ⟨hz0, hz1, hz2, hz3⟩ := hSw
      go_simp
    simp only [Act.put, List.setIfInBounds_toArray, List.set_cons_zero, List.set_cons_succ]
    refine take_yes (i := 6) (some 47) (.pointer (some ⟨V.heap.size + 1, 5, none⟩)) rfl rfl (by kernel_rfl) (by kernel_rfl) (by kernel_rfl) (fun _ _ _ h => h) (by rfl) ?_ (by assumption) ?_
    · intro W' hSw
      go_simp
    simp only [Act.put, List.setIfInBounds_toArray, List.set_cons_zero, List.set_cons_succ]
    refine take_yes (i := 7) (some 48) (.slice aa s.ar.length ac) rfl rfl (by kernel_rfl) (by kernel_rfl) (by kernel_rfl) (fun _ _ _ h => h) (by rfl) ?_ (by assumption) ?_
    · intro W' hSw
      obtain ⟨hz0, hz1, hz2, hz3⟩ := hSw
      go_simp
    simp only [Act.put, List.setIfInBounds_toArray, List.set_cons_zero, List.set_cons_succ]
    refine take_yes (i := 9) (some 50) (.int .i64 1) rfl rfl (by kernel_rfl) (by kernel_rfl) (by kernel_rfl) (fun _ _ _ h => h) (by rfl) ?_ (by assumption) ?_
    · intro W' hSw
      go_simp
    simp only [Act.put, List.setIfInBounds_toArray, List.set_cons_zero, List.set_cons_succ]
    refine call_next (i := 5) (some 46) rfl rfl (by kernel_rfl) (by rfl) 156 _ _ _ rfl Try.func156 (by decide) rfl #[.map (some V.heap.size)] (mapw1 _ _ _ rfl) _ (inOrder_any HS4.out.map HOK.out.pos (Nat.le_trans HOK.out.le hB4)) ?_
    rintro e w5 ⟨G, rfl, hG, hta, hb5⟩
    have HS5 := hide (HS4.out.go hb5)
    have hR5 := keep hR4 hb5
    have Q75 := keep Q74 hb5
    have HBV5 := hide (HBV4.out.trans (hb5.mono HBV4.out.size))
    refine ⟨_, rfl, ⟨(cells2 Q75).1, (cells2 Q75).2, HS5.out.cells.2.2.2.1, HS5.out.cells.2.2.2.2.2⟩, fun _ => ?_⟩
    simp only [Act.put, List.setIfInBounds_toArray, List.set_cons_zero, List.set_cons_succ]
    have hVs4 := HBV4.out.size
    clear HS4 hR4 Q74 HBV4 hHeld
    refine take_yes (i := 8) (some 49) (.agg (spV p' c' B V.heap.size G s.ms.length (.slice aa s.ar.length ac))) rfl rfl (by kernel_rfl) (by kernel_rfl) (by kernel_rfl) (fun _ _ _ h => h) (by rfl) ?_ (by assumption) ?_
    · intro W' hSw
      go_simp
    simp only [Act.put, List.setIfInBounds_toArray, List.set_cons_zero, List.set_cons_succ]
    have hbr := below_setRow (Below.refl w5.heap.size w5) w5.heap.size (Nat.le_refl _) #[]
    refine store_next (i := 10) rfl rfl (by kernel_rfl) (by rfl) 134 _ _ rfl (w.heap.size + 1) _ rfl rfl 134 _ hR5 Try.size134 rfl (one5 rfl rfl rfl rfl rfl) ?_ ?_
    · have f1 : ∀ g, g ≠ w.heap.size + 1 → (w5.setRow (w.heap.size + 1) (spV p' c' B V.heap.size G s.ms.length (.slice aa s.ar.length ac))).heap[g]? = w5.heap[g]? := fun g hg => setRow_other _ _ _ _ hg
      refine ⟨?_, ?_, ?_, ?_⟩
      · rw [World.cell?_of_block (a := ⟨w1.heap.size, 0, none⟩) (f1 _ (show w1.heap.size ≠ w.heap.size + 1 by omega))]; exact (cells2 Q75).1
      · rw [World.cell?_of_block (a := ⟨w1.heap.size, 1, none⟩) (f1 _ (show w1.heap.size ≠ w.heap.size + 1 by omega))]; exact (cells2 Q75).2
      · rw [World.cell?_of_block (a := ⟨V.heap.size + 1, 3, none⟩) (f1 _ (show V.heap.size + 1 ≠ w.heap.size + 1 from by intro e; have e2 := Nat.succ.inj e; rw [e2] at hVw; exact absurd hVw (by simp)))]; exact HS5.out.cells.2.2.2.1
      · rw [World.cell?_of_block (a := ⟨V.heap.size + 1, 5, none⟩) (f1 _ (show V.heap.size + 1 ≠ w.heap.size + 1 from by intro e; have e2 := Nat.succ.inj e; rw [e2] at hVw; exact absurd hVw (by simp)))]; exact HS5.out.cells.2.2.2.2.2
    intro _
    have HFIN : Hid (SpEnd p' c' l L ys (Bg : Int) w (.returned (.tuple #[.agg (spV p' c' B V.heap.size G s.ms.length (.slice aa s.ar.length ac)), .int .i64 1])) (w5.setRow (w.heap.size + 1) (spV p' c' B V.heap.size G s.ms.length (.slice aa s.ar.length ac)))) := by
      have f1 : ∀ g, g ≠ w.heap.size + 1 → (w5.setRow (w.heap.size + 1) (spV p' c' B V.heap.size G s.ms.length (.slice aa s.ar.length ac))).heap[g]? = w5.heap[g]? := fun g hg => setRow_other _ _ _ _ hg
      have hsz : (w5.setRow (w.heap.size + 1) (spV p' c' B V.heap.size G s.ms.length (.slice aa s.ar.length ac))).heap.size = w5.heap.size := by simp [World.setRow]
      have hb := below_setRow (HBV.out.trans (HBV5.out.mono HBV.out.size)) (w.heap.size + 1) (Nat.le_succ _) (spV p' c' B V.heap.size G s.ms.length (.slice aa s.ar.length ac))
      have hcode : spCode p' c' L ys (Bg : Int) = 1 := by unfold spCode; rw [HASK.out, Int.toNat_natCast, hsr]; rfl
      have hn24 := netOkN HNET.out
      refine ⟨hb, .inl ⟨hcode, s, B, V.heap.size, G, _, ⟨HASK.out, by rw [Int.toNat_natCast]; exact hsr, by rw [Int.toNat_natCast]; exact HOK.out, hlen, hpl, HNET.out, (goodB_parts HGO.out).1, hn24, by rw [Int.toNat_natCast]; exact hB4⟩, ⟨HS5.out.steps.kept (f1 B ?_), HS5.out.map.kept (f1 _ ?_), ⟨by rw [hsz]; exact hta.lt, fun i hi j v hv => ?_⟩, ownsRow_kept (HS5.out.arcs.mono HBV.out.size) fun g hg => f1 g ?_, hBw, HBV.out.size, by omega⟩, ⟨_, _, rfl⟩, rfl⟩⟩
      · omega
      · exact fun e => by rw [e] at hVw; exact absurd hVw (by simp)
      · rw [World.cell?_of_block (a := ⟨G, i * 16 + j, none⟩) (f1 G (by omega))]
        exact hta.cells i hi j v hv
      · have := (own_lt HS5.out.arcs hg).1
        omega
    have HR6 := setRow_same hR5 (spV p' c' B V.heap.size G s.ms.length (.slice aa s.ar.length ac))
    clear hR5 Q75 HBV5 HS5 hta hbr hb5
    generalize w5.setRow (w.heap.size + 1) (spV p' c' B V.heap.size G s.ms.length (.slice aa s.ar.length ac)) = w6 at *
    refine take_yes (i := 11) (some 7) (.int .i64 1) rfl rfl (by kernel_rfl) (by kernel_rfl) (by kernel_rfl) (fun _ _ _ h => h) (by rfl) ?_ (by assumption) ?_
    · intro W' hSw
      go_simp
    simp only [Act.put, List.setIfInBounds_toArray, List.set_cons_zero, List.set_cons_succ]
    refine wpAnyH_done (by kernel_rfl) ?_ _
    go_wp2_with fail
    refine bodyPost_ret (v := .tuple #[.agg (spV p' c' B V.heap.size G s.ms.length (.slice aa s.ar.length ac)), .int .i64 1]) ?_ rfl HFIN.out
    exact space_res Try.results115 _ _ (w.heap.size + 1) _ _ rfl rfl rfl HR6
end Go.Proofs.Ytdhnhpjcoeglmaa


/- The specification's l4Find; the state of its search in memory. -/
namespace Go.Proofs.Ytdhnhpjcoeglmaa
open Go.RowKit
set_option maxRecDepth 10000

/-- Where a list stands among some, -1 where it does not. -/
def findL (ms : List (List Int)) (m : List Int) : Int := if m ∈ ms then (ms.idxOf m : Int) else -1

theorem Lists.one {w : World} {a : Option Addr} {n : Nat} {L : List (List Int)} (h : Lists w a n L) {k : Nat} (hk : k < n) :
    ∃ b off a' n' c', a = some ⟨b, off, none⟩ ∧ b < w.heap.size ∧ w.cell? ⟨b, off + k, none⟩ = some (.slice a' n' c') ∧ n' ≤ maxLen ∧ Row w a' n' (L.getD k []) := by
  rcases h.2 with h0 | ⟨b, off, e, hl, hc⟩
  · omega
  · obtain ⟨a', n', c', h1, h2, h3⟩ := hc k hk
    exact ⟨b, off, a', n', c', e, hl, h1, h2, h3⟩

theorem Lists.drewN {w : World} {a : Option Addr} {n : Nat} {L : List (List Int)} (h : Lists w a n L) (q : Nat) : Lists (w.drewN q) a n L := h.below (below_drewN' w q)

theorem take_mem {L : List (List Int)} {k : Nat} {m : List Int} (hk : k < L.length) (h : m ∉ L.take k) (he : L.getD k [] ≠ m) : m ∉ L.take (k + 1) := by
  rw [List.take_add_one, List.getElem?_eq_getElem hk]
  rw [List.getD_eq_getElem?_getD, List.getElem?_eq_getElem hk] at he
  simp at he
  simp only [Option.toList_some, List.mem_append, List.mem_singleton, not_or]
  exact ⟨h, fun e => he e.symm⟩

theorem take_idx {L : List (List Int)} {k : Nat} {m : List Int} (hk : k < L.length) (h : m ∉ L.take k) (he : L.getD k [] = m) : findL L m = (k : Int) := by
  have e : L = L.take k ++ m :: L.drop (k + 1) := by
    rw [List.getD_eq_getElem?_getD, List.getElem?_eq_getElem hk] at he
    simp at he
    conv => lhs; rw [← List.take_append_drop k L, List.drop_eq_getElem_cons hk, he]
  have hm : m ∈ L := by rw [e]; simp
  unfold findL
  rw [if_pos hm]
  have : L.idxOf m = k := by
    rw [e, List.idxOf_append, if_neg h]
    simp [List.length_take]
    omega
  rw [this]

set_option maxHeartbeats 400000 in
theorem same2_any (a b : Option Addr) (n m ca cb : Nat) (xs ys : List Int) (w : World) (ha : Row w a n xs) (hb : Row w b m ys) (hm : m ≤ 1048576) :
    Calls Try.prog 81 #[.slice a n ca, .slice b m cb] w fun e w' => e = .returned (.bool (sameB xs ys)) ∧ ∃ q, w' = w.drewN q := by
  by_cases hnm : n = m
  · exact same_any a b n m ca cb xs ys w ha hb (by omega)
  · have hx := ha.1
    have hy := hb.1
    have HS := sameB_len (show xs.length ≠ ys.length by omega)
    have hne : ((n : Int) != (m : Int)) = true := by simp; omega
    clear ha hb hx hy
    go_enter Try.func81, Try.ntmps81
    go_wp2
    go_ret
    exact ⟨ret_bool HS.symm, 0, rfl⟩

set_option maxHeartbeats 1000000 in
theorem find_any (a am : Option Addr) (n c nm cm : Nat) (L : List (List Int)) (ys : List Int) (w : World) (h : Lists w a n L) (rm : Row w am nm ys) (hn : n ≤ 1048576) (hnm : nm ≤ 1048576) :
    Calls Try.prog 127 #[.slice a n c, .slice am nm cm] w fun e w' => e = .returned (.int .i64 (findL L ys)) ∧ ∃ q, w' = w.drewN q := by
  have HL := hide h
  have RM := hide rm
  have HLEN := hide h.1
  clear h rm
  go_enter Try.func127, Try.ntmps127
  go_wp2_with fail
  go_loopw [9] (fun i wr => ∃ k : Nat, k ≤ n ∧ i = .int .i64 k ∧ Hid (ys ∉ L.take k) ∧ ∃ q, wr = w.drewN q) (fun i _ => n - (intOf i).toNat)
  case atStart => exact ⟨0, Nat.zero_le _, rfl, by simp [Hid], 0, rfl⟩
  case round =>
    obtain ⟨k, hk, rfl, hu, q, rfl⟩ := hrel
    by_cases hlt : k < n
    rotate_left
    · have hk' : k = n := by omega
      subst hk'
      have HR : Hid (findL L ys = -1) := by
        have := hu.out
        rw [List.take_of_length_le (by rw [HLEN.out]; exact Nat.le_refl _)] at this
        show findL L ys = -1
        unfold findL; rw [if_neg this]
      go_wp2_with fail
      go_ret
      exact ⟨by rw [HR.out]; rfl, q, rfl⟩
    obtain ⟨b, off, a', n', c', rfl, hb, hc, hm, hr⟩ := (HL.out.drewN q).one hlt
    have hki : (k : Int) < (n : Int) := by omega
    have hk0 : (0 : Int) ≤ (k : Int) := by omega
    have hn4 : (k : Int) ≤ 1048576 := by omega
    have HS := hide (same2_any a' am n' nm c' cm (L.getD k []) ys (w.drewN q) hr (RM.out.drewN q) hnm)
    by_cases he : L.getD k [] = ys
    · have HF := hide (take_idx (by rw [HLEN.out]; exact hlt) hu.out he)
      rw [he, sameB_self] at HS
      clear hu hr
      go_wp2_with fail
      refine HS.out.mono ?_
      rintro e w' ⟨rfl, q2, rfl⟩
      go_wp2_with fail
      go_ret
      exact ⟨by rw [HF.out]; rfl, _, rfl⟩
    · have HU := hide (take_mem (by rw [HLEN.out]; exact hlt) hu.out he)
      have hsb : sameB (L.getD k []) ys = false := by unfold sameB; simpa using he
      rw [hsb] at HS
      clear hu hr he hsb
      go_wp2_with fail
      refine HS.out.mono ?_
      rintro e w' ⟨rfl, q2, rfl⟩
      go_wp2_with fail
      go_roundw
      case rel => exact ⟨k + 1, by omega, by go_num, HU, _, rfl⟩
      case measure => simp [intOf]; omega
end Go.Proofs.Ytdhnhpjcoeglmaa


/- The specification's TakersOf and GiversOf, for every net and place. -/
namespace Go.Proofs.Ytdhnhpjcoeglmaa
open Go.RowKit

theorem netOkN' {p : Int} {n : Nat} {L : List (List Int)} (h : netOk p n L = true) : n ≤ 24 := by
  unfold netOk at h; simp at h; exact h.1.2
theorem netOkP' {p : Int} {n : Nat} {L : List (List Int)} (h : netOk p n L = true) : 1 ≤ p ∧ p ≤ 16 := by
  unfold netOk at h; simp [inB] at h; omega

def atOk (p : Int) (n : Nat) (L : List (List Int)) (q : Int) : Bool := netOk p n L && inB q 0 (p - 1)
def atR (f : Nat → Bool) (p : Int) (n : Nat) (L : List (List Int)) (q : Int) : List Int := if atOk p n L q then numsL f n else []

/-- A list and a bool; nothing that was there is written. -/
def WEnd (g : Bool) (r : List Int) (w : World) (e : Ending) (w' : World) : Prop := ∃ a n c, e = .returned (.tuple #[.slice a n c, .bool g]) ∧ Row w' a n r ∧ Below w.heap.size w w'

theorem wend_no {f : Nat → Bool} {p : Int} {n : Nat} {L : List (List Int)} {q : Int} {w w' : World} (h : atOk p n L q = false) (hb : Below w.heap.size w w') : WEnd (atOk p n L q) (atR f p n L q) w (.returned (.tuple #[.slice none 0 0, .bool false])) w' := by
  refine ⟨none, 0, 0, by rw [h], ⟨?_, .inl rfl⟩, hb⟩
  unfold atR; rw [h]; rfl

theorem wend_yes {f : Nat → Bool} {p : Int} {n : Nat} {L : List (List Int)} {q : Int} {w w' : World} {a : Option Addr} {m c : Nat} (h : atOk p n L q = true) (hr : Row w' a m (numsL f n)) (hb : Below w.heap.size w w') : WEnd (atOk p n L q) (atR f p n L q) w (.returned (.tuple #[.slice a m c, .bool true])) w' := by
  refine ⟨a, m, c, by rw [h], ?_, hb⟩
  unfold atR; rw [h]; exact hr

/-- .. in a block of its own. -/
def OEnd (g : Bool) (r : List Int) (w : World) (e : Ending) (w' : World) : Prop :=
  ∃ a b n c, e = .returned (.tuple #[.slice a n c, .bool g]) ∧ Ob w' a b n r ∧ w.heap.size ≤ b ∧ Below w.heap.size w w'

theorem own_ob {B : Nat} {w : World} {v : Value} {n : Nat} {l : List Int} (hown : w.ownsRow B 3 1 v n (l.map (Value.int .i64))) : ∃ a b c, v = .slice a n c ∧ B ≤ b ∧ Ob w a b n l := by
  have hl : l.length = n := by have := hown.1; simpa using this
  rcases hown.2 with ⟨rfl, rfl⟩ | ⟨g, cap, cur, rfl, hb, hh, hnc, _, hsz, ht⟩
  · exact ⟨none, B, 0, rfl, Nat.le_refl _, hl, .inl rfl⟩
  · refine ⟨_, g, cap, rfl, hb, hl, .inr ⟨rfl, cur, hh, by omega, fun i hi => ?_⟩⟩
    have e : (cur.toList.take (n * 1))[i]? = (l.map (Value.int .i64))[i]? := by rw [ht]
    rw [List.getElem?_take_of_lt (by omega), Array.getElem?_toList] at e
    rw [e]
    simp [List.getElem?_eq_getElem (show i < l.length by omega)]

theorem own_row {B : Nat} {w : World} {v : Value} {n : Nat} {l : List Int} (hown : w.ownsRow B 3 1 v n (l.map (Value.int .i64))) : ∃ a c, v = .slice a n c ∧ Row w a n l := by
  obtain ⟨a, b, c, e, _, ho⟩ := own_ob hown
  exact ⟨a, c, e, ho.row⟩

set_option maxHeartbeats 1000000 in
theorem takersSp_any (p q : Int) (a : Option Addr) (n c : Nat) (L : List (List Int)) (w : World) (h : Lists w a (3 * n) L) (hs : sizeN n L ≤ 1048576) :
    Calls Try.prog 18 #[.agg #[.int .i64 p, .slice a n c], .int .i64 q] w fun e w' => WEnd (atOk p n L q) (atR (fun i => hasB (L.getD (3 * i) []) q) p n L q) w e w' := by
  have hAl := below_al w (.cells #[.int .i64 p, .slice a n c] 26)
  have PAR := hide (heap_alloc_new w (.cells #[.int .i64 p, .slice a n c] 26))
  have HG := hide (goodNetS_any p a n c L _ (h.below hAl) hs)
  have HL := hide h
  have HB0 := hide hAl
  clear h hAl
  go_enter Try.func18, Try.ntmps18
  go_wp2_with fail
  refine HG.out.mono ?_
  rintro e w1 ⟨rfl, hb⟩
  have HB1 := hide (HB0.out.trans (hb.mono HB0.out.size))
  have PAR1 := hide (keep PAR.out hb)
  obtain ⟨hc0, hc1⟩ := cells2 PAR1.out
  clear HG HB0 PAR hb
  by_cases g1 : netOk p n L = true
  rotate_left
  · have g1' : netOk p n L = false := by simpa using g1
    have HN := hide (wend_no (f := fun i => hasB (L.getD (3 * i) []) q) (w := w) (show atOk p n L q = false by unfold atOk; rw [g1']; rfl) HB1.out)
    rw [g1']
    clear g1 g1'
    go_wp2_with fail
    go_ret2
    exact HN.out
  rw [g1]
  have HG1 := hide g1
  have hn24 := netOkN' g1
  have hp := netOkP' g1
  obtain ⟨hp1, hp2⟩ := hp
  clear g1
  by_cases g2 : inB q 0 (p - 1) = true
  rotate_left
  · have g2' : inB q 0 (p - 1) = false := by simpa using g2
    have HN := hide (wend_no (f := fun i => hasB (L.getD (3 * i) []) q) (w := w) (show atOk p n L q = false by unfold atOk; rw [g2']; simp) HB1.out)
    clear g2
    go_wp2_with (go_at_call 74; refine (in_any _ _ _ _).mono ?_; rintro e w' ⟨rfl, rfl⟩)
    go_ret2
    exact HN.out
  have HOK := hide (show atOk p n L q = true by unfold atOk; rw [HG1.out, g2]; rfl)
  go_wp2_with (go_at_call 74; refine (in_any _ _ _ _).mono ?_; rintro e w' ⟨rfl, rfl⟩)
  refine (takersS_any _ _ _ _ _ L _ (HL.out.below HB1.out) hs hn24).mono ?_
  rintro e w2 ⟨v, m, rfl, hown, hb⟩
  obtain ⟨av, cv, hv, hrow⟩ := own_row hown
  subst hv
  have HY := hide (wend_yes (f := fun i => hasB (L.getD (3 * i) []) q) (c := cv) (w := w) HOK.out hrow (HB1.out.trans (hb.mono HB1.out.size)))
  clear hown hb hrow
  go_wp2_with fail
  go_ret2
  exact HY.out

set_option maxHeartbeats 1000000 in
theorem giversSp_any (p q : Int) (a : Option Addr) (n c : Nat) (L : List (List Int)) (w : World) (h : Lists w a (3 * n) L) (hs : sizeN n L ≤ 1048576) :
    Calls Try.prog 20 #[.agg #[.int .i64 p, .slice a n c], .int .i64 q] w fun e w' => WEnd (atOk p n L q) (atR (fun i => hasB (L.getD (3 * i + 1) []) q) p n L q) w e w' := by
  have hAl := below_al w (.cells #[.int .i64 p, .slice a n c] 26)
  have PAR := hide (heap_alloc_new w (.cells #[.int .i64 p, .slice a n c] 26))
  have HG := hide (goodNetS_any p a n c L _ (h.below hAl) hs)
  have HL := hide h
  have HB0 := hide hAl
  clear h hAl
  go_enter Try.func20, Try.ntmps20
  go_wp2_with fail
  refine HG.out.mono ?_
  rintro e w1 ⟨rfl, hb⟩
  have HB1 := hide (HB0.out.trans (hb.mono HB0.out.size))
  have PAR1 := hide (keep PAR.out hb)
  obtain ⟨hc0, hc1⟩ := cells2 PAR1.out
  clear HG HB0 PAR hb
  by_cases g1 : netOk p n L = true
  rotate_left
  · have g1' : netOk p n L = false := by simpa using g1
    have HN := hide (wend_no (f := fun i => hasB (L.getD (3 * i + 1) []) q) (w := w) (show atOk p n L q = false by unfold atOk; rw [g1']; rfl) HB1.out)
    rw [g1']
    clear g1 g1'
    go_wp2_with fail
    go_ret2
    exact HN.out
  rw [g1]
  have HG1 := hide g1
  have hn24 := netOkN' g1
  have hp := netOkP' g1
  obtain ⟨hp1, hp2⟩ := hp
  clear g1
  by_cases g2 : inB q 0 (p - 1) = true
  rotate_left
  · have g2' : inB q 0 (p - 1) = false := by simpa using g2
    have HN := hide (wend_no (f := fun i => hasB (L.getD (3 * i + 1) []) q) (w := w) (show atOk p n L q = false by unfold atOk; rw [g2']; simp) HB1.out)
    clear g2
    go_wp2_with (go_at_call 74; refine (in_any _ _ _ _).mono ?_; rintro e w' ⟨rfl, rfl⟩)
    go_ret2
    exact HN.out
  have HOK := hide (show atOk p n L q = true by unfold atOk; rw [HG1.out, g2]; rfl)
  go_wp2_with (go_at_call 74; refine (in_any _ _ _ _).mono ?_; rintro e w' ⟨rfl, rfl⟩)
  refine (giversS_any _ _ _ _ _ L _ (HL.out.below HB1.out) hs hn24).mono ?_
  rintro e w2 ⟨v, m, rfl, hown, hb⟩
  obtain ⟨av, cv, hv, hrow⟩ := own_row hown
  subst hv
  have HY := hide (wend_yes (f := fun i => hasB (L.getD (3 * i + 1) []) q) (c := cv) (w := w) HOK.out hrow (HB1.out.trans (hb.mono HB1.out.size)))
  clear hown hb hrow
  go_wp2_with fail
  go_ret2
  exact HY.out

end Go.Proofs.Ytdhnhpjcoeglmaa


/- numbersWhere of the program, and its TakersOf and GiversOf. -/
namespace Go.Proofs.Ytdhnhpjcoeglmaa
open Go.RowKit
set_option maxRecDepth 10000

theorem PartS.at2 {w : World} {B n k : Nat} {L : List (List Int)} (h : PartS w B (3 * n) (3 * n) L) (hk : k < n) :
    w.cell? ⟨B, k * 3, none⟩ = some (.int .u16 (maskL (L.getD (3 * k) []) : Int)) ∧ w.cell? ⟨B, k * 3 + 1, none⟩ = some (.int .u16 (maskL (L.getD (3 * k + 1) []) : Int)) ∧ w.cell? ⟨B, k * 3 + 2, none⟩ = some (.int .u16 (maskL (L.getD (3 * k + 2) []) : Int)) := by
  obtain ⟨C, h1, h2, h3⟩ := h
  refine ⟨?_, ?_, ?_⟩
  · rw [cell_of_row w B _ C _ _ h1, Nat.mul_comm]; exact h3 _ (by omega)
  · rw [cell_of_row w B _ C _ _ h1, Nat.mul_comm]; exact h3 _ (by omega)
  · rw [cell_of_row w B _ C _ _ h1, Nat.mul_comm]; exact h3 _ (by omega)

theorem own_grow {B : Nat} {w w' : World} {v : Value} {n : Nat} {l : List Value} (hown : w.ownsRow B 3 1 v n l) (hb : Below w.heap.size w w') : w'.ownsRow B 3 1 v n l := by
  refine ⟨hown.1, ?_⟩
  rcases hown.2 with h0 | ⟨g, cap, cur, e, h1, h2, h3⟩
  · exact .inl h0
  · exact .inr ⟨g, cap, cur, e, h1, (hb.block g (Array.getElem?_eq_some_iff.mp h2).1).trans h2, h3⟩

set_option maxHeartbeats 1000000 in
theorem numsAt_any (bj bq : Nat) (Pd : Nat → Bool) (p : Int) (B n : Nat) (L : List (List Int)) (w : World) (h : PartS w B (3 * n) (3 * n) L) (hn : n ≤ 24)
    (hc : ∀ W, Below w.heap.size w W → ∀ k, k < n → Calls Try.prog 138 #[.agg #[.int .u16 (maskL (L.getD (3 * k) []) : Int), .int .u16 (maskL (L.getD (3 * k + 1) []) : Int), .int .u16 (maskL (L.getD (3 * k + 2) []) : Int)], .pointer (some ⟨bj, 0, none⟩), .pointer (some ⟨bq, 0, none⟩)] W fun e W' => e = .returned (.bool (Pd k)) ∧ Below W.heap.size W W') :
    Calls Try.prog 119 #[.agg #[.int .i64 p, .slice (some ⟨B, 0, none⟩) n n], .func (.func 138) #[] #[.pointer (some ⟨bj, 0, none⟩), .pointer (some ⟨bq, 0, none⟩)]] w fun e w' => NumsEnd Pd n w e w' := by
  have hAl := below_al w (.cells #[.int .i64 p, .slice (some ⟨B, 0, none⟩) n n] 82)
  have HC := hide hc
  have HP := hide h
  have HB0 := hide hAl
  obtain ⟨i0, hi, hz0, hz1, hz2⟩ := info_split Try.info3
  clear hc h hAl
  go_enter Try.func119, Try.ntmps119
  go_wp2_with fail
  obtain ⟨V, hV⟩ : ∃ V, Hid (w.alloc (.cells #[.int .i64 p, .slice (some ⟨B, 0, none⟩) n n] 82) = V) := ⟨_, rfl⟩
  rw [hV.out] at HB0 ⊢
  clear hV
  go_loopw [5, 11] (fun o i wr => ∃ k m : Nat, k ≤ n ∧ i = .int .i64 k ∧ Hid (m ≤ k) ∧ Hid (wr.ownsRow w.heap.size 3 1 o m ((numsL Pd k).map (Value.int .i64))) ∧ Hid (Below w.heap.size w wr)) (fun _ i _ => n - (intOf i).toNat)
  case atStart => exact ⟨0, 0, Nat.zero_le _, rfl, Nat.le_refl _, World.ownsRow_nil _ _ _ _, HB0⟩
  case round =>
    obtain ⟨k, m, hk, rfl, hmk, hown, hbw⟩ := hrel
    by_cases hlt : k < n
    rotate_left
    · have hk' : k = n := by omega
      subst hk'
      go_wp2_with fail
      go_ret
      exact ⟨_, m, rfl, hown.out, hbw.out⟩
    obtain ⟨hc0, hc1, hc2⟩ := (HP.out.grow hbw.out).at2 hlt
    have hA1 := fun C => below_al wr (.cells C 88)
    have HH := hide (fun C => HC.out (wr.alloc (.cells C 88)) (hbw.out.trans ((hA1 C).mono hbw.out.size)) k hlt)
    have HB1 := hide (fun C => hbw.out.trans ((hA1 C).mono hbw.out.size))
    have HO1 := hide (fun C => hown.out.alloc (.cells C 88))
    obtain ⟨s0, hs0⟩ : ∃ s, Hid (maskL (L.getD (3 * k) []) = s) := ⟨_, rfl⟩
    obtain ⟨s1, hs1⟩ : ∃ s, Hid (maskL (L.getD (3 * k + 1) []) = s) := ⟨_, rfl⟩
    obtain ⟨s2, hs2⟩ : ∃ s, Hid (maskL (L.getD (3 * k + 2) []) = s) := ⟨_, rfl⟩
    rw [hs0.out] at hc0 HH
    rw [hs1.out] at hc1 HH
    rw [hs2.out] at hc2 HH
    clear hown hA1
    by_cases hh : Pd k = true
    rotate_left
    · have hh' : Pd k = false := by simpa using hh
      have HN := hide (numsL_no hh')
      rw [hh'] at HH
      clear hh hh'
      go_wp2_with fail
      refine (HH.out _).mono ?_
      rintro e w' ⟨rfl, hb⟩
      have HB2 := hide ((HB1.out _).trans (hb.mono (HB1.out _).size))
      have HO2 := hide (own_grow (HO1.out _) hb)
      clear hb HH HB1 HO1 hc0 hc1 hc2
      go_wp2_with fail
      go_roundw
      case rel => exact ⟨k + 1, m, by omega, by go_num, Nat.le_succ_of_le hmk.out, by rw [HN.out]; exact HO2, HB2⟩
      case measure => simp [intOf]; omega
    have HN := hide (numsL_yes hh)
    rw [hh] at HH
    clear hh
    go_wp2_with fail
    refine (HH.out _).mono ?_
    rintro e W1 ⟨rfl, hb⟩
    have HB1 := hide ((HB1.out _).trans (hb.mono (HB1.out _).size))
    have HO1 := hide (own_grow (HO1.out _) hb)
    have hA2 := below_al W1 (.cells #[.int .i64 (k : Int)] 3)
    have HO2 := hide (HO1.out.alloc (.cells #[.int .i64 (k : Int)] 3))
    have HB2 := hide (HB1.out.trans (hA2.mono HB1.out.size))
    have HCE : Hid (∀ j u, ([.int .i64 (k : Int)] : List Value)[j]? = some u → (W1.alloc (.cells #[.int .i64 (k : Int)] 3)).cell? ((⟨W1.heap.size, 0, none⟩ : Addr).add j) = some u) := one_cell W1 _
    have H1c : Hid (∀ u ∈ ([.int .i64 (k : Int)] : List Value), u.oneCell' = true) := fun u hu => by simp at hu; subst hu; rfl
    have HX := hide (show m + 1 ≤ maxLen by have := hmk.out; unfold maxLen; omega)
    have HY := hide (show (m + 1) * 8 ≤ 140737488355328 by have := hmk.out; omega)
    have HZ := hide HB2.out.size
    clear hA2 hc0 hc1 hc2 HH hb
    go_wp2_with (refine wpList_append_own _ rfl (.tmp 19) (.tmp 21) 31 rfl w.heap.size 3 i0 (.int .i64 0) 1 8 Try.underlying31 hi hz0 hz1 hz2 rfl (by decide) u5 m _ rfl HO2.out ⟨W1.heap.size, 0, none⟩ 1 1 [.int .i64 (k : Int)] rfl rfl HCE.out H1c.out HX.out HY.out HZ.out ?_; intro v' W' r1 r2 r3)
    have HR1 : Hid (W'.ownsRow w.heap.size 3 1 v' (m + 1) ((numsL Pd (k + 1)).map (Value.int .i64))) := by
      show World.ownsRow _ _ _ _ _ _ _
      rw [HN.out, List.map_append]; exact r1
    have HB3 := hide (own_below HO2.out r2 HB2.out HB2.out.size (Nat.le_refl _))
    clear r1 r2 r3
    go_wp2_with fail
    go_roundw
    case rel => exact ⟨k + 1, m + 1, by omega, by go_num, Nat.succ_le_succ hmk.out, HR1, HB3⟩
    case measure => simp [intOf]; omega

end Go.Proofs.Ytdhnhpjcoeglmaa
