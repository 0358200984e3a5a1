/- Contracts that the proof stands on, one behind the other. -/
import Derived.Test.YtakenobplljkbabP8
/- The program's spaceOf: all marks that can be come to, told whole or with a code; for every net, list and budget in memory. -/
namespace Go.Proofs.Ytakenobplljkbab
open Go.RowKit
set_option maxRecDepth 10000

/-- Whether the arguments are as the chapter says. -/
def askB (p : Int) (n : Nat) (L : List (List Int)) (ys : List Int) (bg : Int) : Bool := (netOk p n L && goodB p ys) && inB bg 1 400

/-- The code that is told. -/
def spCode (p : Int) (n : Nat) (L : List (List Int)) (ys : List Int) (bg : Int) : Nat := if askB p n L ys bg then codeS (searchS p n L bg.toNat ys) else 0

/-- A space that is told whole, in memory. -/
structure SpSt (B : Nat) (w : World) (p : Int) (n l : Nat) (L : List (List Int)) (s : Sea) (BS mb G : Nat) (av : Value) : Prop where
  steps : PartS w BS (3 * n) (3 * n) L
  map : MapIs w mb l s.ms
  toks : TokAll w G l s.ms
  arcs : w.ownsRow B 98 3 av s.ar.length (arcsL s.ar)
  hBS : B ≤ BS
  hmb : B ≤ mb
  hG : B ≤ G

theorem SpSt.grow {B : Nat} {w w' : World} {p : Int} {n l : Nat} {L : List (List Int)} {s : Sea} {BS mb G : Nat} {av : Value} (h : SpSt B w p n l L s BS mb G av) (hb : Below w.heap.size w w') : SpSt B w' p n l L s BS mb G av :=
  ⟨h.steps.grow hb, h.map.kept (hb.block mb h.map.lt), h.toks.grow hb, ownsRow_kept h.arcs fun g hg => hb.block g (own_lt h.arcs hg).2, h.hBS, h.hmb, h.hG⟩

/-- The struct of a space. -/
abbrev spV (p : Int) (n : Nat) (BS mb G N : Nat) (av : Value) : Array Value := #[.int .i64 p, .slice (some ⟨BS, 0, none⟩) n n, .map (some mb), .slice (some ⟨G, 0, none⟩) N N, av]
abbrev spZ : Array Value := #[.int .i64 0, .slice none 0 0, .map none, .slice none 0 0, .slice none 0 0]

/-- What is known of a space that is told. -/
structure SpOk (p : Int) (n l : Nat) (L : List (List Int)) (ys : List Int) (bg : Int) (s : Sea) : Prop where
  ask : askB p n L ys bg = true
  sea : searchS p n L bg.toNat ys = .ok s
  ok : SeaOk p n bg.toNat s
  len : s.ar.length ≤ 9600
  hl : (l : Int) = p
  net : netOk p n L = true
  hp : 1 ≤ p ∧ p ≤ 16
  n24 : n ≤ 24
  b4 : bg.toNat ≤ 400

/-- How spaceOf ends. -/
def SpEnd (p : Int) (n l : Nat) (L : List (List Int)) (ys : List Int) (bg : Int) (w : World) (e : Ending) (w' : World) : Prop :=
  Below w.heap.size w w' ∧
    ((spCode p n L ys bg = 1 ∧ ∃ s BS mb G av, SpOk p n l L ys bg s ∧ SpSt w.heap.size w' p n l L s BS mb G av ∧ (∃ a c, av = .slice a s.ar.length c) ∧ e = .returned (.tuple #[.agg (spV p n BS mb G s.ms.length av), .int .i64 1])) ∨
     (spCode p n L ys bg ≠ 1 ∧ e = .returned (.tuple #[.agg spZ, .int .i64 (spCode p n L ys bg : Int)])))

theorem spEnd_no {p : Int} {n nm : Nat} {L : List (List Int)} {ys : List Int} {bg : Int} {w w' : World} (h : askB p n L ys bg = false) (hb : Below w.heap.size w w') : SpEnd p n nm L ys bg w (.returned (.tuple #[.agg spZ, .int .i64 0])) w' := by
  have e : spCode p n L ys bg = 0 := by unfold spCode; rw [h]; rfl
  exact ⟨hb, .inr ⟨by rw [e]; decide, by rw [e]; rfl⟩⟩

theorem spEnd_err {p : Int} {n l : Nat} {L : List (List Int)} {ys : List Int} {bg : Int} {w w' : World} {c : Nat} {z : Int} (h : askB p n L ys bg = true) (hc : searchS p n L bg.toNat ys = .error c) (h23 : c = 2 ∨ c = 3) (hz : (c : Int) = z) (hb : Below w.heap.size w w') : SpEnd p n l L ys bg w (.returned (.tuple #[.agg spZ, .int .i64 z])) w' := by
  have e : spCode p n L ys bg = c := by unfold spCode; rw [h, hc]; rfl
  exact ⟨hb, .inr ⟨by rw [e]; omega, by rw [e, hz]⟩⟩

theorem Try.size74 : (Try.prog.info? 74).map (·.size) = some 5 := by kernel_rfl
theorem Try.size123 : (Try.prog.info? 123).map (·.size) = some 6 := by kernel_rfl

theorem space_res {fn : Func} {q u : Tmp} (hr : fn.results = #[.cell q 74, .tmp u]) (tmps : Array Value) (W : World) (b : Nat) (C : Array Value) (v : Value) (h4 : tmps.getD q undef = .pointer (some ⟨b, 0, none⟩)) (h5 : tmps.getD u undef = v)
    (hs : C.size = 5) (q4 : W.heap[b]? = some (.cells C 74 (0, 0))) : (results fn tmps).run Try.prog W = .ok (.tuple #[.agg C, v]) W := by
  refine (results_cell_tmp hr _ _ _).trans ?_
  rw [h4, h5]
  show ((loadVar 74 ⟨b, 0, none⟩).run Try.prog _).andThen _ = _
  rw [run_loadVar_row _ _ 74 74 C (0, 0) _ q4 Try.underlying74 rfl (by rw [hs]; exact Try.size74)]
  rfl

theorem one5 {a b c d e : Value} (ha : a.oneCell' = true) (hb : b.oneCell' = true) (hc : c.oneCell' = true) (hd : d.oneCell' = true) (he : e.oneCell' = true) : (#[a, b, c, d, e] : Array Value).all (·.oneCell') = true := by simp [ha, hb, hc, hd, he]

theorem one6 {a b c d e f : Value} (ha : a.oneCell' = true) (hb : b.oneCell' = true) (hc : c.oneCell' = true) (hd : d.oneCell' = true) (he : e.oneCell' = true) (hf : f.oneCell' = true) : (#[a, b, c, d, e, f] : Array Value).all (·.oneCell') = true := by simp [ha, hb, hc, hd, he, hf]

theorem cells5 {w : World} {b : Nat} {x0 x1 x2 x3 x4 : Value} {T : TypeId} (h : w.heap[b]? = some (.cells #[x0, x1, x2, x3, x4] T (0, 0))) :
    (w.cell? ⟨b, 0, none⟩ = some x0 ∧ w.cell? ⟨b, 1, none⟩ = some x1 ∧ w.cell? ⟨b, 2, none⟩ = some x2 ∧ w.cell? ⟨b, 3, none⟩ = some x3 ∧ w.cell? ⟨b, 4, none⟩ = some x4) ∧ ∀ o, w.frozen? ⟨b, o, none⟩ = false := by
  refine ⟨⟨?_, ?_, ?_, ?_, ?_⟩, fun o => frozen_of_row w b o _ _ h⟩ <;> rw [cell_of_row w b _ _ _ _ h] <;> rfl


set_option maxHeartbeats 1000000 in
theorem spaceOf_any (p : Int) (a am : Option Addr) (n c nm cm : Nat) (L : List (List Int)) (ys : List Int) (bg : Int) (w : World) (h : Lists w a (3 * n) L) (rm : Row w am nm ys) (hs : sizeN n L ≤ 1048576) (hnm : nm ≤ 1048576) :
    Calls Try.prog 52 #[.agg #[.int .i64 p, .slice a n c], .slice am nm cm, .int .i64 bg] w fun e w' => SpEnd p n nm L ys bg w e w' := by
  have hAl := (below_al w (.cells #[.int .i64 p, .slice a n c] 31)).trans ((below_al (w.alloc (.cells #[.int .i64 p, .slice a n c] 31)) (.cells spZ 74)).mono (by simp))
  have HT := hide (netTok_any p a am n c nm cm L ys _ (h.below hAl) (rm.below hAl) hs hnm)
  have HLY := hide rm.1
  have HB0 := hide hAl
  have hR0 := heap_alloc2_new w (.cells #[.int .i64 p, .slice a n c] 31) (.cells spZ 74)
  clear h rm hAl
  go_enter Try.func52, Try.ntmps52
  go_wp2_with fail
  refine HT.out.mono ?_
  rintro e w1 ⟨p', a', m', c', l, rfl, hx, hb⟩
  have hz := HB0.out.size
  have HB1 := hide (HB0.out.trans (hb.mono HB0.out.size))
  have hz1 := HB1.out.size
  have hR1 := keep hR0 hb
  have hR1l := row_lt hR1
  have hA1 := below_al w1 (.cells #[.int .i64 p', .slice a' m' c'] 54)
  have hA2 := below_al (w1.alloc (.cells #[.int .i64 p', .slice a' m' c'] 54)) (.cells #[.int .u8 0, .int .u8 0, .int .u8 0, .int .u8 0, .int .u8 0, .int .u8 0, .int .u8 0, .int .u8 0, .int .u8 0, .int .u8 0, .int .u8 0, .int .u8 0, .int .u8 0, .int .u8 0, .int .u8 0, .int .u8 0] 76)
  have hs1 : (w1.alloc (.cells #[.int .i64 p', .slice a' m' c'] 54)).heap.size = w1.heap.size + 1 := by simp
  have hg0 := heap_alloc_new (w1.alloc (.cells #[.int .i64 p', .slice a' m' c'] 54)) (.cells #[.int .u8 0, .int .u8 0, .int .u8 0, .int .u8 0, .int .u8 0, .int .u8 0, .int .u8 0, .int .u8 0, .int .u8 0, .int .u8 0, .int .u8 0, .int .u8 0, .int .u8 0, .int .u8 0, .int .u8 0, .int .u8 0] 76)
  rw [hs1] at hg0
  have hAA := hA1.trans (hA2.mono hA1.size)
  have hSB := below_setRow hAA (w1.heap.size + 1) (Nat.le_succ _) (packOf ys l)
  have HV := hide hSB
  have Q7 := hide (keepR (keep (heap_alloc_new w1 (.cells #[.int .i64 p', .slice a' m' c'] 54)) hA2) (show w1.heap.size ≠ w1.heap.size + 1 by omega) (packOf ys l))
  have Q8 := hide (setRow_same hg0 (packOf ys l))
  have hRV := keep hR1 hSB
  have HBV := hide (HB1.out.trans (hSB.mono HB1.out.size))
  clear hb HT HB0 hA1 hA2 hs1 hAA hSB hR0 hR1
  go_upto_region 2 with ((show wpList _ _ _ (⟨none, .store 76 (.tmp 9) (.tmp 18), _, _, _, _⟩ :: _) _ _); refine wpList_store_row rfl 76 _ _ rfl _ _ rfl rfl 76 _ hg0 (by rw [packOf_size]; exact Try.size76) (by rw [packOf_size]; rfl) (packOf_one _ _) ?_)
  clear hg0
  generalize (((w1.alloc (.cells #[.int .i64 p', .slice a' m' c'] 54)).alloc (.cells #[.int .u8 0, .int .u8 0, .int .u8 0, .int .u8 0, .int .u8 0, .int .u8 0, .int .u8 0, .int .u8 0, .int .u8 0, .int .u8 0, .int .u8 0, .int .u8 0, .int .u8 0, .int .u8 0, .int .u8 0, .int .u8 0] 76)).setRow (w1.heap.size + 1) (packOf ys l)) = V at *
  by_cases hask : askB p n L ys bg = true
  rotate_left
  · have hask' : askB p n L ys bg = false := by simpa using hask
    have HN := hide (spEnd_no (nm := nm) (w := w) hask' (below_setRow HBV.out (w.heap.size + 1) (Nat.le_succ _) spZ))
    clear hask HV Q7 Q8 hx
    unfold askB inB at hask'
    by_cases g : (netOk p n L && goodB p ys) = true
    · rw [g] at hask' ⊢
      by_cases h1 : bg < 1
      · have h2 : ¬ 400 < bg := by omega
        go_wp2_with ((show wpList _ _ _ (⟨none, .store 74 (.tmp 6) (.tmp 30), _, _, _, _⟩ :: _) _ _); refine wpList_store_row rfl 74 _ _ rfl _ _ rfl rfl 74 _ hRV Try.size74 rfl (one5 rfl rfl rfl rfl rfl) ?_)
        refine bodyPost_ret (v := .tuple #[.agg spZ, .int .i64 0]) ?_ rfl HN.out
        exact space_res Try.results52 _ _ (w.heap.size + 1) _ _ rfl rfl rfl (setRow_same hRV _)
      · have h2 : 400 < bg := by
          by_cases h2 : 400 < bg
          · exact h2
          · exfalso
            have e1 : 1 ≤ bg := by omega
            have e2 : bg ≤ 400 := by omega
            simp [e1, e2] at hask'
        go_wp2_with ((show wpList _ _ _ (⟨none, .store 74 (.tmp 6) (.tmp 30), _, _, _, _⟩ :: _) _ _); refine wpList_store_row rfl 74 _ _ rfl _ _ rfl rfl 74 _ hRV Try.size74 rfl (one5 rfl rfl rfl rfl rfl) ?_)
        refine bodyPost_ret (v := .tuple #[.agg spZ, .int .i64 0]) ?_ rfl HN.out
        exact space_res Try.results52 _ _ (w.heap.size + 1) _ _ rfl rfl rfl (setRow_same hRV _)
    · have g' : (netOk p n L && goodB p ys) = false := by simpa using g
      rw [g']
      go_wp2_with ((show wpList _ _ _ (⟨none, .store 74 (.tmp 6) (.tmp 30), _, _, _, _⟩ :: _) _ _); refine wpList_store_row rfl 74 _ _ rfl _ _ rfl rfl 74 _ hRV Try.size74 rfl (one5 rfl rfl rfl rfl rfl) ?_)
      refine bodyPost_ret (v := .tuple #[.agg spZ, .int .i64 0]) ?_ rfl HN.out
      exact space_res Try.results52 _ _ (w.heap.size + 1) _ _ rfl rfl rfl (setRow_same hRV _)
  have hgg := hask
  unfold askB at hgg
  rw [Bool.and_eq_true] at hgg
  obtain ⟨g1, g2⟩ := hgg
  have hbg : 1 ≤ bg ∧ bg ≤ 400 := by simpa [inB] using g2
  obtain ⟨Bg, rfl⟩ : ∃ Bg : Nat, bg = (Bg : Int) := ⟨bg.toNat, by omega⟩
  have hB1 : 1 ≤ Bg := by omega
  have hB4 : Bg ≤ 400 := by omega
  have HASK := hide hask
  obtain ⟨e1, e2, e3, e4, B, e5, e6, e7⟩ := hx.out g1
  rw [Bool.and_eq_true] at g1
  have hBl := e7.lt
  have HPS := hide (e7.grow HV.out)
  subst e1 e2 e3 e4 e5
  have HNET := hide g1.1
  have HGO := hide g1.2
  have hVs := HV.out.size
  have hBw : w.heap.size ≤ B := by omega
  have hVw : w.heap.size + 1 < V.heap.size := by omega
  have hBw2 : w.heap.size + 1 < B := by simp at e6; omega
  obtain ⟨hq0, hq1⟩ := cells2 Q7.out
  have hA1 := below_al V (.map #[] 0)
  have hA2 := below_al (V.alloc (.map #[] 0)) (.cells #[.int .i64 0, .slice none 0 0, .int .i64 0, .map none, .slice none 0 0, .slice none 0 0] 123)
  have hz3 : (V.alloc (.map #[] 0)).heap.size = V.heap.size + 1 := by simp
  have hg0 := heap_alloc_new (V.alloc (.map #[] 0)) (.cells #[.int .i64 0, .slice none 0 0, .int .i64 0, .map none, .slice none 0 0, .slice none 0 0] 123)
  rw [hz3] at hg0
  have hAA := hA1.trans (hA2.mono hA1.size)
  have hVV := below_setRow hAA (V.heap.size + 1) (Nat.le_succ _) #[.int .i64 p', .slice (some ⟨B, 0, none⟩) c' c', .int .i64 (Bg : Int), .map (some V.heap.size), .slice none 0 0, .slice none 0 0]
  have Q82 := keep Q8.out hVV
  have Q72 := hide (keep Q7.out hVV)
  have hRV0 := hide hRV
  have Q70 := hide Q7.out
  have hmb : (((V.alloc (.map #[] 0)).alloc (.cells #[.int .i64 0, .slice none 0 0, .int .i64 0, .map none, .slice none 0 0, .slice none 0 0] 123)).setRow (V.heap.size + 1) #[.int .i64 p', .slice (some ⟨B, 0, none⟩) c' c', .int .i64 (Bg : Int), .map (some V.heap.size), .slice none 0 0, .slice none 0 0]).heap[V.heap.size]? = some (.map #[] 0) := (setRow_other _ _ _ _ (show V.heap.size ≠ V.heap.size + 1 by omega)).trans ((hA2.block V.heap.size (by rw [hz3]; omega)).trans (heap_alloc_new V (.map #[] 0)))
  have HBV2 := hide hVV
  have HSM := hide (show Sm V (((V.alloc (.map #[] 0)).alloc (.cells #[.int .i64 0, .slice none 0 0, .int .i64 0, .map none, .slice none 0 0, .slice none 0 0] 123)).setRow (V.heap.size + 1) #[.int .i64 p', .slice (some ⟨B, 0, none⟩) c' c', .int .i64 (Bg : Int), .map (some V.heap.size), .slice none 0 0, .slice none 0 0]) (V.heap.size + 1) B V.heap.size p' c' l Bg L (.slice none 0 0) (.slice none 0 0) [] [] [] from
    ⟨HBV2.out, setRow_same hg0 _, HPS.out.grow hVV, by unfold MapIs; simpa [entsOf] using hmb, Tail.nil _ _ _, World.ownsRow_nil _ _ _ _, by omega, Nat.le_refl _, trivial, by omega, by omega, by omega, (fun g hg => by simp [Value.ownBlock] at hg), fun g hg => by simp [Value.ownBlock] at hg⟩)
  have hmm := @run_makeMap Try.prog
  have h1n : ¬ (Bg : Int) < 1 := by omega
  have h4n : ¬ (400 : Int) < (Bg : Int) := by omega
  have hpl : (l : Int) = p' := by have := (goodB_parts g1.2).2.1; have := HLY.out; omega
  rw [g1.1, g1.2]
  clear hask hx HV HPS hA1 hA2 hAA hVV hmb hRV e6 e7 g1 g2 hbg
  go_wp2_with (first
    | ((show wpList _ _ _ (⟨none, .store 123 (.tmp 11) (.tmp 34), _, _, _, _⟩ :: _) _ _); refine wpList_store_row rfl 123 _ _ rfl _ _ rfl rfl 123 _ hg0 Try.size123 rfl (one6 rfl rfl rfl rfl rfl rfl) ?_)
    | ((show wpList _ _ _ (⟨some 35, .load 76 (.tmp 9), _, _, _, _⟩ :: _) _ _); refine wpList_load_row rfl 76 (.tmp 9) rfl _ rfl 76 (packOf ys l) (0, 0) _ Q82 Try.underlying76 rfl (by rw [packOf_size]; exact Try.size76) ?_))
  have HRUN := hide (run_any HSM.out hpl HNET.out HGO.out hB1 hB4 HBV2.out)
  clear hg0 Q82
  refine HRUN.out.mono ?_
  rintro e w3 hru
  have HSA := HASK
  cases hsr : searchS p' c' L Bg ys with
  | error cd =>
    rw [hsr] at hru
    obtain ⟨rfl, hcc, hb3⟩ := hru
    have hR3 := keep hRV0.out hb3
    have hBw3 := HBV.out.trans (hb3.mono HBV.out.size)
    have HN := hide (fun z (hz : (cd : Int) = z) => spEnd_err (l := l) (w := w) HASK.out (by rw [Int.toNat_natCast]; exact hsr) hcc hz (below_setRow hBw3 (w.heap.size + 1) (Nat.le_succ _) spZ))
    clear hsr HRUN HSM HBV2
    rcases hcc with rfl | rfl
    · go_wp2_with ((show wpList _ _ _ (⟨none, .store 74 (.tmp 6) (.tmp 39), _, _, _, _⟩ :: _) _ _); refine wpList_store_row rfl 74 _ _ rfl _ _ rfl rfl 74 _ hR3 Try.size74 rfl (one5 rfl rfl rfl rfl rfl) ?_)
      refine bodyPost_ret (v := .tuple #[.agg spZ, .int .i64 2]) ?_ rfl (HN.out 2 rfl)
      exact space_res Try.results52 _ _ (w.heap.size + 1) _ _ rfl rfl rfl (setRow_same hR3 _)
    · go_wp2_with ((show wpList _ _ _ (⟨none, .store 74 (.tmp 6) (.tmp 39), _, _, _, _⟩ :: _) _ _); refine wpList_store_row rfl 74 _ _ rfl _ _ rfl rfl 74 _ hR3 Try.size74 rfl (one5 rfl rfl rfl rfl rfl) ?_)
      refine bodyPost_ret (v := .tuple #[.agg spZ, .int .i64 3]) ?_ rfl (HN.out 3 rfl)
      exact space_res Try.results52 _ _ (w.heap.size + 1) _ _ rfl rfl rfl (setRow_same hR3 _)
  | ok s =>
    rw [hsr] at hru
    obtain ⟨rfl, hok, hlen, wv, av, hsm⟩ := hru
    have HS3 := hide hsm
    have HOK := hide hok
    clear hsm hok
    go_upto_region 8 with fail
    obtain ⟨aa, ac, haf⟩ := own_form HS3.out.arcs
    subst haf
    have HBV3 := HS3.out.bel
    have Q73 := keep Q70.out HBV3
    have hR3 := keep hRV0.out HBV3
    have HS4 : Hid (Sm V w3.drew (V.heap.size + 1) B V.heap.size p' c' l Bg L wv (.slice aa s.ar.length ac) s.ms [] s.ar) := HS3.out.go (Below.refl _ _).drew
    have hR4 : w3.drew.heap[w.heap.size + 1]? = some (.cells spZ 74 (0, 0)) := keep hR3 (Below.refl _ w3).drew
    have Q74 : w3.drew.heap[w1.heap.size]? = some (.cells #[.int .i64 p', .slice (some ⟨B, 0, none⟩) c' c'] 54 (0, 0)) := keep Q73 (Below.refl _ w3).drew
    have HBV4 : Hid (Below V.heap.size V w3.drew) := HBV3.drew
    clear HS3 HBV3 Q73 hR3 HRUN HSM HBV2 Q70 hRV0
    refine wp_region_held_drew (S := fun W => W.cell? ⟨w1.heap.size, 0, none⟩ = some (.int .i64 p') ∧ W.cell? ⟨w1.heap.size, 1, none⟩ = some (.slice (some ⟨B, 0, none⟩) c' c') ∧ W.cell? ⟨V.heap.size + 1, 3, none⟩ = some (.map (some V.heap.size)) ∧ W.cell? ⟨V.heap.size + 1, 5, none⟩ = some (.slice aa s.ar.length ac)) (by kernel_rfl) ?_ (fun hHeld => ?_)
    · exact ⟨(cells2 Q74).1, (cells2 Q74).2, HS4.out.cells.2.2.2.1, HS4.out.cells.2.2.2.2.2⟩
    generalize w3.drew = w4 at *
    refine take_yes (i := 0) (some 41) (.agg #[.int .i64 p', .slice (some ⟨B, 0, none⟩) c' c']) rfl rfl (by kernel_rfl) (by kernel_rfl) (by kernel_rfl) (fun _ _ _ h => h) (by rfl) ?_ (by assumption) ?_
    · intro W' hSw
      obtain ⟨hz0, hz1, hz2, hz3⟩ := hSw
      go_simp
    simp only [Act.put, List.setIfInBounds_toArray, List.set_cons_zero, List.set_cons_succ]
    refine take_yes (i := 1) (some 42) (.pointer (some ⟨V.heap.size + 1, 3, none⟩)) rfl rfl (by kernel_rfl) (by kernel_rfl) (by kernel_rfl) (fun _ _ _ h => h) (by rfl) ?_ (by assumption) ?_
    · intro W' hSw
      go_simp
    simp only [Act.put, List.setIfInBounds_toArray, List.set_cons_zero, List.set_cons_succ]
    refine take_yes (i := 2) (some 43) (.map (some V.heap.size)) rfl rfl (by kernel_rfl) (by kernel_rfl) (by kernel_rfl) (fun _ _ _ h => h) (by rfl) ?_ (by assumption) ?_
    · intro W' hSw
      obtain ⟨hz0, hz1, hz2, hz3⟩ := hSw
      go_simp
    simp only [Act.put, List.setIfInBounds_toArray, List.set_cons_zero, List.set_cons_succ]
    refine take_yes (i := 3) (some 44) (.pointer (some ⟨V.heap.size + 1, 3, none⟩)) rfl rfl (by kernel_rfl) (by kernel_rfl) (by kernel_rfl) (fun _ _ _ h => h) (by rfl) ?_ (by assumption) ?_
    · intro W' hSw
      go_simp
    simp only [Act.put, List.setIfInBounds_toArray, List.set_cons_zero, List.set_cons_succ]
    refine take_yes (i := 4) (some 45) (.map (some V.heap.size)) rfl rfl (by kernel_rfl) (by kernel_rfl) (by kernel_rfl) (fun _ _ _ h => h) (by rfl) ?_ (by assumption) ?_
    · intro W' hSw
      obtain ⟨hz0, hz1, hz2, hz3⟩ := hSw
      go_simp
    simp only [Act.put, List.setIfInBounds_toArray, List.set_cons_zero, List.set_cons_succ]
    refine take_yes (i := 6) (some 47) (.pointer (some ⟨V.heap.size + 1, 5, none⟩)) rfl rfl (by kernel_rfl) (by kernel_rfl) (by kernel_rfl) (fun _ _ _ h => h) (by rfl) ?_ (by assumption) ?_
    · intro W' hSw
      go_simp
    simp only [Act.put, List.setIfInBounds_toArray, List.set_cons_zero, List.set_cons_succ]
    refine take_yes (i := 7) (some 48) (.slice aa s.ar.length ac) rfl rfl (by kernel_rfl) (by kernel_rfl) (by kernel_rfl) (fun _ _ _ h => h) (by rfl) ?_ (by assumption) ?_
    · intro W' hSw
      obtain ⟨hz0, hz1, hz2, hz3⟩ := hSw
      go_simp
    simp only [Act.put, List.setIfInBounds_toArray, List.set_cons_zero, List.set_cons_succ]
    refine take_yes (i := 9) (some 50) (.int .i64 1) rfl rfl (by kernel_rfl) (by kernel_rfl) (by kernel_rfl) (fun _ _ _ h => h) (by rfl) ?_ (by assumption) ?_
    · intro W' hSw
      go_simp
    simp only [Act.put, List.setIfInBounds_toArray, List.set_cons_zero, List.set_cons_succ]
    refine call_next (i := 5) (some 46) rfl rfl (by kernel_rfl) (by rfl) 72 _ _ _ rfl Try.func72 (by decide) rfl #[.map (some V.heap.size)] (mapw1 _ _ _ rfl) _ (inOrder_any HS4.out.map HOK.out.pos (Nat.le_trans HOK.out.le hB4)) ?_
    rintro e w5 ⟨G, rfl, hG, hta, hb5⟩
    have HS5 := hide (HS4.out.go hb5)
    have hR5 := keep hR4 hb5
    have Q75 := keep Q74 hb5
    have HBV5 := hide (HBV4.out.trans (hb5.mono HBV4.out.size))
    refine ⟨_, rfl, ⟨(cells2 Q75).1, (cells2 Q75).2, HS5.out.cells.2.2.2.1, HS5.out.cells.2.2.2.2.2⟩, fun _ => ?_⟩
    simp only [Act.put, List.setIfInBounds_toArray, List.set_cons_zero, List.set_cons_succ]
    have hVs4 := HBV4.out.size
    clear HS4 hR4 Q74 HBV4 hHeld
    refine take_yes (i := 8) (some 49) (.agg (spV p' c' B V.heap.size G s.ms.length (.slice aa s.ar.length ac))) rfl rfl (by kernel_rfl) (by kernel_rfl) (by kernel_rfl) (fun _ _ _ h => h) (by rfl) ?_ (by assumption) ?_
    · intro W' hSw
      go_simp
    simp only [Act.put, List.setIfInBounds_toArray, List.set_cons_zero, List.set_cons_succ]
    have hbr := below_setRow (Below.refl w5.heap.size w5) w5.heap.size (Nat.le_refl _) #[]
    refine store_next (i := 10) rfl rfl (by kernel_rfl) (by rfl) 74 _ _ rfl (w.heap.size + 1) _ rfl rfl 74 _ hR5 Try.size74 rfl (one5 rfl rfl rfl rfl rfl) ?_ ?_
    · have f1 : ∀ g, g ≠ w.heap.size + 1 → (w5.setRow (w.heap.size + 1) (spV p' c' B V.heap.size G s.ms.length (.slice aa s.ar.length ac))).heap[g]? = w5.heap[g]? := fun g hg => setRow_other _ _ _ _ hg
      refine ⟨?_, ?_, ?_, ?_⟩
      · rw [World.cell?_of_block (a := ⟨w1.heap.size, 0, none⟩) (f1 _ (show w1.heap.size ≠ w.heap.size + 1 by omega))]; exact (cells2 Q75).1
      · rw [World.cell?_of_block (a := ⟨w1.heap.size, 1, none⟩) (f1 _ (show w1.heap.size ≠ w.heap.size + 1 by omega))]; exact (cells2 Q75).2
      · rw [World.cell?_of_block (a := ⟨V.heap.size + 1, 3, none⟩) (f1 _ (show V.heap.size + 1 ≠ w.heap.size + 1 from by intro e; have e2 := Nat.succ.inj e; rw [e2] at hVw; exact absurd hVw (by simp)))]; exact HS5.out.cells.2.2.2.1
      · rw [World.cell?_of_block (a := ⟨V.heap.size + 1, 5, none⟩) (f1 _ (show V.heap.size + 1 ≠ w.heap.size + 1 from by intro e; have e2 := Nat.succ.inj e; rw [e2] at hVw; exact absurd hVw (by simp)))]; exact HS5.out.cells.2.2.2.2.2
    intro _
    have HFIN : Hid (SpEnd p' c' l L ys (Bg : Int) w (.returned (.tuple #[.agg (spV p' c' B V.heap.size G s.ms.length (.slice aa s.ar.length ac)), .int .i64 1])) (w5.setRow (w.heap.size + 1) (spV p' c' B V.heap.size G s.ms.length (.slice aa s.ar.length ac)))) := by
      have f1 : ∀ g, g ≠ w.heap.size + 1 → (w5.setRow (w.heap.size + 1) (spV p' c' B V.heap.size G s.ms.length (.slice aa s.ar.length ac))).heap[g]? = w5.heap[g]? := fun g hg => setRow_other _ _ _ _ hg
      have hsz : (w5.setRow (w.heap.size + 1) (spV p' c' B V.heap.size G s.ms.length (.slice aa s.ar.length ac))).heap.size = w5.heap.size := by simp [World.setRow]
      have hb := below_setRow (HBV.out.trans (HBV5.out.mono HBV.out.size)) (w.heap.size + 1) (Nat.le_succ _) (spV p' c' B V.heap.size G s.ms.length (.slice aa s.ar.length ac))
      have hcode : spCode p' c' L ys (Bg : Int) = 1 := by unfold spCode; rw [HASK.out, Int.toNat_natCast, hsr]; rfl
      have hn24 := netOkN HNET.out
      refine ⟨hb, .inl ⟨hcode, s, B, V.heap.size, G, _, ⟨HASK.out, by rw [Int.toNat_natCast]; exact hsr, by rw [Int.toNat_natCast]; exact HOK.out, hlen, hpl, HNET.out, (goodB_parts HGO.out).1, hn24, by rw [Int.toNat_natCast]; exact hB4⟩, ⟨HS5.out.steps.kept (f1 B ?_), HS5.out.map.kept (f1 _ ?_), ⟨by rw [hsz]; exact hta.lt, fun i hi j v hv => ?_⟩, ownsRow_kept (HS5.out.arcs.mono HBV.out.size) fun g hg => f1 g ?_, hBw, HBV.out.size, by omega⟩, ⟨_, _, rfl⟩, rfl⟩⟩
      · omega
      · exact fun e => by rw [e] at hVw; exact absurd hVw (by simp)
      · rw [World.cell?_of_block (a := ⟨G, i * 16 + j, none⟩) (f1 G (by omega))]
        exact hta.cells i hi j v hv
      · have := (own_lt HS5.out.arcs hg).1
        omega
    have HR6 := setRow_same hR5 (spV p' c' B V.heap.size G s.ms.length (.slice aa s.ar.length ac))
    clear hR5 Q75 HBV5 HS5 hta hbr hb5
    generalize w5.setRow (w.heap.size + 1) (spV p' c' B V.heap.size G s.ms.length (.slice aa s.ar.length ac)) = w6 at *
    refine take_yes (i := 11) (some 7) (.int .i64 1) rfl rfl (by kernel_rfl) (by kernel_rfl) (by kernel_rfl) (fun _ _ _ h => h) (by rfl) ?_ (by assumption) ?_
    · intro W' hSw
      go_simp
    simp only [Act.put, List.setIfInBounds_toArray, List.set_cons_zero, List.set_cons_succ]
    refine wpAnyH_done (by kernel_rfl) ?_ _
    go_wp2_with fail
    refine bodyPost_ret (v := .tuple #[.agg (spV p' c' B V.heap.size G s.ms.length (.slice aa s.ar.length ac)), .int .i64 1]) ?_ rfl HFIN.out
    exact space_res Try.results52 _ _ (w.heap.size + 1) _ _ rfl rfl rfl HR6
end Go.Proofs.Ytakenobplljkbab


/- The specification's l4Find; the state of its search in memory. -/
namespace Go.Proofs.Ytakenobplljkbab
open Go.RowKit
set_option maxRecDepth 10000

/-- Where a list stands among some, -1 where it does not. -/
def findL (ms : List (List Int)) (m : List Int) : Int := if m ∈ ms then (ms.idxOf m : Int) else -1

theorem Lists.one {w : World} {a : Option Addr} {n : Nat} {L : List (List Int)} (h : Lists w a n L) {k : Nat} (hk : k < n) :
    ∃ b off a' n' c', a = some ⟨b, off, none⟩ ∧ b < w.heap.size ∧ w.cell? ⟨b, off + k, none⟩ = some (.slice a' n' c') ∧ n' ≤ maxLen ∧ Row w a' n' (L.getD k []) := by
  rcases h.2 with h0 | ⟨b, off, e, hl, hc⟩
  · omega
  · obtain ⟨a', n', c', h1, h2, h3⟩ := hc k hk
    exact ⟨b, off, a', n', c', e, hl, h1, h2, h3⟩

theorem Lists.drewN {w : World} {a : Option Addr} {n : Nat} {L : List (List Int)} (h : Lists w a n L) (q : Nat) : Lists (w.drewN q) a n L := h.below (below_drewN' w q)

theorem take_mem {L : List (List Int)} {k : Nat} {m : List Int} (hk : k < L.length) (h : m ∉ L.take k) (he : L.getD k [] ≠ m) : m ∉ L.take (k + 1) := by
  rw [List.take_add_one, List.getElem?_eq_getElem hk]
  rw [List.getD_eq_getElem?_getD, List.getElem?_eq_getElem hk] at he
  simp at he
  simp only [Option.toList_some, List.mem_append, List.mem_singleton, not_or]
  exact ⟨h, fun e => he e.symm⟩

theorem take_idx {L : List (List Int)} {k : Nat} {m : List Int} (hk : k < L.length) (h : m ∉ L.take k) (he : L.getD k [] = m) : findL L m = (k : Int) := by
  have e : L = L.take k ++ m :: L.drop (k + 1) := by
    rw [List.getD_eq_getElem?_getD, List.getElem?_eq_getElem hk] at he
    simp at he
    conv => lhs; rw [← List.take_append_drop k L, List.drop_eq_getElem_cons hk, he]
  have hm : m ∈ L := by rw [e]; simp
  unfold findL
  rw [if_pos hm]
  have : L.idxOf m = k := by
    rw [e, List.idxOf_append, if_neg h]
    simp [List.length_take]
    omega
  rw [this]

set_option maxHeartbeats 400000 in
theorem same2_any (a b : Option Addr) (n m ca cb : Nat) (xs ys : List Int) (w : World) (ha : Row w a n xs) (hb : Row w b m ys) (hm : m ≤ 1048576) :
    Calls Try.prog 50 #[.slice a n ca, .slice b m cb] w fun e w' => e = .returned (.bool (sameB xs ys)) ∧ ∃ q, w' = w.drewN q := by
  by_cases hnm : n = m
  · exact same_any a b n m ca cb xs ys w ha hb (by omega)
  · have hx := ha.1
    have hy := hb.1
    have HS := sameB_len (show xs.length ≠ ys.length by omega)
    have hne : ((n : Int) != (m : Int)) = true := by simp; omega
    clear ha hb hx hy
    go_enter Try.func50, Try.ntmps50
    go_wp2
    go_ret
    exact ⟨ret_bool HS.symm, 0, rfl⟩

set_option maxHeartbeats 1000000 in
theorem find_any (a am : Option Addr) (n c nm cm : Nat) (L : List (List Int)) (ys : List Int) (w : World) (h : Lists w a n L) (rm : Row w am nm ys) (hn : n ≤ 1048576) (hnm : nm ≤ 1048576) :
    Calls Try.prog 33 #[.slice a n c, .slice am nm cm] w fun e w' => e = .returned (.int .i64 (findL L ys)) ∧ ∃ q, w' = w.drewN q := by
  have HL := hide h
  have RM := hide rm
  have HLEN := hide h.1
  clear h rm
  go_enter Try.func33, Try.ntmps33
  go_wp2_with fail
  go_loopw [9] (fun i wr => ∃ k : Nat, k ≤ n ∧ i = .int .i64 k ∧ Hid (ys ∉ L.take k) ∧ ∃ q, wr = w.drewN q) (fun i _ => n - (intOf i).toNat)
  case atStart => exact ⟨0, Nat.zero_le _, rfl, by simp [Hid], 0, rfl⟩
  case round =>
    obtain ⟨k, hk, rfl, hu, q, rfl⟩ := hrel
    by_cases hlt : k < n
    rotate_left
    · have hk' : k = n := by omega
      subst hk'
      have HR : Hid (findL L ys = -1) := by
        have := hu.out
        rw [List.take_of_length_le (by rw [HLEN.out]; exact Nat.le_refl _)] at this
        show findL L ys = -1
        unfold findL; rw [if_neg this]
      go_wp2_with fail
      go_ret
      exact ⟨by rw [HR.out]; rfl, q, rfl⟩
    obtain ⟨b, off, a', n', c', rfl, hb, hc, hm, hr⟩ := (HL.out.drewN q).one hlt
    have hki : (k : Int) < (n : Int) := by omega
    have hk0 : (0 : Int) ≤ (k : Int) := by omega
    have hn4 : (k : Int) ≤ 1048576 := by omega
    have HS := hide (same2_any a' am n' nm c' cm (L.getD k []) ys (w.drewN q) hr (RM.out.drewN q) hnm)
    by_cases he : L.getD k [] = ys
    · have HF := hide (take_idx (by rw [HLEN.out]; exact hlt) hu.out he)
      rw [he, sameB_self] at HS
      clear hu hr
      go_wp2_with fail
      refine HS.out.mono ?_
      rintro e w' ⟨rfl, q2, rfl⟩
      go_wp2_with fail
      go_ret
      exact ⟨by rw [HF.out]; rfl, _, rfl⟩
    · have HU := hide (take_mem (by rw [HLEN.out]; exact hlt) hu.out he)
      have hsb : sameB (L.getD k []) ys = false := by unfold sameB; simpa using he
      rw [hsb] at HS
      clear hu hr he hsb
      go_wp2_with fail
      refine HS.out.mono ?_
      rintro e w' ⟨rfl, q2, rfl⟩
      go_wp2_with fail
      go_roundw
      case rel => exact ⟨k + 1, by omega, by go_num, HU, _, rfl⟩
      case measure => simp [intOf]; omega
end Go.Proofs.Ytakenobplljkbab


/- The specification's TakersOf and GiversOf, for every net and place. -/
namespace Go.Proofs.Ytakenobplljkbab
open Go.RowKit

theorem netOkN' {p : Int} {n : Nat} {L : List (List Int)} (h : netOk p n L = true) : n ≤ 24 := by
  unfold netOk at h; simp at h; exact h.1.2
theorem netOkP' {p : Int} {n : Nat} {L : List (List Int)} (h : netOk p n L = true) : 1 ≤ p ∧ p ≤ 16 := by
  unfold netOk at h; simp [inB] at h; omega

def atOk (p : Int) (n : Nat) (L : List (List Int)) (q : Int) : Bool := netOk p n L && inB q 0 (p - 1)
def atR (f : Nat → Bool) (p : Int) (n : Nat) (L : List (List Int)) (q : Int) : List Int := if atOk p n L q then numsL f n else []

/-- A list and a bool; nothing that was there is written. -/
def WEnd (g : Bool) (r : List Int) (w : World) (e : Ending) (w' : World) : Prop := ∃ a n c, e = .returned (.tuple #[.slice a n c, .bool g]) ∧ Row w' a n r ∧ Below w.heap.size w w'

theorem wend_no {f : Nat → Bool} {p : Int} {n : Nat} {L : List (List Int)} {q : Int} {w w' : World} (h : atOk p n L q = false) (hb : Below w.heap.size w w') : WEnd (atOk p n L q) (atR f p n L q) w (.returned (.tuple #[.slice none 0 0, .bool false])) w' := by
  refine ⟨none, 0, 0, by rw [h], ⟨?_, .inl rfl⟩, hb⟩
  unfold atR; rw [h]; rfl

theorem wend_yes {f : Nat → Bool} {p : Int} {n : Nat} {L : List (List Int)} {q : Int} {w w' : World} {a : Option Addr} {m c : Nat} (h : atOk p n L q = true) (hr : Row w' a m (numsL f n)) (hb : Below w.heap.size w w') : WEnd (atOk p n L q) (atR f p n L q) w (.returned (.tuple #[.slice a m c, .bool true])) w' := by
  refine ⟨a, m, c, by rw [h], ?_, hb⟩
  unfold atR; rw [h]; exact hr

/-- .. in a block of its own. -/
def OEnd (g : Bool) (r : List Int) (w : World) (e : Ending) (w' : World) : Prop :=
  ∃ a b n c, e = .returned (.tuple #[.slice a n c, .bool g]) ∧ Ob w' a b n r ∧ w.heap.size ≤ b ∧ Below w.heap.size w w'

theorem own_ob {B : Nat} {w : World} {v : Value} {n : Nat} {l : List Int} (hown : w.ownsRow B 3 1 v n (l.map (Value.int .i64))) : ∃ a b c, v = .slice a n c ∧ B ≤ b ∧ Ob w a b n l := by
  have hl : l.length = n := by have := hown.1; simpa using this
  rcases hown.2 with ⟨rfl, rfl⟩ | ⟨g, cap, cur, rfl, hb, hh, hnc, _, hsz, ht⟩
  · exact ⟨none, B, 0, rfl, Nat.le_refl _, hl, .inl rfl⟩
  · refine ⟨_, g, cap, rfl, hb, hl, .inr ⟨rfl, cur, hh, by omega, fun i hi => ?_⟩⟩
    have e : (cur.toList.take (n * 1))[i]? = (l.map (Value.int .i64))[i]? := by rw [ht]
    rw [List.getElem?_take_of_lt (by omega), Array.getElem?_toList] at e
    rw [e]
    simp [List.getElem?_eq_getElem (show i < l.length by omega)]

theorem own_row {B : Nat} {w : World} {v : Value} {n : Nat} {l : List Int} (hown : w.ownsRow B 3 1 v n (l.map (Value.int .i64))) : ∃ a c, v = .slice a n c ∧ Row w a n l := by
  obtain ⟨a, b, c, e, _, ho⟩ := own_ob hown
  exact ⟨a, c, e, ho.row⟩

end Go.Proofs.Ytakenobplljkbab


/- numbersWhere of the program, and its TakersOf and GiversOf. -/
namespace Go.Proofs.Ytakenobplljkbab
open Go.RowKit
set_option maxRecDepth 10000

theorem PartS.at2 {w : World} {B n k : Nat} {L : List (List Int)} (h : PartS w B (3 * n) (3 * n) L) (hk : k < n) :
    w.cell? ⟨B, k * 3, none⟩ = some (.int .u16 (maskL (L.getD (3 * k) []) : Int)) ∧ w.cell? ⟨B, k * 3 + 1, none⟩ = some (.int .u16 (maskL (L.getD (3 * k + 1) []) : Int)) ∧ w.cell? ⟨B, k * 3 + 2, none⟩ = some (.int .u16 (maskL (L.getD (3 * k + 2) []) : Int)) := by
  obtain ⟨C, h1, h2, h3⟩ := h
  refine ⟨?_, ?_, ?_⟩
  · rw [cell_of_row w B _ C _ _ h1, Nat.mul_comm]; exact h3 _ (by omega)
  · rw [cell_of_row w B _ C _ _ h1, Nat.mul_comm]; exact h3 _ (by omega)
  · rw [cell_of_row w B _ C _ _ h1, Nat.mul_comm]; exact h3 _ (by omega)

theorem own_grow {B : Nat} {w w' : World} {v : Value} {n : Nat} {l : List Value} (hown : w.ownsRow B 3 1 v n l) (hb : Below w.heap.size w w') : w'.ownsRow B 3 1 v n l := by
  refine ⟨hown.1, ?_⟩
  rcases hown.2 with h0 | ⟨g, cap, cur, e, h1, h2, h3⟩
  · exact .inl h0
  · exact .inr ⟨g, cap, cur, e, h1, (hb.block g (Array.getElem?_eq_some_iff.mp h2).1).trans h2, h3⟩

end Go.Proofs.Ytakenobplljkbab


/- The program's TakersOf and GiversOf, for every net and place. -/
namespace Go.Proofs.Ytakenobplljkbab
open Go.RowKit
set_option maxRecDepth 10000

theorem triOkT {p : Int} {n i : Nat} {L : List (List Int)} (h : netOk p n L = true) (hi : i < n) : triOk p L i = true := by
  unfold netOk at h
  rw [Bool.and_eq_true] at h
  exact List.all_eq_true.mp h.2 i (by simpa using hi)

theorem tri_riseT {p : Int} {L : List (List Int)} {i : Nat} (h : triOk p L i = true) : riseB (L.getD (3 * i) []) 0 (p - 1) = true ∧ riseB (L.getD (3 * i + 1) []) 0 (p - 1) = true ∧ riseB (L.getD (3 * i + 2) []) 0 (p - 1) = true := by
  unfold triOk at h
  simp only [Bool.and_eq_true] at h
  exact ⟨h.1.1.2, h.1.2, h.2⟩

theorem mask16T {p : Int} {xs : List Int} (h : riseB xs 0 (p - 1) = true) (hp : 1 ≤ p ∧ p ≤ 16) : maskL xs < 2 ^ 16 := by
  refine maskL_lt _ fun x hx => ?_
  have := riseB_mem h x hx
  omega

theorem oend_no {f : Nat → Bool} {p : Int} {n : Nat} {L : List (List Int)} {q : Int} {w w' : World} (h : atOk p n L q = false) (hb : Below w.heap.size w w') : OEnd (atOk p n L q) (atR f p n L q) w (.returned (.tuple #[.slice none 0 0, .bool false])) w' := by
  refine ⟨none, w.heap.size, 0, 0, by rw [h], ⟨?_, .inl rfl⟩, Nat.le_refl _, hb⟩
  unfold atR; rw [h]; rfl

theorem oend_yes {f : Nat → Bool} {p : Int} {n : Nat} {L : List (List Int)} {q : Int} {w w' : World} {a : Option Addr} {b m c : Nat} (h : atOk p n L q = true) (hr : Ob w' a b m (numsL f n)) (hB : w.heap.size ≤ b) (hb : Below w.heap.size w w') : OEnd (atOk p n L q) (atR f p n L q) w (.returned (.tuple #[.slice a m c, .bool true])) w' := by
  refine ⟨a, b, m, c, by rw [h], ?_, hB, hb⟩
  unfold atR; rw [h]; exact hr

end Go.Proofs.Ytakenobplljkbab


/- numbersWhere with a bound method; steps of a region that draws its order. -/
namespace Go.Proofs.Ytakenobplljkbab
open Go.RowKit

theorem run_callg {P : Program} {o : Oper} {a : Act} {w : World} (f : FuncId) (fn : Func) (xs : Array Operand) (ts : Array TypeId) (hop : o.op = Op.call { callee := Callee.value (Operand.func f), args := xs, argTypes := ts })
    (hfn : P.funcs[f]? = some fn) (hnm : (fn.name == "runtime.NumGoroutine") = false) (hbd : fn.body.isNone = false) : (execOp a.eval o).run P w = .ok (.enter f (xs.map a.eval)) w := by
  have hnm' : ¬ fn.name = "runtime.NumGoroutine" := by simpa using hnm
  have hbd' : ¬ fn.body = none := by intro e; rw [e] at hbd; simp at hbd
  unfold execOp
  simp only [hop]
  simp [resolve, invoke, go_sem, Act.eval, callFunc, hfn, hnm', hbd']

theorem mapg1 (g : Operand → Value) (x : Operand) (v : Value) (h : g x = v) : (#[x] : Array Operand).map g = #[v] := by simp [h]
theorem mapg2 (g : Operand → Value) (x y : Operand) (v u : Value) (h : g x = v) (h2 : g y = u) : (#[x, y] : Array Operand).map g = #[v, u] := by simp [h, h2]

theorem cons_callg {P : Program} {md : Region.Mode} {ops : Array Oper} {Q : Exit → Act → World → Prop} {fuel : Nat} {listed : Array Bool} {a : Act} {w : World} {i : Nat} {o : Oper} {rs : List Nat} (ho : ops[i]? = some o)
    (hgd : o.guard = none) (d : Option Tmp) (hd : o.dst = d) (f : FuncId) (fn : Func) (xs : Array Operand) (ts : Array TypeId) (hop : o.op = Op.call { callee := Callee.value (Operand.func f), args := xs, argTypes := ts })
    (hfn : P.funcs[f]? = some fn) (hnm : (fn.name == "runtime.NumGoroutine") = false) (hbd : fn.body.isNone = false) (args : Array Value) (hargs : xs.map a.eval = args) (v : Value) (w' : World) (hc : Calls P f args w fun e w'' => e = .returned v ∧ w'' = w')
    (h : wpAny P md ops Q fuel (listed.setIfInBounds i true) (a.put d v) w')
    (hs : AllReady P md ops Q fuel listed a w rs) : AllReady P md ops Q fuel listed a w (i :: rs) := by
  refine AllReady.cons ho (fun K hK => ?_) hs
  rw [if_pos (by simp [Region.wanted, hgd])]
  unfold Oper.wp
  rw [run_callg f fn xs ts hop hfn hnm hbd, hargs, Oper.upon_enter]
  refine hc.mono fun e w'' hh => ?_
  obtain ⟨rfl, rfl⟩ := hh
  refine hK _ _ ?_
  rw [hd]
  exact h

theorem cons_callE {P : Program} {md : Region.Mode} {ops : Array Oper} {Q : Exit → Act → World → Prop} {fuel : Nat} {listed : Array Bool} {a : Act} {w : World} {i : Nat} {o : Oper} {rs : List Nat} (ho : ops[i]? = some o)
    (hgd : o.guard = none) (d : Option Tmp) (hd : o.dst = d) (f : FuncId) (fn : Func) (xs : Array Operand) (ts : Array TypeId) (hop : o.op = Op.call { callee := Callee.value (Operand.func f), args := xs, argTypes := ts })
    (hfn : P.funcs[f]? = some fn) (hnm : (fn.name == "runtime.NumGoroutine") = false) (hbd : fn.body.isNone = false) (args : Array Value) (hargs : xs.map a.eval = args) (R : Ending → World → Prop) (hc : Calls P f args w R)
    (h : ∀ e w', R e w' → ∃ v, e = .returned v ∧ wpAny P md ops Q fuel (listed.setIfInBounds i true) (a.put d v) w')
    (hs : AllReady P md ops Q fuel listed a w rs) : AllReady P md ops Q fuel listed a w (i :: rs) := by
  refine AllReady.cons ho (fun K hK => ?_) hs
  rw [if_pos (by simp [Region.wanted, hgd])]
  unfold Oper.wp
  rw [run_callg f fn xs ts hop hfn hnm hbd, hargs, Oper.upon_enter]
  refine hc.mono fun e w'' hh => ?_
  obtain ⟨v, rfl, hw⟩ := h e w'' hh
  refine hK _ _ ?_
  rw [hd]
  exact hw

theorem cons_make {P : Program} {md : Region.Mode} {ops : Array Oper} {Q : Exit → Act → World → Prop} {fuel : Nat} {listed : Array Bool} {a : Act} {w : World} {i : Nat} {o : Oper} {rs : List Nat} (ho : ops[i]? = some o)
    (hgd : o.guard = none) (d : Option Tmp) (hd : o.dst = d) (fn : Fn) (x : Operand) (hop : o.op = .makeFunc fn #[x] #[]) (v : Value) (hx : a.eval x = v)
    (h : wpAny P md ops Q fuel (listed.setIfInBounds i true) (a.put d (.func fn #[v] #[])) w)
    (hs : AllReady P md ops Q fuel listed a w rs) : AllReady P md ops Q fuel listed a w (i :: rs) := by
  refine AllReady.cons ho (fun K hK => ?_) hs
  rw [if_pos (by simp [Region.wanted, hgd])]
  unfold Oper.wp
  have hr : (execOp a.eval o).run P w = .ok (.value (.func fn #[v] #[])) w := by
    unfold execOp
    simp only [hop]
    rw [mapg1 _ _ _ hx, show Array.map a.eval #[] = #[] by simp]
    rfl
  rw [hr, Oper.upon_value]
  refine hK _ _ ?_
  rw [hd]
  exact h

theorem cons_assignV {P : Program} {md : Region.Mode} {ops : Array Oper} {Q : Exit → Act → World → Prop} {fuel : Nat} {listed : Array Bool} {a : Act} {w : World} {i : Nat} {o : Oper} {rs : List Nat} (ho : ops[i]? = some o)
    (hgd : o.guard = none) (d : Option Tmp) (hd : o.dst = d) (x : Operand) (hop : o.op = .assign x) (v : Value) (hx : a.eval x = v)
    (h : wpAny P md ops Q fuel (listed.setIfInBounds i true) (a.put d v) w)
    (hs : AllReady P md ops Q fuel listed a w rs) : AllReady P md ops Q fuel listed a w (i :: rs) :=
  cons_assign ho hgd d hd x hop (by rw [hx]; exact h) hs
end Go.Proofs.Ytakenobplljkbab


/- The program's Enabled, for every net and mark in memory. -/
namespace Go.Proofs.Ytakenobplljkbab
open Go.RowKit
set_option maxRecDepth 10000

def enOk (p : Int) (n : Nat) (L : List (List Int)) (ys : List Int) : Bool := netOk p n L && goodB p ys
def enR (p : Int) (n : Nat) (L : List (List Int)) (ys : List Int) : List Int := if enOk p n L ys then numsL (fun i => canB (L.getD (3 * i) []) ys) n else []

theorem enend_yes {p : Int} {n : Nat} {L : List (List Int)} {ys : List Int} {w w' : World} {a : Option Addr} {b m c : Nat} (h : enOk p n L ys = true) (hr : Ob w' a b m (numsL (fun i => canB (L.getD (3 * i) []) ys) n)) (hB : w.heap.size ≤ b) (hb : Below w.heap.size w w') : OEnd (enOk p n L ys) (enR p n L ys) w (.returned (.tuple #[.slice a m c, .bool true])) w' := by
  refine ⟨a, b, m, c, by rw [h], ?_, hB, hb⟩
  unfold enR; rw [h]; exact hr

theorem enend_no {p : Int} {n : Nat} {L : List (List Int)} {ys : List Int} {w w' : World} (h : (netOk p n L && goodB p ys) = false) (hb : Below w.heap.size w w') : OEnd (enOk p n L ys) (enR p n L ys) w (.returned (.tuple #[.slice none 0 0, .bool false])) w' := by
  have h' : enOk p n L ys = false := h
  refine ⟨none, w.heap.size, 0, 0, by rw [h'], ⟨?_, .inl rfl⟩, Nat.le_refl _, hb⟩
  unfold enR; rw [h']; rfl

end Go.Proofs.Ytakenobplljkbab


/- The specification's Enabled, for every net and mark in memory. -/
namespace Go.Proofs.Ytakenobplljkbab
open Go.RowKit
set_option maxRecDepth 10000

set_option maxHeartbeats 1000000 in
theorem enabledS_any (p : Int) (a am : Option Addr) (n c nm cm : Nat) (L : List (List Int)) (ys : List Int) (w : World) (h : Lists w a (3 * n) L) (rm : Row w am nm ys) (hs : sizeN n L ≤ 1048576) (hn : n ≤ 24) (hin : ∀ k, k < n → ∀ x ∈ L.getD (3 * k) [], 0 ≤ x ∧ x < (nm : Int)) :
    Calls Try.prog 81 #[.agg #[.int .i64 p, .slice a n c], .slice am nm cm] w fun e w' => NumsEnd (fun i => canB (L.getD (3 * i) []) ys) n w e w' := by
  have hAl := below_al w (.cells #[.int .i64 p, .slice a n c] 31)
  have HL := hide h
  have RM := hide rm
  have HIN := hide hin
  have HB0 := hide hAl
  have hs' : n + sizeL L ≤ 1048576 := hs
  obtain ⟨i0, hi, hz0, hz1, hz2⟩ := info_split Try.info3
  clear h hAl rm hin
  go_enter Try.func81, Try.ntmps81
  go_wp2_with fail
  obtain ⟨V, hV⟩ : ∃ V, Hid (w.alloc (.cells #[.int .i64 p, .slice a n c] 31) = V) := ⟨_, rfl⟩
  rw [hV.out] at HB0 ⊢
  clear hV
  go_loopw [5, 11] (fun o i wr => ∃ k m : Nat, k ≤ n ∧ i = .int .i64 k ∧ Hid (m ≤ k) ∧ Hid (wr.ownsRow w.heap.size 3 1 o m ((numsL (fun i => canB (L.getD (3 * i) []) ys) k).map (Value.int .i64))) ∧ Hid (Below w.heap.size w wr)) (fun _ i _ => n - (intOf i).toNat)
  case atStart => exact ⟨0, 0, Nat.zero_le _, rfl, Nat.le_refl _, World.ownsRow_nil _ _ _ _, HB0⟩
  case round =>
    obtain ⟨k, m, hk, rfl, hmk, hown, hbw⟩ := hrel
    by_cases hlt : k < n
    rotate_left
    · have hk' : k = n := by omega
      subst hk'
      go_wp2_with fail
      go_ret
      exact ⟨_, m, rfl, hown.out, hbw.out⟩
    obtain ⟨b, off, a0, n0, c0, a1, n1, c1, a2, n2, c2, rfl, hb, hr, m0, m1, m2, r0, r1, r2⟩ := (HL.out.below hbw.out).tri hlt
    obtain ⟨hc0, hc1, hc2⟩ := rangeAt_cells3 hr
    have hl := len_le L (3 * k)
    have hA1 := below_al wr (.cells #[.slice a0 n0 c0, .slice a1 n1 c1, .slice a2 n2 c2] 87)
    have q0 : n0 ≤ 1048576 := by have := r0.1; omega
    have HH := hide (can_any a0 a1 a2 am n0 n1 n2 c0 c1 c2 nm cm _ ys _ (r0.below hA1) ((RM.out.below hbw.out).below hA1) q0 (HIN.out k hlt))
    have HB1 := hide (hbw.out.trans (hA1.mono hbw.out.size))
    have HO1 := hide (hown.out.alloc (.cells #[.slice a0 n0 c0, .slice a1 n1 c1, .slice a2 n2 c2] 87))
    clear hr r0 r1 r2 m0 m1 m2 hl hA1
    by_cases hh : canB (L.getD (3 * k) []) ys = true
    rotate_left
    · have hh' : canB (L.getD (3 * k) []) ys = false := by simpa using hh
      have HN := hide (numsL_no (f := fun i => canB (L.getD (3 * i) []) ys) hh')
      rw [hh'] at HH
      clear hh hh' hown
      go_wp2_with fail
      refine HH.out.mono ?_
      rintro e w' ⟨rfl, hb'⟩
      have HB2 := hide (HB1.out.trans (hb'.mono HB1.out.size))
      have HO2 := hide (own_grow (HO1.out) hb')
      clear hb' HH HB1 HO1 hc0 hc1 hc2
      go_wp2_with fail
      go_roundw
      case rel => exact ⟨k + 1, m, by omega, by go_num, Nat.le_succ_of_le hmk.out, by rw [HN.out]; exact HO2, HB2⟩
      case measure => simp [intOf]; omega
    have HN := hide (numsL_yes (f := fun i => canB (L.getD (3 * i) []) ys) hh)
    rw [hh] at HH
    clear hh hown
    go_wp2_with fail
    refine HH.out.mono ?_
    rintro e W1 ⟨rfl, hb'⟩
    have HB1 := hide (HB1.out.trans (hb'.mono HB1.out.size))
    have HO1 := hide (own_grow (HO1.out) hb')
    have hA2 := below_al W1 (.cells #[.int .i64 (k : Int)] 3)
    have HO2 := hide (HO1.out.alloc (.cells #[.int .i64 (k : Int)] 3))
    have HB2 := hide (HB1.out.trans (hA2.mono HB1.out.size))
    have HCE : Hid (∀ j u, ([.int .i64 (k : Int)] : List Value)[j]? = some u → (W1.alloc (.cells #[.int .i64 (k : Int)] 3)).cell? ((⟨W1.heap.size, 0, none⟩ : Addr).add j) = some u) := one_cell W1 _
    have H1c : Hid (∀ u ∈ ([.int .i64 (k : Int)] : List Value), u.oneCell' = true) := fun u hu => by simp at hu; subst hu; rfl
    have HX := hide (show m + 1 ≤ maxLen by have := hmk.out; unfold maxLen; omega)
    have HY := hide (show (m + 1) * 8 ≤ 140737488355328 by have := hmk.out; omega)
    have HZ := hide HB2.out.size
    clear hA2 hc0 hc1 hc2 HH hb'
    go_wp2_with (refine wpList_append_own _ rfl (.tmp 19) (.tmp 21) 40 rfl w.heap.size 3 i0 (.int .i64 0) 1 8 Try.underlying40 hi hz0 hz1 hz2 rfl (by decide) u5 m _ rfl HO2.out ⟨W1.heap.size, 0, none⟩ 1 1 [.int .i64 (k : Int)] rfl rfl HCE.out H1c.out HX.out HY.out HZ.out ?_; intro v' W' r1 r2 r3)
    have HR1 : Hid (W'.ownsRow w.heap.size 3 1 v' (m + 1) ((numsL (fun i => canB (L.getD (3 * i) []) ys) (k + 1)).map (Value.int .i64))) := by
      show World.ownsRow _ _ _ _ _ _ _
      rw [HN.out, List.map_append]; exact r1
    have HB3 := hide (own_below HO2.out r2 HB2.out HB2.out.size (Nat.le_refl _))
    clear r1 r2 r3
    go_wp2_with fail
    go_roundw
    case rel => exact ⟨k + 1, m + 1, by omega, by go_num, Nat.succ_le_succ hmk.out, HR1, HB3⟩
    case measure => simp [intOf]; omega

end Go.Proofs.Ytakenobplljkbab


/- The specification's l4Explore: it goes by the same function; for every net, mark and budget in memory. -/
namespace Go.Proofs.Ytakenobplljkbab
open Go.RowKit
set_option maxRecDepth 10000

theorem own_ty {w : World} {B : Nat} {e : TypeId} {size : Nat} {v : Value} {n : Nat} {xs : List Value} (h : w.ownsRow B e size v n xs) {g : Nat} (hg : v.ownBlock = some g) : ∃ cur, w.heap[g]? = some (.cells cur e (0, 0)) := by
  rcases h.2 with ⟨rfl, _⟩ | ⟨g', cap, cur, rfl, _, h2, _⟩
  · simp [Value.ownBlock] at hg
  · simp [Value.ownBlock] at hg; subst hg; exact ⟨cur, h2⟩

/-- The marks of the specification's space: each is a list of the call's own. -/
def MRow (w : World) (B : Nat) (v : Value) (l : Nat) (ms : List (List Int)) : Prop :=
  ∃ cs, w.ownsRow B 40 1 v ms.length cs ∧ ∀ i, i < ms.length → ∃ g c, cs[i]? = some (.slice (some ⟨g, 0, none⟩) l c) ∧ OutR w g l (ms.getD i [])

/-- Blocks of integers are as they were. -/
structure Turn3 (w w' : World) : Prop where
  size : w.heap.size ≤ w'.heap.size
  ints : ∀ (g : Nat) (cs : Array Value), w.heap[g]? = some (Obj.cells cs 3 (0, 0)) → w'.heap[g]? = w.heap[g]?

theorem Turn3.refl (w : World) : Turn3 w w := ⟨Nat.le_refl _, fun _ _ _ => rfl⟩
theorem Turn3.trans {u v w : World} (h : Turn3 u v) (g : Turn3 v w) : Turn3 u w :=
  ⟨Nat.le_trans h.size g.size, fun i cs hi => (g.ints i cs ((h.ints i cs hi).trans hi)).trans (h.ints i cs hi)⟩
theorem Turn3.of_below {w w' : World} (h : Below w.heap.size w w') : Turn3 w w' := ⟨h.size, fun g _ hg => h.block g (Array.getElem?_eq_some_iff.mp hg).1⟩

theorem OutR.turn {w w' : World} {g n : Nat} {ys : List Int} (h : OutR w g n ys) (ht : Turn3 w w') : OutR w' g n ys := by
  obtain ⟨hl, cur, h1, h2, h3⟩ := h
  exact ⟨hl, cur, (ht.ints g cur h1).trans h1, h2, h3⟩

theorem own_turn {w w' : World} {B : Nat} {size : Nat} {v : Value} {n : Nat} {xs : List Value} (h : w.ownsRow B 3 size v n xs) (ht : Turn3 w w') : w'.ownsRow B 3 size v n xs :=
  ownsRow_kept h fun g hg => by obtain ⟨cur, hc⟩ := own_ty h hg; exact ht.ints g cur hc

theorem MRow.kept {w w' : World} {B l : Nat} {v : Value} {ms : List (List Int)} (h : MRow w B v l ms) (ht : Turn3 w w') (h2 : ∀ g, v.ownBlock = some g → w'.heap[g]? = w.heap[g]?) : MRow w' B v l ms := by
  obtain ⟨cs, h1, h3⟩ := h
  refine ⟨cs, ownsRow_kept h1 h2, fun i hi => ?_⟩
  obtain ⟨g, c, e1, e2⟩ := h3 i hi
  exact ⟨g, c, e1, e2.turn ht⟩

theorem MRow.go {w w' : World} {B l : Nat} {v : Value} {ms : List (List Int)} (h : MRow w B v l ms) (hb : Below w.heap.size w w') : MRow w' B v l ms := by
  refine h.kept (Turn3.of_below hb) fun g hg => ?_
  obtain ⟨cs, h1, _⟩ := h
  exact hb.block g (own_lt h1 hg).2

theorem MRow.form {w : World} {B l : Nat} {v : Value} {ms : List (List Int)} (h : MRow w B v l ms) : ∃ a c, v = .slice a ms.length c := by
  obtain ⟨cs, h1, _⟩ := h
  exact own_form h1

theorem MRow.lists {w : World} {B l : Nat} {a : Option Addr} {n c : Nat} {ms : List (List Int)} (h : MRow w B (.slice a n c) l ms) (hl : l ≤ maxLen) : Lists w a ms.length ms := by
  obtain ⟨cs, h1, h2⟩ := h
  refine ⟨rfl, ?_⟩
  rcases h1.2 with ⟨_, h0⟩ | ⟨g, cap, cur, e, hb, hh, hn, hc, hs, ht⟩
  · exact .inl h0
  · have e' := e
    simp only [Value.slice.injEq] at e'
    obtain ⟨rfl, rfl, rfl⟩ := e'
    refine .inr ⟨g, 0, rfl, (Array.getElem?_eq_some_iff.mp hh).1, fun j hj => ?_⟩
    obtain ⟨g', c', e1, e2⟩ := h2 j hj
    exact ⟨_, l, c', by rw [Nat.zero_add, h1.cellAt j (by omega)]; exact e1, hl, e2.row⟩

theorem MRow.at_ {w : World} {B l : Nat} {a : Option Addr} {n c : Nat} {ms : List (List Int)} (h : MRow w B (.slice a n c) l ms) {k : Nat} (hk : k < ms.length) :
    ∃ b g' c', a = some ⟨b, 0, none⟩ ∧ b < w.heap.size ∧ w.cell? ⟨b, k, none⟩ = some (.slice (some ⟨g', 0, none⟩) l c') ∧ OutR w g' l (ms.getD k []) := by
  obtain ⟨cs, h1, h2⟩ := h
  rcases h1.2 with ⟨_, h0⟩ | ⟨g, cap, cur, e, hb, hh, hn, hc, hs, ht⟩
  · omega
  · simp only [Value.slice.injEq] at e
    obtain ⟨rfl, rfl, rfl⟩ := e
    obtain ⟨g', c', e1, e2⟩ := h2 k hk
    refine ⟨g, g', c', rfl, (Array.getElem?_eq_some_iff.mp hh).1, ?_, e2⟩
    rw [h1.cellAt k (by omega)]; exact e1

/-- The state of the specification's search in memory. -/
structure SeSt (w0 w : World) (hN h6 b : Nat) (p : Int) (a : Option Addr) (n c l : Nat) (mv av : Value) (ms : List (List Int)) (ar : List (Nat × Nat × Nat)) : Prop where
  bel : Below w0.heap.size w0 w
  net : w.heap[hN]? = some (.cells #[.int .i64 p, .slice a n c] 31 (0, 0))
  res : w.heap[h6]? = some (.cells #[.slice none 0 0, .slice none 0 0] 66 (0, 0))
  st : w.heap[b]? = some (.cells #[mv, av] 66 (0, 0))
  ne : h6 ≠ b
  hb : w0.heap.size ≤ b
  marks : MRow w w0.heap.size mv l ms
  arcs : w.ownsRow w0.heap.size 98 3 av ar.length (arcsL ar)

section
variable {w0 w w' : World} {hN h6 b : Nat} {p : Int} {a : Option Addr} {n c l : Nat} {mv av : Value} {ms : List (List Int)} {ar : List (Nat × Nat × Nat)}

theorem SeSt.go (h : SeSt w0 w hN h6 b p a n c l mv av ms ar) (hb : Below w.heap.size w w') : SeSt w0 w' hN h6 b p a n c l mv av ms ar :=
  ⟨h.bel.trans (hb.mono h.bel.size), keep h.net hb, keep h.res hb, keep h.st hb, h.ne, h.hb, h.marks.go hb, ownsRow_kept h.arcs fun g hg => hb.block g (own_lt h.arcs hg).2⟩

/-- A mark more. -/
theorem SeSt.mark (h : SeSt w0 w hN h6 b p a n c l mv av ms ar) {cs : List Value} (hcs : w.ownsRow w0.heap.size 40 1 mv ms.length cs) (hms : ∀ i, i < ms.length → ∃ g c, cs[i]? = some (.slice (some ⟨g, 0, none⟩) l c) ∧ OutR w g l (ms.getD i []))
    (hg : w.grownBy w' mv.ownBlock) {v : Value} {g gc : Nat} {m : List Int} (hown : w'.ownsRow w0.heap.size 40 1 v (ms.length + 1) (cs ++ [.slice (some ⟨g, 0, none⟩) l gc])) (hm : OutR w g l m) :
    SeSt w0 (w'.setCell ⟨b, 0, none⟩ v) hN h6 b p a n c l v av (ms ++ [m]) ar ∧ Turn3 w (w'.setCell ⟨b, 0, none⟩ v) := by
  have hbl := row_lt h.st
  have nm : ∀ (g' : Nat) (C : Array Value) (T : TypeId), w.heap[g']? = some (Obj.cells C T (0, 0)) → T ≠ 40 → mv.ownBlock ≠ some g' := fun g' C T h1 h2 e => by
    obtain ⟨cur, hc⟩ := own_ty hcs e
    rw [hc] at h1
    simp at h1
    exact h2 h1.2.symm
  have far : ∀ (g' : Nat) (C : Array Value) (T : TypeId), w.heap[g']? = some (Obj.cells C T (0, 0)) → T ≠ 40 → g' ≠ b → (w'.setCell ⟨b, 0, none⟩ v).heap[g']? = w.heap[g']? := fun g' C T h1 h2 h3 =>
    (Below.heap_setCell _ _ _ _ h3).trans (hg.block g' (row_lt h1) (fun e => nm g' C T h1 h2 e.symm))
  have hT : Turn3 w (w'.setCell ⟨b, 0, none⟩ v) := by
    refine ⟨by rw [size_setCell]; exact hg.size, fun g' C h1 => far g' C _ h1 (by decide) (fun e => ?_)⟩
    subst e; rw [h.st] at h1; simp at h1
  have hst := (hg.block b hbl (fun e => nm b _ _ h.st (by decide) e.symm)).trans h.st
  refine ⟨⟨?_, (far hN _ _ h.net (by decide) fun e => ?_).trans h.net, (far h6 _ _ h.res (by decide) h.ne).trans h.res, ?_, h.ne, h.hb, ?_, ?_⟩, hT⟩
  · exact (h.bel.grown hg h.bel.size fun k hk => (own_lt hcs hk).1).setCell h.hb _
  · subst e; have := h.net; rw [h.st] at this; simp at this
  · rw [heap_setCell_same w' b 0 _ _ v hst]; rfl
  · refine ⟨cs ++ [.slice (some ⟨g, 0, none⟩) l gc], ?_, fun i hi => ?_⟩
    · rw [List.length_append]
      refine ownsRow_kept hown fun g' hg' => Below.heap_setCell _ _ _ _ fun e => ?_
      subst e
      obtain ⟨cur, hc⟩ := own_ty hown hg'
      rw [hst] at hc; simp at hc
    · have hcl : cs.length = ms.length := by have := hcs.1; omega
      by_cases hi2 : i < ms.length
      · obtain ⟨g2, c2, e1, e2⟩ := hms i hi2
        refine ⟨g2, c2, by rw [List.getElem?_append_left (by omega)]; exact e1, ?_⟩
        rw [List.getD_eq_getElem?_getD, List.getElem?_append_left hi2, ← List.getD_eq_getElem?_getD]
        exact e2.turn hT
      · rw [List.length_append, List.length_singleton] at hi
        have : i = ms.length := by omega
        subst this
        refine ⟨g, gc, by rw [List.getElem?_append_right (by omega), hcl]; simp, ?_⟩
        rw [List.getD_eq_getElem?_getD, List.getElem?_append_right (Nat.le_refl _)]
        simp
        exact hm.turn hT
  · refine ownsRow_kept h.arcs fun g' hg' => ?_
    obtain ⟨cur, hc⟩ := own_ty h.arcs hg'
    refine far g' _ _ hc (by decide) fun e => ?_
    subst e; rw [h.st] at hc; simp at hc

/-- An arc more. -/
theorem SeSt.arc (h : SeSt w0 w hN h6 b p a n c l mv av ms ar) (hg : w.grownBy w' av.ownBlock) {v : Value} {ar' : List (Nat × Nat × Nat)} (hown : w'.ownsRow w0.heap.size 98 3 v ar'.length (arcsL ar')) :
    SeSt w0 (w'.setCell ⟨b, 1, none⟩ v) hN h6 b p a n c l mv v ms ar' ∧ Turn3 w (w'.setCell ⟨b, 1, none⟩ v) := by
  have hbl := row_lt h.st
  have nm : ∀ (g' : Nat) (C : Array Value) (T : TypeId), w.heap[g']? = some (Obj.cells C T (0, 0)) → T ≠ 98 → av.ownBlock ≠ some g' := fun g' C T h1 h2 e => by
    obtain ⟨cur, hc⟩ := own_ty h.arcs e
    rw [hc] at h1
    simp at h1
    exact h2 h1.2.symm
  have far : ∀ (g' : Nat) (C : Array Value) (T : TypeId), w.heap[g']? = some (Obj.cells C T (0, 0)) → T ≠ 98 → g' ≠ b → (w'.setCell ⟨b, 1, none⟩ v).heap[g']? = w.heap[g']? := fun g' C T h1 h2 h3 =>
    (Below.heap_setCell _ _ _ _ h3).trans (hg.block g' (row_lt h1) (fun e => nm g' C T h1 h2 e.symm))
  have hT : Turn3 w (w'.setCell ⟨b, 1, none⟩ v) := by
    refine ⟨by rw [size_setCell]; exact hg.size, fun g' C h1 => far g' C _ h1 (by decide) (fun e => ?_)⟩
    subst e; rw [h.st] at h1; simp at h1
  have hst := (hg.block b hbl (fun e => nm b _ _ h.st (by decide) e.symm)).trans h.st
  refine ⟨⟨?_, (far hN _ _ h.net (by decide) fun e => ?_).trans h.net, (far h6 _ _ h.res (by decide) h.ne).trans h.res, ?_, h.ne, h.hb, ?_, ?_⟩, hT⟩
  · exact (h.bel.grown hg h.bel.size fun k hk => (own_lt h.arcs hk).1).setCell h.hb _
  · subst e; have := h.net; rw [h.st] at this; simp at this
  · rw [heap_setCell_same w' b 1 _ _ v hst]; rfl
  · refine h.marks.kept hT fun g' hg' => ?_
    obtain ⟨cs, h1, _⟩ := h.marks
    obtain ⟨cur, hc⟩ := own_ty h1 hg'
    refine far g' _ _ hc (by decide) fun e => ?_
    subst e; rw [h.st] at hc; simp at hc
  · refine ownsRow_kept hown fun g' hg' => Below.heap_setCell _ _ _ _ fun e => ?_
    subst e
    obtain ⟨cur, hc⟩ := own_ty hown hg'
    rw [hst] at hc; simp at hc
end

end Go.Proofs.Ytakenobplljkbab
