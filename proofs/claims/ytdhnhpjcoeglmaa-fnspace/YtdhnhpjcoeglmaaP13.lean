/- Contracts that the proof stands on, one behind the other. -/
import Derived.Test.YtdhnhpjcoeglmaaP12
/- The specification's Explore and l4All, for every net, list and budget in memory. -/
namespace Go.Proofs.Ytdhnhpjcoeglmaa
open Go.RowKit
set_option maxRecDepth 10000

set_option maxHeartbeats 400000 in
theorem asked_any (p : Int) (a am : Option Addr) (n c nm cm : Nat) (L : List (List Int)) (ys : List Int) (bg : Int) (w : World) (h : Lists w a (3 * n) L) (rm : Row w am nm ys) (hs : sizeN n L ≤ 1048576) (hnm : nm ≤ 1048576) :
    Calls Try.prog 117 #[.agg #[.int .i64 p, .slice a n c], .slice am nm cm, .int .i64 bg] w fun e w' => e = .returned (.bool (askB p n L ys bg)) ∧ Below w.heap.size w w' := by
  have hAl := below_al w (.cells #[.int .i64 p, .slice a n c] 26)
  have HG := hide (marked_any p a am n c nm cm L ys _ (h.below hAl) (rm.below hAl) hs hnm)
  have HB0 := hide hAl
  clear h rm hAl
  by_cases g : (netOk p n L && goodB p ys) = true
  · have HQ : Hid (inB bg 1 400 = askB p n L ys bg) := by show _ = _; unfold askB; rw [g]; rfl
    rw [g] at HG
    go_enter Try.func117, Try.ntmps117
    go_wp2_with fail
    refine HG.out.mono ?_
    rintro e w1 ⟨rfl, hb⟩
    have HB1 := hide (HB0.out.trans (hb.mono HB0.out.size))
    clear hb HB0
    go_wp2_with (go_at_call 74; refine (in_any _ _ _ _).mono ?_; rintro e w' ⟨rfl, rfl⟩)
    go_ret
    exact ⟨ret_bool HQ.out, HB1.out⟩
  · have g' : (netOk p n L && goodB p ys) = false := by simpa using g
    have HQ : Hid (false = askB p n L ys bg) := by show _ = _; unfold askB; rw [g']; rfl
    rw [g'] at HG
    go_enter Try.func117, Try.ntmps117
    go_wp2_with fail
    refine HG.out.mono ?_
    rintro e w1 ⟨rfl, hb⟩
    have HB1 := hide (HB0.out.trans (hb.mono HB0.out.size))
    clear hb HB0
    go_wp2_with fail
    go_ret
    exact ⟨ret_bool HQ.out, HB1.out⟩

/-- How the specification's Explore ends. -/
def XpEnd (p : Int) (n l : Nat) (L : List (List Int)) (ys : List Int) (bg : Int) (w : World) (e : Ending) (w' : World) : Prop :=
  Below w.heap.size w w' ∧
    ((spCode p n L ys bg = 1 ∧ ∃ s ma mc aa ac, SpOk p n l L ys bg s ∧ e = .returned (.tuple #[.agg #[.slice ma s.ms.length mc, .slice aa s.ar.length ac], .int .i64 1, .bool true]) ∧ MRow w' w.heap.size (.slice ma s.ms.length mc) l s.ms ∧ w'.ownsRow w.heap.size 66 3 (.slice aa s.ar.length ac) s.ar.length (arcsL s.ar)) ∨
     (spCode p n L ys bg ≠ 1 ∧ e = .returned (.tuple #[.agg #[.slice none 0 0, .slice none 0 0], .int .i64 (spCode p n L ys bg : Int), .bool (askB p n L ys bg)])))

/-- How l4All ends. -/
def AlEnd (p : Int) (n l : Nat) (L : List (List Int)) (ys : List Int) (bg : Int) (w : World) (e : Ending) (w' : World) : Prop :=
  Below w.heap.size w w' ∧
    ((spCode p n L ys bg = 1 ∧ ∃ s ma mc aa ac, SpOk p n l L ys bg s ∧ e = .returned (.tuple #[.agg #[.slice ma s.ms.length mc, .slice aa s.ar.length ac], .bool true]) ∧ MRow w' w.heap.size (.slice ma s.ms.length mc) l s.ms ∧ w'.ownsRow w.heap.size 66 3 (.slice aa s.ar.length ac) s.ar.length (arcsL s.ar)) ∨
     (spCode p n L ys bg ≠ 1 ∧ e = .returned (.tuple #[.agg #[.slice none 0 0, .slice none 0 0], .bool false])))

theorem space_res3 {fn : Func} {q u t : Tmp} (hr : fn.results = #[.cell q 61, .tmp u, .tmp t]) (tmps : Array Value) (W : World) (b : Nat) (C : Array Value) (v v2 : Value) (h4 : tmps.getD q undef = .pointer (some ⟨b, 0, none⟩)) (h5 : tmps.getD u undef = v) (h6 : tmps.getD t undef = v2)
    (hs : C.size = 2) (q4 : W.heap[b]? = some (.cells C 61 (0, 0))) : (results fn tmps).run Try.prog W = .ok (.tuple #[.agg C, v, v2]) W := by
  have h1 : (results fn tmps).run Try.prog W = ((asAddr (tmps.getD q undef)).run Try.prog W).andThen fun a w₁ => ((loadVar 61 a).run Try.prog w₁).andThen fun v w₂ => .ok (.tuple #[v, tmps.getD u undef, tmps.getD t undef]) w₂ := by
    simp only [results, hr]
    simp [Sem.run_bind, Result.andThen]
  rw [h1, h4, h5, h6]
  show ((loadVar 61 ⟨b, 0, none⟩).run Try.prog _).andThen _ = _
  rw [run_loadVar_row _ _ 61 61 C (0, 0) _ q4 Try.underlying61 rfl (by rw [hs]; exact size_space)]
  rfl

/-- Rows of the answer stay while a cell block of another kind is written. -/
theorem MRow.setRow {w : World} {B l g : Nat} {v : Value} {ms : List (List Int)} {D : Array Value} (h : MRow w B v l ms) (hg : w.heap[g]? = some (.cells D 61 (0, 0))) (C : Array Value) : MRow (w.setRow g C) B v l ms := by
  refine h.kept ⟨by simp [World.setRow], fun i E h1 => setRow_other _ _ _ _ fun e => ?_⟩ fun i hi => setRow_other _ _ _ _ fun e => ?_
  · subst e; rw [hg] at h1; simp at h1
  · obtain ⟨cs, h1, _⟩ := h
    obtain ⟨cur, hc⟩ := own_ty h1 hi
    subst e; rw [hg] at hc; simp at hc

theorem arcs_setRow {w : World} {B g n : Nat} {v : Value} {xs : List Value} {D : Array Value} (h : w.ownsRow B 66 3 v n xs) (hg : w.heap[g]? = some (.cells D 61 (0, 0))) (C : Array Value) : (w.setRow g C).ownsRow B 66 3 v n xs :=
  ownsRow_kept h fun i hi => setRow_other _ _ _ _ fun e => by
    obtain ⟨cur, hc⟩ := own_ty h hi
    subst e; rw [hg] at hc; simp at hc

theorem MRow.mono {w : World} {B B' l : Nat} {v : Value} {ms : List (List Int)} (h : MRow w B v l ms) (hB : B' ≤ B) : MRow w B' v l ms := by
  obtain ⟨cs, h1, h2⟩ := h
  exact ⟨cs, h1.mono hB, h2⟩


set_option maxHeartbeats 1000000 in
theorem xplore_any (p : Int) (a am : Option Addr) (n c nm cm : Nat) (L : List (List Int)) (ys : List Int) (bg : Int) (w : World) (h : Lists w a (3 * n) L) (rm : Row w am nm ys) (hs : sizeN n L ≤ 1048576) (hnm : nm ≤ 1048576) :
    Calls Try.prog 48 #[.agg #[.int .i64 p, .slice a n c], .slice am nm cm, .int .i64 bg] w fun e w' => XpEnd p n nm L ys bg w e w' := by
  have hA1 := below_al w (.cells #[.int .i64 p, .slice a n c] 26)
  have hA2 := below_al (w.alloc (.cells #[.int .i64 p, .slice a n c] 26)) (.cells #[.slice none 0 0, .slice none 0 0] 61)
  have hAA := hA1.trans (hA2.mono hA1.size)
  have HN0 := hide (keep (heap_alloc_new w (.cells #[.int .i64 p, .slice a n c] 26)) hA2)
  have HR0 := hide (heap_alloc2_new w (.cells #[.int .i64 p, .slice a n c] 26) (.cells #[.slice none 0 0, .slice none 0 0] 61))
  have HASK := hide (asked_any p a am n c nm cm L ys bg _ (h.below hAA) (rm.below hAA) hs hnm)
  have HL := hide h
  have RM := hide rm
  have HB0 := hide hAA
  clear h rm hA1 hA2 hAA
  go_enter Try.func48, Try.ntmps48
  go_wp2_with fail
  generalize (w.alloc (.cells #[.int .i64 p, .slice a n c] 26)).alloc (.cells #[.slice none 0 0, .slice none 0 0] 61) = v0 at *
  refine HASK.out.mono ?_
  rintro e w1 ⟨rfl, hb1⟩
  have HN1 := hide (keep HN0.out hb1)
  have HR1 := keep HR0.out hb1
  have HB1 := hide (HB0.out.trans (hb1.mono HB0.out.size))
  clear hb1 HN0 HR0 HB0 HASK
  by_cases hask : askB p n L ys bg = true
  rotate_left
  · have hask' : askB p n L ys bg = false := by simpa using hask
    have HN := hide (show XpEnd p n nm L ys bg w (.returned (.tuple #[.agg #[.slice none 0 0, .slice none 0 0], .int .i64 0, .bool false])) (w1.setRow (w.heap.size + 1) #[.slice none 0 0, .slice none 0 0]) from by
      have e : spCode p n L ys bg = 0 := by unfold spCode; rw [hask']; rfl
      exact ⟨below_setRow HB1.out (w.heap.size + 1) (Nat.le_succ _) _, .inr ⟨by rw [e]; decide, by rw [e, hask']; rfl⟩⟩)
    rw [hask']
    clear hask hask'
    go_wp2_with ((show wpList _ _ _ (⟨none, .store 61 (.tmp 6) (.tmp 16), _, _, _, _⟩ :: _) _ _); refine wpList_store_row rfl 61 _ _ rfl _ _ rfl rfl 61 _ HR1 size_space rfl (one2 rfl rfl) ?_)
    refine bodyPost_ret (v := .tuple #[.agg #[.slice none 0 0, .slice none 0 0], .int .i64 0, .bool false]) ?_ rfl HN.out
    exact space_res3 Try.results48 _ _ (w.heap.size + 1) _ _ _ rfl rfl rfl rfl (setRow_same HR1 _)
  have hgg := hask
  unfold askB at hgg
  rw [Bool.and_eq_true, Bool.and_eq_true] at hgg
  obtain ⟨⟨g1, g2⟩, g3⟩ := hgg
  have hbg : 1 ≤ bg ∧ bg ≤ 400 := by simpa [inB] using g3
  obtain ⟨Bg, rfl⟩ : ∃ Bg : Nat, bg = (Bg : Int) := ⟨bg.toNat, by omega⟩
  have hpl : (nm : Int) = p := by have := (goodB_parts g2).2.1; have := RM.out.1; omega
  have hp1 := (goodB_parts g2).1
  obtain ⟨bm, om, rfl⟩ : ∃ bm om, am = some ⟨bm, om, none⟩ := by
    obtain ⟨bm, om, y, he, _⟩ := RM.out.at (show 0 < nm by omega)
    exact ⟨bm, om, he⟩
  have HEX := hide (exploreS_any p a bm om n c nm cm Bg L ys w1 (HL.out.below HB1.out) (RM.out.below HB1.out) hs g1 g2 hpl (by omega) (by omega))
  have HA := hide hask
  have HGG := hide (And.intro g1 g2)
  rw [hask]
  clear hask g1 g2 g3
  obtain ⟨hc0, hc1⟩ := cells2 HN1.out
  go_wp2_with fail
  refine HEX.out.mono ?_
  rintro e w2 ⟨hb2, hxx⟩
  have HR2 := keep HR1 hb2
  have HB2 := hide (HB1.out.trans (hb2.mono HB1.out.size))
  cases hsr : searchS p n L Bg ys with
  | error cd =>
    rw [hsr] at hxx
    obtain ⟨rfl, hcc⟩ := hxx
    have hA3 := below_al w2 (.cells #[.slice none 0 0, .slice none 0 0] 61)
    have HR3 := keep HR2 hA3
    have HN := hide (show XpEnd p n nm L ys (Bg : Int) w (.returned (.tuple #[.agg #[.slice none 0 0, .slice none 0 0], .int .i64 (cd : Int), .bool true])) ((w2.alloc (.cells #[.slice none 0 0, .slice none 0 0] 61)).setRow (w.heap.size + 1) #[.slice none 0 0, .slice none 0 0]) from by
      have e : spCode p n L ys (Bg : Int) = cd := by unfold spCode; rw [HA.out, Int.toNat_natCast, hsr]; rfl
      exact ⟨below_setRow (HB2.out.trans (hA3.mono HB2.out.size)) (w.heap.size + 1) (Nat.le_succ _) _, .inr ⟨by rw [e]; omega, by rw [e, HA.out]⟩⟩)
    have hcd : (cd : Int) ≤ 3 := by omega
    clear hsr HEX hA3
    go_wp2_with ((show wpList _ _ _ (⟨none, .store 61 (.tmp 6) (.tmp 24), _, _, _, _⟩ :: _) _ _); refine wpList_store_row rfl 61 _ _ rfl _ _ rfl rfl 61 _ HR3 size_space rfl (one2 rfl rfl) ?_)
    refine bodyPost_ret (v := .tuple #[.agg #[.slice none 0 0, .slice none 0 0], .int .i64 (cd : Int), .bool true]) ?_ rfl HN.out
    exact space_res3 Try.results48 _ _ (w.heap.size + 1) _ _ _ rfl rfl rfl rfl (setRow_same HR3 _)
  | ok s =>
    rw [hsr] at hxx
    obtain ⟨hok, hlen, mv, av, rfl, hmr, har⟩ := hxx
    obtain ⟨ma, mc, rfl⟩ := hmr.form
    obtain ⟨aa, ac, rfl⟩ := own_form har
    have hA3 := below_al w2 (.cells #[.slice ma s.ms.length mc, .slice aa s.ar.length ac] 61)
    have HR3 := keep HR2 hA3
    have HN := hide (show XpEnd p n nm L ys (Bg : Int) w (.returned (.tuple #[.agg #[.slice ma s.ms.length mc, .slice aa s.ar.length ac], .int .i64 1, .bool true])) ((w2.alloc (.cells #[.slice ma s.ms.length mc, .slice aa s.ar.length ac] 61)).setRow (w.heap.size + 1) #[.slice ma s.ms.length mc, .slice aa s.ar.length ac]) from by
      have e : spCode p n L ys (Bg : Int) = 1 := by unfold spCode; rw [HA.out, Int.toNat_natCast, hsr]; rfl
      refine ⟨below_setRow (HB2.out.trans (hA3.mono HB2.out.size)) (w.heap.size + 1) (Nat.le_succ _) _, .inl ⟨e, s, ma, mc, aa, ac, ⟨HA.out, by rw [Int.toNat_natCast]; exact hsr, by rw [Int.toNat_natCast]; exact hok, hlen, hpl, HGG.out.1, hp1, netOkN HGG.out.1, by rw [Int.toNat_natCast]; omega⟩, rfl, ?_, ?_⟩⟩
      · exact ((hmr.go hA3).setRow HR3 _).mono HB1.out.size
      · exact (arcs_setRow (ownsRow_kept har fun g hg => hA3.block g (own_lt har hg).2) HR3 _).mono HB1.out.size)
    clear hsr HEX hA3 hmr har
    go_wp2_with ((show wpList _ _ _ (⟨none, .store 61 (.tmp 6) (.tmp 24), _, _, _, _⟩ :: _) _ _); refine wpList_store_row rfl 61 _ _ rfl _ _ rfl rfl 61 _ HR3 size_space rfl (one2 rfl rfl) ?_)
    refine bodyPost_ret (v := .tuple #[.agg #[.slice ma s.ms.length mc, .slice aa s.ar.length ac], .int .i64 1, .bool true]) ?_ rfl HN.out
    exact space_res3 Try.results48 _ _ (w.heap.size + 1) _ _ _ rfl rfl rfl rfl (setRow_same HR3 _)

set_option maxHeartbeats 1000000 in
theorem all_any4 (p : Int) (a am : Option Addr) (n c nm cm : Nat) (L : List (List Int)) (ys : List Int) (bg : Int) (w : World) (h : Lists w a (3 * n) L) (rm : Row w am nm ys) (hs : sizeN n L ≤ 1048576) (hnm : nm ≤ 1048576) :
    Calls Try.prog 126 #[.agg #[.int .i64 p, .slice a n c], .slice am nm cm, .int .i64 bg] w fun e w' => AlEnd p n nm L ys bg w e w' := by
  have hA1 := below_al w (.cells #[.int .i64 p, .slice a n c] 26)
  have hA2 := below_al (w.alloc (.cells #[.int .i64 p, .slice a n c] 26)) (.cells #[.slice none 0 0, .slice none 0 0] 61)
  have hAA := hA1.trans (hA2.mono hA1.size)
  have HR0 := hide (heap_alloc2_new w (.cells #[.int .i64 p, .slice a n c] 26) (.cells #[.slice none 0 0, .slice none 0 0] 61))
  have HX := hide (xplore_any p a am n c nm cm L ys bg _ (h.below hAA) (rm.below hAA) hs hnm)
  have HB0 := hide hAA
  clear h rm hA1 hA2 hAA
  go_enter Try.func126, Try.ntmps126
  go_wp2_with fail
  generalize (w.alloc (.cells #[.int .i64 p, .slice a n c] 26)).alloc (.cells #[.slice none 0 0, .slice none 0 0] 61) = v0 at *
  refine HX.out.mono ?_
  rintro e w1 ⟨hb1, hxx⟩
  have HR1 := keep HR0.out hb1
  have HB1 := hide (HB0.out.trans (hb1.mono HB0.out.size))
  have HBs := hide HB0.out.size
  clear hb1 HR0 HB0 HX
  rcases hxx with ⟨hcode, s, ma, mc, aa, ac, hok, rfl, hmr, har⟩ | ⟨hcode, rfl⟩
  · have hA3 := below_al w1 (.cells #[.slice ma s.ms.length mc, .slice aa s.ar.length ac] 61)
    have HR3 := keep HR1 hA3
    have HN := hide (show AlEnd p n nm L ys bg w (.returned (.tuple #[.agg #[.slice ma s.ms.length mc, .slice aa s.ar.length ac], .bool true])) ((w1.alloc (.cells #[.slice ma s.ms.length mc, .slice aa s.ar.length ac] 61)).setRow (w.heap.size + 1) #[.slice ma s.ms.length mc, .slice aa s.ar.length ac]) from by
      refine ⟨below_setRow (HB1.out.trans (hA3.mono HB1.out.size)) (w.heap.size + 1) (Nat.le_succ _) _, .inl ⟨hcode, s, ma, mc, aa, ac, hok, rfl, ?_, ?_⟩⟩
      · exact ((hmr.go hA3).setRow HR3 _).mono HBs.out
      · exact (arcs_setRow (ownsRow_kept har fun g hg => hA3.block g (own_lt har hg).2) HR3 _).mono HBs.out)
    clear hA3 hmr har hcode hok
    go_wp2_with ((show wpList _ _ _ (⟨none, .store 61 (.tmp 6) (.tmp 19), _, _, _, _⟩ :: _) _ _); refine wpList_store_row rfl 61 _ _ rfl _ _ rfl rfl 61 _ HR3 size_space rfl (one2 rfl rfl) ?_)
    refine bodyPost_ret (v := .tuple #[.agg #[.slice ma s.ms.length mc, .slice aa s.ar.length ac], .bool true]) ?_ rfl HN.out
    exact space_res2 Try.results126 _ _ (w.heap.size + 1) _ _ rfl rfl rfl (setRow_same HR3 _)
  · have hA3 := below_al w1 (.cells #[.slice none 0 0, .slice none 0 0] 61)
    have HR3 := keep HR1 hA3
    have HN := hide (show AlEnd p n nm L ys bg w (.returned (.tuple #[.agg #[.slice none 0 0, .slice none 0 0], .bool false])) ((w1.alloc (.cells #[.slice none 0 0, .slice none 0 0] 61)).setRow (w.heap.size + 1) #[.slice none 0 0, .slice none 0 0]) from
      ⟨below_setRow (HB1.out.trans (hA3.mono HB1.out.size)) (w.heap.size + 1) (Nat.le_succ _) _, .inr ⟨hcode, rfl⟩⟩)
    obtain ⟨cd, hcd⟩ : ∃ cd, Hid (spCode p n L ys bg = cd) := ⟨_, rfl⟩
    rw [hcd.out] at hcode ⊢
    have hc1 : ¬ ((cd : Nat) : Int) = 1 := by omega
    have hbe : (((cd : Nat) : Int) == 1) = false := by simpa using hc1
    clear hA3 hcode hcd
    cases hq : askB p n L ys bg
    all_goals
      go_wp2_with ((show wpList _ _ _ (⟨none, .store 61 (.tmp 6) (.tmp 19), _, _, _, _⟩ :: _) _ _); refine wpList_store_row rfl 61 _ _ rfl _ _ rfl rfl 61 _ HR3 size_space rfl (one2 rfl rfl) ?_)
      refine bodyPost_ret (v := .tuple #[.agg #[.slice none 0 0, .slice none 0 0], .bool false]) ?_ rfl HN.out
      exact space_res2 Try.results126 _ _ (w.heap.size + 1) _ _ rfl rfl rfl (setRow_same HR3 _)
end Go.Proofs.Ytdhnhpjcoeglmaa


/- BoundOf, the program's and the specification's, for every net, list, budget and place in memory. -/
namespace Go.Proofs.Ytdhnhpjcoeglmaa
open Go.RowKit
set_option maxRecDepth 10000

/-- The space that is told. -/
def spSea (p : Int) (n : Nat) (L : List (List Int)) (ys : List Int) (bg : Int) : Sea := endS (searchS p n L bg.toNat ys)

theorem SpOk.is {p : Int} {n l : Nat} {L : List (List Int)} {ys : List Int} {bg : Int} {s : Sea} (h : SpOk p n l L ys bg s) : spSea p n L ys bg = s := by unfold spSea; rw [h.sea]; rfl

theorem SpOk.goodAt {p : Int} {n l : Nat} {L : List (List Int)} {ys : List Int} {bg : Int} {s : Sea} (h : SpOk p n l L ys bg s) {k : Nat} (hk : k < s.ms.length) : (s.ms.getD k []).length = l ∧ ∀ i, 0 ≤ (s.ms.getD k []).getD i 0 ∧ (s.ms.getD k []).getD i 0 ≤ 50 := by
  obtain ⟨h1, h2, h3⟩ := goodB_parts (h.ok.goodAt hk)
  have := h.hl
  exact ⟨by omega, h3⟩

theorem SpOk.l16 {p : Int} {n l : Nat} {L : List (List Int)} {ys : List Int} {bg : Int} {s : Sea} (h : SpOk p n l L ys bg s) : l ≤ 16 := by have := h.hl; have := h.hp; omega
theorem SpOk.m4 {p : Int} {n l : Nat} {L : List (List Int)} {ys : List Int} {bg : Int} {s : Sea} (h : SpOk p n l L ys bg s) : s.ms.length ≤ 400 := Nat.le_trans h.ok.le h.b4

def mostQ (a b : Int) : Int := if b < a then a else b

theorem mostQ_any (a b : Int) (w : World) : Calls Try.prog 104 #[.int .i64 a, .int .i64 b] w fun e w' => e = .returned (.int .i64 (mostQ a b)) ∧ w' = w := by
  unfold mostQ
  by_cases h : b < a
  · rw [if_pos h]
    go_enter Try.func104, Try.ntmps104
    go_wp2_with fail
    go_ret
    exact ⟨rfl, rfl⟩
  · rw [if_neg h]
    go_enter Try.func104, Try.ntmps104
    go_wp2_with fail
    go_ret
    exact ⟨rfl, rfl⟩

/-- The greatest number of a place among the first k marks. -/
def bdK (ms : List (List Int)) (q k : Nat) : Int := (ms.take k).foldl (fun b m => mostQ b (m.getD q 0)) 0

theorem bdK_succ {ms : List (List Int)} {q k : Nat} (hk : k < ms.length) : bdK ms q (k + 1) = mostQ (bdK ms q k) ((ms.getD k []).getD q 0) := by
  unfold bdK
  rw [List.take_add_one, List.getElem?_eq_getElem hk, List.foldl_append]
  simp only [Option.toList_some, List.foldl_cons, List.foldl_nil]
  rw [show ms.getD k [] = ms[k] by rw [List.getD_eq_getElem?_getD, List.getElem?_eq_getElem hk]; rfl]

def bdOk (p : Int) (n : Nat) (L : List (List Int)) (ys : List Int) (bg q : Int) : Bool := decide (spCode p n L ys bg = 1) && inB q 0 (p - 1)
def bdR (p : Int) (n : Nat) (L : List (List Int)) (ys : List Int) (bg q : Int) : Int := if bdOk p n L ys bg q then bdK (spSea p n L ys bg).ms q.toNat (spSea p n L ys bg).ms.length else 0

/-- How BoundOf ends. -/
def BdEnd (p : Int) (n : Nat) (L : List (List Int)) (ys : List Int) (bg q : Int) (w : World) (e : Ending) (w' : World) : Prop :=
  e = .returned (.tuple #[.int .i64 (bdR p n L ys bg q), .bool (bdOk p n L ys bg q)]) ∧ Below w.heap.size w w'

theorem bdEnd_no {p : Int} {n : Nat} {L : List (List Int)} {ys : List Int} {bg q : Int} {w w' : World} (h : bdOk p n L ys bg q = false) (hb : Below w.heap.size w w') : BdEnd p n L ys bg q w (.returned (.tuple #[.int .i64 0, .bool false])) w' := by
  refine ⟨?_, hb⟩
  unfold bdR; rw [h]; rfl

theorem bdEnd_yes {p : Int} {n l : Nat} {L : List (List Int)} {ys : List Int} {bg : Int} {q : Nat} {s : Sea} {w w' : World} (hc : spCode p n L ys bg = 1) (hq : inB (q : Int) 0 (p - 1) = true) (hs : SpOk p n l L ys bg s) (hb : Below w.heap.size w w') : BdEnd p n L ys bg (q : Int) w (.returned (.tuple #[.int .i64 (bdK s.ms q s.ms.length), .bool true])) w' := by
  refine ⟨?_, hb⟩
  have h : bdOk p n L ys bg (q : Int) = true := by unfold bdOk; rw [hq, hc]; rfl
  unfold bdR; rw [h, if_pos rfl, hs.is, Int.toNat_natCast]

theorem bdOk_code {p : Int} {n : Nat} {L : List (List Int)} {ys : List Int} {bg q : Int} (h : spCode p n L ys bg ≠ 1) : bdOk p n L ys bg q = false := by unfold bdOk; simp [h]
theorem bdOk_place {p : Int} {n : Nat} {L : List (List Int)} {ys : List Int} {bg q : Int} (h : inB q 0 (p - 1) = false) : bdOk p n L ys bg q = false := by unfold bdOk; rw [h, Bool.and_false]

theorem bdK_small {ms : List (List Int)} {q : Nat} (h : ∀ k, k < ms.length → 0 ≤ (ms.getD k []).getD q 0 ∧ (ms.getD k []).getD q 0 ≤ 50) : ∀ k, k ≤ ms.length → 0 ≤ bdK ms q k ∧ bdK ms q k ≤ 50 := by
  intro k
  induction k with
  | zero => intro _; simp [bdK]
  | succ k ih =>
    intro hk
    have := ih (by omega)
    have := h k (by omega)
    rw [bdK_succ (by omega)]
    unfold mostQ
    split <;> omega




end Go.Proofs.Ytdhnhpjcoeglmaa


/- spaceAndTokens of the program; CanCome of both. -/
namespace Go.Proofs.Ytdhnhpjcoeglmaa
open Go.RowKit
set_option maxRecDepth 10000

/-- Whether the space is told whole and the list is a marking. -/
def saOk (p : Int) (n : Nat) (L : List (List Int)) (ys : List Int) (bg : Int) (xs : List Int) : Bool := (spCode p n L ys bg == 1) && goodB p xs

/-- How spaceAndTokens ends. -/
def SaEnd (p : Int) (n l nx : Nat) (L : List (List Int)) (ys : List Int) (bg : Int) (xs : List Int) (w : World) (e : Ending) (w' : World) : Prop :=
  Below w.heap.size w w' ∧
    ((saOk p n L ys bg xs = true ∧ ∃ s B BS mb G aa ac, SpOk p n l L ys bg s ∧ SpSt B w' p n l L s BS mb G (.slice aa s.ar.length ac) ∧ e = .returned (.tuple #[.agg (spV p n BS mb G s.ms.length (.slice aa s.ar.length ac)), .agg (packOf xs nx), .bool true])) ∨
     (saOk p n L ys bg xs = false ∧ ∃ k, e = .returned (.tuple #[.agg spZ, .agg (packOf xs k), .bool false])))

theorem TokAll.kept {w w' : World} {G l : Nat} {ms : List (List Int)} (h : TokAll w G l ms) (hk : w'.heap[G]? = w.heap[G]?) : TokAll w' G l ms :=
  ⟨(Array.getElem?_eq_some_iff.1 (hk.trans (Array.getElem?_eq_getElem h.lt))).1, fun i hi j v hv => by rw [← h.cells i hi j v hv]; simp only [World.cell?, hk]⟩

/-- A space stays where its blocks stay. -/
theorem SpSt.kept {B : Nat} {w w' : World} {p : Int} {n l : Nat} {L : List (List Int)} {s : Sea} {BS mb G : Nat} {av : Value} (h : SpSt B w p n l L s BS mb G av) (hk : ∀ g, B ≤ g → g < w.heap.size → w'.heap[g]? = w.heap[g]?) : SpSt B w' p n l L s BS mb G av :=
  ⟨h.steps.kept (hk BS h.hBS h.steps.lt), h.map.kept (hk mb h.hmb h.map.lt), h.toks.kept (hk G h.hG h.toks.lt), ownsRow_kept h.arcs fun g hg => hk g (own_lt h.arcs hg).1 (own_lt h.arcs hg).2, h.hBS, h.hmb, h.hG⟩

theorem spV_one (p : Int) (n BS mb G N : Nat) (a : Option Addr) (x c : Nat) : (spV p n BS mb G N (.slice a x c)).all (·.oneCell') = true := one5 rfl rfl rfl rfl rfl
theorem spZ_one : spZ.all (·.oneCell') = true := one5 rfl rfl rfl rfl rfl

theorem sa_res {fn : Func} {q r u : Tmp} (hr : fn.results = #[.cell q 134, .cell r 93, .tmp u]) (tmps : Array Value) (W : World) (b d : Nat) (C D : Array Value) (v : Value) (h4 : tmps.getD q undef = .pointer (some ⟨b, 0, none⟩)) (h6 : tmps.getD r undef = .pointer (some ⟨d, 0, none⟩)) (h5 : tmps.getD u undef = v)
    (hs : C.size = 5) (q4 : W.heap[b]? = some (.cells C 134 (0, 0))) (hs2 : D.size = 16) (q6 : W.heap[d]? = some (.cells D 93 (0, 0))) : (results fn tmps).run Try.prog W = .ok (.tuple #[.agg C, .agg D, v]) W := by
  have r1 : (loadVar 134 ⟨b, 0, none⟩).run Try.prog W = .ok (.agg C) W := run_loadVar_row _ _ 134 134 C (0, 0) _ q4 Try.underlying134 rfl (by rw [hs]; exact Try.size134)
  have r2 : (loadVar 93 ⟨d, 0, none⟩).run Try.prog W = .ok (.agg D) W := run_loadVar_row _ _ 93 93 D (0, 0) _ q6 Try.underlying93 rfl (by rw [hs2]; exact Try.size93)
  have e : (results fn tmps).run Try.prog W = ((asAddr (tmps.getD q undef)).run Try.prog W).andThen fun a w1 => ((loadVar 134 a).run Try.prog w1).andThen fun v1 w2 => ((asAddr (tmps.getD r undef)).run Try.prog w2).andThen fun b w3 => ((loadVar 93 b).run Try.prog w3).andThen fun v2 w4 => .ok (.tuple #[v1, v2, tmps.getD u undef]) w4 := by
    simp only [results, hr]
    simp [Sem.run_bind, Result.andThen]
  rw [e, h4, h5, h6]
  show ((loadVar 134 ⟨b, 0, none⟩).run Try.prog W).andThen _ = _
  rw [r1]
  show ((loadVar 93 ⟨d, 0, none⟩).run Try.prog W).andThen _ = _
  rw [r2]
  rfl


set_option maxHeartbeats 1000000 in
theorem spaceTok_any (p : Int) (a am ax : Option Addr) (n c nm cm nx cx : Nat) (L : List (List Int)) (ys xs : List Int) (bg : Int) (w : World) (h : Lists w a (3 * n) L) (rm : Row w am nm ys) (rx : Row w ax nx xs) (hs : sizeN n L ≤ 1048576) (hnm : nm ≤ 1048576) (hnx : nx ≤ 1048576) :
    Calls Try.prog 122 #[.agg #[.int .i64 p, .slice a n c], .slice am nm cm, .int .i64 bg, .slice ax nx cx] w fun e w' => SaEnd p n nm nx L ys bg xs w e w' := by
  have hAl := (below_al w (.cells #[.int .i64 p, .slice a n c] 26)).trans ((below_al (w.alloc (.cells #[.int .i64 p, .slice a n c] 26)) (.cells spZ 134)).mono (by simp))
  have hAl3 := hAl.trans ((below_al ((w.alloc (.cells #[.int .i64 p, .slice a n c] 26)).alloc (.cells spZ 134)) (.cells #[.int .u8 0, .int .u8 0, .int .u8 0, .int .u8 0, .int .u8 0, .int .u8 0, .int .u8 0, .int .u8 0, .int .u8 0, .int .u8 0, .int .u8 0, .int .u8 0, .int .u8 0, .int .u8 0, .int .u8 0, .int .u8 0] 93)).mono hAl.size)
  have HB0 := hide hAl3
  have hN0 := keep (keep (heap_alloc_new w (.cells #[.int .i64 p, .slice a n c] 26)) (below_al (w.alloc (.cells #[.int .i64 p, .slice a n c] 26)) (.cells spZ 134))) (below_al ((w.alloc (.cells #[.int .i64 p, .slice a n c] 26)).alloc (.cells spZ 134)) (.cells #[.int .u8 0, .int .u8 0, .int .u8 0, .int .u8 0, .int .u8 0, .int .u8 0, .int .u8 0, .int .u8 0, .int .u8 0, .int .u8 0, .int .u8 0, .int .u8 0, .int .u8 0, .int .u8 0, .int .u8 0, .int .u8 0] 93))
  have hR0 := keep (heap_alloc2_new w (.cells #[.int .i64 p, .slice a n c] 26) (.cells spZ 134)) (below_al ((w.alloc (.cells #[.int .i64 p, .slice a n c] 26)).alloc (.cells spZ 134)) (.cells #[.int .u8 0, .int .u8 0, .int .u8 0, .int .u8 0, .int .u8 0, .int .u8 0, .int .u8 0, .int .u8 0, .int .u8 0, .int .u8 0, .int .u8 0, .int .u8 0, .int .u8 0, .int .u8 0, .int .u8 0, .int .u8 0] 93))
  have hT0 := heap_alloc_new ((w.alloc (.cells #[.int .i64 p, .slice a n c] 26)).alloc (.cells spZ 134)) (.cells #[.int .u8 0, .int .u8 0, .int .u8 0, .int .u8 0, .int .u8 0, .int .u8 0, .int .u8 0, .int .u8 0, .int .u8 0, .int .u8 0, .int .u8 0, .int .u8 0, .int .u8 0, .int .u8 0, .int .u8 0, .int .u8 0] 93)
  rw [show ((w.alloc (.cells #[.int .i64 p, .slice a n c] 26)).alloc (.cells spZ 134)).heap.size = w.heap.size + 2 by simp] at hT0
  have HL0 := hide (h.below hAl3)
  have HM0 := hide (rm.below hAl3)
  have HX0 := hide (rx.below hAl3)
  clear h rm rx hAl hAl3
  go_enter Try.func122, Try.ntmps122
  go_upto_region 1 with fail
  generalize ((w.alloc (.cells #[.int .i64 p, .slice a n c] 26)).alloc (.cells spZ 134)).alloc (.cells #[.int .u8 0, .int .u8 0, .int .u8 0, .int .u8 0, .int .u8 0, .int .u8 0, .int .u8 0, .int .u8 0, .int .u8 0, .int .u8 0, .int .u8 0, .int .u8 0, .int .u8 0, .int .u8 0, .int .u8 0, .int .u8 0] 93) = v0 at *
  obtain ⟨hc0, hc1⟩ := cells2 hN0
  go_wp2_with fail
  refine (tokens_any p ax nx cx xs _ HX0.out hnx).mono ?_
  rintro e w1 ⟨m, rfl, hm, hb⟩
  have hz0 := HB0.out.size
  have HB1 := hide (HB0.out.trans (hb.mono HB0.out.size))
  have hz1 := HB1.out.size
  have hl8 := row_lt (keep hR0 hb)
  have hl9 := row_lt (keep hT0 hb)
  have hA := below_al w1 (.cells #[.int .u8 0, .int .u8 0, .int .u8 0, .int .u8 0, .int .u8 0, .int .u8 0, .int .u8 0, .int .u8 0, .int .u8 0, .int .u8 0, .int .u8 0, .int .u8 0, .int .u8 0, .int .u8 0, .int .u8 0, .int .u8 0] 93)
  have hg0 := heap_alloc_new w1 (.cells #[.int .u8 0, .int .u8 0, .int .u8 0, .int .u8 0, .int .u8 0, .int .u8 0, .int .u8 0, .int .u8 0, .int .u8 0, .int .u8 0, .int .u8 0, .int .u8 0, .int .u8 0, .int .u8 0, .int .u8 0, .int .u8 0] 93)
  have hV := below_setRow hA w1.heap.size (Nat.le_refl _) (packOf xs m)
  have HB2 := hide (HB1.out.trans (hV.mono HB1.out.size))
  have HN2 := hide (keep (keep hN0 hb) hV)
  have HR8 := hide (keep (keep hR0 hb) hV)
  have HR9 := hide (keep (keep hT0 hb) hV)
  have HT11 := hide (setRow_same hg0 (packOf xs m))
  have hbb := hb.trans (hV.mono hb.size)
  have HL2 := hide (HL0.out.below hbb)
  have HM2 := hide (HM0.out.below hbb)
  have hb11 : w1.heap.size ≠ w.heap.size + 1 ∧ w1.heap.size ≠ w.heap.size + 2 := by omega
  clear hb hbb hV hA HB0 HB1 HL0 HM0 HX0 hN0 hR0 hT0 hc0 hc1
  go_upto_region 2 with ((show wpList _ _ _ (⟨none, .store 93 (.tmp 11) (.tmp 20), _, _, _, _⟩ :: _) _ _); refine wpList_store_row rfl 93 _ _ rfl _ _ rfl rfl 93 _ hg0 (by rw [packOf_size]; exact Try.size93) (by rw [packOf_size]; rfl) (packOf_one _ _) ?_)
  clear hg0
  generalize (w1.alloc (.cells #[.int .u8 0, .int .u8 0, .int .u8 0, .int .u8 0, .int .u8 0, .int .u8 0, .int .u8 0, .int .u8 0, .int .u8 0, .int .u8 0, .int .u8 0, .int .u8 0, .int .u8 0, .int .u8 0, .int .u8 0, .int .u8 0] 93)).setRow w1.heap.size (packOf xs m) = v2 at *
  by_cases hgx : goodB p xs = true
  rotate_left
  · have hgx' : goodB p xs = false := by simpa using hgx
    have hso : saOk p n L ys bg xs = false := by unfold saOk; rw [hgx', Bool.and_false]
    have HR9s : Hid ((v2.setRow (w.heap.size + 1) spZ).heap[w.heap.size + 2]? = some (.cells #[.int .u8 0, .int .u8 0, .int .u8 0, .int .u8 0, .int .u8 0, .int .u8 0, .int .u8 0, .int .u8 0, .int .u8 0, .int .u8 0, .int .u8 0, .int .u8 0, .int .u8 0, .int .u8 0, .int .u8 0, .int .u8 0] 93 (0, 0))) := (setRow_other _ _ _ _ (by omega)).trans HR9.out
    have HR8s : Hid (((v2.setRow (w.heap.size + 1) spZ).setRow (w.heap.size + 2) #[.int .u8 0, .int .u8 0, .int .u8 0, .int .u8 0, .int .u8 0, .int .u8 0, .int .u8 0, .int .u8 0, .int .u8 0, .int .u8 0, .int .u8 0, .int .u8 0, .int .u8 0, .int .u8 0, .int .u8 0, .int .u8 0]).heap[w.heap.size + 1]? = some (.cells spZ 134 (0, 0))) := (setRow_other _ _ _ _ (by omega)).trans (setRow_same HR8.out spZ)
    have HN : Hid (SaEnd p n nm nx L ys bg xs w (.returned (.tuple #[.agg spZ, .agg #[.int .u8 0, .int .u8 0, .int .u8 0, .int .u8 0, .int .u8 0, .int .u8 0, .int .u8 0, .int .u8 0, .int .u8 0, .int .u8 0, .int .u8 0, .int .u8 0, .int .u8 0, .int .u8 0, .int .u8 0, .int .u8 0], .bool false])) ((v2.setRow (w.heap.size + 1) spZ).setRow (w.heap.size + 2) #[.int .u8 0, .int .u8 0, .int .u8 0, .int .u8 0, .int .u8 0, .int .u8 0, .int .u8 0, .int .u8 0, .int .u8 0, .int .u8 0, .int .u8 0, .int .u8 0, .int .u8 0, .int .u8 0, .int .u8 0, .int .u8 0])) :=
      ⟨below_setRow (below_setRow HB2.out _ (by omega) _) _ (by omega) _, .inr ⟨hso, 0, by rw [packOf_zero]⟩⟩
    have hz1 : (#[.int .u8 0, .int .u8 0, .int .u8 0, .int .u8 0, .int .u8 0, .int .u8 0, .int .u8 0, .int .u8 0, .int .u8 0, .int .u8 0, .int .u8 0, .int .u8 0, .int .u8 0, .int .u8 0, .int .u8 0, .int .u8 0] : Array Value).all (·.oneCell') = true := by rw [← packOf_zero xs]; exact packOf_one _ _
    rw [hgx']
    clear hgx hgx' hso
    go_wp2_with (first
      | ((show wpList _ _ _ (⟨none, .store 134 (.tmp 8) (.tmp 24), _, _, _, _⟩ :: _) _ _); refine wpList_store_row rfl 134 _ _ rfl _ _ rfl rfl 134 _ HR8.out Try.size134 rfl spZ_one ?_)
      | ((show wpList _ _ _ (⟨none, .store 93 (.tmp 9) (.tmp 25), _, _, _, _⟩ :: _) _ _); refine wpList_store_row rfl 93 _ _ rfl _ _ rfl rfl 93 _ HR9s.out Try.size93 rfl hz1 ?_))
    refine bodyPost_ret (v := .tuple #[.agg spZ, .agg #[.int .u8 0, .int .u8 0, .int .u8 0, .int .u8 0, .int .u8 0, .int .u8 0, .int .u8 0, .int .u8 0, .int .u8 0, .int .u8 0, .int .u8 0, .int .u8 0, .int .u8 0, .int .u8 0, .int .u8 0, .int .u8 0], .bool false]) ?_ rfl HN.out
    exact sa_res Try.results122 _ _ (w.heap.size + 1) (w.heap.size + 2) _ _ _ rfl rfl rfl rfl HR8s.out rfl (setRow_same HR9s.out _)
  have hmx : m = nx := hm.out hgx
  subst hmx
  rw [hgx]
  have HSP := hide (spaceOf_any p a am n c nm cm L ys bg _ HL2.out HM2.out hs hnm)
  obtain ⟨hc0, hc1⟩ := cells2 HN2.out
  go_wp2_with fail
  refine HSP.out.mono ?_
  rintro e w4 ⟨hb, hxx⟩
  have HB4 := hide (HB2.out.trans (hb.mono HB2.out.size))
  have HR84 := hide (keep HR8.out hb)
  have HR94 := hide (keep HR9.out hb)
  have HT4 := hide (keep HT11.out hb)
  have hz4 := hb.size
  have hl11 := row_lt HT11.out
  have hb2 : w.heap.size + 2 < v2.heap.size := by omega
  generalize v2.heap.size = b2 at *
  obtain ⟨sv, z, rfl, hsz, hone, HF⟩ : ∃ sv z, e = .returned (.tuple #[.agg sv, .int .i64 z]) ∧ sv.size = 5 ∧ sv.all (·.oneCell') = true ∧ Hid (∀ W', (∀ g, b2 ≤ g → g < w4.heap.size → W'.heap[g]? = w4.heap[g]?) → Below w.heap.size w W' → SaEnd p n nm m L ys bg xs w (.returned (.tuple #[.agg sv, .agg (packOf xs m), .bool (z == 1)])) W') := by
    rcases hxx with ⟨hcode, s, BS, mb, G, av, hok, hst, ⟨aa, ac, rfl⟩, rfl⟩ | ⟨hcode, rfl⟩
    · exact ⟨_, _, rfl, rfl, spV_one _ _ _ _ _ _ _ _ _, fun W' h4 h0 => ⟨h0, .inl ⟨by unfold saOk; rw [hcode, hgx]; rfl, s, _, BS, mb, G, aa, ac, hok, hst.kept h4, rfl⟩⟩⟩
    · refine ⟨_, _, rfl, rfl, spZ_one, fun W' h4 h0 => ⟨h0, .inr ⟨by unfold saOk; rw [Bool.and_eq_false_iff]; exact .inl (by simpa using hcode), m, ?_⟩⟩⟩
      have : ((spCode p n L ys bg : Int) == 1) = false := by simp; omega
      rw [this]
  clear hxx hb HB2 HR8 HR9 HT11 HN2 HL2 HM2 HSP hc0 hc1 hm hgx v2
  have hA := below_al w4 (.cells spZ 134)
  have hg0 := heap_alloc_new w4 (.cells spZ 134)
  have hV := below_setRow hA w4.heap.size (Nat.le_refl _) sv
  have HB5 := hide (HB4.out.trans (hV.mono HB4.out.size))
  have HR85 := hide (keep HR84.out hV)
  have HR95 := hide (keep HR94.out hV)
  have HT5 := hide (keep HT4.out hV)
  have HV5 := hide (setRow_same hg0 sv)
  have HF5 : Hid (∀ W', (∀ g, b2 ≤ g → g < w4.heap.size → W'.heap[g]? = ((w4.alloc (.cells spZ 134)).setRow w4.heap.size sv).heap[g]?) → Below w.heap.size w W' → SaEnd p n nm m L ys bg xs w (.returned (.tuple #[.agg sv, .agg (packOf xs m), .bool (z == 1)])) W') := fun W' h4 h0 => HF.out W' (fun g g1 g2 => (h4 g g1 g2).trans (hV.block g g2)) h0
  clear hV hA HB4 HR84 HR94 HT4 HF
  go_upto_region 5 with ((show wpList _ _ _ (⟨none, .store 134 (.tmp 13) (.tmp 31), _, _, _, _⟩ :: _) _ _); refine wpList_store_row rfl 134 _ _ rfl _ _ rfl rfl 134 _ hg0 (by rw [hsz]; exact Try.size134) (by rw [hsz]; rfl) hone ?_)
  clear hg0
  have hb13 : w4.heap.size ≠ w.heap.size + 1 ∧ w4.heap.size ≠ w.heap.size + 2 ∧ w1.heap.size < w4.heap.size := by omega
  generalize (w4.alloc (.cells spZ 134)).setRow w4.heap.size sv = v5 at *
  have HB6 := hide (HB5.out.drew)
  have HR86 := hide (keep HR85.out (Below.refl _ v5).drew)
  have HR96 := hide (keep HR95.out (Below.refl _ v5).drew)
  have HT6 := hide (keep HT5.out (Below.refl _ v5).drew)
  have HV6 := hide (keep HV5.out (Below.refl _ v5).drew)
  have HF6 : Hid (∀ W', (∀ g, b2 ≤ g → g < w4.heap.size → W'.heap[g]? = v5.drew.heap[g]?) → Below w.heap.size w W' → SaEnd p n nm m L ys bg xs w (.returned (.tuple #[.agg sv, .agg (packOf xs m), .bool (z == 1)])) W') := fun W' h4 h0 => HF5.out W' (fun g g1 g2 => h4 g g1 g2) h0
  clear HB5 HR85 HR95 HT5 HV5 HF5
  refine wp_region_held_drew (S := fun W => W.heap[w4.heap.size]? = some (.cells sv 134 (0, 0)) ∧ W.heap[w1.heap.size]? = some (.cells (packOf xs m) 93 (0, 0))) (by kernel_rfl) ?_ (fun hHeld => ?_)
  · exact ⟨HV6.out, HT6.out⟩
  generalize v5.drew = v6 at *
  refine take_yes (i := 0) (some 33) (.agg sv) rfl rfl (by kernel_rfl) (by kernel_rfl) (by kernel_rfl) (fun _ _ _ h => h) (by rfl) ?_ (by assumption) ?_
  · intro W' hSw
    obtain ⟨hz0, hz1⟩ := hSw
    exact exec_load_row 134 _ rfl _ rfl 134 _ _ _ hz0 Try.underlying134 rfl (by rw [hsz]; exact Try.size134)
  simp only [Act.put, List.setIfInBounds_toArray, List.set_cons_zero, List.set_cons_succ]
  refine take_yes (i := 1) (some 34) (.agg (packOf xs m)) rfl rfl (by kernel_rfl) (by kernel_rfl) (by kernel_rfl) (fun _ _ _ h => h) (by rfl) ?_ (by assumption) ?_
  · intro W' hSw
    obtain ⟨hz0, hz1⟩ := hSw
    exact exec_load_row 93 _ rfl _ rfl 93 _ _ _ hz1 Try.underlying93 rfl (by rw [packOf_size]; exact Try.size93)
  simp only [Act.put, List.setIfInBounds_toArray, List.set_cons_zero, List.set_cons_succ]
  refine take_yes (i := 2) (some 35) (.int .i64 z) rfl rfl (by kernel_rfl) (by kernel_rfl) (by kernel_rfl) (fun _ _ _ h => h) (by rfl) ?_ (by assumption) ?_
  · intro W' hSw
    go_simp
  simp only [Act.put, List.setIfInBounds_toArray, List.set_cons_zero, List.set_cons_succ]
  refine take_yes (i := 3) (some 36) (.bool (z == 1)) rfl rfl (by kernel_rfl) (by kernel_rfl) (by kernel_rfl) (fun _ _ _ h => h) (by rfl) ?_ (by assumption) ?_
  · intro W' hSw
    go_simp
  simp only [Act.put, List.setIfInBounds_toArray, List.set_cons_zero, List.set_cons_succ]
  have HR97 := hide ((setRow_otherW v6 (show w.heap.size + 2 ≠ w.heap.size + 1 by omega) sv).trans HR96.out)
  have HN := hide (HF6.out _ (fun g g1 _ => (setRow_otherW _ (show g ≠ w.heap.size + 2 by omega) _).trans (setRow_otherW _ (show g ≠ w.heap.size + 1 by omega) _)) (below_setRow (below_setRow HB6.out _ (by omega) sv) (w.heap.size + 2) (by omega) (packOf xs m)))
  have h8 := HR86.out
  have h9 := HR97.out
  have hv13 := HV6.out
  have ht11 := HT6.out
  clear HR86 HR96 HV6 HT6 HF6 HB6
  refine store_next (i := 4) rfl rfl (by kernel_rfl) (by rfl) 134 _ _ rfl (w.heap.size + 1) sv rfl rfl 134 _ h8 (by rw [hsz]; exact Try.size134) (by rw [hsz]; rfl) hone ?_ (fun _ => ?_)
  · exact ⟨(setRow_otherW _ hb13.1 _).trans hv13, (setRow_otherW _ hb11.1 _).trans ht11⟩
  refine store_next (i := 5) rfl rfl (by kernel_rfl) (by rfl) 93 _ _ rfl (w.heap.size + 2) (packOf xs m) rfl rfl 93 _ h9 (by rw [packOf_size]; exact Try.size93) (by rw [packOf_size]; rfl) (packOf_one _ _) ?_ (fun _ => ?_)
  · exact ⟨(setRow_otherW _ hb13.2.1 _).trans ((setRow_otherW _ hb13.1 _).trans hv13), (setRow_otherW _ hb11.2 _).trans ((setRow_otherW _ hb11.1 _).trans ht11)⟩
  refine take_yes (i := 6) (some 10) (.bool (z == 1)) rfl rfl (by kernel_rfl) (by kernel_rfl) (by kernel_rfl) (fun _ _ _ h => h) (by rfl) ?_ (by assumption) ?_
  · intro W' hSw
    go_simp
  simp only [Act.put, List.setIfInBounds_toArray, List.set_cons_zero, List.set_cons_succ]
  refine wpAnyH_done (by kernel_rfl) ?_ _
  go_wp2_with fail
  refine bodyPost_ret (v := .tuple #[.agg sv, .agg (packOf xs m), .bool (z == 1)]) ?_ rfl HN.out
  exact sa_res Try.results122 _ _ (w.heap.size + 1) (w.heap.size + 2) _ _ _ rfl rfl rfl hsz ((setRow_otherW _ (by omega) _).trans (setRow_same h8 _)) (packOf_size _ _) (setRow_same h9 _)

end Go.Proofs.Ytdhnhpjcoeglmaa


/- CanCome of both. -/
namespace Go.Proofs.Ytdhnhpjcoeglmaa
open Go.RowKit
set_option maxRecDepth 10000

def caR (p : Int) (n : Nat) (L : List (List Int)) (ys : List Int) (bg : Int) (xs : List Int) : Bool := saOk p n L ys bg xs && decide (xs ∈ (spSea p n L ys bg).ms)

/-- How CanCome ends. -/
def CaEnd (p : Int) (n : Nat) (L : List (List Int)) (ys : List Int) (bg : Int) (xs : List Int) (w : World) (e : Ending) (w' : World) : Prop :=
  e = .returned (.tuple #[.bool (caR p n L ys bg xs), .bool (saOk p n L ys bg xs)]) ∧ Below w.heap.size w w'

theorem caEnd_no {p : Int} {n : Nat} {L : List (List Int)} {ys xs : List Int} {bg : Int} {w w' : World} (h : saOk p n L ys bg xs = false) (hb : Below w.heap.size w w') : CaEnd p n L ys bg xs w (.returned (.tuple #[.bool false, .bool false])) w' := by
  refine ⟨?_, hb⟩
  unfold caR; rw [h]; rfl

theorem caEnd_yes {p : Int} {n l : Nat} {L : List (List Int)} {ys xs : List Int} {bg : Int} {s : Sea} {w w' : World} (h : saOk p n L ys bg xs = true) (hs : SpOk p n l L ys bg s) (hb : Below w.heap.size w w') {b : Bool} (hx : decide (xs ∈ s.ms) = b) : CaEnd p n L ys bg xs w (.returned (.tuple #[.bool b, .bool true])) w' := by
  refine ⟨?_, hb⟩
  unfold caR; rw [h, hs.is, hx]; rfl

theorem saOk_parts {p : Int} {n : Nat} {L : List (List Int)} {ys xs : List Int} {bg : Int} (h : saOk p n L ys bg xs = true) : spCode p n L ys bg = 1 ∧ goodB p xs = true := by
  unfold saOk at h; rw [Bool.and_eq_true] at h; exact ⟨by simpa using h.1, h.2⟩
theorem saOk_code {p : Int} {n : Nat} {L : List (List Int)} {ys xs : List Int} {bg : Int} (h : spCode p n L ys bg ≠ 1) : saOk p n L ys bg xs = false := by unfold saOk; simp [h]
theorem saOk_good {p : Int} {n : Nat} {L : List (List Int)} {ys xs : List Int} {bg : Int} (h : goodB p xs = false) : saOk p n L ys bg xs = false := by unfold saOk; rw [h, Bool.and_false]
theorem saOk_yes {p : Int} {n : Nat} {L : List (List Int)} {ys xs : List Int} {bg : Int} (h : spCode p n L ys bg = 1) (hg : goodB p xs = true) : saOk p n L ys bg xs = true := by unfold saOk; rw [h, hg]; rfl

theorem SpOk.lens {p : Int} {n l : Nat} {L : List (List Int)} {ys : List Int} {bg : Int} {s : Sea} (h : SpOk p n l L ys bg s) : ∀ u ∈ s.ms, u.length = l := fun u hu => by
  have := (goodB_parts (h.ok.good u hu)).2.1
  have := h.hl
  omega

theorem wpList_lookQ {P : Program} {ops : Array Oper} {rest : List Oper} {op : Oper} {a : Act} {w : World} {Q : Exit → Act → World → Prop} (hgd : op.guard = none) (t : TypeId) (m x : Operand) (c : Bool) (ho : op.op = .lookup t m x c)
    (mv kv v : Value) (hm : a.eval m = mv) (hx : a.eval x = kv) (hr : (Instr.lookup t mv kv c).run P w = .ok v w)
    (h : wpList P ops Q rest (a.put op.dst v) w) : wpList P ops Q (op :: rest) a w := by
  refine wpList_plain hgd fun K hK => ?_
  have hr := exec_lookup t m x c ho mv kv v hm hx hr
  unfold Oper.wp
  rw [hr]
  exact hK _ _ h


set_option maxHeartbeats 1000000 in
theorem canS_any (p : Int) (a am ax : Option Addr) (n c nm cm nx cx : Nat) (L : List (List Int)) (ys xs : List Int) (bg : Int) (w : World) (h : Lists w a (3 * n) L) (rm : Row w am nm ys) (rx : Row w ax nx xs) (hs : sizeN n L ≤ 1048576) (hnm : nm ≤ 1048576) (hnx : nx ≤ 1048576) :
    Calls Try.prog 57 #[.agg #[.int .i64 p, .slice a n c], .slice am nm cm, .int .i64 bg, .slice ax nx cx] w fun e w' => CaEnd p n L ys bg xs w e w' := by
  have hAl := below_al w (.cells #[.int .i64 p, .slice a n c] 26)
  have HN0 := hide (heap_alloc_new w (.cells #[.int .i64 p, .slice a n c] 26))
  have HX := hide (all_any4 p a am n c nm cm L ys bg _ (h.below hAl) (rm.below hAl) hs hnm)
  have HX0 := hide (rx.below hAl)
  have HB0 := hide hAl
  clear h rm rx hAl
  go_enter Try.func57, Try.ntmps57
  go_wp2_with fail
  generalize w.alloc (.cells #[.int .i64 p, .slice a n c] 26) = v0 at *
  refine HX.out.mono ?_
  rintro e w1 ⟨hb1, hxx⟩
  have HN1 := hide (keep HN0.out hb1)
  have HX1 := hide (HX0.out.below hb1)
  have HB1 := hide (HB0.out.trans (hb1.mono HB0.out.size))
  clear hb1 HN0 HB0 HX HX0
  rcases hxx with ⟨hcode, s, ma, mc, aa, ac, hok, rfl, hmr, har⟩ | ⟨hcode, rfl⟩
  rotate_left
  · have HN := hide (caEnd_no (w := w) (saOk_code (xs := xs) hcode) (HB1.out.trans ((below_al w1 (.cells #[.slice none 0 0, .slice none 0 0] 61)).mono HB1.out.size)))
    clear hcode
    go_wp2_with fail
    go_ret2
    exact HN.out
  have hA3 := below_al w1 (.cells #[.slice ma s.ms.length mc, .slice aa s.ar.length ac] 61)
  have HB3 := hide (HB1.out.trans (hA3.mono HB1.out.size))
  have HN3 := hide (keep HN1.out hA3)
  have HX3 := hide (HX1.out.below hA3)
  have HG := hide (goodS_any p ax nx cx xs _ HX3.out hnx)
  obtain ⟨hc0, hc1⟩ := cells2 HN3.out
  have hl16 := hok.l16
  have HM3 := hide ((hmr.go hA3).lists (show nm ≤ maxLen by unfold maxLen; omega))
  have HS3 := hide (heap_alloc_new w1 (.cells #[.slice ma s.ms.length mc, .slice aa s.ar.length ac] 61))
  have hmx : s.ms.length ≤ 1048576 := by have := hok.m4; omega
  have HFI := hide (find_any ma ax s.ms.length mc nx cx s.ms xs _ HM3.out HX3.out hmx hnx)
  clear hA3 hmr har HB1 HN1 HX1
  by_cases hq : goodB p xs = true
  rotate_left
  · have hq' : goodB p xs = false := by simpa using hq
    have HN := hide (caEnd_no (w := w) (saOk_good (n := n) (L := L) (ys := ys) (bg := bg) hq') HB3.out)
    rw [hq'] at HG
    clear hq HFI
    go_wp2_with (go_at_call 95; refine HG.out.mono ?_; rintro e w' ⟨rfl, rfl⟩)
    go_ret2
    exact HN.out
  rw [hq] at HG
  have HOK := hide hok
  have hso := saOk_yes hcode hq
  clear hcode hok
  obtain ⟨hs0, hs1⟩ := cells2 HS3.out
  by_cases hin : xs ∈ s.ms
  · have HN := hide (fun W (hW : Below w.heap.size w W) => caEnd_yes (w := w) hso HOK.out hW (decide_eq_true hin))
    unfold findL at HFI
    rw [if_pos hin] at HFI
    have hpos : (0 : Int) ≤ (s.ms.idxOf xs : Int) := by omega
    clear hin hso
    generalize s.ms.idxOf xs = ix at *
    go_wp2_with (go_at_call 95; refine HG.out.mono ?_; rintro e w' ⟨rfl, rfl⟩)
    refine HFI.out.mono ?_
    rintro e w2 ⟨rfl, q, rfl⟩
    have HY := hide (HN.out _ (HB3.out.trans ((below_drewN' _ q).mono HB3.out.size)))
    go_wp2_with fail
    go_ret2
    exact HY.out
  · have HN := hide (fun W (hW : Below w.heap.size w W) => caEnd_yes (w := w) hso HOK.out hW (decide_eq_false hin))
    unfold findL at HFI
    rw [if_neg hin] at HFI
    clear hin hso
    go_wp2_with (go_at_call 95; refine HG.out.mono ?_; rintro e w' ⟨rfl, rfl⟩)
    refine HFI.out.mono ?_
    rintro e w2 ⟨rfl, q, rfl⟩
    have HY := hide (HN.out _ (HB3.out.trans ((below_drewN' _ q).mono HB3.out.size)))
    go_wp2_with fail
    go_ret2
    exact HY.out

set_option maxHeartbeats 1000000 in
theorem canI_any (p : Int) (a am ax : Option Addr) (n c nm cm nx cx : Nat) (L : List (List Int)) (ys xs : List Int) (bg : Int) (w : World) (h : Lists w a (3 * n) L) (rm : Row w am nm ys) (rx : Row w ax nx xs) (hs : sizeN n L ≤ 1048576) (hnm : nm ≤ 1048576) (hnx : nx ≤ 1048576) :
    Calls Try.prog 52 #[.agg #[.int .i64 p, .slice a n c], .slice am nm cm, .int .i64 bg, .slice ax nx cx] w fun e w' => CaEnd p n L ys bg xs w e w' := by
  have hAl := below_al w (.cells #[.int .i64 p, .slice a n c] 26)
  have HX := hide (spaceTok_any p a am ax n c nm cm nx cx L ys xs bg _ (h.below hAl) (rm.below hAl) (rx.below hAl) hs hnm hnx)
  have HLX := hide rx.1
  have HB0 := hide hAl
  clear h rm rx hAl
  go_enter Try.func52, Try.ntmps52
  go_wp2_with fail
  generalize w.alloc (.cells #[.int .i64 p, .slice a n c] 26) = v0 at *
  refine HX.out.mono ?_
  rintro e w1 ⟨hb1, hxx⟩
  have HB1 := hide (HB0.out.trans (hb1.mono HB0.out.size))
  clear hb1 HB0 HX
  obtain ⟨sv, hsv⟩ : ∃ sv, sv = spZ := ⟨_, rfl⟩
  have hA3 := (below_al w1 (.cells spZ 134)).trans ((below_al (w1.alloc (.cells spZ 134)) (.cells #[.int .u8 0, .int .u8 0, .int .u8 0, .int .u8 0, .int .u8 0, .int .u8 0, .int .u8 0, .int .u8 0, .int .u8 0, .int .u8 0, .int .u8 0, .int .u8 0, .int .u8 0, .int .u8 0, .int .u8 0, .int .u8 0] 93)).mono (by simp))
  have hg0 := keep (heap_alloc_new w1 (.cells spZ 134)) (below_al (w1.alloc (.cells spZ 134)) (.cells #[.int .u8 0, .int .u8 0, .int .u8 0, .int .u8 0, .int .u8 0, .int .u8 0, .int .u8 0, .int .u8 0, .int .u8 0, .int .u8 0, .int .u8 0, .int .u8 0, .int .u8 0, .int .u8 0, .int .u8 0, .int .u8 0] 93))
  have hg1 := heap_alloc2_new w1 (.cells spZ 134) (.cells #[.int .u8 0, .int .u8 0, .int .u8 0, .int .u8 0, .int .u8 0, .int .u8 0, .int .u8 0, .int .u8 0, .int .u8 0, .int .u8 0, .int .u8 0, .int .u8 0, .int .u8 0, .int .u8 0, .int .u8 0, .int .u8 0] 93)
  rcases hxx with ⟨hso, s, B, BS, mb, G, aa, ac, hok, hst, rfl⟩ | ⟨hso, k, rfl⟩
  rotate_left
  · have hg1s := (setRow_otherW _ (show w1.heap.size + 1 ≠ w1.heap.size by omega) spZ).trans hg1
    have HN := hide (caEnd_no (w := w) hso (below_setRow (below_setRow (HB1.out.trans (hA3.mono HB1.out.size)) w1.heap.size HB1.out.size spZ) (w1.heap.size + 1) (by have := HB1.out.size; omega) (packOf xs k)))
    clear hso hA3
    go_wp2_with (first
      | ((show wpList _ _ _ (⟨none, .store 134 (.tmp 10) (.tmp 21), _, _, _, _⟩ :: _) _ _); refine wpList_store_row rfl 134 _ _ rfl _ _ rfl rfl 134 _ hg0 Try.size134 rfl spZ_one ?_)
      | ((show wpList _ _ _ (⟨none, .store 93 (.tmp 11) (.tmp 22), _, _, _, _⟩ :: _) _ _); refine wpList_store_row rfl 93 _ _ rfl _ _ rfl rfl 93 _ hg1s (by rw [packOf_size]; exact Try.size93) (by rw [packOf_size]; rfl) (packOf_one _ _) ?_))
    go_ret2
    exact HN.out
  obtain ⟨hcode, hgx⟩ := saOk_parts hso
  have hlx : xs.length = nx := HLX.out
  have hlp := (goodB_parts hgx).2.1
  have hnn : nx = nm := by have := hok.hl; omega
  have hg1s := (setRow_otherW _ (show w1.heap.size + 1 ≠ w1.heap.size by omega) (spV p n BS mb G s.ms.length (.slice aa s.ar.length ac))).trans hg1
  have hV := below_setRow (below_setRow hA3 w1.heap.size (Nat.le_refl _) (spV p n BS mb G s.ms.length (.slice aa s.ar.length ac))) (w1.heap.size + 1) (Nat.le_succ _) (packOf xs nx)
  have HB3 := hide (HB1.out.trans (hV.mono HB1.out.size))
  have HMAP := hide ((hst.grow hV).map)
  have hz1 := setRow_same hg0 (spV p n BS mb G s.ms.length (.slice aa s.ar.length ac))
  have HV3 := hide ((setRow_otherW _ (show w1.heap.size ≠ w1.heap.size + 1 by omega) (packOf xs nx)).trans hz1)
  have hg11 := setRow_same hg1s (packOf xs nx)
  have hlk := run_lookTok (l := nm) (m := xs) hok.l16 (by omega) hok.lens HMAP.out true
  rw [if_pos rfl] at hlk
  have HOK := hide hok
  obtain ⟨⟨hc0, hc1, hc2, hc3, hc4⟩, _⟩ := cells5 HV3.out
  subst hnn
  clear hA3 hV hst HB1 hcode hgx hlx hlp hok hz1
  obtain ⟨ix, hix⟩ : ∃ ix : Int, (if xs ∈ s.ms then (s.ms.idxOf xs : Int) else 0) = ix := ⟨_, rfl⟩
  obtain ⟨bx, hbx⟩ : ∃ b, decide (xs ∈ s.ms) = b := ⟨_, rfl⟩
  rw [hix, hbx] at hlk
  have HN := hide (caEnd_yes (w := w) hso HOK.out HB3.out hbx)
  clear hix hbx hso
  go_wp2_with (first
    | ((show wpList _ _ _ (⟨none, .store 134 (.tmp 10) (.tmp 21), _, _, _, _⟩ :: _) _ _); refine wpList_store_row rfl 134 _ _ rfl _ _ rfl rfl 134 _ hg0 Try.size134 rfl (spV_one _ _ _ _ _ _ _ _ _) ?_)
    | ((show wpList _ _ _ (⟨none, .store 93 (.tmp 11) (.tmp 22), _, _, _, _⟩ :: _) _ _); refine wpList_store_row rfl 93 _ _ rfl _ _ rfl rfl 93 _ hg1s (by rw [packOf_size]; exact Try.size93) (by rw [packOf_size]; rfl) (packOf_one _ _) ?_)
    | ((show wpList _ _ _ (⟨some 29, .load 93 (.tmp 11), _, _, _, _⟩ :: _) _ _); refine wpList_load_row rfl 93 (.tmp 11) rfl _ rfl 93 (packOf xs nx) (0, 0) _ hg11 Try.underlying93 rfl (by rw [packOf_size]; exact Try.size93) ?_)
    | ((show wpList _ _ _ (⟨some 30, .lookup 131 (.tmp 28) (.tmp 29) true, _, _, _, _⟩ :: _) _ _); refine wpList_lookQ rfl 131 (.tmp 28) (.tmp 29) true rfl _ _ _ rfl rfl hlk ?_))
  go_ret2
  exact HN.out

end Go.Proofs.Ytdhnhpjcoeglmaa


/- DeadTrans of both: the transitions that no arc of the whole space is by. -/
namespace Go.Proofs.Ytdhnhpjcoeglmaa
open Go.RowKit
set_option maxRecDepth 10000

def metB (ar : List (Nat × Nat × Nat)) (t : Nat) : Bool := ar.any fun a => a.2.1 == t
def deadL (n : Nat) (ar : List (Nat × Nat × Nat)) : List Int := numsL (fun t => !metB ar t) n
def dtOk (p : Int) (n : Nat) (L : List (List Int)) (ys : List Int) (bg : Int) : Bool := decide (spCode p n L ys bg = 1)
def dtR (p : Int) (n : Nat) (L : List (List Int)) (ys : List Int) (bg : Int) : List Int := if dtOk p n L ys bg then deadL n (spSea p n L ys bg).ar else []

theorem dtOk_yes {p : Int} {n : Nat} {L : List (List Int)} {ys : List Int} {bg : Int} (h : spCode p n L ys bg = 1) : dtOk p n L ys bg = true := by unfold dtOk; simp [h]
theorem dtOk_no {p : Int} {n : Nat} {L : List (List Int)} {ys : List Int} {bg : Int} (h : spCode p n L ys bg ≠ 1) : dtOk p n L ys bg = false := by unfold dtOk; simp [h]

theorem metB_take {ar : List (Nat × Nat × Nat)} {i x y z : Nat} (h : ar[i]? = some (x, y, z)) (t : Nat) : metB (ar.take (i + 1)) t = (metB (ar.take i) t || y == t) := by
  unfold metB
  rw [List.take_add_one, h, List.any_append]
  simp

theorem arcsL_at : ∀ (ar : List (Nat × Nat × Nat)) (i x y z : Nat), ar[i]? = some (x, y, z) → (arcsL ar)[i * 3]? = some (.int .i64 (x : Int)) ∧ (arcsL ar)[i * 3 + 1]? = some (.int .i64 (y : Int)) ∧ (arcsL ar)[i * 3 + 2]? = some (.int .i64 (z : Int)) := by
  intro ar
  induction ar with
  | nil => intro i x y z h; simp at h
  | cons a r ih =>
    intro i x y z h
    have e : arcsL (a :: r) = [.int .i64 (a.1 : Int), .int .i64 (a.2.1 : Int), .int .i64 (a.2.2 : Int)] ++ arcsL r := by simp [arcsL]
    rw [e]
    cases i with
    | zero => simp at h; subst h; exact ⟨rfl, rfl, rfl⟩
    | succ i =>
      have h' : r[i]? = some (x, y, z) := by simpa using h
      obtain ⟨h1, h2, h3⟩ := ih i x y z h'
      refine ⟨?_, ?_, ?_⟩
      · rw [List.getElem?_append_right (by simp; omega)]; rw [← h1]; congr 1; simp; omega
      · rw [List.getElem?_append_right (by simp; omega)]; rw [← h2]; congr 1; simp; omega
      · rw [List.getElem?_append_right (by simp; omega)]; rw [← h3]; congr 1; simp; omega

/-- An arc in memory. -/
theorem arcs_at {w : World} {B : Nat} {aa : Option Addr} {N ac : Nat} {ar : List (Nat × Nat × Nat)} (h : w.ownsRow B 66 3 (.slice aa N ac) N (arcsL ar)) {i : Nat} (hi : i < N) {x y z : Nat} (ha : ar[i]? = some (x, y, z)) :
    ∃ g, aa = some ⟨g, 0, none⟩ ∧ w.cell? ⟨g, i * 3, none⟩ = some (.int .i64 (x : Int)) ∧ w.cell? ⟨g, i * 3 + 1, none⟩ = some (.int .i64 (y : Int)) ∧ w.cell? ⟨g, i * 3 + 2, none⟩ = some (.int .i64 (z : Int)) := by
  obtain ⟨g, cap, e⟩ : ∃ g cap, Value.slice aa N ac = .slice (some ⟨g, 0, none⟩) N cap := by
    rcases h.2 with ⟨e, _⟩ | ⟨g, cap, cur, e, _⟩
    · simp only [Value.slice.injEq] at e; omega
    · exact ⟨g, cap, e⟩
  simp only [Value.slice.injEq] at e
  obtain ⟨rfl, _, rfl⟩ := e
  obtain ⟨h1, h2, h3⟩ := arcsL_at ar i x y z ha
  refine ⟨g, rfl, ?_, ?_, ?_⟩
  · rw [h.cellAt (i * 3) (by omega), h1]
  · rw [h.cellAt (i * 3 + 1) (by omega), h2]
  · rw [h.cellAt (i * 3 + 2) (by omega), h3]

theorem dtend_yesS {p : Int} {n l : Nat} {L : List (List Int)} {ys : List Int} {bg : Int} {s : Sea} {w w' : World} {v : Value} {m B : Nat} (h : spCode p n L ys bg = 1) (hs : SpOk p n l L ys bg s) (ho : w'.ownsRow B 3 1 v m ((numsL (fun t => !metB s.ar t) n).map (Value.int .i64))) (hb : Below w.heap.size w w') : WEnd (dtOk p n L ys bg) (dtR p n L ys bg) w (.returned (.tuple #[v, .bool true])) w' := by
  obtain ⟨a, c, rfl, hr⟩ := own_row ho
  refine ⟨a, m, c, by rw [dtOk_yes h], ?_, hb⟩
  unfold dtR; rw [dtOk_yes h, if_pos rfl, hs.is]; exact hr

theorem dtend_yesI {p : Int} {n l : Nat} {L : List (List Int)} {ys : List Int} {bg : Int} {s : Sea} {w w' : World} {v : Value} {m B : Nat} (h : spCode p n L ys bg = 1) (hs : SpOk p n l L ys bg s) (ho : w'.ownsRow B 3 1 v m ((numsL (fun t => !metB s.ar t) n).map (Value.int .i64))) (hB : w.heap.size ≤ B) (hb : Below w.heap.size w w') : OEnd (dtOk p n L ys bg) (dtR p n L ys bg) w (.returned (.tuple #[v, .bool true])) w' := by
  obtain ⟨a, b, c, rfl, hb', hr⟩ := own_ob ho
  refine ⟨a, b, m, c, by rw [dtOk_yes h], ?_, Nat.le_trans hB hb', hb⟩
  unfold dtR; rw [dtOk_yes h, if_pos rfl, hs.is]; exact hr

theorem dtend_noS {p : Int} {n : Nat} {L : List (List Int)} {ys : List Int} {bg : Int} {w w' : World} (h : spCode p n L ys bg ≠ 1) (hb : Below w.heap.size w w') : WEnd (dtOk p n L ys bg) (dtR p n L ys bg) w (.returned (.tuple #[.slice none 0 0, .bool false])) w' := by
  refine ⟨none, 0, 0, by rw [dtOk_no h], ⟨?_, .inl rfl⟩, hb⟩
  unfold dtR; rw [dtOk_no h]; rfl

theorem dtend_noI {p : Int} {n : Nat} {L : List (List Int)} {ys : List Int} {bg : Int} {w w' : World} (h : spCode p n L ys bg ≠ 1) (hb : Below w.heap.size w w') : OEnd (dtOk p n L ys bg) (dtR p n L ys bg) w (.returned (.tuple #[.slice none 0 0, .bool false])) w' := by
  refine ⟨none, w.heap.size, 0, 0, by rw [dtOk_no h], ⟨?_, .inl rfl⟩, Nat.le_refl _, hb⟩
  unfold dtR; rw [dtOk_no h]; rfl

theorem arc_get {ar : List (Nat × Nat × Nat)} {i : Nat} (h : i < ar.length) : ∃ x y z, ar[i]? = some (x, y, z) ∧ (x, y, z) ∈ ar := ⟨_, _, _, List.getElem?_eq_getElem h, List.getElem_mem h⟩




end Go.Proofs.Ytdhnhpjcoeglmaa


/- DeadTrans of the program. -/
namespace Go.Proofs.Ytdhnhpjcoeglmaa
open Go.RowKit
set_option maxRecDepth 10000

theorem Try.info4 : (Try.prog.info? 4).map (fun i => (i.zero, i.size, i.bytes)) = some (some (.bool false), 1, 1) := by kernel_rfl

/-- Block F holds n truths. -/
def BRow (w : World) (F n : Nat) (f : Nat → Bool) : Prop := ∃ C, w.heap[F]? = some (.cells C 4 (0, 0)) ∧ C.size = n ∧ ∀ j, j < n → C[j]? = some (.bool (f j))

theorem BRow.grow {w w' : World} {F n : Nat} {f : Nat → Bool} (h : BRow w F n f) (hb : Below w.heap.size w w') : BRow w' F n f := by
  obtain ⟨C, h1, h2⟩ := h; exact ⟨C, keep h1 hb, h2⟩

theorem BRow.made (w : World) (n : Nat) : BRow (w.alloc (.cells (madeCells #[.bool false] n) 4)) w.heap.size n (fun _ => false) := by
  refine ⟨_, heap_alloc_new _ _, by rw [size_madeCells], fun j hj => ?_⟩
  unfold madeCells
  have e : (j % (#[Value.bool false] : Array Value).size) = 0 := Nat.mod_one j
  rw [Array.getElem?_map, Array.getElem?_range, if_pos hj, Option.map_some, e]
  rfl

theorem BRow.cell {w : World} {F n : Nat} {f : Nat → Bool} (h : BRow w F n f) {j : Nat} (hj : j < n) : w.cell? ⟨F, j, none⟩ = some (.bool (f j)) ∧ w.frozen? ⟨F, j, none⟩ = false := by
  obtain ⟨C, h1, h2, h3⟩ := h
  exact ⟨(cell_of_row w F j C _ _ h1).trans (h3 j hj), frozen_of_row w F j C _ h1⟩

theorem bzero {w : World} {F n : Nat} {ar : List (Nat × Nat × Nat)} (h : BRow w F n (fun _ => false)) : BRow w F n (metB (ar.take 0)) := by
  have e : metB (ar.take 0) = fun _ => false := by funext t; simp [metB]
  rw [e]; exact h

theorem BRow.set {w : World} {F n : Nat} {f f' : Nat → Bool} (h : BRow w F n f) {y : Nat} (hy : y < n) (hf : ∀ t, f' t = (f t || y == t)) : BRow (w.setCell ⟨F, y, none⟩ (.bool true)) F n f' := by
  obtain ⟨C, h1, h2, h3⟩ := h
  refine ⟨C.setIfInBounds y (.bool true), heap_setCell_same _ _ _ _ _ _ h1, by simp [h2], fun j hj => ?_⟩
  rw [Array.getElem?_setIfInBounds, hf j]
  by_cases e : y = j
  · subst e; rw [if_pos rfl, if_pos (by omega)]; simp
  · rw [if_neg e, h3 j hj]; simp [e]



end Go.Proofs.Ytdhnhpjcoeglmaa
