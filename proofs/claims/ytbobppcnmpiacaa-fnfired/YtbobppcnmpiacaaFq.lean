/- FireAll: one firing behind the other; the specification's FireAll, for every net, mark and list of numbers in memory. -/
import Derived.Test.YtbobppcnmpiacaaSg
namespace Go.Proofs.Ytbobppcnmpiacaa
open Go.RowKit
set_option maxRecDepth 10000

/-- The mark behind the last firing that tells true, and how many do. -/
def runL (p : Int) (n : Nat) (L : List (List Int)) : List Int → List Int → List Int
  | ys, [] => ys
  | ys, t :: ts => if fireOk p n L ys t then runL p n L (firedL L ys t) ts else ys
def runN (p : Int) (n : Nat) (L : List (List Int)) : List Int → List Int → Nat
  | _, [] => 0
  | ys, t :: ts => if fireOk p n L ys t then runN p n L (firedL L ys t) ts + 1 else 0

def allOk (p : Int) (n : Nat) (L : List (List Int)) (ys ts : List Int) : Bool := netOk p n L && goodB p ys && decide (ts.length ≤ 60) && allB ts 0 ((n : Int) - 1)
def faR (p : Int) (n : Nat) (L : List (List Int)) (ys ts : List Int) : List Int := if allOk p n L ys ts then runL p n L ys ts else []
def faN (p : Int) (n : Nat) (L : List (List Int)) (ys ts : List Int) : Nat := if allOk p n L ys ts then runN p n L ys ts else 0

/-- k firings told true, and the mark behind them is us. -/
structure Ran (p : Int) (n : Nat) (L : List (List Int)) (ys ts : List Int) (k : Nat) (us : List Int) : Prop where
  l : runL p n L ys ts = runL p n L us (ts.drop k)
  m : runN p n L ys ts = k + runN p n L us (ts.drop k)
  good : goodB p us = true
  len : us.length = ys.length

theorem firedL_len (L : List (List Int)) (ys : List Int) (t : Int) : (firedL L ys t).length = ys.length := by unfold firedL fireL; rw [updL_len, updL_len, updL_len]

theorem fireOk_good {p : Int} {n : Nat} {L : List (List Int)} {ys : List Int} {t : Int} (h : fireOk p n L ys t = true) : goodB p (firedL L ys t) = true := by
  unfold fireOk at h; simp only [Bool.and_eq_true] at h; exact h.2

theorem Ran.start {p : Int} {n : Nat} {L : List (List Int)} {ys ts : List Int} (h : goodB p ys = true) : Ran p n L ys ts 0 ys := ⟨rfl, by simp, h, rfl⟩

theorem drop_at {ts : List Int} {k : Nat} {t : Int} (h : ts[k]? = some t) : ts.drop k = t :: ts.drop (k + 1) := by
  have hk := (List.getElem?_eq_some_iff.mp h).1
  rw [List.drop_eq_getElem_cons hk]
  congr 1
  rw [List.getElem?_eq_getElem hk] at h
  exact Option.some.inj h

theorem Ran.step {p : Int} {n : Nat} {L : List (List Int)} {ys ts us : List Int} {k : Nat} {t : Int} (h : Ran p n L ys ts k us) (hx : ts[k]? = some t) (hf : fireOk p n L us t = true) : Ran p n L ys ts (k + 1) (firedL L us t) := by
  have e := drop_at hx
  refine ⟨?_, ?_, fireOk_good hf, (firedL_len _ _ _).trans h.len⟩
  · rw [h.l, e]; simp only [runL]; rw [if_pos hf]
  · rw [h.m, e]; simp only [runN]; rw [if_pos hf]; omega

theorem Ran.stop {p : Int} {n : Nat} {L : List (List Int)} {ys ts us : List Int} {k : Nat} {t : Int} (h : Ran p n L ys ts k us) (hx : ts[k]? = some t) (hf : fireOk p n L us t = false) : runL p n L ys ts = us ∧ runN p n L ys ts = k := by
  have e := drop_at hx
  refine ⟨?_, ?_⟩
  · rw [h.l, e]; simp only [runL]; rw [hf]; rfl
  · rw [h.m, e]; simp only [runN]; rw [hf]; rfl

theorem Ran.done {p : Int} {n : Nat} {L : List (List Int)} {ys ts us : List Int} {k : Nat} (h : Ran p n L ys ts k us) (hk : ts.length = k) : runL p n L ys ts = us ∧ runN p n L ys ts = k := by
  have e : ts.drop k = [] := List.drop_eq_nil_of_le (by omega)
  exact ⟨by rw [h.l, e]; rfl, by rw [h.m, e]; rfl⟩

/-- A list, a number and a bool; nothing that was there is written. -/
def AEnd (g : Bool) (r : List Int) (m : Nat) (w : World) (e : Ending) (w' : World) : Prop := ∃ a n c, e = .returned (.tuple #[.slice a n c, .int .i64 (m : Int), .bool g]) ∧ Row w' a n r ∧ Below w.heap.size w w'

theorem aend_no {p : Int} {n : Nat} {L : List (List Int)} {ys ts : List Int} {w w' : World} (h : allOk p n L ys ts = false) (hb : Below w.heap.size w w') : AEnd (allOk p n L ys ts) (faR p n L ys ts) (faN p n L ys ts) w (.returned (.tuple #[.slice none 0 0, .int .i64 0, .bool false])) w' := by
  refine ⟨none, 0, 0, ?_, ⟨?_, .inl rfl⟩, hb⟩
  · unfold faN; rw [h]; rfl
  · unfold faR; rw [h]; rfl

theorem aend_yes {p : Int} {n : Nat} {L : List (List Int)} {ys ts us : List Int} {k : Nat} {w w' : World} {a : Option Addr} {m c : Nat} (h : allOk p n L ys ts = true) (hh : runL p n L ys ts = us ∧ runN p n L ys ts = k) (hr : Row w' a m us) (hb : Below w.heap.size w w') :
    AEnd (allOk p n L ys ts) (faR p n L ys ts) (faN p n L ys ts) w (.returned (.tuple #[.slice a m c, .int .i64 (k : Int), .bool true])) w' := by
  refine ⟨a, m, c, ?_, ?_, hb⟩
  · unfold faN; rw [h, if_pos rfl, hh.2]
  · unfold faR; rw [h, if_pos rfl, hh.1]; exact hr

theorem allOk_no1 {p : Int} {n : Nat} {L : List (List Int)} {ys ts : List Int} (h : (netOk p n L && goodB p ys) = false) : allOk p n L ys ts = false := by unfold allOk; rw [h]; rfl
theorem allOk_no2 {p : Int} {n : Nat} {L : List (List Int)} {ys ts : List Int} (h : ¬ ts.length ≤ 60) : allOk p n L ys ts = false := by unfold allOk; simp [h]
theorem allOk_no3 {p : Int} {n : Nat} {L : List (List Int)} {ys ts : List Int} (h : allB ts 0 ((n : Int) - 1) = false) : allOk p n L ys ts = false := by unfold allOk; rw [h]; simp
theorem allOk_yes {p : Int} {n : Nat} {L : List (List Int)} {ys ts : List Int} (h : (netOk p n L && goodB p ys) = true) (h2 : ts.length ≤ 60) (h3 : allB ts 0 ((n : Int) - 1) = true) : allOk p n L ys ts = true := by
  unfold allOk; rw [h, h3]; simp [h2]

set_option maxHeartbeats 2000000 in
theorem specFireAll_any (p : Int) (a am at' : Option Addr) (n c nm cm nt ct : Nat) (L : List (List Int)) (ys ts : List Int) (w : World) (h : Lists w a (3 * n) L) (rm : Row w am nm ys) (rt : Row w at' nt ts) (hs : sizeN n L ≤ 1048576) (hnm : nm ≤ 1048576) (hnt : nt ≤ 1048576) :
    Calls Try.prog 9 #[.agg #[.int .i64 p, .slice a n c], .slice am nm cm, .slice at' nt ct] w fun e w' => AEnd (allOk p n L ys ts) (faR p n L ys ts) (faN p n L ys ts) w e w' := by
  have hAl := below_al w (.cells #[.int .i64 p, .slice a n c] 26)
  have PAR := hide (heap_alloc_new w (.cells #[.int .i64 p, .slice a n c] 26))
  have HG := hide (marked_any p a am n c nm cm L ys _ (h.below hAl) (rm.below hAl) hs hnm)
  have HL := hide h
  have RM := hide rm
  have RT := hide rt
  have HB0 := hide hAl
  clear h rm rt hAl
  go_enter Try.func9, Try.ntmps9
  go_wp2_with fail
  generalize w.alloc (.cells #[.int .i64 p, .slice a n c] 26) = v at *
  refine HG.out.mono ?_
  rintro e w1 ⟨rfl, hb⟩
  have PAR1 := hide (keep PAR.out hb)
  have HB1 := hide (HB0.out.trans (hb.mono HB0.out.size))
  obtain ⟨hc0, hc1⟩ := cells2 PAR1.out
  clear HG PAR HB0 hb v
  by_cases g1 : (netOk p n L && goodB p ys) = true
  rotate_left
  · have g1' : (netOk p n L && goodB p ys) = false := by simpa using g1
    have HN := hide (aend_no (w := w) (allOk_no1 (ts := ts) g1') HB1.out)
    rw [g1']
    clear g1 g1'
    go_wp2_with fail
    go_ret3
    exact HN.out
  rw [g1]
  have HG1 := hide g1
  have hgg := g1
  rw [Bool.and_eq_true] at hgg
  have hn24 := netOkN hgg.1
  obtain ⟨⟨hp1, hp2⟩, hyl, hyb⟩ := goodB_parts hgg.2
  have hlm := RM.out.1
  have hlt := RT.out.1
  have HST : Hid (Ran p n L ys ts 0 ys) := Ran.start hgg.2
  clear g1 hgg hyb
  by_cases g2 : nt ≤ 60
  rotate_left
  · have HN := hide (aend_no (w := w) (allOk_no2 (p := p) (n := n) (L := L) (ys := ys) (ts := ts) (by omega)) HB1.out)
    have g2' : (60 : Int) < (nt : Int) := by omega
    clear g2
    go_wp2_with fail
    go_ret3
    exact HN.out
  have g2' : ¬ (60 : Int) < (nt : Int) := by omega
  have HAL := hide (all_any at' nt ct ts 0 ((n : Int) - 1) w1 (RT.out.below HB1.out) hnt)
  by_cases g3 : allB ts 0 ((n : Int) - 1) = true
  rotate_left
  · have g3' : allB ts 0 ((n : Int) - 1) = false := by simpa using g3
    have HN := hide (aend_no (w := w) (allOk_no3 (p := p) (L := L) (ys := ys) g3') HB1.out)
    rw [g3'] at HAL
    clear g3 g3'
    go_wp2_with fail
    refine HAL.out.mono ?_
    rintro e w' ⟨rfl, rfl⟩
    go_wp2_with fail
    go_ret3
    exact HN.out
  have HOK := hide (allOk_yes HG1.out (show ts.length ≤ 60 by omega) g3)
  rw [g3] at HAL
  clear g3 HG1
  obtain ⟨bm, om, rfl⟩ : ∃ bm om, am = some ⟨bm, om, none⟩ := by
    obtain ⟨bm, om, y, he, _⟩ := RM.out.at (show 0 < nm by omega)
    exact ⟨bm, om, he⟩
  have HOW := hide (own_any bm om nm cm ys w1 (RM.out.below HB1.out) hnm)
  go_wp2_with fail
  refine HAL.out.mono ?_
  rintro e w' ⟨rfl, rfl⟩
  clear HAL
  go_wp2_with fail
  refine HOW.out.mono ?_
  rintro e w2 ⟨g, cg, rfl, hg, hcg, hout, hb⟩
  have PAR2 := hide (keep PAR1.out hb)
  have HB2 := hide (HB1.out.trans (hb.mono HB1.out.size))
  have HOUT := hide hout.row
  clear hb hout PAR1 HB1 HOW hc0 hc1 hg hcg g2'
  go_wp2_with fail
  go_loopw [9, 36] (fun o i wr => ∃ (k : Nat) (us : List Int) (ao : Option Addr) (co : Nat), k ≤ nt ∧ i = .int .i64 k ∧ o = .slice ao nm co ∧ Hid (Ran p n L ys ts k us) ∧ Hid (Row wr ao nm us) ∧ Hid (Below w.heap.size w wr) ∧ Hid (wr.heap[w.heap.size]? = some (.cells #[.int .i64 p, .slice a n c] 26 (0, 0)))) (fun _ i _ => nt - (intOf i).toNat)
  case atStart => exact ⟨0, ys, _, _, Nat.zero_le _, rfl, rfl, HST, HOUT, HB2, PAR2⟩
  case round =>
    clear HST HOUT HB2 PAR2
    obtain ⟨k, us, ao, co, hk, rfl, rfl, hran, hrow, hbw, hpar⟩ := hrel
    by_cases hkn : k < nt
    rotate_left
    · have hk' : k = nt := by omega
      subst hk'
      have HY := hide (aend_yes (w := w) (c := co) HOK.out (hran.out.done hlt) hrow.out hbw.out)
      go_wp2_with fail
      go_ret3
      exact HY.out
    obtain ⟨b1, o1, t, rfl, hl1, hc1, H1⟩ := (RT.out.below hbw.out).at hkn
    obtain ⟨hn0, hn1⟩ := cells2 hpar.out
    have HF := hide (specFire_any p a ao n c nm co L us t wr (HL.out.below hbw.out) hrow.out hs hnm)
    go_wp2_with fail
    refine HF.out.mono ?_
    rintro e w3 ⟨a3, n3, c3, rfl, hr3, hb⟩
    have HB3 := hide (hbw.out.trans (hb.mono hbw.out.size))
    have PAR3 := hide (keep hpar.out hb)
    by_cases g : fireOk p n L us t = true
    rotate_left
    · have g' : fireOk p n L us t = false := by simpa using g
      have HY := hide (aend_yes (w := w) (c := co) HOK.out (hran.out.stop H1.out g') (hrow.out.below hb) HB3.out)
      rw [g']
      clear g g' hr3 hb hc1 hl1 hn0 hn1 HF H1
      go_wp2_with fail
      go_ret3
      exact HY.out
    have hfr : fireR p n L us t = firedL L us t := by unfold fireR; rw [g]; rfl
    rw [hfr] at hr3
    have HR2 := hide (hran.out.step H1.out g)
    have hn3 : n3 = nm := by have h1 := hr3.1; have h2 := HR2.out.len; omega
    subst hn3
    have HR3 := hide hr3
    rw [g]
    clear g hr3 hb hc1 hl1 hn0 hn1 HF H1 hfr hran hrow
    go_wp2_with fail
    go_roundw
    case rel => exact ⟨k + 1, _, _, _, by omega, by go_num, rfl, HR2, HR3, HB3, PAR3⟩
    case measure => simp [intOf]; omega
end Go.Proofs.Ytbobppcnmpiacaa
