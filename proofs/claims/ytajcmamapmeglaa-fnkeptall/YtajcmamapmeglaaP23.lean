/- Contracts that the proof stands on, one behind the other. -/
import Derived.Test.YtajcmamapmeglaaP22
/- FireAll of the program: whether a list has a number that is no transition's (slices.ContainsFunc with a bound method), then one firing behind the other. -/
namespace Go.Proofs.Ytajcmamapmeglaa
open Go.RowKit
set_option maxRecDepth 10000

theorem lackUpto {ts : List Int} {n k : Nat} {t : Int} (h : allB (ts.take k) 0 ((n : Int) - 1) = true) (hx : ts[k]? = some t) (hi : inB t 0 ((n : Int) - 1) = true) : allB (ts.take (k + 1)) 0 ((n : Int) - 1) = true := by
  unfold allB at *
  rw [List.take_add_one, hx, List.all_append, h]
  simp [hi]

/-- Where the first number is that is no transition's, or -1. -/
def LaEnd (g : Bool) (w : World) (e : Ending) (w' : World) : Prop := ∃ z : Int, e = .returned (.int .i64 z) ∧ Hid (decide (0 ≤ z) = !g) ∧ Below w.heap.size w w'

set_option maxHeartbeats 1000000 in
theorem lackIx_any (p : Int) (a at' : Option Addr) (n c nt ct : Nat) (ts : List Int) (w : World) (rt : Row w at' nt ts) (hnt : nt ≤ 1048576) :
    Calls Try.prog 119 #[.slice at' nt ct, .func (.func 64) #[.agg #[.int .i64 p, .slice a n c]] #[]] w fun e w' => LaEnd (allB ts 0 ((n : Int) - 1)) w e w' := by
  have HT := hide rt
  have hlt := rt.1
  clear rt
  go_enter Try.func119, Try.ntmps119
  go_wp2_with fail
  go_loopw [8] (fun i wr => ∃ k : Nat, k ≤ nt ∧ i = .int .i64 k ∧ Hid (allB (ts.take k) 0 ((n : Int) - 1) = true) ∧ Hid (Below w.heap.size w wr)) (fun i _ => nt - (intOf i).toNat)
  case atStart => exact ⟨0, Nat.zero_le _, rfl, rfl, Below.refl _ _⟩
  case round =>
    obtain ⟨k, hk, rfl, hu, hbw⟩ := hrel
    by_cases hkn : k < nt
    rotate_left
    · have hk' : k = nt := by omega
      subst hk'
      have HE : Hid (LaEnd (allB ts 0 ((n : Int) - 1)) w (.returned (.int .i64 (-1))) wr) := ⟨-1, rfl, by have := hu.out; rw [List.take_of_length_le (by omega)] at this; rw [this]; rfl, hbw.out⟩
      go_wp2_with fail
      go_ret
      exact HE.out
    obtain ⟨b1, o1, t, rfl, hl1, hc1, H1⟩ := (HT.out.below hbw.out).at hkn
    have HH := hide (lacks_any p t a n c wr)
    have HB := hide (hbw.out.trans ((below_al wr (.cells #[.int .i64 p, .slice a n c] 59)).mono hbw.out.size))
    by_cases hi : inB t 0 ((n : Int) - 1) = true
    · have HU := hide (lackUpto hu.out H1.out hi)
      rw [hi] at HH
      clear hi hu H1
      go_wp2_with fail
      refine HH.out.mono ?_
      rintro e w1 ⟨rfl, rfl⟩
      clear HH hc1 hl1
      go_wp2_with fail
      go_roundw
      case rel => exact ⟨k + 1, by omega, by go_num, HU, HB⟩
      case measure => simp [intOf]; omega
    · have hi' : inB t 0 ((n : Int) - 1) = false := by simpa using hi
      have HE : Hid (LaEnd (allB ts 0 ((n : Int) - 1)) w (.returned (.int .i64 (k : Int))) (wr.alloc (.cells #[.int .i64 p, .slice a n c] 59))) := ⟨k, rfl, by rw [allB_no H1 hi']; simp [Hid], HB.out⟩
      rw [hi'] at HH
      clear hi hi' hu H1
      go_wp2_with fail
      refine HH.out.mono ?_
      rintro e w1 ⟨rfl, rfl⟩
      clear HH hc1 hl1
      go_wp2_with fail
      go_ret
      exact HE.out

set_option maxHeartbeats 400000 in
theorem lackC_any (p : Int) (a at' : Option Addr) (n c nt ct : Nat) (ts : List Int) (w : World) (rt : Row w at' nt ts) (hnt : nt ≤ 1048576) :
    Calls Try.prog 63 #[.slice at' nt ct, .func (.func 64) #[.agg #[.int .i64 p, .slice a n c]] #[]] w fun e w' => e = .returned (.bool (!allB ts 0 ((n : Int) - 1))) ∧ Below w.heap.size w w' := by
  have HI := hide (lackIx_any p a at' n c nt ct ts w rt hnt)
  clear rt
  go_enter Try.func63, Try.ntmps63
  go_wp2_with fail
  refine HI.out.mono ?_
  rintro e w1 ⟨z, rfl, hz, hb⟩
  have HB := hide hb
  clear hb HI
  go_wp2_with fail
  go_ret
  exact ⟨ret_bool hz.out, HB.out⟩

/-- By sets as by lists: the tokens behind a step. -/
theorem part_fOf {p : Int} {n nm : Nat} {L : List (List Int)} {ys : List Int} {t : Int} (hnet : netOk p n L = true) (hg : goodB p ys = true) (hl : ys.length = nm) (hf : fireOk p n L ys t = true) :
    partF (maskL (inOf L t)) (maskL (outOf L t)) (maskL (resOf L t)) (fOf ys nm) 16 = fOf (firedL L ys t) nm := by
  obtain ⟨hp, hlp, hy⟩ := goodB_parts hg
  have hnm : (nm : Int) = p := by omega
  have g2 : inB t 0 ((n : Int) - 1) = true := by unfold fireOk at hf; simp only [Bool.and_eq_true] at hf; exact hf.1.1.2
  have ht : 0 ≤ t ∧ t ≤ (n : Int) - 1 := by simpa [inB] using g2
  obtain ⟨h0, h1, h2⟩ := tri_rise (triOkOf hnet (show t.toNat < n by omega))
  funext i
  unfold partF
  by_cases hi : i < 16
  · rw [if_pos hi]
    have := step_fire (x0 := inOf L t) (x1 := outOf L t) (x2 := resOf L t) hnm hl h0 h1 h2 i
    rw [this]
    rfl
  · rw [if_neg hi]
    unfold fOf
    rw [if_neg (by omega), if_neg (by omega)]

/-- A list in a block of its own, a number and a bool; nothing that was there is written. -/
def BEnd (g : Bool) (r : List Int) (m : Nat) (w : World) (e : Ending) (w' : World) : Prop :=
  ∃ a b n, e = .returned (.tuple #[.slice a n n, .int .i64 (m : Int), .bool g]) ∧ Blk w' a b n r ∧ w.heap.size ≤ b ∧ Below w.heap.size w w'

theorem bend_no {p : Int} {n : Nat} {L : List (List Int)} {ys ts : List Int} {w w' : World} (h : allOk p n L ys ts = false) (hb : Below w.heap.size w w') : BEnd (allOk p n L ys ts) (faR p n L ys ts) (faN p n L ys ts) w (.returned (.tuple #[.slice none 0 0, .int .i64 0, .bool false])) w' := by
  refine ⟨none, w.heap.size, 0, ?_, ⟨?_, .inl rfl⟩, Nat.le_refl _, hb⟩
  · unfold faN; rw [h]; rfl
  · unfold faR; rw [h]; rfl

theorem bend_yes {p : Int} {n : Nat} {L : List (List Int)} {ys ts us : List Int} {k : Nat} {w w' : World} {b m : Nat} (h : allOk p n L ys ts = true) (hh : runL p n L ys ts = us ∧ runN p n L ys ts = k) (hl : us.length = m) (hw : w'.heap[b]? = some (.cells (cellsOf us) 3 (0, 0))) (hB : w.heap.size ≤ b) (hb : Below w.heap.size w w') :
    BEnd (allOk p n L ys ts) (faR p n L ys ts) (faN p n L ys ts) w (.returned (.tuple #[.slice (some ⟨b, 0, none⟩) m m, .int .i64 (k : Int), .bool true])) w' := by
  have hr : faR p n L ys ts = us := by unfold faR; rw [h, if_pos rfl, hh.1]
  refine ⟨_, b, m, ?_, ⟨by rw [hr]; exact hl, .inr ⟨rfl, by rw [hr]; exact hw⟩⟩, hB, hb⟩
  unfold faN; rw [h, if_pos rfl, hh.2]

theorem listFr_fOf {us : List Int} {l : Nat} (h : us.length = l) : listF (fOf us l) l = us := by
  apply List.ext_getElem?
  intro i
  by_cases hi : i < l
  · have := listF_at (fOf us l) l i hi
    rw [List.getD_eq_getElem?_getD, List.getElem?_eq_getElem (by rw [listF_len]; exact hi)] at this
    rw [List.getElem?_eq_getElem (by rw [listF_len]; exact hi), List.getElem?_eq_getElem (by omega)]
    simp only [Option.getD_some] at this
    rw [this]
    unfold fOf
    rw [if_pos hi, List.getD_eq_getElem?_getD, List.getElem?_eq_getElem (by omega)]
    rfl
  · rw [List.getElem?_eq_none (by rw [listF_len]; omega), List.getElem?_eq_none (by omega)]

theorem fOf_small {p : Int} {us : List Int} {l : Nat} (h : goodB p us = true) : ∀ i, 0 ≤ fOf us l i ∧ fOf us l i ≤ 50 := by
  intro i; unfold fOf; split
  · exact (goodB_parts h).2.2 i
  · omega

/-- What FireAll keeps in mind, round by round: its net's steps, and the tokens of the mark that it stands at. -/
structure FaSt (w v : World) (p : Int) (n : Nat) (L : List (List Int)) (B b9 : Nat) (us : List Int) (l : Nat) : Prop where
  old : Below w.heap.size w v
  net : v.heap[b9]? = some (.cells #[.int .i64 p, .slice (some ⟨B, 0, none⟩) n n] 59 (0, 0))
  tok : v.heap[b9 + 1]? = some (.cells (tokF (fOf us l)) 74 (0, 0))
  ps : PartS v B (3 * n) (3 * n) L

theorem FaSt.grow {w v v' : World} {p : Int} {n : Nat} {L : List (List Int)} {B b9 : Nat} {us : List Int} {l : Nat} (h : FaSt w v p n L B b9 us l) (hb : Below v.heap.size v v') : FaSt w v' p n L B b9 us l :=
  ⟨h.old.trans (hb.mono h.old.size), keep h.net hb, keep h.tok hb, h.ps.grow hb⟩

theorem FaSt.set {w v : World} {p : Int} {n : Nat} {L : List (List Int)} {B b9 g : Nat} {us : List Int} {l : Nat} (h : FaSt w v p n L B b9 us l) (hg : b9 + 1 < g) (hB : B < b9) (hw : w.heap.size ≤ b9) (cs : Array Value) : FaSt w (v.setRow g cs) p n L B b9 us l :=
  ⟨below_setRow h.old g (by omega) cs, keepR h.net (by omega) cs, keepR h.tok (by omega) cs, h.ps.setRow (by omega) cs⟩

theorem FaSt.put {w v : World} {p : Int} {n : Nat} {L : List (List Int)} {B b9 : Nat} {us us' : List Int} {l : Nat} (h : FaSt w v p n L B b9 us l) (hB : B < b9) (hw : w.heap.size ≤ b9) : FaSt w (v.setRow (b9 + 1) (tokF (fOf us' l))) p n L B b9 us' l :=
  ⟨below_setRow h.old _ (by omega) _, keepR h.net (by omega) _, setRow_same h.tok _, h.ps.setRow (by omega) _⟩

set_option maxHeartbeats 4000000 in
theorem implFireAll_any (p : Int) (a am at' : Option Addr) (n c nm cm nt ct : Nat) (L : List (List Int)) (ys ts : List Int) (w : World) (h : Lists w a (3 * n) L) (rm : Row w am nm ys) (rt : Row w at' nt ts) (hs : sizeN n L ≤ 1048576) (hnm : nm ≤ 1048576) (hnt : nt ≤ 1048576) :
    Calls Try.prog 14 #[.agg #[.int .i64 p, .slice a n c], .slice am nm cm, .slice at' nt ct] w fun e w' => BEnd (allOk p n L ys ts) (faR p n L ys ts) (faN p n L ys ts) w e w' := by
  have hAl := below_al w (.cells #[.int .i64 p, .slice a n c] 26)
  have HT := hide (netTok_any p a am n c nm cm L ys _ (h.below hAl) (rm.below hAl) hs hnm)
  have HLY := hide rm.1
  have RT := hide rt
  have hlt := rt.1
  have HB0 := hide hAl
  clear h rm rt hAl
  go_enter Try.func14, Try.ntmps14
  go_wp2_with fail
  refine HT.out.mono ?_
  rintro e w1 ⟨p', a', m', c', l, rfl, hx, hb⟩
  have hz := HB0.out.size
  have HB1 := hide (HB0.out.trans (hb.mono HB0.out.size))
  have hz1 := HB1.out.size
  have hA1 := below_al w1 (.cells #[.int .i64 p', .slice a' m' c'] 59)
  have hA2 := below_al (w1.alloc (.cells #[.int .i64 p', .slice a' m' c'] 59)) (.cells #[.int .u8 0, .int .u8 0, .int .u8 0, .int .u8 0, .int .u8 0, .int .u8 0, .int .u8 0, .int .u8 0, .int .u8 0, .int .u8 0, .int .u8 0, .int .u8 0, .int .u8 0, .int .u8 0, .int .u8 0, .int .u8 0] 74)
  have hs1 : (w1.alloc (.cells #[.int .i64 p', .slice a' m' c'] 59)).heap.size = w1.heap.size + 1 := by simp
  have hg0 := heap_alloc_new (w1.alloc (.cells #[.int .i64 p', .slice a' m' c'] 59)) (.cells #[.int .u8 0, .int .u8 0, .int .u8 0, .int .u8 0, .int .u8 0, .int .u8 0, .int .u8 0, .int .u8 0, .int .u8 0, .int .u8 0, .int .u8 0, .int .u8 0, .int .u8 0, .int .u8 0, .int .u8 0, .int .u8 0] 74)
  rw [hs1] at hg0
  clear hb HT HB0
  by_cases g1 : (netOk p n L && goodB p ys) = true
  rotate_left
  · have g1' : (netOk p n L && goodB p ys) = false := by simpa using g1
    have HN := hide (fun W (hW : Below w.heap.size w W) => bend_no (w := w) (allOk_no1 (ts := ts) g1') hW)
    rw [g1']
    have HBX := hide (below_setRow ((HB1.out.alloc HB1.out.size (.cells #[.int .i64 p', .slice a' m' c'] 59)).alloc (by simp; omega) (.cells #[.int .u8 0, .int .u8 0, .int .u8 0, .int .u8 0, .int .u8 0, .int .u8 0, .int .u8 0, .int .u8 0, .int .u8 0, .int .u8 0, .int .u8 0, .int .u8 0, .int .u8 0, .int .u8 0, .int .u8 0, .int .u8 0] 74)) (w1.heap.size + 1) (by omega) (packOf ys l))
    clear g1 g1' hx
    go_wp2_with (refine wpList_store_row rfl 74 _ _ rfl _ _ rfl rfl 74 _ hg0 (by rw [packOf_size]; exact Try.size74) (by rw [packOf_size]; rfl) (packOf_one _ _) ?_)
    go_ret3
    exact HN.out _ HBX.out
  have hgg := g1
  rw [Bool.and_eq_true] at hgg
  obtain ⟨e1, e2, e3, e4, B, e5, e6, e7⟩ := hx.out g1
  subst e1 e2 e3 e4 e5
  rw [g1]
  have hAA := hA1.trans (hA2.mono hA1.size)
  have hBl : B < w1.heap.size := by obtain ⟨C, q1, _⟩ := e7; exact (Array.getElem?_eq_some_iff.mp q1).1
  have hg1 := setRow_same hg0 (packOf ys l)
  have HST : Hid (FaSt w ((((w1.alloc (.cells #[.int .i64 p', .slice (some ⟨B, 0, none⟩) c' c'] 59)).alloc (.cells #[.int .u8 0, .int .u8 0, .int .u8 0, .int .u8 0, .int .u8 0, .int .u8 0, .int .u8 0, .int .u8 0, .int .u8 0, .int .u8 0, .int .u8 0, .int .u8 0, .int .u8 0, .int .u8 0, .int .u8 0, .int .u8 0] 74)).setRow (w1.heap.size + 1) (packOf ys l))) p' c' L B w1.heap.size ys l) :=
    ⟨below_setRow (HB1.out.trans (hAA.mono HB1.out.size)) _ (by omega) _, keepR (keep (heap_alloc_new w1 _) hA2) (by omega) _, hg1, (e7.grow hAA).setRow (by omega) _⟩
  have HGP := hide hgg
  have hn24 := netOkN hgg.1
  have HRA : Hid (Ran p' c' L ys ts 0 ys) := Ran.start hgg.2
  obtain ⟨hq0, hq1⟩ := cells2 HST.out.net
  have HG1 := hide g1
  clear e6 e7 hx hAA hA1 hA2 g1 hgg hs1
  by_cases g2 : nt ≤ 60
  rotate_left
  · have HN := hide (bend_no (w := w) (allOk_no2 (p := p') (n := c') (L := L) (ys := ys) (ts := ts) (by omega)) HST.out.old)
    have g2' : (60 : Int) < (nt : Int) := by omega
    clear g2 HST HRA
    go_wp2_with (refine wpList_store_row rfl 74 _ _ rfl _ _ rfl rfl 74 _ hg0 (by rw [packOf_size]; exact Try.size74) (by rw [packOf_size]; rfl) (packOf_one _ _) ?_)
    go_ret3
    exact HN.out
  have g2' : ¬ (60 : Int) < (nt : Int) := by omega
  have hs2 := HST.out.old.size
  go_wp2_with (refine wpList_store_row rfl 74 _ _ rfl _ _ rfl rfl 74 _ hg0 (by rw [packOf_size]; exact Try.size74) (by rw [packOf_size]; rfl) (packOf_one _ _) ?_)
  obtain ⟨V, hV⟩ : ∃ V, Hid ((((w1.alloc (.cells #[.int .i64 p', .slice (some ⟨B, 0, none⟩) c' c'] 59)).alloc (.cells #[.int .u8 0, .int .u8 0, .int .u8 0, .int .u8 0, .int .u8 0, .int .u8 0, .int .u8 0, .int .u8 0, .int .u8 0, .int .u8 0, .int .u8 0, .int .u8 0, .int .u8 0, .int .u8 0, .int .u8 0, .int .u8 0] 74)).setRow (w1.heap.size + 1) (packOf ys l)) = V) := ⟨_, rfl⟩
  rw [hV.out] at HST hs2 ⊢
  clear hq0 hq1 hg0 hg1 hV
  refine (lackC_any p' (some ⟨B, 0, none⟩) at' c' c' nt ct ts V (RT.out.below HST.out.old) hnt).mono ?_
  rintro e w2 ⟨rfl, hb⟩
  have HS2 := hide (HST.out.grow hb)
  clear hb HST hs2 V
  by_cases g3 : allB ts 0 ((c' : Int) - 1) = true
  rotate_left
  · have g3' : allB ts 0 ((c' : Int) - 1) = false := by simpa using g3
    have HN := hide (bend_no (w := w) (allOk_no3 (p := p') (L := L) (ys := ys) g3') HS2.out.old)
    rw [g3']
    clear g3 g3' HS2 HRA
    go_wp2_with fail
    go_ret3
    exact HN.out
  rw [g3]
  have HOK := hide (allOk_yes HG1.out (show ts.length ≤ 60 by omega) g3)
  clear g3 HG1
  have hpl : p' = (l : Int) := by have := (goodB_parts HGP.out.2).2.1; have := HLY.out; omega
  subst hpl
  obtain ⟨hp1, hp2⟩ := (goodB_parts HGP.out.2).1
  have hl16 : l ≤ 16 := by omega
  obtain ⟨b9, hb9⟩ : ∃ b, Hid (w1.heap.size = b) := ⟨_, rfl⟩
  rw [hb9.out] at HS2 hBl hz1 ⊢
  clear g2' hz HB1 hb9
  go_wp2_with fail
  go_loopw [12, 39] (fun f i wr => ∃ (k : Nat) (us : List Int), k ≤ nt ∧ i = .int .i64 k ∧ f = .int .i64 k ∧ Hid (Ran (l : Int) c' L ys ts k us) ∧ Hid (FaSt w wr (l : Int) c' L B b9 us l)) (fun _ i _ => nt - (intOf i).toNat)
  case atStart => exact ⟨0, ys, Nat.zero_le _, rfl, rfl, HRA, HS2⟩
  case round =>
    clear HRA HS2
    obtain ⟨k, us, hk, rfl, rfl, hran, hst⟩ := hrel
    obtain ⟨hq0, hq1⟩ := cells2 hst.out.net
    have hlu : us.length = l := by have := hran.out.len; have := HLY.out; omega
    have hr1 := hst.out.tok
    by_cases hkn : k < nt
    rotate_left
    · have hk' : k = nt := by omega
      subst hk'
      have HR := hide (hran.out.done hlt)
      have HLS := hide (list_any (fOf us l) l wr hl16 (fun i => by have := fOf_small (l := l) hran.out.good i; omega))
      rw [listFr_fOf hlu] at HLS
      have HY := hide (bend_yes (w := w) (b := wr.heap.size + 1) (m := l) HOK.out HR.out hlu (heap_alloc2_new wr (.cells (tokF (fOf us l)) 74) (.cells (cellsOf us) 3)) (by have := hst.out.old.size; omega) (hst.out.old.trans ((below_two wr (.cells (tokF (fOf us l)) 74) (.cells (cellsOf us) 3)).mono hst.out.old.size)))
      clear HR hran hst
      go_wp2_with (refine wpList_load_row rfl 74 (.tmp 10) rfl _ rfl 74 (tokF (fOf us l)) (0, 0) _ hr1 Try.underlying74 rfl (by rw [tokF_size]; exact Try.size74) ?_)
      refine HLS.out.mono ?_
      rintro e w3 ⟨rfl, rfl⟩
      clear HLS
      go_wp2_with fail
      go_ret3
      exact HY.out
    obtain ⟨b1, o1, t, rfl, hl1, hc1, H1⟩ := (RT.out.below hst.out.old).at hkn
    have HFI := hide (fireI_any (l : Int) t B c' c' L (fOf us l) wr hst.out.ps HGP.out.1 ⟨hp1, hp2⟩ (fOf_small hran.out.good))
    have HEQ := hide (fire_eq (t := t) HGP.out.1 hran.out.good hlu)
    go_wp2_with (refine wpList_load_row rfl 74 (.tmp 10) rfl _ rfl 74 (tokF (fOf us l)) (0, 0) _ hr1 Try.underlying74 rfl (by rw [tokF_size]; exact Try.size74) ?_)
    refine HFI.out.mono ?_
    rintro e w3 ⟨h, rfl, hh, hb⟩
    rw [HEQ.out.1] at hh ⊢
    have hA3 := below_al w3 (.cells #[.int .u8 0, .int .u8 0, .int .u8 0, .int .u8 0, .int .u8 0, .int .u8 0, .int .u8 0, .int .u8 0, .int .u8 0, .int .u8 0, .int .u8 0, .int .u8 0, .int .u8 0, .int .u8 0, .int .u8 0, .int .u8 0] 74)
    have hg0 := heap_alloc_new w3 (.cells #[.int .u8 0, .int .u8 0, .int .u8 0, .int .u8 0, .int .u8 0, .int .u8 0, .int .u8 0, .int .u8 0, .int .u8 0, .int .u8 0, .int .u8 0, .int .u8 0, .int .u8 0, .int .u8 0, .int .u8 0, .int .u8 0] 74)
    have hg1 := setRow_same hg0 (tokF h)
    have hlb := row_lt hst.out.tok
    have hz3 := hb.size
    have HS4 := hide (((hst.out.grow hb).grow hA3).set (g := w3.heap.size) (by omega) hBl hz1 (tokF h))
    have hr4 := HS4.out.tok
    obtain ⟨hs0, hs1⟩ := cells2 HS4.out.net
    clear hq0 hq1 hr1 hA3 HFI hb hc1 hl1 hst
    by_cases g : fireOk (l : Int) c' L us t = true
    rotate_left
    · have g' : fireOk (l : Int) c' L us t = false := by simpa using g
      have HR := hide (hran.out.stop H1.out g')
      have HSM : Hid (∀ i, 0 ≤ fOf us l i ∧ fOf us l i ≤ 255) := fun i => by have := fOf_small (l := l) hran.out.good i; omega
      rw [g']
      clear g g' hh H1 hran HEQ
      go_wp2_with (first
        | refine wpList_store_row rfl 74 (.tmp 15) _ rfl _ _ rfl rfl 74 _ hg0 (by rw [tokF_size]; exact Try.size74) (by rw [tokF_size]; rfl) (tokF_one _) ?_
        | refine wpList_load_row rfl 74 (.tmp 10) rfl _ rfl 74 (tokF (fOf us l)) (0, 0) _ hr4 Try.underlying74 rfl (by rw [tokF_size]; exact Try.size74) ?_)
      obtain ⟨V2, hV2⟩ : ∃ V2, Hid ((w3.alloc (.cells #[.int .u8 0, .int .u8 0, .int .u8 0, .int .u8 0, .int .u8 0, .int .u8 0, .int .u8 0, .int .u8 0, .int .u8 0, .int .u8 0, .int .u8 0, .int .u8 0, .int .u8 0, .int .u8 0, .int .u8 0, .int .u8 0] 74)).setRow w3.heap.size (tokF h) = V2) := ⟨_, rfl⟩
      rw [hV2.out] at HS4 ⊢
      clear hg0 hg1 hr4 hs0 hs1 hV2
      have HLS := hide (list_any (fOf us l) l V2 hl16 HSM.out)
      rw [listFr_fOf hlu] at HLS
      have HY := hide (bend_yes (w := w) (b := V2.heap.size + 1) (m := l) HOK.out HR.out hlu (heap_alloc2_new V2 (.cells (tokF (fOf us l)) 74) (.cells (cellsOf us) 3)) (by have := HS4.out.old.size; omega) (HS4.out.old.trans ((below_two V2 (.cells (tokF (fOf us l)) 74) (.cells (cellsOf us) 3)).mono HS4.out.old.size)))
      clear HR HS4 HSM
      refine HLS.out.mono ?_
      rintro e w5 ⟨rfl, rfl⟩
      clear HLS
      go_wp2_with fail
      go_ret3
      exact HY.out
    have hh3 := (hh.out g).trans (part_fOf HGP.out.1 hran.out.good hlu g)
    subst hh3
    have HR2 := hide (hran.out.step H1.out g)
    have HS5 := hide (HS4.out.put (us' := firedL L us t) hBl hz1)
    rw [g]
    clear g hh H1 hran HEQ HS4 hs0 hs1
    obtain ⟨F, hF⟩ : ∃ F, Hid (tokF (fOf (firedL L us t) l) = F) := ⟨_, rfl⟩
    have hF1 : F.size = 16 := by rw [← hF.out]; exact tokF_size _
    have hF2 : F.all (·.oneCell') = true := by rw [← hF.out]; exact tokF_one _
    rw [hF.out] at hg1 hr4 HS5 ⊢
    go_wp2_with (first
      | refine wpList_store_row rfl 74 (.tmp 15) _ rfl _ _ rfl rfl 74 _ hg0 (by rw [hF1]; exact Try.size74) (by rw [hF1]; rfl) hF2 ?_
      | refine wpList_load_row rfl 74 (.tmp 15) rfl _ rfl 74 F (0, 0) _ hg1 Try.underlying74 rfl (by rw [hF1]; exact Try.size74) ?_
      | refine wpList_store_row rfl 74 (.tmp 10) _ rfl _ _ rfl rfl 74 _ hr4 (by rw [hF1]; exact Try.size74) (by rw [hF1, tokF_size]) hF2 ?_)
    go_roundw
    case rel => exact ⟨k + 1, _, by omega, by go_num, by go_num, HR2, HS5⟩
    case measure => simp [intOf]; omega
end Go.Proofs.Ytajcmamapmeglaa
