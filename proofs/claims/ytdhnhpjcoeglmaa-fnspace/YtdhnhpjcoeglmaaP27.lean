/- Contracts that the proof stands on, one behind the other. -/
import Derived.Test.YtdhnhpjcoeglmaaP26
/- FireAll of the program: whether a list has a number that is no transition's (slices.ContainsFunc with a bound method), then one firing behind the other. -/
namespace Go.Proofs.Ytdhnhpjcoeglmaa
open Go.RowKit
set_option maxRecDepth 10000

theorem lackUpto {ts : List Int} {n k : Nat} {t : Int} (h : allB (ts.take k) 0 ((n : Int) - 1) = true) (hx : ts[k]? = some t) (hi : inB t 0 ((n : Int) - 1) = true) : allB (ts.take (k + 1)) 0 ((n : Int) - 1) = true := by
  unfold allB at *
  rw [List.take_add_one, hx, List.all_append, h]
  simp [hi]

/-- Where the first number is that is no transition's, or -1. -/
def LaEnd (g : Bool) (w : World) (e : Ending) (w' : World) : Prop := ∃ z : Int, e = .returned (.int .i64 z) ∧ Hid (decide (0 ≤ z) = !g) ∧ Below w.heap.size w w'

set_option maxHeartbeats 1000000 in
theorem lackIx_any (p : Int) (a at' : Option Addr) (n c nt ct : Nat) (ts : List Int) (w : World) (rt : Row w at' nt ts) (hnt : nt ≤ 1048576) :
    Calls Try.prog 148 #[.slice at' nt ct, .func (.func 97) #[.agg #[.int .i64 p, .slice a n c]] #[]] w fun e w' => LaEnd (allB ts 0 ((n : Int) - 1)) w e w' := by
  have HT := hide rt
  have hlt := rt.1
  clear rt
  go_enter Try.func148, Try.ntmps148
  go_wp2_with fail
  go_loopw [8] (fun i wr => ∃ k : Nat, k ≤ nt ∧ i = .int .i64 k ∧ Hid (allB (ts.take k) 0 ((n : Int) - 1) = true) ∧ Hid (Below w.heap.size w wr)) (fun i _ => nt - (intOf i).toNat)
  case atStart => exact ⟨0, Nat.zero_le _, rfl, rfl, Below.refl _ _⟩
  case round =>
    obtain ⟨k, hk, rfl, hu, hbw⟩ := hrel
    by_cases hkn : k < nt
    rotate_left
    · have hk' : k = nt := by omega
      subst hk'
      have HE : Hid (LaEnd (allB ts 0 ((n : Int) - 1)) w (.returned (.int .i64 (-1))) wr) := ⟨-1, rfl, by have := hu.out; rw [List.take_of_length_le (by omega)] at this; rw [this]; rfl, hbw.out⟩
      go_wp2_with fail
      go_ret
      exact HE.out
    obtain ⟨b1, o1, t, rfl, hl1, hc1, H1⟩ := (HT.out.below hbw.out).at hkn
    have HH := hide (lacks_any p t a n c wr)
    have HB := hide (hbw.out.trans ((below_al wr (.cells #[.int .i64 p, .slice a n c] 82)).mono hbw.out.size))
    by_cases hi : inB t 0 ((n : Int) - 1) = true
    · have HU := hide (lackUpto hu.out H1.out hi)
      rw [hi] at HH
      clear hi hu H1
      go_wp2_with fail
      refine HH.out.mono ?_
      rintro e w1 ⟨rfl, rfl⟩
      clear HH hc1 hl1
      go_wp2_with fail
      go_roundw
      case rel => exact ⟨k + 1, by omega, by go_num, HU, HB⟩
      case measure => simp [intOf]; omega
    · have hi' : inB t 0 ((n : Int) - 1) = false := by simpa using hi
      have HE : Hid (LaEnd (allB ts 0 ((n : Int) - 1)) w (.returned (.int .i64 (k : Int))) (wr.alloc (.cells #[.int .i64 p, .slice a n c] 82))) := ⟨k, rfl, by rw [allB_no H1 hi']; simp [Hid], HB.out⟩
      rw [hi'] at HH
      clear hi hi' hu H1
      go_wp2_with fail
      refine HH.out.mono ?_
      rintro e w1 ⟨rfl, rfl⟩
      clear HH hc1 hl1
      go_wp2_with fail
      go_ret
      exact HE.out

set_option maxHeartbeats 400000 in
theorem lackC_any (p : Int) (a at' : Option Addr) (n c nt ct : Nat) (ts : List Int) (w : World) (rt : Row w at' nt ts) (hnt : nt ≤ 1048576) :
    Calls Try.prog 96 #[.slice at' nt ct, .func (.func 97) #[.agg #[.int .i64 p, .slice a n c]] #[]] w fun e w' => e = .returned (.bool (!allB ts 0 ((n : Int) - 1))) ∧ Below w.heap.size w w' := by
  have HI := hide (lackIx_any p a at' n c nt ct ts w rt hnt)
  clear rt
  go_enter Try.func96, Try.ntmps96
  go_wp2_with fail
  refine HI.out.mono ?_
  rintro e w1 ⟨z, rfl, hz, hb⟩
  have HB := hide hb
  clear hb HI
  go_wp2_with fail
  go_ret
  exact ⟨ret_bool hz.out, HB.out⟩

/-- By sets as by lists: the tokens behind a step. -/
theorem part_fOf {p : Int} {n nm : Nat} {L : List (List Int)} {ys : List Int} {t : Int} (hnet : netOk p n L = true) (hg : goodB p ys = true) (hl : ys.length = nm) (hf : fireOk p n L ys t = true) :
    partF (maskL (inOf L t)) (maskL (outOf L t)) (maskL (resOf L t)) (fOf ys nm) 16 = fOf (firedL L ys t) nm := by
  obtain ⟨hp, hlp, hy⟩ := goodB_parts hg
  have hnm : (nm : Int) = p := by omega
  have g2 : inB t 0 ((n : Int) - 1) = true := by unfold fireOk at hf; simp only [Bool.and_eq_true] at hf; exact hf.1.1.2
  have ht : 0 ≤ t ∧ t ≤ (n : Int) - 1 := by simpa [inB] using g2
  obtain ⟨h0, h1, h2⟩ := tri_rise (triOkOf hnet (show t.toNat < n by omega))
  funext i
  unfold partF
  by_cases hi : i < 16
  · rw [if_pos hi]
    have := step_fire (x0 := inOf L t) (x1 := outOf L t) (x2 := resOf L t) hnm hl h0 h1 h2 i
    rw [this]
    rfl
  · rw [if_neg hi]
    unfold fOf
    rw [if_neg (by omega), if_neg (by omega)]

/-- A list in a block of its own, a number and a bool; nothing that was there is written. -/
def BEnd (g : Bool) (r : List Int) (m : Nat) (w : World) (e : Ending) (w' : World) : Prop :=
  ∃ a b n, e = .returned (.tuple #[.slice a n n, .int .i64 (m : Int), .bool g]) ∧ Blk w' a b n r ∧ w.heap.size ≤ b ∧ Below w.heap.size w w'

theorem bend_no {p : Int} {n : Nat} {L : List (List Int)} {ys ts : List Int} {w w' : World} (h : allOk p n L ys ts = false) (hb : Below w.heap.size w w') : BEnd (allOk p n L ys ts) (faR p n L ys ts) (faN p n L ys ts) w (.returned (.tuple #[.slice none 0 0, .int .i64 0, .bool false])) w' := by
  refine ⟨none, w.heap.size, 0, ?_, ⟨?_, .inl rfl⟩, Nat.le_refl _, hb⟩
  · unfold faN; rw [h]; rfl
  · unfold faR; rw [h]; rfl

theorem bend_yes {p : Int} {n : Nat} {L : List (List Int)} {ys ts us : List Int} {k : Nat} {w w' : World} {b m : Nat} (h : allOk p n L ys ts = true) (hh : runL p n L ys ts = us ∧ runN p n L ys ts = k) (hl : us.length = m) (hw : w'.heap[b]? = some (.cells (cellsOf us) 3 (0, 0))) (hB : w.heap.size ≤ b) (hb : Below w.heap.size w w') :
    BEnd (allOk p n L ys ts) (faR p n L ys ts) (faN p n L ys ts) w (.returned (.tuple #[.slice (some ⟨b, 0, none⟩) m m, .int .i64 (k : Int), .bool true])) w' := by
  have hr : faR p n L ys ts = us := by unfold faR; rw [h, if_pos rfl, hh.1]
  refine ⟨_, b, m, ?_, ⟨by rw [hr]; exact hl, .inr ⟨rfl, by rw [hr]; exact hw⟩⟩, hB, hb⟩
  unfold faN; rw [h, if_pos rfl, hh.2]

theorem listFr_fOf {us : List Int} {l : Nat} (h : us.length = l) : listF (fOf us l) l = us := by
  apply List.ext_getElem?
  intro i
  by_cases hi : i < l
  · have := listF_at (fOf us l) l i hi
    rw [List.getD_eq_getElem?_getD, List.getElem?_eq_getElem (by rw [listF_len]; exact hi)] at this
    rw [List.getElem?_eq_getElem (by rw [listF_len]; exact hi), List.getElem?_eq_getElem (by omega)]
    simp only [Option.getD_some] at this
    rw [this]
    unfold fOf
    rw [if_pos hi, List.getD_eq_getElem?_getD, List.getElem?_eq_getElem (by omega)]
    rfl
  · rw [List.getElem?_eq_none (by rw [listF_len]; omega), List.getElem?_eq_none (by omega)]

theorem fOf_small {p : Int} {us : List Int} {l : Nat} (h : goodB p us = true) : ∀ i, 0 ≤ fOf us l i ∧ fOf us l i ≤ 50 := by
  intro i; unfold fOf; split
  · exact (goodB_parts h).2.2 i
  · omega

/-- What FireAll keeps in mind, round by round: its net's steps, and the tokens of the mark that it stands at. -/
structure FaSt (w v : World) (p : Int) (n : Nat) (L : List (List Int)) (B b9 : Nat) (us : List Int) (l : Nat) : Prop where
  old : Below w.heap.size w v
  net : v.heap[b9]? = some (.cells #[.int .i64 p, .slice (some ⟨B, 0, none⟩) n n] 82 (0, 0))
  tok : v.heap[b9 + 1]? = some (.cells (tokF (fOf us l)) 93 (0, 0))
  ps : PartS v B (3 * n) (3 * n) L

theorem FaSt.grow {w v v' : World} {p : Int} {n : Nat} {L : List (List Int)} {B b9 : Nat} {us : List Int} {l : Nat} (h : FaSt w v p n L B b9 us l) (hb : Below v.heap.size v v') : FaSt w v' p n L B b9 us l :=
  ⟨h.old.trans (hb.mono h.old.size), keep h.net hb, keep h.tok hb, h.ps.grow hb⟩

theorem FaSt.set {w v : World} {p : Int} {n : Nat} {L : List (List Int)} {B b9 g : Nat} {us : List Int} {l : Nat} (h : FaSt w v p n L B b9 us l) (hg : b9 + 1 < g) (hB : B < b9) (hw : w.heap.size ≤ b9) (cs : Array Value) : FaSt w (v.setRow g cs) p n L B b9 us l :=
  ⟨below_setRow h.old g (by omega) cs, keepR h.net (by omega) cs, keepR h.tok (by omega) cs, h.ps.setRow (by omega) cs⟩

theorem FaSt.put {w v : World} {p : Int} {n : Nat} {L : List (List Int)} {B b9 : Nat} {us us' : List Int} {l : Nat} (h : FaSt w v p n L B b9 us l) (hB : B < b9) (hw : w.heap.size ≤ b9) : FaSt w (v.setRow (b9 + 1) (tokF (fOf us' l))) p n L B b9 us' l :=
  ⟨below_setRow h.old _ (by omega) _, keepR h.net (by omega) _, setRow_same h.tok _, h.ps.setRow (by omega) _⟩

set_option maxHeartbeats 4000000 in
theorem implFireAll_any (p : Int) (a am at' : Option Addr) (n c nm cm nt ct : Nat) (L : List (List Int)) (ys ts : List Int) (w : World) (h : Lists w a (3 * n) L) (rm : Row w am nm ys) (rt : Row w at' nt ts) (hs : sizeN n L ≤ 1048576) (hnm : nm ≤ 1048576) (hnt : nt ≤ 1048576) :
    Calls Try.prog 30 #[.agg #[.int .i64 p, .slice a n c], .slice am nm cm, .slice at' nt ct] w fun e w' => BEnd (allOk p n L ys ts) (faR p n L ys ts) (faN p n L ys ts) w e w' := by
  have hAl := below_al w (.cells #[.int .i64 p, .slice a n c] 26)
  have HT := hide (netTok_any p a am n c nm cm L ys _ (h.below hAl) (rm.below hAl) hs hnm)
  have HLY := hide rm.1
  have RT := hide rt
  have hlt := rt.1
  have HB0 := hide hAl
  clear h rm rt hAl
  go_enter Try.func30, Try.ntmps30
  go_wp2_with fail
  refine HT.out.mono ?_
  rintro e w1 ⟨p', a', m', c', l, rfl, hx, hb⟩
  have hz := HB0.out.size
  have HB1 := hide (HB0.out.trans (hb.mono HB0.out.size))
  have hz1 := HB1.out.size
  have hA1 := below_al w1 (.cells #[.int .i64 p', .slice a' m' c'] 82)
  have hA2 := below_al (w1.alloc (.cells #[.int .i64 p', .slice a' m' c'] 82)) (.cells #[.int .u8 0, .int .u8 0, .int .u8 0, .int .u8 0, .int .u8 0, .int .u8 0, .int .u8 0, .int .u8 0, .int .u8 0, .int .u8 0, .int .u8 0, .int .u8 0, .int .u8 0, .int .u8 0, .int .u8 0, .int .u8 0] 93)
  have hs1 : (w1.alloc (.cells #[.int .i64 p', .slice a' m' c'] 82)).heap.size = w1.heap.size + 1 := by simp
  have hg0 := heap_alloc_new (w1.alloc (.cells #[.int .i64 p', .slice a' m' c'] 82)) (.cells #[.int .u8 0, .int .u8 0, .int .u8 0, .int .u8 0, .int .u8 0, .int .u8 0, .int .u8 0, .int .u8 0, .int .u8 0, .int .u8 0, .int .u8 0, .int .u8 0, .int .u8 0, .int .u8 0, .int .u8 0, .int .u8 0] 93)
  rw [hs1] at hg0
  clear hb HT HB0
  by_cases g1 : (netOk p n L && goodB p ys) = true
  rotate_left
  · have g1' : (netOk p n L && goodB p ys) = false := by simpa using g1
    have HN := hide (fun W (hW : Below w.heap.size w W) => bend_no (w := w) (allOk_no1 (ts := ts) g1') hW)
    rw [g1']
    have HBX := hide (below_setRow ((HB1.out.alloc HB1.out.size (.cells #[.int .i64 p', .slice a' m' c'] 82)).alloc (by simp; omega) (.cells #[.int .u8 0, .int .u8 0, .int .u8 0, .int .u8 0, .int .u8 0, .int .u8 0, .int .u8 0, .int .u8 0, .int .u8 0, .int .u8 0, .int .u8 0, .int .u8 0, .int .u8 0, .int .u8 0, .int .u8 0, .int .u8 0] 93)) (w1.heap.size + 1) (by omega) (packOf ys l))
    clear g1 g1' hx
    go_wp2_with (refine wpList_store_row rfl 93 _ _ rfl _ _ rfl rfl 93 _ hg0 (by rw [packOf_size]; exact Try.size93) (by rw [packOf_size]; rfl) (packOf_one _ _) ?_)
    go_ret3
    exact HN.out _ HBX.out
  have hgg := g1
  rw [Bool.and_eq_true] at hgg
  obtain ⟨e1, e2, e3, e4, B, e5, e6, e7⟩ := hx.out g1
  subst e1 e2 e3 e4 e5
  rw [g1]
  have hAA := hA1.trans (hA2.mono hA1.size)
  have hBl : B < w1.heap.size := by obtain ⟨C, q1, _⟩ := e7; exact (Array.getElem?_eq_some_iff.mp q1).1
  have hg1 := setRow_same hg0 (packOf ys l)
  have HST : Hid (FaSt w ((((w1.alloc (.cells #[.int .i64 p', .slice (some ⟨B, 0, none⟩) c' c'] 82)).alloc (.cells #[.int .u8 0, .int .u8 0, .int .u8 0, .int .u8 0, .int .u8 0, .int .u8 0, .int .u8 0, .int .u8 0, .int .u8 0, .int .u8 0, .int .u8 0, .int .u8 0, .int .u8 0, .int .u8 0, .int .u8 0, .int .u8 0] 93)).setRow (w1.heap.size + 1) (packOf ys l))) p' c' L B w1.heap.size ys l) :=
    ⟨below_setRow (HB1.out.trans (hAA.mono HB1.out.size)) _ (by omega) _, keepR (keep (heap_alloc_new w1 _) hA2) (by omega) _, hg1, (e7.grow hAA).setRow (by omega) _⟩
  have HGP := hide hgg
  have hn24 := netOkN hgg.1
  have HRA : Hid (Ran p' c' L ys ts 0 ys) := Ran.start hgg.2
  obtain ⟨hq0, hq1⟩ := cells2 HST.out.net
  have HG1 := hide g1
  clear e6 e7 hx hAA hA1 hA2 g1 hgg hs1
  by_cases g2 : nt ≤ 60
  rotate_left
  · have HN := hide (bend_no (w := w) (allOk_no2 (p := p') (n := c') (L := L) (ys := ys) (ts := ts) (by omega)) HST.out.old)
    have g2' : (60 : Int) < (nt : Int) := by omega
    clear g2 HST HRA
    go_wp2_with (refine wpList_store_row rfl 93 _ _ rfl _ _ rfl rfl 93 _ hg0 (by rw [packOf_size]; exact Try.size93) (by rw [packOf_size]; rfl) (packOf_one _ _) ?_)
    go_ret3
    exact HN.out
  have g2' : ¬ (60 : Int) < (nt : Int) := by omega
  have hs2 := HST.out.old.size
  go_wp2_with (refine wpList_store_row rfl 93 _ _ rfl _ _ rfl rfl 93 _ hg0 (by rw [packOf_size]; exact Try.size93) (by rw [packOf_size]; rfl) (packOf_one _ _) ?_)
  obtain ⟨V, hV⟩ : ∃ V, Hid ((((w1.alloc (.cells #[.int .i64 p', .slice (some ⟨B, 0, none⟩) c' c'] 82)).alloc (.cells #[.int .u8 0, .int .u8 0, .int .u8 0, .int .u8 0, .int .u8 0, .int .u8 0, .int .u8 0, .int .u8 0, .int .u8 0, .int .u8 0, .int .u8 0, .int .u8 0, .int .u8 0, .int .u8 0, .int .u8 0, .int .u8 0] 93)).setRow (w1.heap.size + 1) (packOf ys l)) = V) := ⟨_, rfl⟩
  rw [hV.out] at HST hs2 ⊢
  clear hq0 hq1 hg0 hg1 hV
  refine (lackC_any p' (some ⟨B, 0, none⟩) at' c' c' nt ct ts V (RT.out.below HST.out.old) hnt).mono ?_
  rintro e w2 ⟨rfl, hb⟩
  have HS2 := hide (HST.out.grow hb)
  clear hb HST hs2 V
  by_cases g3 : allB ts 0 ((c' : Int) - 1) = true
  rotate_left
  · have g3' : allB ts 0 ((c' : Int) - 1) = false := by simpa using g3
    have HN := hide (bend_no (w := w) (allOk_no3 (p := p') (L := L) (ys := ys) g3') HS2.out.old)
    rw [g3']
    clear g3 g3' HS2 HRA
    go_wp2_with fail
    go_ret3
    exact HN.out
  rw [g3]
  have HOK := hide (allOk_yes HG1.out (show ts.length ≤ 60 by omega) g3)
  clear g3 HG1
  have hpl : p' = (l : Int) := by have := (goodB_parts HGP.out.2).2.1; have := HLY.out; omega
  subst hpl
  obtain ⟨hp1, hp2⟩ := (goodB_parts HGP.out.2).1
  have hl16 : l ≤ 16 := by omega
  obtain ⟨b9, hb9⟩ : ∃ b, Hid (w1.heap.size = b) := ⟨_, rfl⟩
  rw [hb9.out] at HS2 hBl hz1 ⊢
  clear g2' hz HB1 hb9
  go_wp2_with fail
  go_loopw [12, 39] (fun f i wr => ∃ (k : Nat) (us : List Int), k ≤ nt ∧ i = .int .i64 k ∧ f = .int .i64 k ∧ Hid (Ran (l : Int) c' L ys ts k us) ∧ Hid (FaSt w wr (l : Int) c' L B b9 us l)) (fun _ i _ => nt - (intOf i).toNat)
  case atStart => exact ⟨0, ys, Nat.zero_le _, rfl, rfl, HRA, HS2⟩
  case round =>
    clear HRA HS2
    obtain ⟨k, us, hk, rfl, rfl, hran, hst⟩ := hrel
    obtain ⟨hq0, hq1⟩ := cells2 hst.out.net
    have hlu : us.length = l := by have := hran.out.len; have := HLY.out; omega
    have hr1 := hst.out.tok
    by_cases hkn : k < nt
    rotate_left
    · have hk' : k = nt := by omega
      subst hk'
      have HR := hide (hran.out.done hlt)
      have HLS := hide (list_any (fOf us l) l wr hl16 (fun i => by have := fOf_small (l := l) hran.out.good i; omega))
      rw [listFr_fOf hlu] at HLS
      have HY := hide (bend_yes (w := w) (b := wr.heap.size + 1) (m := l) HOK.out HR.out hlu (heap_alloc2_new wr (.cells (tokF (fOf us l)) 93) (.cells (cellsOf us) 3)) (by have := hst.out.old.size; omega) (hst.out.old.trans ((below_two wr (.cells (tokF (fOf us l)) 93) (.cells (cellsOf us) 3)).mono hst.out.old.size)))
      clear HR hran hst
      go_wp2_with (refine wpList_load_row rfl 93 (.tmp 10) rfl _ rfl 93 (tokF (fOf us l)) (0, 0) _ hr1 Try.underlying93 rfl (by rw [tokF_size]; exact Try.size93) ?_)
      refine HLS.out.mono ?_
      rintro e w3 ⟨rfl, rfl⟩
      clear HLS
      go_wp2_with fail
      go_ret3
      exact HY.out
    obtain ⟨b1, o1, t, rfl, hl1, hc1, H1⟩ := (RT.out.below hst.out.old).at hkn
    have HFI := hide (fireI_any (l : Int) t B c' c' L (fOf us l) wr hst.out.ps HGP.out.1 ⟨hp1, hp2⟩ (fOf_small hran.out.good))
    have HEQ := hide (fire_eq (t := t) HGP.out.1 hran.out.good hlu)
    go_wp2_with (refine wpList_load_row rfl 93 (.tmp 10) rfl _ rfl 93 (tokF (fOf us l)) (0, 0) _ hr1 Try.underlying93 rfl (by rw [tokF_size]; exact Try.size93) ?_)
    refine HFI.out.mono ?_
    rintro e w3 ⟨h, rfl, hh, hb⟩
    rw [HEQ.out.1] at hh ⊢
    have hA3 := below_al w3 (.cells #[.int .u8 0, .int .u8 0, .int .u8 0, .int .u8 0, .int .u8 0, .int .u8 0, .int .u8 0, .int .u8 0, .int .u8 0, .int .u8 0, .int .u8 0, .int .u8 0, .int .u8 0, .int .u8 0, .int .u8 0, .int .u8 0] 93)
    have hg0 := heap_alloc_new w3 (.cells #[.int .u8 0, .int .u8 0, .int .u8 0, .int .u8 0, .int .u8 0, .int .u8 0, .int .u8 0, .int .u8 0, .int .u8 0, .int .u8 0, .int .u8 0, .int .u8 0, .int .u8 0, .int .u8 0, .int .u8 0, .int .u8 0] 93)
    have hg1 := setRow_same hg0 (tokF h)
    have hlb := row_lt hst.out.tok
    have hz3 := hb.size
    have HS4 := hide (((hst.out.grow hb).grow hA3).set (g := w3.heap.size) (by omega) hBl hz1 (tokF h))
    have hr4 := HS4.out.tok
    obtain ⟨hs0, hs1⟩ := cells2 HS4.out.net
    clear hq0 hq1 hr1 hA3 HFI hb hc1 hl1 hst
    by_cases g : fireOk (l : Int) c' L us t = true
    rotate_left
    · have g' : fireOk (l : Int) c' L us t = false := by simpa using g
      have HR := hide (hran.out.stop H1.out g')
      have HSM : Hid (∀ i, 0 ≤ fOf us l i ∧ fOf us l i ≤ 255) := fun i => by have := fOf_small (l := l) hran.out.good i; omega
      rw [g']
      clear g g' hh H1 hran HEQ
      go_wp2_with (first
        | refine wpList_store_row rfl 93 (.tmp 15) _ rfl _ _ rfl rfl 93 _ hg0 (by rw [tokF_size]; exact Try.size93) (by rw [tokF_size]; rfl) (tokF_one _) ?_
        | refine wpList_load_row rfl 93 (.tmp 10) rfl _ rfl 93 (tokF (fOf us l)) (0, 0) _ hr4 Try.underlying93 rfl (by rw [tokF_size]; exact Try.size93) ?_)
      obtain ⟨V2, hV2⟩ : ∃ V2, Hid ((w3.alloc (.cells #[.int .u8 0, .int .u8 0, .int .u8 0, .int .u8 0, .int .u8 0, .int .u8 0, .int .u8 0, .int .u8 0, .int .u8 0, .int .u8 0, .int .u8 0, .int .u8 0, .int .u8 0, .int .u8 0, .int .u8 0, .int .u8 0] 93)).setRow w3.heap.size (tokF h) = V2) := ⟨_, rfl⟩
      rw [hV2.out] at HS4 ⊢
      clear hg0 hg1 hr4 hs0 hs1 hV2
      have HLS := hide (list_any (fOf us l) l V2 hl16 HSM.out)
      rw [listFr_fOf hlu] at HLS
      have HY := hide (bend_yes (w := w) (b := V2.heap.size + 1) (m := l) HOK.out HR.out hlu (heap_alloc2_new V2 (.cells (tokF (fOf us l)) 93) (.cells (cellsOf us) 3)) (by have := HS4.out.old.size; omega) (HS4.out.old.trans ((below_two V2 (.cells (tokF (fOf us l)) 93) (.cells (cellsOf us) 3)).mono HS4.out.old.size)))
      clear HR HS4 HSM
      refine HLS.out.mono ?_
      rintro e w5 ⟨rfl, rfl⟩
      clear HLS
      go_wp2_with fail
      go_ret3
      exact HY.out
    have hh3 := (hh.out g).trans (part_fOf HGP.out.1 hran.out.good hlu g)
    subst hh3
    have HR2 := hide (hran.out.step H1.out g)
    have HS5 := hide (HS4.out.put (us' := firedL L us t) hBl hz1)
    rw [g]
    clear g hh H1 hran HEQ HS4 hs0 hs1
    obtain ⟨F, hF⟩ : ∃ F, Hid (tokF (fOf (firedL L us t) l) = F) := ⟨_, rfl⟩
    have hF1 : F.size = 16 := by rw [← hF.out]; exact tokF_size _
    have hF2 : F.all (·.oneCell') = true := by rw [← hF.out]; exact tokF_one _
    rw [hF.out] at hg1 hr4 HS5 ⊢
    go_wp2_with (first
      | refine wpList_store_row rfl 93 (.tmp 15) _ rfl _ _ rfl rfl 93 _ hg0 (by rw [hF1]; exact Try.size93) (by rw [hF1]; rfl) hF2 ?_
      | refine wpList_load_row rfl 93 (.tmp 15) rfl _ rfl 93 F (0, 0) _ hg1 Try.underlying93 rfl (by rw [hF1]; exact Try.size93) ?_
      | refine wpList_store_row rfl 93 (.tmp 10) _ rfl _ _ rfl rfl 93 _ hr4 (by rw [hF1]; exact Try.size93) (by rw [hF1, tokF_size]) hF2 ?_)
    go_roundw
    case rel => exact ⟨k + 1, _, by omega, by go_num, by go_num, HR2, HS5⟩
    case measure => simp [intOf]; omega
end Go.Proofs.Ytdhnhpjcoeglmaa


/- What a law over a drawn net and drawn lists keeps in mind. -/
namespace Go.Proofs.Ytdhnhpjcoeglmaa
open Go.RowKit
set_option maxRecDepth 10000

structure Mst (w v : World) (V : Nat) (pl : Int) (a : Option Addr) (k c : Nat) (L : List (List Int)) (rows : List (Option Addr × Nat × List Int)) (ma : Option Addr) (mn : Nat) (cs : List Int) : Prop where
  old : Below w.heap.size w v
  var : v.heap[V]? = some (.cells #[.int .i64 pl, .slice a k c] 26 (0, 0))
  net : Lists v a (3 * k) L
  rows : Rs v rows
  more : RowB v ma mn cs

section
variable {w v v' : World} {V : Nat} {pl : Int} {a : Option Addr} {k c : Nat} {L : List (List Int)} {rows : List (Option Addr × Nat × List Int)} {ma : Option Addr} {mn : Nat} {cs : List Int}

theorem Mst.grow (h : Mst w v V pl a k c L rows ma mn cs) (hb : Below v.heap.size v v') : Mst w v' V pl a k c L rows ma mn cs :=
  ⟨h.old.trans (hb.mono h.old.size), (hb.block V (Array.getElem?_eq_some_iff.mp h.var).1).trans h.var, h.net.below hb, h.rows.below hb, h.more.below hb⟩
theorem Mst.add (h : Mst w v V pl a k c L rows ma mn cs) {b : Option Addr} {n : Nat} {xs : List Int} (hr : Row v b n xs) : Mst w v V pl a k c L ((b, n, xs) :: rows) ma mn cs := ⟨h.old, h.var, h.net, Rs.cons hr h.rows, h.more⟩
theorem Mst.c0 (h : Mst w v V pl a k c L rows ma mn cs) : v.cell? ⟨V, 0, none⟩ = some (.int .i64 pl) := cell_of_row v V 0 _ _ _ h.var
theorem Mst.c1 (h : Mst w v V pl a k c L rows ma mn cs) : v.cell? ⟨V, 1, none⟩ = some (.slice a k c) := cell_of_row v V 1 _ _ _ h.var
end
end Go.Proofs.Ytdhnhpjcoeglmaa


/- What the law's helpers do with arcs and with a space: compare, mark, hold. -/
namespace Go.Proofs.Ytdhnhpjcoeglmaa
open Go.RowKit
set_option maxRecDepth 10000

/-- A slice of N arcs from the head of the block b, in which there may be more room: the numbers xs, three an arc; or an empty one. -/
def AB (w : World) (a : Option Addr) (b N : Nat) (xs : List Int) : Prop :=
  xs.length = 3 * N ∧ (N = 0 ∨ (a = some ⟨b, 0, none⟩ ∧ ∃ cur, w.heap[b]? = some (.cells cur 66 (0, 0)) ∧ 3 * N ≤ cur.size ∧ ∀ i, i < 3 * N → cur[i]? = some (.int .i64 (xs.getD i 0))))

def arI (ar : List (Nat × Nat × Nat)) : List Int := ar.flatMap fun a => [(a.1 : Int), (a.2.1 : Int), (a.2.2 : Int)]
theorem arI_map (ar : List (Nat × Nat × Nat)) : (arI ar).map (Value.int .i64) = arcsL ar := by
  unfold arI arcsL; rw [List.map_flatMap]; rfl
theorem arI_len (ar : List (Nat × Nat × Nat)) : (arI ar).length = 3 * ar.length := by
  induction ar with
  | nil => rfl
  | cons a r ih => unfold arI at *; simp only [List.flatMap_cons, List.length_append, List.length_cons, ih, List.length_nil]; omega

theorem AB.of_own {w : World} {B : Nat} {aa : Option Addr} {ac : Nat} {ar : List (Nat × Nat × Nat)} (h : w.ownsRow B 66 3 (.slice aa ar.length ac) ar.length (arcsL ar)) :
    ∃ b, AB w aa b ar.length (arI ar) ∧ (ar.length ≠ 0 → (Value.slice aa ar.length ac).ownBlock = some b) := by
  rcases h.2 with ⟨_, h0⟩ | ⟨g, cap, cur, e, hb, hh, hn, hc, hs, ht⟩
  · exact ⟨0, ⟨arI_len ar, .inl h0⟩, fun hne => absurd h0 hne⟩
  · have e' := e
    simp only [Value.slice.injEq] at e'
    obtain ⟨rfl, _, rfl⟩ := e'
    refine ⟨g, ⟨arI_len ar, .inr ⟨rfl, cur, hh, ?_, fun i hi => ?_⟩⟩, fun _ => rfl⟩
    · rw [hs]; have := Nat.mul_le_mul_right 3 hc; omega
    · have h1 := h.cellAt i (by omega)
      rw [cell_of_row w g i _ _ _ hh] at h1
      rw [h1, ← arI_map, List.getElem?_map, List.getElem?_eq_getElem (show i < (arI ar).length by rw [arI_len]; exact hi), List.getD_eq_getElem?_getD, List.getElem?_eq_getElem (show i < (arI ar).length by rw [arI_len]; exact hi)]
      rfl

theorem AB.grow {w w' : World} {a : Option Addr} {b N : Nat} {xs : List Int} (h : AB w a b N xs) (hb : Below w.heap.size w w') : AB w' a b N xs := by
  refine ⟨h.1, ?_⟩
  rcases h.2 with h0 | ⟨e, cur, h1, h2⟩
  · exact .inl h0
  · exact .inr ⟨e, cur, keep h1 hb, h2⟩

theorem AB.only {w w' : World} {a : Option Addr} {b c N : Nat} {xs : List Int} (h : AB w a b N xs) (ho : Only c w w') (hB : N ≠ 0 → b ≠ c) : AB w' a b N xs := by
  refine ⟨h.1, ?_⟩
  rcases h.2 with h0 | ⟨e, cur, h1, h2⟩
  · exact .inl h0
  · by_cases hn : N = 0
    · exact .inl hn
    · exact .inr ⟨e, cur, (ho.block b (hB hn)).trans h1, h2⟩

theorem AB.keepsLow {w w' : World} {a : Option Addr} {b N lo hi : Nat} {xs : List Int} (h : AB w a b N xs) (hk : Keeps lo hi w w') (hb : N ≠ 0 → b < lo) : AB w' a b N xs := by
  refine ⟨h.1, ?_⟩
  rcases h.2 with h0 | ⟨e, cur, h1, h2⟩
  · exact .inl h0
  · by_cases hn : N = 0
    · exact .inl hn
    · exact .inr ⟨e, cur, (hk.bel.block b (hb hn)).trans h1, h2⟩

theorem AB.keepsHigh {w w' : World} {a : Option Addr} {b N lo hi : Nat} {xs : List Int} (h : AB w a b N xs) (hk : Keeps lo hi w w') (hb : N ≠ 0 → hi ≤ b) : AB w' a b N xs := by
  refine ⟨h.1, ?_⟩
  rcases h.2 with h0 | ⟨e, cur, h1, h2⟩
  · exact .inl h0
  · by_cases hn : N = 0
    · exact .inl hn
    · exact .inr ⟨e, cur, (hk.top b (hb hn) (row_lt h1)).trans h1, h2⟩

theorem AB.at3 {w : World} {a : Option Addr} {b N : Nat} {xs : List Int} (h : AB w a b N xs) {k : Nat} (hk : k < N) :
    a = some ⟨b, 0, none⟩ ∧ w.cell? ⟨b, k * 3, none⟩ = some (.int .i64 (xs.getD (k * 3) 0)) ∧ w.cell? ⟨b, k * 3 + 1, none⟩ = some (.int .i64 (xs.getD (k * 3 + 1) 0)) ∧ w.cell? ⟨b, k * 3 + 2, none⟩ = some (.int .i64 (xs.getD (k * 3 + 2) 0)) := by
  rcases h.2 with h0 | ⟨e, cur, h1, h2, h3⟩
  · omega
  · refine ⟨e, ?_, ?_, ?_⟩
    · rw [cell_of_row w b _ _ _ _ h1]; exact h3 _ (by omega)
    · rw [cell_of_row w b _ _ _ _ h1]; exact h3 _ (by omega)
    · rw [cell_of_row w b _ _ _ _ h1]; exact h3 _ (by omega)

/-- The first k numbers of a block are there. -/
theorem AB.mark3 {cs : Array Value} {k0 n k : Nat} (h : FillR (seqL k0 (3 * n)) (3 * n) (3 * k) cs) (hk : k < n) :
    FillR (seqL k0 (3 * n)) (3 * n) (3 * (k + 1)) (((cs.setIfInBounds (k * 3) (.int .i64 ((k0 + 3 * k : Nat) : Int))).setIfInBounds (k * 3 + 1) (.int .i64 ((k0 + 3 * k + 1 : Nat) : Int))).setIfInBounds (k * 3 + 2) (.int .i64 ((k0 + 3 * k + 2 : Nat) : Int))) := by
  have e : 3 * k = k * 3 := Nat.mul_comm _ _
  have h1 := set_fillR h (show 3 * k < 3 * n by omega) (seqL_at k0 (3 * n) (3 * k) (by omega))
  have h2 := set_fillR h1 (show 3 * k + 1 < 3 * n by omega) (seqL_at k0 (3 * n) (3 * k + 1) (by omega))
  have h3 := set_fillR h2 (show 3 * k + 1 + 1 < 3 * n by omega) (seqL_at k0 (3 * n) (3 * k + 1 + 1) (by omega))
  rw [show 3 * (k + 1) = 3 * k + 1 + 1 + 1 by omega]
  simpa [e, Nat.add_assoc] using h3

end Go.Proofs.Ytdhnhpjcoeglmaa


/- A space in the law's hands: compared, marked, held; the law's state. -/
namespace Go.Proofs.Ytdhnhpjcoeglmaa
open Go.RowKit
set_option maxRecDepth 10000

theorem PartF.overQ {w w' : World} {B hi n lo hi' : Nat} {T : TypeId} {M : Nat → List Int} (h : PartF w B hi n T M) (hk : Keeps lo hi' w w') (hB : hi' ≤ B) : PartF w' B hi n T M := by
  obtain ⟨C, f, h1, h2, h3, h4⟩ := h
  refine ⟨C, f, (hk.top B hB (row_lt h1)).trans h1, h2, fun j hj => ?_, h4⟩
  obtain ⟨e1, e2, e3, e4⟩ := h3 j hj
  exact ⟨e1, e2, e3, e4.keeps hk (by omega)⟩

theorem PartF.onlyLow {w w' : World} {B hi n b : Nat} {T : TypeId} {M : Nat → List Int} (h : PartF w B hi n T M) (ho : Only b w w') (hb : b < B) : PartF w' B hi n T M := by
  obtain ⟨C, f, h1, h2, h3, h4⟩ := h
  refine ⟨C, f, (ho.block B (by omega)).trans h1, h2, fun j hj => ?_, h4⟩
  obtain ⟨e1, e2, e3, e4⟩ := h3 j hj
  exact ⟨e1, e2, e3, e4.only ho (by omega)⟩

theorem Blk.lowQ {w w' : World} {a : Option Addr} {b n lo : Nat} {xs : List Int} (h : Blk w a b n xs) (hb : Below lo w w') (hB : b < lo) : Blk w' a b n xs := by
  refine ⟨h.1, ?_⟩
  rcases h.2 with h0 | ⟨e, h1⟩
  · exact .inl h0
  · exact .inr ⟨e, (hb.block b hB).trans h1⟩

theorem PartF.lowQ {w w' : World} {B hi n lo : Nat} {T : TypeId} {M : Nat → List Int} (h : PartF w B hi n T M) (hb : Below lo w w') (hB : B < lo) (hh : hi ≤ lo) : PartF w' B hi n T M := by
  obtain ⟨C, f, h1, h2, h3, h4⟩ := h
  refine ⟨C, f, (hb.block B hB).trans h1, h2, fun j hj => ?_, h4⟩
  obtain ⟨e1, e2, e3, e4⟩ := h3 j hj
  exact ⟨e1, e2, e3, e4.lowQ hb (by omega)⟩

/-- Where its blocks lie. -/
structure SxAt (w u : World) (B hi bx b1 gM hj ab A bg : Nat) : Prop where
  wB : w.heap.size < B
  uB : u.heap.size ≤ B
  Bh : B < hi
  hx : hi ≤ bx
  xb : bx < b1
  b1M : b1 < gM
  hjb : hj ≤ bg
  Mj : gM < hj
  aM : A ≠ 0 → ab < gM
  ba : A ≠ 0 → b1 < ab

variable {w u v v' : World} {p : Int} {a : Option Addr} {n c B hi bx : Nat} {M : Nat → List Int} {ax : Option Addr} {b1 nm : Nat} {ly l : List Int} {gM hj N : Nat} {Mm : Nat → List Int} {aa : Option Addr} {ab A ac : Nat} {xs : List Int} {bg : Nat}

end Go.Proofs.Ytdhnhpjcoeglmaa


/- A space in the law's hands is marked and held. -/
namespace Go.Proofs.Ytdhnhpjcoeglmaa
open Go.RowKit
set_option maxRecDepth 10000

variable {w u v v' : World} {p : Int} {a : Option Addr} {n c B hi bx : Nat} {M : Nat → List Int} {ax : Option Addr} {b1 nm : Nat} {ly l : List Int} {gM hj N : Nat} {Mm : Nat → List Int} {aa : Option Addr} {ab A ac : Nat} {xs : List Int} {bg : Nat}

theorem cntF_le16 {M : Nat → List Int} : ∀ n, (∀ k, k < n → (M k).length ≤ 16) → cntF M n ≤ 16 * n := by
  intro n
  induction n with
  | zero => intro _; exact Nat.le_refl _
  | succ n ih =>
    intro h
    have h1 := ih fun k hk => h k (by omega)
    have h2 := h n (by omega)
    rw [show cntF M (n + 1) = cntF M n + (M n).length from rfl]
    omega

theorem PartF.lists1Q {w : World} {B hi n : Nat} {T : TypeId} {L : List (List Int)} (h : PartF w B hi n T (fun j => L.getD j [])) (hl : L.length = n) (hs : sizeN n L ≤ 1048576) : Lists w (some ⟨B, 0, none⟩) n L := by
  obtain ⟨C, f, h1, h2, h3, h4⟩ := h
  refine ⟨hl, .inr ⟨B, 0, rfl, (Array.getElem?_eq_some_iff.mp h1).1, fun j hj => ?_⟩⟩
  obtain ⟨e1, e2, e3, e4⟩ := h3 j hj
  refine ⟨_, _, _, by rw [cell_of_row w B (0 + j) C T _ h1, Nat.zero_add]; exact e1, ?_, e4.row⟩
  have := len_le L j
  show (L.getD j []).length ≤ maxLen
  unfold sizeN at hs; unfold maxLen; omega

/-- What is known of the answer of Explore. -/
theorem xp_size (p : Int) (n : Nat) (L : List (List Int)) (ys : List Int) (bg : Int) : (xpMs p n L ys bg).length ≤ 400 ∧ (xpAr p n L ys bg).length ≤ 9600 ∧ ∀ m ∈ xpMs p n L ys bg, m.length ≤ 16 := by
  by_cases hc : spCode p n L ys bg = 1
  · have ha : askB p n L ys bg = true := by
      cases hx : askB p n L ys bg
      · unfold spCode at hc; rw [hx] at hc; simp at hc
      · rfl
    unfold askB at ha
    rw [Bool.and_eq_true, Bool.and_eq_true] at ha
    have hb : 1 ≤ bg ∧ bg ≤ 400 := by simpa [inB] using ha.2
    unfold xpMs xpAr
    rw [if_pos hc, if_pos hc]
    cases hs : searchS p n L bg.toNat ys with
    | error c => unfold spSea; rw [hs]; simp [endS]
    | ok s =>
      have e : spSea p n L ys bg = s := by unfold spSea; rw [hs]; rfl
      rw [e]
      obtain ⟨hok, hlen, _⟩ := seaS_ok (SeaOk.start (n := n) (show 1 ≤ bg.toNat by omega) ha.1.2) hs
      have hn := netOkN ha.1.1
      have h4 : bg.toNat ≤ 400 := by omega
      have hmul : bg.toNat * n ≤ 400 * 24 := Nat.mul_le_mul h4 hn
      refine ⟨Nat.le_trans hok.le h4, by simp [sea0] at hlen; omega, fun m hm => ?_⟩
      obtain ⟨h1, h2, _⟩ := goodB_parts (hok.good m hm)
      omega
  · obtain ⟨e1, e2⟩ := xpMs_no hc
    rw [e1, e2]; simp

theorem sizeL_le16 {R : List (List Int)} (h : ∀ x ∈ R, x.length ≤ 16) : sizeL R ≤ 16 * R.length := by
  induction R with
  | nil => simp [sizeL]
  | cons x R ih =>
    have h1 := h x (by simp)
    have h2 := ih fun y hy => h y (by simp [hy])
    unfold sizeL at *
    simp only [List.map_cons, List.sum_cons, List.length_cons]
    omega
end Go.Proofs.Ytdhnhpjcoeglmaa
