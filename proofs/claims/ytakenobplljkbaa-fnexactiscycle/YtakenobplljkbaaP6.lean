/- Contracts that the proof stands on, one behind the other. -/
import Derived.Test.YtakenobplljkbaaP5
/- ChangeBy and IsCycle of both sides. -/
namespace Go.Proofs.Ytakenobplljkbaa
open Go.RowKit
set_option maxRecDepth 10000

def OEndC (g : Bool) (r : List Int) (w : World) (e : Ending) (w' : World) : Prop :=
  ∃ a b n c, e = .returned (.tuple #[.slice a n c, .bool g]) ∧ Ob w' a b n r ∧ w.heap.size ≤ b ∧ Below w.heap.size w w'
def WEndC (g : Bool) (r : List Int) (w : World) (e : Ending) (w' : World) : Prop :=
  ∃ a n c, e = .returned (.tuple #[.slice a n c, .bool g]) ∧ Row w' a n r ∧ Below w.heap.size w w'

theorem oendC_no {r : List Int} {w w' : World} (h : r = []) (hb : Below w.heap.size w w') : OEndC false r w (.returned (.tuple #[.slice none 0 0, .bool false])) w' :=
  ⟨none, w.heap.size, 0, 0, rfl, ⟨by rw [h]; rfl, .inl rfl⟩, Nat.le_refl _, hb⟩
theorem wendC_no {r : List Int} {w w' : World} (h : r = []) (hb : Below w.heap.size w w') : WEndC false r w (.returned (.tuple #[.slice none 0 0, .bool false])) w' :=
  ⟨none, 0, 0, rfl, ⟨by rw [h]; rfl, .inl rfl⟩, hb⟩

theorem MadeEnd.ob {f : Nat → Int} {n g : Nat} {w' : World} (h : OutR w' g n (listF f n)) : Ob w' (some ⟨g, 0, none⟩) g n (listF f n) :=
  ⟨h.1, .inr ⟨rfl, h.2⟩⟩

def chR (p : Int) (n : Nat) (L : List (List Int)) (cs : List Int) : List Int := if cntOk p n L cs then listF (chBy L n cs) p.toNat else []

theorem chR_len (p : Int) (n : Nat) (L : List (List Int)) (cs : List Int) : (chR p n L cs).length ≤ 16 := by
  unfold chR; split
  · rename_i h
    unfold cntOk plainB netOk at h
    simp [inB] at h
    rw [listF_len]; omega
  · exact Nat.zero_le _

theorem cnt_parts {p : Int} {n : Nat} {L : List (List Int)} {cs : List Int} (h : cntOk p n L cs = true) : netOk p n L = true ∧ cs.length = n ∧ (∀ i, i < n → -1000 ≤ cs.getD i 0 ∧ cs.getD i 0 ≤ 1000) ∧ 1 ≤ p ∧ p ≤ 16 := by
  unfold cntOk plainB at h
  simp only [Bool.and_eq_true] at h
  obtain ⟨⟨h1, _⟩, h2, h3⟩ := h
  have hl : cs.length = n := by have := of_decide_eq_true h2; omega
  refine ⟨h1, hl, fun i hi => ?_, ?_⟩
  · unfold allB at h3
    have hi' : i < cs.length := by omega
    have := List.all_eq_true.mp h3 (cs[i]) (List.getElem_mem hi')
    rw [List.getD_eq_getElem?_getD, List.getElem?_eq_getElem hi']
    simp [inB] at this ⊢; omega
  · unfold netOk at h1; simp [inB] at h1; omega

def cyR (p : Int) (n : Nat) (L : List (List Int)) (cs : List Int) : Bool := cntOk p n L cs && allB (chR p n L cs) 0 0

def CyEnd (p : Int) (n : Nat) (L : List (List Int)) (cs : List Int) (w : World) (e : Ending) (w' : World) : Prop :=
  e = .returned (.tuple #[.bool (cyR p n L cs), .bool (cntOk p n L cs)]) ∧ Below w.heap.size w w'

set_option maxHeartbeats 2000000 in
theorem changeByI_any (p : Int) (a ac : Option Addr) (n c nc cc : Nat) (L : List (List Int)) (cs : List Int) (w : World) (h : Lists w a (3 * n) L) (rc : Row w ac nc cs) (hs : sizeN n L ≤ 1048576) (hnc : nc ≤ 1048576) :
    Calls Try.prog 18 #[.agg #[.int .i64 p, .slice a n c], .slice ac nc cc] w fun e w' => OEndC (cntOk p n L cs) (chR p n L cs) w e w' := by
  have hAl := below_al w (.cells #[.int .i64 p, .slice a n c] 28)
  have HT := hide (netForCounts_any p a ac n c nc cc L cs _ (h.below hAl) (rc.below hAl) hs hnc)
  have HB0 := hide hAl
  have RC := hide rc
  have hLl := h.1
  clear h rc hAl
  go_enter Try.func18, Try.ntmps18
  go_wp2_with fail
  refine HT.out.mono ?_
  rintro e w1 ⟨p', a', m', c', rfl, hx, hb⟩
  have HB1 := hide (HB0.out.trans (hb.mono HB0.out.size))
  have hA1 := below_al w1 (.cells #[.int .i64 p', .slice a' m' c'] 54)
  have HB2 := hide (HB1.out.trans (hA1.mono HB1.out.size))
  by_cases g1 : cntOk p n L cs = true
  rotate_left
  · have g1' : cntOk p n L cs = false := by simpa using g1
    have HN : Hid (OEndC (cntOk p n L cs) (chR p n L cs) w (.returned (.tuple #[.slice none 0 0, .bool false])) (w1.alloc (.cells #[.int .i64 p', .slice a' m' c'] 54))) := by
      show OEndC (cntOk p n L cs) (chR p n L cs) w _ _
      rw [g1']; exact oendC_no (by unfold chR; rw [g1']; rfl) HB2.out
    rw [g1']
    clear g1 g1' hx HT hb hA1
    go_wp2_with fail
    go_ret2
    exact HN.out
  obtain ⟨hg, hcl, hcb, hp1, hp2⟩ := cnt_parts g1
  obtain ⟨e1, e2, e3, B, rfl, hBs, hps⟩ := hx.out g1
  subst e1 e2 e3
  obtain ⟨P, rfl⟩ : ∃ P : Nat, p' = (P : Int) := ⟨p'.toNat, by omega⟩
  obtain rfl : nc = c' := by rw [← RC.out.1]; exact hcl
  have HG1 := hide g1
  rw [g1]
  have hn24 := netN hg
  have HC := hide (changesBy_any P B nc cc ac L cs _ (hps.grow hA1) (RC.out.below HB2.out) hn24 (net_masks hg hLl) (by omega) hcb)
  have HR : Hid (chR (P : Int) nc L cs = listF (chBy L nc cs) P) := by show _ = _; unfold chR; rw [if_pos g1]; simp
  clear hb HT hx hBs hps hA1 g1 hcb hg HB1 HB0
  go_wp2_with fail
  refine HC.out.mono ?_
  rintro e w2 ⟨g, rfl, hgs, hout, hb⟩
  have HB3 := hide (HB2.out.trans (hb.mono HB2.out.size))
  have HO := hide hout
  have hgs' : w.heap.size ≤ g := by have := HB2.out.size; omega
  clear hb HC hout hgs HB2
  go_wp2_with fail
  go_ret2
  show OEndC _ _ _ _ _
  rw [HG1.out, HR.out]
  exact ⟨_, g, _, _, rfl, MadeEnd.ob HO.out, hgs', HB3.out⟩

set_option maxHeartbeats 2000000 in
theorem changeByS_any (p : Int) (a ac : Option Addr) (n c nc cc : Nat) (L : List (List Int)) (cs : List Int) (w : World) (h : Lists w a (3 * n) L) (rc : Row w ac nc cs) (hs : sizeN n L ≤ 1048576) (hnc : nc ≤ 1048576) :
    Calls Try.prog 16 #[.agg #[.int .i64 p, .slice a n c], .slice ac nc cc] w fun e w' => WEndC (cntOk p n L cs) (chR p n L cs) w e w' := by
  have hAl := below_al w (.cells #[.int .i64 p, .slice a n c] 28)
  have PAR := hide (heap_alloc_new w (.cells #[.int .i64 p, .slice a n c] 28))
  have HT := hide (countsS_any p a ac n c nc cc L cs _ (h.below hAl) (rc.below hAl) hs hnc)
  have HB0 := hide hAl
  have RC := hide rc
  have HL := hide h
  clear h rc hAl
  go_enter Try.func16, Try.ntmps16
  go_wp2_with fail
  refine HT.out.mono ?_
  rintro e w1 ⟨rfl, hb⟩
  have HB1 := hide (HB0.out.trans (hb.mono HB0.out.size))
  obtain ⟨hc0, hc1⟩ := cells2 (keep PAR.out hb)
  have hlt := row_lt (keep PAR.out hb)
  clear hb HT HB0 PAR
  by_cases g1 : cntOk p n L cs = true
  rotate_left
  · have g1' : cntOk p n L cs = false := by simpa using g1
    have HN : Hid (WEndC (cntOk p n L cs) (chR p n L cs) w (.returned (.tuple #[.slice none 0 0, .bool false])) w1) := by
      show WEndC (cntOk p n L cs) (chR p n L cs) w _ _
      rw [g1']; exact wendC_no (by unfold chR; rw [g1']; rfl) HB1.out
    rw [g1']
    clear g1 g1' hc0 hc1 hlt
    go_wp2_with fail
    go_ret2
    exact HN.out
  obtain ⟨hg, hcl, hcb, hp1, hp2⟩ := cnt_parts g1
  obtain ⟨P, rfl⟩ : ∃ P : Nat, p = (P : Int) := ⟨p.toNat, by omega⟩
  obtain rfl : nc = n := by rw [← RC.out.1]; exact hcl
  have HG1 := hide g1
  rw [g1]
  have HC := hide (changeS_any P a ac nc c nc cc L cs _ (HL.out.below HB1.out) (RC.out.below HB1.out) hs hg (Nat.le_refl _) hcb)
  have HR : Hid (chR (P : Int) nc L cs = listF (chBy L nc cs) P) := by show _ = _; unfold chR; rw [if_pos g1]; simp
  clear g1 hcb hg
  go_wp2_with fail
  refine HC.out.mono ?_
  rintro e w2 ⟨g, rfl, hgs, hout, hb⟩
  have HB3 := hide (HB1.out.trans (hb.mono HB1.out.size))
  have HO := hide hout
  clear hb HC hout hgs HB1
  go_wp2_with fail
  go_ret2
  show WEndC _ _ _ _ _
  rw [HG1.out, HR.out]
  exact ⟨_, _, _, rfl, HO.out.row, HB3.out⟩

set_option maxHeartbeats 400000 in
theorem cyc1_any (x : Int) (w : World) :
    Calls Try.prog 59 #[.int .i64 x] w fun e w' => e = .returned (.bool (!inB x 0 0)) ∧ w' = w := by
  have HI := hide (show (x != 0) = !inB x 0 0 by unfold inB; rw [Bool.eq_iff_iff]; simp; omega)
  go_enter Try.func59, Try.ntmps59
  go_wp2_with fail
  go_ret
  exact ⟨ret_bool HI.out, rfl⟩

/-- Where the first number beyond a bound is, or -1. -/
def CcEnd (g : Bool) (w : World) (e : Ending) (w' : World) : Prop := ∃ z : Int, e = .returned (.int .i64 z) ∧ Hid (decide (0 ≤ z) = !g) ∧ w' = w

set_option maxHeartbeats 1000000 in
theorem cycIx_any (a : Option Addr) (n c : Nat) (xs : List Int) (w : World) (rt : Row w a n xs) (hn : n ≤ 1048576) :
    Calls Try.prog 71 #[.slice a n c, .func (.func 59) #[] #[]] w fun e w' => CcEnd (allB xs 0 0) w e w' := by
  have HC := hide (fun x => cyc1_any x w)
  have hlen := rt.1
  go_enter Try.func71, Try.ntmps71
  go_wp2_with fail
  go_loop [8] (fun i => ∃ k : Nat, k ≤ n ∧ i = .int .i64 k ∧ Hid (AllUpto xs 0 0 k)) (fun i => n - (intOf i).toNat)
  case atStart => exact ⟨0, Nat.zero_le _, rfl, rfl⟩
  case round =>
    obtain ⟨k, hk, rfl, hu⟩ := hrel
    by_cases hkn : k < n
    rotate_left
    · have hk' : k = n := by omega
      subst hk'
      have HE : Hid (CcEnd (allB xs 0 0) w (.returned (.int .i64 (-1))) w) := ⟨-1, rfl, by rw [hu.out.done hlen]; rfl, rfl⟩
      go_wp2_with fail
      go_ret
      exact HE.out
    obtain ⟨b1, o1, t, rfl, hl1, hc1, H1⟩ := rt.at hkn
    have HH := hide (HC.out t)
    clear rt
    by_cases hi' : inB t 0 0 = true
    · have HU := hide (hu.out.step H1 hi')
      rw [hi'] at HH
      clear hi' hu H1
      go_wp2_with fail
      refine HH.out.mono ?_
      rintro e w1 ⟨rfl, rfl⟩
      clear HH hc1 hl1
      go_wp2_with fail
      go_round
      case rel => exact ⟨k + 1, by omega, by go_num, HU⟩
      case measure => simp [intOf]; omega
    · have hi'' : inB t 0 0 = false := by simpa using hi'
      have HE : Hid (CcEnd (allB xs 0 0) w (.returned (.int .i64 (k : Int))) w) := ⟨k, rfl, by rw [allB_no H1 hi'']; simp [Hid], rfl⟩
      rw [hi''] at HH
      clear hi' hi'' hu H1
      go_wp2_with fail
      refine HH.out.mono ?_
      rintro e w1 ⟨rfl, rfl⟩
      clear HH hc1 hl1
      go_wp2_with fail
      go_ret
      exact HE.out

set_option maxHeartbeats 400000 in
theorem cycC_any (a : Option Addr) (n c : Nat) (xs : List Int) (w : World) (rt : Row w a n xs) (hn : n ≤ 1048576) :
    Calls Try.prog 47 #[.slice a n c, .func (.func 59) #[] #[]] w fun e w' => e = .returned (.bool (!allB xs 0 0)) ∧ w' = w := by
  have HI := hide (cycIx_any a n c xs w rt hn)
  clear rt
  go_enter Try.func47, Try.ntmps47
  go_wp2_with fail
  refine HI.out.mono ?_
  rintro e w1 ⟨z, rfl, hz, rfl⟩
  clear HI
  go_wp2_with fail
  go_ret
  exact ⟨ret_bool hz.out, rfl⟩


set_option maxHeartbeats 2000000 in
theorem isCycleI_any (p : Int) (a ac : Option Addr) (n c nc cc : Nat) (L : List (List Int)) (cs : List Int) (w : World) (h : Lists w a (3 * n) L) (rc : Row w ac nc cs) (hs : sizeN n L ≤ 1048576) (hnc : nc ≤ 1048576) :
    Calls Try.prog 29 #[.agg #[.int .i64 p, .slice a n c], .slice ac nc cc] w fun e w' => CyEnd p n L cs w e w' := by
  have hAl := below_al w (.cells #[.int .i64 p, .slice a n c] 28)
  have HT := hide (netForCounts_any p a ac n c nc cc L cs _ (h.below hAl) (rc.below hAl) hs hnc)
  have HB0 := hide hAl
  have RC := hide rc
  have hLl := h.1
  clear h rc hAl
  go_enter Try.func29, Try.ntmps29
  go_wp2_with fail
  refine HT.out.mono ?_
  rintro e w1 ⟨p', a', m', c', rfl, hx, hb⟩
  have HB1 := hide (HB0.out.trans (hb.mono HB0.out.size))
  have hA1 := below_al w1 (.cells #[.int .i64 p', .slice a' m' c'] 54)
  have HB2 := hide (HB1.out.trans (hA1.mono HB1.out.size))
  by_cases g1 : cntOk p n L cs = true
  rotate_left
  · have g1' : cntOk p n L cs = false := by simpa using g1
    have HN : Hid (CyEnd p n L cs w (.returned (.tuple #[.bool false, .bool false])) (w1.alloc (.cells #[.int .i64 p', .slice a' m' c'] 54))) := by
      show CyEnd p n L cs w _ _
      exact ⟨ret_2 (by unfold cyR; rw [g1']; rfl) g1'.symm, HB2.out⟩
    rw [g1']
    clear g1 g1' hx HT hb hA1
    go_wp2_with fail
    go_ret2
    exact HN.out
  obtain ⟨hg, hcl, hcb, hp1, hp2⟩ := cnt_parts g1
  obtain ⟨e1, e2, e3, B, rfl, hBs, hps⟩ := hx.out g1
  subst e1 e2 e3
  obtain ⟨P, rfl⟩ : ∃ P : Nat, p' = (P : Int) := ⟨p'.toNat, by omega⟩
  obtain rfl : nc = c' := by rw [← RC.out.1]; exact hcl
  have HG1 := hide g1
  rw [g1]
  have hn24 := netN hg
  have HC := hide (changesBy_any P B nc cc ac L cs _ (hps.grow hA1) (RC.out.below HB2.out) hn24 (net_masks hg hLl) (by omega) hcb)
  have HR : Hid (chR (P : Int) nc L cs = listF (chBy L nc cs) P) := by show _ = _; unfold chR; rw [if_pos g1]; simp
  clear hb HT hx hBs hps hA1 g1 hcb hg HB1 HB0
  go_wp2_with fail
  refine HC.out.mono ?_
  rintro e w2 ⟨g, rfl, hgs, hout, hb⟩
  have HB3 := hide (HB2.out.trans (hb.mono HB2.out.size))
  have HO := hide hout
  have hgs' : w.heap.size ≤ g := by have := HB2.out.size; omega
  clear hb HC hout hgs HB2
  go_wp2_with fail
  refine (cycC_any _ P P _ _ HO.out.row (by omega)).mono ?_
  rintro e w3 ⟨rfl, rfl⟩
  obtain ⟨r, hr⟩ : ∃ r, Hid (allB (listF (chBy L nc cs) P) 0 0 = r) := ⟨_, rfl⟩
  rw [hr.out]
  have HY : Hid (cyR (P : Int) nc L cs = r) := by show _ = _; unfold cyR; rw [HG1.out, HR.out, hr.out]; rfl
  clear hr HO HR
  go_wp2_with fail
  go_ret2
  exact ⟨ret_2 (by simp [HY.out]) HG1.out.symm, HB3.out⟩

set_option maxHeartbeats 2000000 in
theorem isCycleS_any (p : Int) (a ac : Option Addr) (n c nc cc : Nat) (L : List (List Int)) (cs : List Int) (w : World) (h : Lists w a (3 * n) L) (rc : Row w ac nc cs) (hs : sizeN n L ≤ 1048576) (hnc : nc ≤ 1048576) :
    Calls Try.prog 28 #[.agg #[.int .i64 p, .slice a n c], .slice ac nc cc] w fun e w' => CyEnd p n L cs w e w' := by
  have hAl := below_al w (.cells #[.int .i64 p, .slice a n c] 28)
  have PAR := hide (heap_alloc_new w (.cells #[.int .i64 p, .slice a n c] 28))
  have HT := hide (countsS_any p a ac n c nc cc L cs _ (h.below hAl) (rc.below hAl) hs hnc)
  have HB0 := hide hAl
  have RC := hide rc
  have HL := hide h
  clear h rc hAl
  go_enter Try.func28, Try.ntmps28
  go_wp2_with fail
  refine HT.out.mono ?_
  rintro e w1 ⟨rfl, hb⟩
  have HB1 := hide (HB0.out.trans (hb.mono HB0.out.size))
  obtain ⟨hc0, hc1⟩ := cells2 (keep PAR.out hb)
  have hlt := row_lt (keep PAR.out hb)
  clear hb HT HB0 PAR
  by_cases g1 : cntOk p n L cs = true
  rotate_left
  · have g1' : cntOk p n L cs = false := by simpa using g1
    have HN : Hid (CyEnd p n L cs w (.returned (.tuple #[.bool false, .bool false])) w1) := by
      show CyEnd p n L cs w _ _
      exact ⟨ret_2 (by unfold cyR; rw [g1']; rfl) g1'.symm, HB1.out⟩
    rw [g1']
    clear g1 g1' hc0 hc1 hlt
    go_wp2_with fail
    go_ret2
    exact HN.out
  obtain ⟨hg, hcl, hcb, hp1, hp2⟩ := cnt_parts g1
  obtain ⟨P, rfl⟩ : ∃ P : Nat, p = (P : Int) := ⟨p.toNat, by omega⟩
  obtain rfl : nc = n := by rw [← RC.out.1]; exact hcl
  have HG1 := hide g1
  rw [g1]
  have HC := hide (changeS_any P a ac nc c nc cc L cs _ (HL.out.below HB1.out) (RC.out.below HB1.out) hs hg (Nat.le_refl _) hcb)
  have HR : Hid (chR (P : Int) nc L cs = listF (chBy L nc cs) P) := by show _ = _; unfold chR; rw [if_pos g1]; simp
  clear g1 hcb hg
  go_wp2_with fail
  refine HC.out.mono ?_
  rintro e w2 ⟨g, rfl, hgs, hout, hb⟩
  have HB3 := hide (HB1.out.trans (hb.mono HB1.out.size))
  have HO := hide hout
  clear hb HC hout hgs HB1
  go_wp2_with fail
  refine (allG_any _ P P _ 0 0 _ HO.out.row (by omega)).mono ?_
  rintro e w3 ⟨rfl, rfl⟩
  obtain ⟨r, hr⟩ : ∃ r, Hid (allB (listF (chBy L nc cs) P) 0 0 = r) := ⟨_, rfl⟩
  rw [hr.out]
  have HY : Hid (cyR (P : Int) nc L cs = r) := by show _ = _; unfold cyR; rw [HG1.out, HR.out, hr.out]; rfl
  clear hr HO HR
  go_wp2_with fail
  go_ret2
  exact ⟨ret_2 HY.out.symm HG1.out.symm, HB3.out⟩
end Go.Proofs.Ytakenobplljkbaa
