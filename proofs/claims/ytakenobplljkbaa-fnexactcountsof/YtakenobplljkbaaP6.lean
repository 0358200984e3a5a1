/- Contracts that the proof stands on, one behind the other. -/
import Derived.Test.YtakenobplljkbaaP5
/- ChangeBy and IsCycle of both sides. -/
namespace Go.Proofs.Ytakenobplljkbaa
open Go.RowKit
set_option maxRecDepth 10000

def OEndC (g : Bool) (r : List Int) (w : World) (e : Ending) (w' : World) : Prop :=
  ∃ a b n c, e = .returned (.tuple #[.slice a n c, .bool g]) ∧ Ob w' a b n r ∧ w.heap.size ≤ b ∧ Below w.heap.size w w'
def WEndC (g : Bool) (r : List Int) (w : World) (e : Ending) (w' : World) : Prop :=
  ∃ a n c, e = .returned (.tuple #[.slice a n c, .bool g]) ∧ Row w' a n r ∧ Below w.heap.size w w'

theorem oendC_no {r : List Int} {w w' : World} (h : r = []) (hb : Below w.heap.size w w') : OEndC false r w (.returned (.tuple #[.slice none 0 0, .bool false])) w' :=
  ⟨none, w.heap.size, 0, 0, rfl, ⟨by rw [h]; rfl, .inl rfl⟩, Nat.le_refl _, hb⟩
theorem wendC_no {r : List Int} {w w' : World} (h : r = []) (hb : Below w.heap.size w w') : WEndC false r w (.returned (.tuple #[.slice none 0 0, .bool false])) w' :=
  ⟨none, 0, 0, rfl, ⟨by rw [h]; rfl, .inl rfl⟩, hb⟩

theorem MadeEnd.ob {f : Nat → Int} {n g : Nat} {w' : World} (h : OutR w' g n (listF f n)) : Ob w' (some ⟨g, 0, none⟩) g n (listF f n) :=
  ⟨h.1, .inr ⟨rfl, h.2⟩⟩

def chR (p : Int) (n : Nat) (L : List (List Int)) (cs : List Int) : List Int := if cntOk p n L cs then listF (chBy L n cs) p.toNat else []

theorem chR_len (p : Int) (n : Nat) (L : List (List Int)) (cs : List Int) : (chR p n L cs).length ≤ 16 := by
  unfold chR; split
  · rename_i h
    unfold cntOk plainB netOk at h
    simp [inB] at h
    rw [listF_len]; omega
  · exact Nat.zero_le _

theorem cnt_parts {p : Int} {n : Nat} {L : List (List Int)} {cs : List Int} (h : cntOk p n L cs = true) : netOk p n L = true ∧ cs.length = n ∧ (∀ i, i < n → -1000 ≤ cs.getD i 0 ∧ cs.getD i 0 ≤ 1000) ∧ 1 ≤ p ∧ p ≤ 16 := by
  unfold cntOk plainB at h
  simp only [Bool.and_eq_true] at h
  obtain ⟨⟨h1, _⟩, h2, h3⟩ := h
  have hl : cs.length = n := by have := of_decide_eq_true h2; omega
  refine ⟨h1, hl, fun i hi => ?_, ?_⟩
  · unfold allB at h3
    have hi' : i < cs.length := by omega
    have := List.all_eq_true.mp h3 (cs[i]) (List.getElem_mem hi')
    rw [List.getD_eq_getElem?_getD, List.getElem?_eq_getElem hi']
    simp [inB] at this ⊢; omega
  · unfold netOk at h1; simp [inB] at h1; omega

def cyR (p : Int) (n : Nat) (L : List (List Int)) (cs : List Int) : Bool := cntOk p n L cs && allB (chR p n L cs) 0 0

def CyEnd (p : Int) (n : Nat) (L : List (List Int)) (cs : List Int) (w : World) (e : Ending) (w' : World) : Prop :=
  e = .returned (.tuple #[.bool (cyR p n L cs), .bool (cntOk p n L cs)]) ∧ Below w.heap.size w w'

set_option maxHeartbeats 2000000 in
theorem changeByI_any (p : Int) (a ac : Option Addr) (n c nc cc : Nat) (L : List (List Int)) (cs : List Int) (w : World) (h : Lists w a (3 * n) L) (rc : Row w ac nc cs) (hs : sizeN n L ≤ 1048576) (hnc : nc ≤ 1048576) :
    Calls Try.prog 18 #[.agg #[.int .i64 p, .slice a n c], .slice ac nc cc] w fun e w' => OEndC (cntOk p n L cs) (chR p n L cs) w e w' := by
  have hAl := below_al w (.cells #[.int .i64 p, .slice a n c] 28)
  have HT := hide (netForCounts_any p a ac n c nc cc L cs _ (h.below hAl) (rc.below hAl) hs hnc)
  have HB0 := hide hAl
  have RC := hide rc
  have hLl := h.1
  clear h rc hAl
  go_enter Try.func18, Try.ntmps18
  go_wp2_with fail
  refine HT.out.mono ?_
  rintro e w1 ⟨p', a', m', c', rfl, hx, hb⟩
  have HB1 := hide (HB0.out.trans (hb.mono HB0.out.size))
  have hA1 := below_al w1 (.cells #[.int .i64 p', .slice a' m' c'] 54)
  have HB2 := hide (HB1.out.trans (hA1.mono HB1.out.size))
  by_cases g1 : cntOk p n L cs = true
  rotate_left
  · have g1' : cntOk p n L cs = false := by simpa using g1
    have HN : Hid (OEndC (cntOk p n L cs) (chR p n L cs) w (.returned (.tuple #[.slice none 0 0, .bool false])) (w1.alloc (.cells #[.int .i64 p', .slice a' m' c'] 54))) := by
      show OEndC (cntOk p n L cs) (chR p n L cs) w _ _
      rw [g1']; exact oendC_no (by unfold chR; rw [g1']; rfl) HB2.out
    rw [g1']
    clear g1 g1' hx HT hb hA1
    go_wp2_with fail
    go_ret2
    exact HN.out
  obtain ⟨hg, hcl, hcb, hp1, hp2⟩ := cnt_parts g1
  obtain ⟨e1, e2, e3, B, rfl, hBs, hps⟩ := hx.out g1
  subst e1 e2 e3
  obtain ⟨P, rfl⟩ : ∃ P : Nat, p' = (P : Int) := ⟨p'.toNat, by omega⟩
  obtain rfl : nc = c' := by rw [← RC.out.1]; exact hcl
  have HG1 := hide g1
  rw [g1]
  have hn24 := netN hg
  have HC := hide (changesBy_any P B nc cc ac L cs _ (hps.grow hA1) (RC.out.below HB2.out) hn24 (net_masks hg hLl) (by omega) hcb)
  have HR : Hid (chR (P : Int) nc L cs = listF (chBy L nc cs) P) := by show _ = _; unfold chR; rw [if_pos g1]; simp
  clear hb HT hx hBs hps hA1 g1 hcb hg HB1 HB0
  go_wp2_with fail
  refine HC.out.mono ?_
  rintro e w2 ⟨g, rfl, hgs, hout, hb⟩
  have HB3 := hide (HB2.out.trans (hb.mono HB2.out.size))
  have HO := hide hout
  have hgs' : w.heap.size ≤ g := by have := HB2.out.size; omega
  clear hb HC hout hgs HB2
  go_wp2_with fail
  go_ret2
  show OEndC _ _ _ _ _
  rw [HG1.out, HR.out]
  exact ⟨_, g, _, _, rfl, MadeEnd.ob HO.out, hgs', HB3.out⟩

set_option maxHeartbeats 2000000 in
theorem changeByS_any (p : Int) (a ac : Option Addr) (n c nc cc : Nat) (L : List (List Int)) (cs : List Int) (w : World) (h : Lists w a (3 * n) L) (rc : Row w ac nc cs) (hs : sizeN n L ≤ 1048576) (hnc : nc ≤ 1048576) :
    Calls Try.prog 16 #[.agg #[.int .i64 p, .slice a n c], .slice ac nc cc] w fun e w' => WEndC (cntOk p n L cs) (chR p n L cs) w e w' := by
  have hAl := below_al w (.cells #[.int .i64 p, .slice a n c] 28)
  have PAR := hide (heap_alloc_new w (.cells #[.int .i64 p, .slice a n c] 28))
  have HT := hide (countsS_any p a ac n c nc cc L cs _ (h.below hAl) (rc.below hAl) hs hnc)
  have HB0 := hide hAl
  have RC := hide rc
  have HL := hide h
  clear h rc hAl
  go_enter Try.func16, Try.ntmps16
  go_wp2_with fail
  refine HT.out.mono ?_
  rintro e w1 ⟨rfl, hb⟩
  have HB1 := hide (HB0.out.trans (hb.mono HB0.out.size))
  obtain ⟨hc0, hc1⟩ := cells2 (keep PAR.out hb)
  have hlt := row_lt (keep PAR.out hb)
  clear hb HT HB0 PAR
  by_cases g1 : cntOk p n L cs = true
  rotate_left
  · have g1' : cntOk p n L cs = false := by simpa using g1
    have HN : Hid (WEndC (cntOk p n L cs) (chR p n L cs) w (.returned (.tuple #[.slice none 0 0, .bool false])) w1) := by
      show WEndC (cntOk p n L cs) (chR p n L cs) w _ _
      rw [g1']; exact wendC_no (by unfold chR; rw [g1']; rfl) HB1.out
    rw [g1']
    clear g1 g1' hc0 hc1 hlt
    go_wp2_with fail
    go_ret2
    exact HN.out
  obtain ⟨hg, hcl, hcb, hp1, hp2⟩ := cnt_parts g1
  obtain ⟨P, rfl⟩ : ∃ P : Nat, p = (P : Int) := ⟨p.toNat, by omega⟩
  obtain rfl : nc = n := by rw [← RC.out.1]; exact hcl
  have HG1 := hide g1
  rw [g1]
  have HC := hide (changeS_any P a ac nc c nc cc L cs _ (HL.out.below HB1.out) (RC.out.below HB1.out) hs hg (Nat.le_refl _) hcb)
  have HR : Hid (chR (P : Int) nc L cs = listF (chBy L nc cs) P) := by show _ = _; unfold chR; rw [if_pos g1]; simp
  clear g1 hcb hg
  go_wp2_with fail
  refine HC.out.mono ?_
  rintro e w2 ⟨g, rfl, hgs, hout, hb⟩
  have HB3 := hide (HB1.out.trans (hb.mono HB1.out.size))
  have HO := hide hout
  clear hb HC hout hgs HB1
  go_wp2_with fail
  go_ret2
  show WEndC _ _ _ _ _
  rw [HG1.out, HR.out]
  exact ⟨_, _, _, rfl, HO.out.row, HB3.out⟩

set_option maxHeartbeats 400000 in
theorem cyc1_any (x : Int) (w : World) :
    Calls Try.prog 59 #[.int .i64 x] w fun e w' => e = .returned (.bool (!inB x 0 0)) ∧ w' = w := by
  have HI := hide (show (x != 0) = !inB x 0 0 by unfold inB; rw [Bool.eq_iff_iff]; simp; omega)
  go_enter Try.func59, Try.ntmps59
  go_wp2_with fail
  go_ret
  exact ⟨ret_bool HI.out, rfl⟩

/-- Where the first number beyond a bound is, or -1. -/
def CcEnd (g : Bool) (w : World) (e : Ending) (w' : World) : Prop := ∃ z : Int, e = .returned (.int .i64 z) ∧ Hid (decide (0 ≤ z) = !g) ∧ w' = w

set_option maxHeartbeats 1000000 in
theorem cycIx_any (a : Option Addr) (n c : Nat) (xs : List Int) (w : World) (rt : Row w a n xs) (hn : n ≤ 1048576) :
    Calls Try.prog 71 #[.slice a n c, .func (.func 59) #[] #[]] w fun e w' => CcEnd (allB xs 0 0) w e w' := by
  have HC := hide (fun x => cyc1_any x w)
  have hlen := rt.1
  go_enter Try.func71, Try.ntmps71
  go_wp2_with fail
  go_loop [8] (fun i => ∃ k : Nat, k ≤ n ∧ i = .int .i64 k ∧ Hid (AllUpto xs 0 0 k)) (fun i => n - (intOf i).toNat)
  case atStart => exact ⟨0, Nat.zero_le _, rfl, rfl⟩
  case round =>
    obtain ⟨k, hk, rfl, hu⟩ := hrel
    by_cases hkn : k < n
    rotate_left
    · have hk' : k = n := by omega
      subst hk'
      have HE : Hid (CcEnd (allB xs 0 0) w (.returned (.int .i64 (-1))) w) := ⟨-1, rfl, by rw [hu.out.done hlen]; rfl, rfl⟩
      go_wp2_with fail
      go_ret
      exact HE.out
    obtain ⟨b1, o1, t, rfl, hl1, hc1, H1⟩ := rt.at hkn
    have HH := hide (HC.out t)
    clear rt
    by_cases hi' : inB t 0 0 = true
    · have HU := hide (hu.out.step H1 hi')
      rw [hi'] at HH
      clear hi' hu H1
      go_wp2_with fail
      refine HH.out.mono ?_
      rintro e w1 ⟨rfl, rfl⟩
      clear HH hc1 hl1
      go_wp2_with fail
      go_round
      case rel => exact ⟨k + 1, by omega, by go_num, HU⟩
      case measure => simp [intOf]; omega
    · have hi'' : inB t 0 0 = false := by simpa using hi'
      have HE : Hid (CcEnd (allB xs 0 0) w (.returned (.int .i64 (k : Int))) w) := ⟨k, rfl, by rw [allB_no H1 hi'']; simp [Hid], rfl⟩
      rw [hi''] at HH
      clear hi' hi'' hu H1
      go_wp2_with fail
      refine HH.out.mono ?_
      rintro e w1 ⟨rfl, rfl⟩
      clear HH hc1 hl1
      go_wp2_with fail
      go_ret
      exact HE.out

set_option maxHeartbeats 400000 in
theorem cycC_any (a : Option Addr) (n c : Nat) (xs : List Int) (w : World) (rt : Row w a n xs) (hn : n ≤ 1048576) :
    Calls Try.prog 47 #[.slice a n c, .func (.func 59) #[] #[]] w fun e w' => e = .returned (.bool (!allB xs 0 0)) ∧ w' = w := by
  have HI := hide (cycIx_any a n c xs w rt hn)
  clear rt
  go_enter Try.func47, Try.ntmps47
  go_wp2_with fail
  refine HI.out.mono ?_
  rintro e w1 ⟨z, rfl, hz, rfl⟩
  clear HI
  go_wp2_with fail
  go_ret
  exact ⟨ret_bool hz.out, rfl⟩


set_option maxHeartbeats 2000000 in
theorem isCycleI_any (p : Int) (a ac : Option Addr) (n c nc cc : Nat) (L : List (List Int)) (cs : List Int) (w : World) (h : Lists w a (3 * n) L) (rc : Row w ac nc cs) (hs : sizeN n L ≤ 1048576) (hnc : nc ≤ 1048576) :
    Calls Try.prog 29 #[.agg #[.int .i64 p, .slice a n c], .slice ac nc cc] w fun e w' => CyEnd p n L cs w e w' := by
  have hAl := below_al w (.cells #[.int .i64 p, .slice a n c] 28)
  have HT := hide (netForCounts_any p a ac n c nc cc L cs _ (h.below hAl) (rc.below hAl) hs hnc)
  have HB0 := hide hAl
  have RC := hide rc
  have hLl := h.1
  clear h rc hAl
  go_enter Try.func29, Try.ntmps29
  go_wp2_with fail
  refine HT.out.mono ?_
  rintro e w1 ⟨p', a', m', c', rfl, hx, hb⟩
  have HB1 := hide (HB0.out.trans (hb.mono HB0.out.size))
  have hA1 := below_al w1 (.cells #[.int .i64 p', .slice a' m' c'] 54)
  have HB2 := hide (HB1.out.trans (hA1.mono HB1.out.size))
  by_cases g1 : cntOk p n L cs = true
  rotate_left
  · have g1' : cntOk p n L cs = false := by simpa using g1
    have HN : Hid (CyEnd p n L cs w (.returned (.tuple #[.bool false, .bool false])) (w1.alloc (.cells #[.int .i64 p', .slice a' m' c'] 54))) := by
      show CyEnd p n L cs w _ _
      exact ⟨ret_2 (by unfold cyR; rw [g1']; rfl) g1'.symm, HB2.out⟩
    rw [g1']
    clear g1 g1' hx HT hb hA1
    go_wp2_with fail
    go_ret2
    exact HN.out
  obtain ⟨hg, hcl, hcb, hp1, hp2⟩ := cnt_parts g1
  obtain ⟨e1, e2, e3, B, rfl, hBs, hps⟩ := hx.out g1
  subst e1 e2 e3
  obtain ⟨P, rfl⟩ : ∃ P : Nat, p' = (P : Int) := ⟨p'.toNat, by omega⟩
  obtain rfl : nc = c' := by rw [← RC.out.1]; exact hcl
  have HG1 := hide g1
  rw [g1]
  have hn24 := netN hg
  have HC := hide (changesBy_any P B nc cc ac L cs _ (hps.grow hA1) (RC.out.below HB2.out) hn24 (net_masks hg hLl) (by omega) hcb)
  have HR : Hid (chR (P : Int) nc L cs = listF (chBy L nc cs) P) := by show _ = _; unfold chR; rw [if_pos g1]; simp
  clear hb HT hx hBs hps hA1 g1 hcb hg HB1 HB0
  go_wp2_with fail
  refine HC.out.mono ?_
  rintro e w2 ⟨g, rfl, hgs, hout, hb⟩
  have HB3 := hide (HB2.out.trans (hb.mono HB2.out.size))
  have HO := hide hout
  have hgs' : w.heap.size ≤ g := by have := HB2.out.size; omega
  clear hb HC hout hgs HB2
  go_wp2_with fail
  refine (cycC_any _ P P _ _ HO.out.row (by omega)).mono ?_
  rintro e w3 ⟨rfl, rfl⟩
  obtain ⟨r, hr⟩ : ∃ r, Hid (allB (listF (chBy L nc cs) P) 0 0 = r) := ⟨_, rfl⟩
  rw [hr.out]
  have HY : Hid (cyR (P : Int) nc L cs = r) := by show _ = _; unfold cyR; rw [HG1.out, HR.out, hr.out]; rfl
  clear hr HO HR
  go_wp2_with fail
  go_ret2
  exact ⟨ret_2 (by simp [HY.out]) HG1.out.symm, HB3.out⟩

set_option maxHeartbeats 2000000 in
theorem isCycleS_any (p : Int) (a ac : Option Addr) (n c nc cc : Nat) (L : List (List Int)) (cs : List Int) (w : World) (h : Lists w a (3 * n) L) (rc : Row w ac nc cs) (hs : sizeN n L ≤ 1048576) (hnc : nc ≤ 1048576) :
    Calls Try.prog 28 #[.agg #[.int .i64 p, .slice a n c], .slice ac nc cc] w fun e w' => CyEnd p n L cs w e w' := by
  have hAl := below_al w (.cells #[.int .i64 p, .slice a n c] 28)
  have PAR := hide (heap_alloc_new w (.cells #[.int .i64 p, .slice a n c] 28))
  have HT := hide (countsS_any p a ac n c nc cc L cs _ (h.below hAl) (rc.below hAl) hs hnc)
  have HB0 := hide hAl
  have RC := hide rc
  have HL := hide h
  clear h rc hAl
  go_enter Try.func28, Try.ntmps28
  go_wp2_with fail
  refine HT.out.mono ?_
  rintro e w1 ⟨rfl, hb⟩
  have HB1 := hide (HB0.out.trans (hb.mono HB0.out.size))
  obtain ⟨hc0, hc1⟩ := cells2 (keep PAR.out hb)
  have hlt := row_lt (keep PAR.out hb)
  clear hb HT HB0 PAR
  by_cases g1 : cntOk p n L cs = true
  rotate_left
  · have g1' : cntOk p n L cs = false := by simpa using g1
    have HN : Hid (CyEnd p n L cs w (.returned (.tuple #[.bool false, .bool false])) w1) := by
      show CyEnd p n L cs w _ _
      exact ⟨ret_2 (by unfold cyR; rw [g1']; rfl) g1'.symm, HB1.out⟩
    rw [g1']
    clear g1 g1' hc0 hc1 hlt
    go_wp2_with fail
    go_ret2
    exact HN.out
  obtain ⟨hg, hcl, hcb, hp1, hp2⟩ := cnt_parts g1
  obtain ⟨P, rfl⟩ : ∃ P : Nat, p = (P : Int) := ⟨p.toNat, by omega⟩
  obtain rfl : nc = n := by rw [← RC.out.1]; exact hcl
  have HG1 := hide g1
  rw [g1]
  have HC := hide (changeS_any P a ac nc c nc cc L cs _ (HL.out.below HB1.out) (RC.out.below HB1.out) hs hg (Nat.le_refl _) hcb)
  have HR : Hid (chR (P : Int) nc L cs = listF (chBy L nc cs) P) := by show _ = _; unfold chR; rw [if_pos g1]; simp
  clear g1 hcb hg
  go_wp2_with fail
  refine HC.out.mono ?_
  rintro e w2 ⟨g, rfl, hgs, hout, hb⟩
  have HB3 := hide (HB1.out.trans (hb.mono HB1.out.size))
  have HO := hide hout
  clear hb HC hout hgs HB1
  go_wp2_with fail
  refine (allG_any _ P P _ 0 0 _ HO.out.row (by omega)).mono ?_
  rintro e w3 ⟨rfl, rfl⟩
  obtain ⟨r, hr⟩ : ∃ r, Hid (allB (listF (chBy L nc cs) P) 0 0 = r) := ⟨_, rfl⟩
  rw [hr.out]
  have HY : Hid (cyR (P : Int) nc L cs = r) := by show _ = _; unfold cyR; rw [HG1.out, HR.out, hr.out]; rfl
  clear hr HO HR
  go_wp2_with fail
  go_ret2
  exact ⟨ret_2 HY.out.symm HG1.out.symm, HB3.out⟩
end Go.Proofs.Ytakenobplljkbaa


/- CountsOf of both sides. -/
namespace Go.Proofs.Ytakenobplljkbaa
open Go.RowKit
set_option maxRecDepth 10000

def cuOk (p : Int) (n : Nat) (L : List (List Int)) (ts : List Int) : Bool := plainB p n L && (decide (ts.length ≤ 60) && allB ts 0 ((n : Int) - 1))
def cuL (n : Nat) (ts : List Int) : List Int := updL (fun y => y + 1) ts (List.replicate n 0)
def cuR (p : Int) (n : Nat) (L : List (List Int)) (ts : List Int) : List Int := if cuOk p n L ts then cuL n ts else []

theorem cuL_len (n : Nat) (ts : List Int) : (cuL n ts).length = n := by unfold cuL; rw [updL_len]; simp

theorem cuR_len (p : Int) (n : Nat) (L : List (List Int)) (ts : List Int) : (cuR p n L ts).length ≤ 24 := by
  unfold cuR; split
  · rename_i h
    unfold cuOk plainB at h
    simp only [Bool.and_eq_true] at h
    rw [cuL_len]; exact netN h.1.1
  · exact Nat.zero_le _

theorem cu_bound (n : Nat) (ts : List Int) (i : Nat) : 0 ≤ (cuL n ts).getD i 0 ∧ (cuL n ts).getD i 0 ≤ ts.length := by
  unfold cuL
  induction ts using snoc_ind with
  | h0 =>
    show 0 ≤ (List.replicate n (0 : Int)).getD i 0 ∧ (List.replicate n (0 : Int)).getD i 0 ≤ _
    rw [List.getD_eq_getElem?_getD, List.getElem?_replicate]
    split <;> simp
  | h1 xs x ih =>
    rw [updL_snoc, List.length_append, List.getD_eq_getElem?_getD, List.getElem?_set]
    by_cases e : x.toNat = i
    · rw [if_pos e]
      split
      · rw [e]; simp only [Option.getD_some, List.length_cons, List.length_nil]; omega
      · simp; omega
    · rw [if_neg e, ← List.getD_eq_getElem?_getD]; simp only [List.length_cons, List.length_nil]; omega

set_option maxHeartbeats 400000 in
theorem lacks7_any (p t : Int) (a : Option Addr) (n c : Nat) (w : World) :
    Calls Try.prog 48 #[.agg #[.int .i64 p, .slice a n c], .int .i64 t] w fun e w' => e = .returned (.bool (!inB t 0 ((n : Int) - 1))) ∧ w' = w.alloc (.cells #[.int .i64 p, .slice a n c] 54) := by
  by_cases h0 : t < 0
  · have HB := hide (show (!inB t 0 ((n : Int) - 1)) = true by simp [inB]; omega)
    go_enter Try.func48, Try.ntmps48
    go_wp2_with fail
    go_ret
    exact ⟨ret_bool HB.out.symm, rfl⟩
  by_cases h1 : (n : Int) ≤ t
  · have HB := hide (show (!inB t 0 ((n : Int) - 1)) = true by simp [inB]; omega)
    go_enter Try.func48, Try.ntmps48
    go_wp2_with fail
    go_ret
    exact ⟨ret_bool HB.out.symm, rfl⟩
  · have HB := hide (show (!inB t 0 ((n : Int) - 1)) = false by simp [inB]; omega)
    go_enter Try.func48, Try.ntmps48
    go_wp2_with fail
    go_ret
    exact ⟨ret_bool HB.out.symm, rfl⟩

theorem lackUpto7 {ts : List Int} {n k : Nat} {t : Int} (h : allB (ts.take k) 0 ((n : Int) - 1) = true) (hx : ts[k]? = some t) (hi : inB t 0 ((n : Int) - 1) = true) : allB (ts.take (k + 1)) 0 ((n : Int) - 1) = true := by
  unfold allB at *
  rw [List.take_add_one, hx, List.all_append, h]
  simp [hi]

/-- Where the first number is that is no transition's, or -1. -/
def LaEnd7 (g : Bool) (w : World) (e : Ending) (w' : World) : Prop := ∃ z : Int, e = .returned (.int .i64 z) ∧ Hid (decide (0 ≤ z) = !g) ∧ Below w.heap.size w w'

set_option maxHeartbeats 1000000 in
theorem lackIx7_any (p : Int) (a at' : Option Addr) (n c nt ct : Nat) (ts : List Int) (w : World) (rt : Row w at' nt ts) (hnt : nt ≤ 1048576) :
    Calls Try.prog 71 #[.slice at' nt ct, .func (.func 48) #[.agg #[.int .i64 p, .slice a n c]] #[]] w fun e w' => LaEnd7 (allB ts 0 ((n : Int) - 1)) w e w' := by
  have HT := hide rt
  have hlt := rt.1
  clear rt
  go_enter Try.func71, Try.ntmps71
  go_wp2_with fail
  go_loopw [8] (fun i wr => ∃ k : Nat, k ≤ nt ∧ i = .int .i64 k ∧ Hid (allB (ts.take k) 0 ((n : Int) - 1) = true) ∧ Hid (Below w.heap.size w wr)) (fun i _ => nt - (intOf i).toNat)
  case atStart => exact ⟨0, Nat.zero_le _, rfl, rfl, Below.refl _ _⟩
  case round =>
    obtain ⟨k, hk, rfl, hu, hbw⟩ := hrel
    by_cases hkn : k < nt
    rotate_left
    · have hk' : k = nt := by omega
      subst hk'
      have HE : Hid (LaEnd7 (allB ts 0 ((n : Int) - 1)) w (.returned (.int .i64 (-1))) wr) := ⟨-1, rfl, by have := hu.out; rw [List.take_of_length_le (by omega)] at this; rw [this]; rfl, hbw.out⟩
      go_wp2_with fail
      go_ret
      exact HE.out
    obtain ⟨b1, o1, t, rfl, hl1, hc1, H1⟩ := (HT.out.below hbw.out).at hkn
    have HH := hide (lacks7_any p t a n c wr)
    have HB := hide (hbw.out.trans ((below_al wr (.cells #[.int .i64 p, .slice a n c] 54)).mono hbw.out.size))
    by_cases hi : inB t 0 ((n : Int) - 1) = true
    · have HU := hide (lackUpto7 hu.out H1.out hi)
      rw [hi] at HH
      clear hi hu H1
      go_wp2_with fail
      refine HH.out.mono ?_
      rintro e w1 ⟨rfl, rfl⟩
      clear HH hc1 hl1
      go_wp2_with fail
      go_roundw
      case rel => exact ⟨k + 1, by omega, by go_num, HU, HB⟩
      case measure => simp [intOf]; omega
    · have hi' : inB t 0 ((n : Int) - 1) = false := by simpa using hi
      have HE : Hid (LaEnd7 (allB ts 0 ((n : Int) - 1)) w (.returned (.int .i64 (k : Int))) (wr.alloc (.cells #[.int .i64 p, .slice a n c] 54))) := ⟨k, rfl, by rw [allB_no H1 hi']; simp [Hid], HB.out⟩
      rw [hi'] at HH
      clear hi hi' hu H1
      go_wp2_with fail
      refine HH.out.mono ?_
      rintro e w1 ⟨rfl, rfl⟩
      clear HH hc1 hl1
      go_wp2_with fail
      go_ret
      exact HE.out

set_option maxHeartbeats 400000 in
theorem lackC7_any (p : Int) (a at' : Option Addr) (n c nt ct : Nat) (ts : List Int) (w : World) (rt : Row w at' nt ts) (hnt : nt ≤ 1048576) :
    Calls Try.prog 47 #[.slice at' nt ct, .func (.func 48) #[.agg #[.int .i64 p, .slice a n c]] #[]] w fun e w' => e = .returned (.bool (!allB ts 0 ((n : Int) - 1))) ∧ Below w.heap.size w w' := by
  have HI := hide (lackIx7_any p a at' n c nt ct ts w rt hnt)
  clear rt
  go_enter Try.func47, Try.ntmps47
  go_wp2_with fail
  refine HI.out.mono ?_
  rintro e w1 ⟨z, rfl, hz, hb⟩
  have HB := hide hb
  clear hb HI
  go_wp2_with fail
  go_ret
  exact ⟨ret_bool hz.out, HB.out⟩


set_option maxHeartbeats 4000000 in
theorem countsOfI_any (p : Int) (a ac : Option Addr) (n c nc cc : Nat) (L : List (List Int)) (ts : List Int) (w : World) (h : Lists w a (3 * n) L) (rc : Row w ac nc ts) (hs : sizeN n L ≤ 1048576) (hnc : nc ≤ 1048576) :
    Calls Try.prog 23 #[.agg #[.int .i64 p, .slice a n c], .slice ac nc cc] w fun e w' => OEndC (cuOk p n L ts) (cuR p n L ts) w e w' := by
  have hAl := below_al w (.cells #[.int .i64 p, .slice a n c] 28)
  have PAR := hide (heap_alloc_new w (.cells #[.int .i64 p, .slice a n c] 28))
  have HT := hide (stepsNR_any p a n c L _ (h.below hAl) hs)
  have HB0 := hide hAl
  have RC := hide rc
  have hcl := rc.1
  clear h rc hAl
  have HNO : Hid (cuOk p n L ts = false → ∀ W, Below w.heap.size w W → OEndC (cuOk p n L ts) (cuR p n L ts) w (.returned (.tuple #[.slice none 0 0, .bool false])) W) := fun q W hW => by rw [q]; exact oendC_no (by unfold cuR; rw [q]; rfl) hW
  go_enter Try.func23, Try.ntmps23
  go_wp2_with fail
  refine HT.out.mono ?_
  rintro e w1 ⟨p', a', m', c', rfl, hx, hb⟩
  have HB1 := hide (HB0.out.trans (hb.mono HB0.out.size))
  have hA1 := below_al w1 (.cells #[.int .i64 p', .slice a' m' c'] 54)
  have HB2 := hide (HB1.out.trans (hA1.mono HB1.out.size))
  have PAR2 := hide (heap_alloc_new w1 (.cells #[.int .i64 p', .slice a' m' c'] 54))
  clear hb hA1 HT PAR HB0 HB1
  rw [show (netOk p n L && !resB n L) = plainB p n L from rfl] at hx
  have hpb : (netOk p n L && !resB n L) = plainB p n L := rfl
  rw [hpb]
  by_cases g1 : plainB p n L = true
  rotate_left
  · have g1' : plainB p n L = false := by simpa using g1
    have HN := hide (HNO.out (by unfold cuOk; rw [g1']; rfl) _ HB2.out)
    rw [g1']
    clear g1 g1' HB2 PAR2 HNO hx
    go_wp2_with fail
    go_ret2
    exact HN.out
  obtain ⟨e1, e2, e3, B, rfl, hBs, hps⟩ := hx.out g1
  subst e1 e2 e3
  have hn24 : c' ≤ 24 := netN (by unfold plainB at g1; simp only [Bool.and_eq_true] at g1; exact g1.1)
  have HG1 := hide g1
  rw [g1]
  clear g1 hps hBs hx
  obtain ⟨hc0, hc1⟩ := cells2 PAR2.out
  have hlt := row_lt PAR2.out
  by_cases g2 : nc ≤ 60
  rotate_left
  · have hd : (60 : Int) < (nc : Int) := by omega
    have HN := hide (HNO.out (by unfold cuOk; simp [hcl, g2]) _ HB2.out)
    clear g2 HB2 PAR2 HNO
    go_wp2_with fail
    go_ret2
    exact HN.out
  have hd : ¬ (60 : Int) < (nc : Int) := by omega
  have HCU : Hid (cuOk p' c' L ts = allB ts 0 ((c' : Int) - 1)) := by show _ = _; unfold cuOk; rw [HG1.out, hcl]; simp [g2]
  have HC := hide (lackC7_any p' (some ⟨B, 0, none⟩) ac c' c' nc cc ts (w1.alloc (.cells #[.int .i64 p', .slice (some ⟨B, 0, none⟩) c' c'] 54)) (RC.out.below HB2.out) hnc)
  go_wp2_with fail
  refine HC.out.mono ?_
  rintro e w2 ⟨rfl, hb⟩
  have HB3 := hide (HB2.out.trans (hb.mono HB2.out.size))
  obtain ⟨hc0, hc1⟩ := cells2 (keep PAR2.out hb)
  have hlt := row_lt (keep PAR2.out hb)
  clear hb HC HB2 PAR2 HG1
  by_cases g3 : allB ts 0 ((c' : Int) - 1) = true
  rotate_left
  · have g3' : allB ts 0 ((c' : Int) - 1) = false := by simpa using g3
    have HN := hide (HNO.out (by rw [HCU.out]; exact g3') _ HB3.out)
    rw [g3']
    clear g3 g3' HB3 HNO HCU
    go_wp2_with fail
    go_ret2
    exact HN.out
  have HOK : Hid (cuOk p' c' L ts = true) := by show _ = _; rw [HCU.out]; exact g3
  have HIN := hide (show ∀ x ∈ ts, 0 ≤ x ∧ x < (c' : Int) by
    intro x hx
    unfold allB at g3
    have := List.all_eq_true.mp g3 x hx
    simp [inB] at this; omega)
  rw [g3]
  clear g3 HNO HCU
  have hmk := run_make_many (P := Try.prog) 35 3 (.int .i64 0) 1 8 Try.underlying35 Try.info3 .i64 .i64 c' (by omega) (by omega)
  simp only [Value.cells, Nat.mul_one] at hmk
  go_wp2_with fail
  clear hc0 hc1 hlt hmk
  have HO : Hid (OutR (w2.alloc (.cells (madeCells #[.int .i64 0] c') 3)) w2.heap.size c' (cuL c' (ts.take 0))) := by
    show OutR _ _ _ _
    have := outF_made w2 (fun _ => 0) c'
    have e : outF (fun _ => 0) 0 c' = cuL c' (ts.take 0) := by
      show _ = List.replicate c' 0
      unfold outF listF
      rw [List.eq_replicate_iff]
      exact ⟨by simp, by simp⟩
    rw [← e]; exact this
  have HW := hide (HB3.out.trans ((below_al w2 (.cells (madeCells #[.int .i64 0] c') 3)).mono HB3.out.size))
  have hgw : w.heap.size ≤ w2.heap.size := HB3.out.size
  generalize w2.alloc (.cells (madeCells #[.int .i64 0] c') 3) = v1 at *
  generalize w2.heap.size = g at *
  clear HB3 w2
  go_loopw [35] (fun i wr => ∃ k : Nat, k ≤ nc ∧ i = .int .i64 k ∧ Hid (OutR wr g c' (cuL c' (ts.take k))) ∧ Hid (Below w.heap.size w wr)) (fun i _ => nc - (intOf i).toNat)
  case atStart => exact ⟨0, Nat.zero_le _, rfl, HO, HW⟩
  case round =>
    obtain ⟨k, hk, rfl, ho, hbw⟩ := hrel
    clear HO HW
    by_cases hkn : k < nc
    rotate_left
    · have hk' : nc = k := by omega
      subst hk'
      have HE : Hid (OEndC (cuOk p' c' L ts) (cuR p' c' L ts) w (.returned (.tuple #[.slice (some ⟨g, 0, none⟩) c' c', .bool true])) wr) := by
        show OEndC _ _ _ _ _
        have h1 := ho.out
        rw [List.take_of_length_le (by omega)] at h1
        rw [HOK.out, show cuR p' c' L ts = cuL c' ts by unfold cuR; rw [if_pos HOK.out]]
        exact ⟨_, g, _, _, rfl, ⟨h1.1, .inr ⟨rfl, h1.2⟩⟩, hgw, hbw.out⟩
      clear HOK ho hbw
      go_wp2_with fail
      go_ret2
      exact HE.out
    obtain ⟨b1, o1, x, rfl, hl1, hc1, H1⟩ := (RC.out.below hbw.out).at hkn
    have hxm := HIN.out x (List.mem_of_getElem? H1.out)
    obtain ⟨z, rfl⟩ : ∃ z : Nat, x = (z : Int) := ⟨x.toNat, by omega⟩
    have hzn : (z : Int) < (c' : Int) := hxm.2
    have HU : Hid (cuL c' (ts.take (k + 1)) = (cuL c' (ts.take k)).set z ((cuL c' (ts.take k)).getD z 0 + 1)) := by
      show _ = _
      have := updL_take (fun y => y + 1) ts (List.replicate c' 0) k _ H1.out
      rw [Int.toNat_natCast] at this
      exact this
    have hyb := cu_bound c' (ts.take k) z
    rw [List.length_take] at hyb
    obtain ⟨hle, cur, hh, hcs, hcell⟩ := ho.out
    have hfr := frozen_of_row wr g z cur _ hh
    have hcy := cell_of_row wr g z cur _ _ hh
    rw [hcell z (by omega)] at hcy
    have hgl := (Array.getElem?_eq_some_iff.mp hh).1
    obtain ⟨y, hyy⟩ : ∃ y, Hid ((cuL c' (ts.take k)).getD z 0 = y) := ⟨_, rfl⟩
    rw [hyy.out] at hcy hyb HU
    have hyb2 : 0 ≤ y ∧ y ≤ 60 := by omega
    have HN : Hid (OutR (wr.setCell ⟨g, z, none⟩ (.int .i64 (y + 1))) g c' (cuL c' (ts.take (k + 1)))) := by
      show OutR _ _ _ _
      rw [HU.out]; exact ho.out.set z (by omega) _
    have HBN := hide (hbw.out.setCell (p := ⟨g, z, none⟩) hgw (.int .i64 (y + 1)))
    clear ho hbw hh hcell hcs hle hyy H1 HU hyb hxm HIN RC HOK
    go_wp2_with fail
    go_roundw
    case rel => exact ⟨k + 1, by omega, by go_num, HN, HBN⟩
    case measure => simp [intOf]; omega

set_option maxHeartbeats 4000000 in
theorem countsOfS_any (p : Int) (a ac : Option Addr) (n c nc cc : Nat) (L : List (List Int)) (ts : List Int) (w : World) (h : Lists w a (3 * n) L) (rc : Row w ac nc ts) (hs : sizeN n L ≤ 1048576) (hnc : nc ≤ 1048576) :
    Calls Try.prog 22 #[.agg #[.int .i64 p, .slice a n c], .slice ac nc cc] w fun e w' => WEndC (cuOk p n L ts) (cuR p n L ts) w e w' := by
  have hAl := below_al w (.cells #[.int .i64 p, .slice a n c] 28)
  have PAR := hide (heap_alloc_new w (.cells #[.int .i64 p, .slice a n c] 28))
  have HT := hide (plainS_any p a n c L _ (h.below hAl) hs)
  have HB0 := hide hAl
  have RC := hide rc
  have hcl := rc.1
  clear h rc hAl
  have HNO : Hid (cuOk p n L ts = false → ∀ W, Below w.heap.size w W → WEndC (cuOk p n L ts) (cuR p n L ts) w (.returned (.tuple #[.slice none 0 0, .bool false])) W) := fun q W hW => by rw [q]; exact wendC_no (by unfold cuR; rw [q]; rfl) hW
  go_enter Try.func22, Try.ntmps22
  go_wp2_with fail
  refine HT.out.mono ?_
  rintro e w1 ⟨rfl, hb⟩
  have HB2 := hide (HB0.out.trans (hb.mono HB0.out.size))
  have PAR2 := hide (keep PAR.out hb)
  clear hb HT PAR HB0
  by_cases g1 : plainB p n L = true
  rotate_left
  · have g1' : plainB p n L = false := by simpa using g1
    have HN := hide (HNO.out (by unfold cuOk; rw [g1']; rfl) _ HB2.out)
    rw [g1']
    clear g1 g1' HB2 PAR2 HNO
    go_wp2_with fail
    go_ret2
    exact HN.out
  have hn24 : n ≤ 24 := netN (by unfold plainB at g1; simp only [Bool.and_eq_true] at g1; exact g1.1)
  have HG1 := hide g1
  rw [g1]
  clear g1
  obtain ⟨hc0, hc1⟩ := cells2 PAR2.out
  have hlt := row_lt PAR2.out
  by_cases g2 : nc ≤ 60
  rotate_left
  · have hd : (60 : Int) < (nc : Int) := by omega
    have HN := hide (HNO.out (by unfold cuOk; simp [hcl, g2]) _ HB2.out)
    clear g2 HB2 PAR2 HNO
    go_wp2_with fail
    go_ret2
    exact HN.out
  have hd : ¬ (60 : Int) < (nc : Int) := by omega
  have HCU : Hid (cuOk p n L ts = allB ts 0 ((n : Int) - 1)) := by show _ = _; unfold cuOk; rw [HG1.out, hcl]; simp [g2]
  have HC := hide (allG_any ac nc cc ts 0 ((n : Int) - 1) w1 (RC.out.below HB2.out) hnc)
  go_wp2_with fail
  refine HC.out.mono ?_
  rintro e w2 ⟨rfl, rfl⟩
  have HB3 := HB2
  clear HC HB2 PAR2 HG1
  by_cases g3 : allB ts 0 ((n : Int) - 1) = true
  rotate_left
  · have g3' : allB ts 0 ((n : Int) - 1) = false := by simpa using g3
    have HN := hide (HNO.out (by rw [HCU.out]; exact g3') _ HB3.out)
    rw [g3']
    clear g3 g3' HB3 HNO HCU
    go_wp2_with fail
    go_ret2
    exact HN.out
  have HOK : Hid (cuOk p n L ts = true) := by show _ = _; rw [HCU.out]; exact g3
  have HIN := hide (show ∀ x ∈ ts, 0 ≤ x ∧ x < (n : Int) by
    intro x hx
    unfold allB at g3
    have := List.all_eq_true.mp g3 x hx
    simp [inB] at this; omega)
  rw [g3]
  clear g3 HNO HCU
  have hmk := run_make_many (P := Try.prog) 35 3 (.int .i64 0) 1 8 Try.underlying35 Try.info3 .i64 .i64 n (by omega) (by omega)
  simp only [Value.cells, Nat.mul_one] at hmk
  go_wp2_with fail
  clear hc0 hc1 hlt hmk
  have HO : Hid (OutR (w2.alloc (.cells (madeCells #[.int .i64 0] n) 3)) w2.heap.size n (cuL n (ts.take 0))) := by
    show OutR _ _ _ _
    have := outF_made w2 (fun _ => 0) n
    have e : outF (fun _ => 0) 0 n = cuL n (ts.take 0) := by
      show _ = List.replicate n 0
      unfold outF listF
      rw [List.eq_replicate_iff]
      exact ⟨by simp, by simp⟩
    rw [← e]; exact this
  have HW := hide (HB3.out.trans ((below_al w2 (.cells (madeCells #[.int .i64 0] n) 3)).mono HB3.out.size))
  have hgw : w.heap.size ≤ w2.heap.size := HB3.out.size
  generalize w2.alloc (.cells (madeCells #[.int .i64 0] n) 3) = v1 at *
  generalize w2.heap.size = g at *
  clear HB3 w2
  go_loopw [32] (fun i wr => ∃ k : Nat, k ≤ nc ∧ i = .int .i64 k ∧ Hid (OutR wr g n (cuL n (ts.take k))) ∧ Hid (Below w.heap.size w wr)) (fun i _ => nc - (intOf i).toNat)
  case atStart => exact ⟨0, Nat.zero_le _, rfl, HO, HW⟩
  case round =>
    obtain ⟨k, hk, rfl, ho, hbw⟩ := hrel
    clear HO HW
    by_cases hkn : k < nc
    rotate_left
    · have hk' : nc = k := by omega
      subst hk'
      have HE : Hid (WEndC (cuOk p n L ts) (cuR p n L ts) w (.returned (.tuple #[.slice (some ⟨g, 0, none⟩) n n, .bool true])) wr) := by
        show WEndC _ _ _ _ _
        have h1 := ho.out
        rw [List.take_of_length_le (by omega)] at h1
        rw [HOK.out, show cuR p n L ts = cuL n ts by unfold cuR; rw [if_pos HOK.out]]
        exact ⟨_, _, _, rfl, h1.row, hbw.out⟩
      clear HOK ho hbw
      go_wp2_with fail
      go_ret2
      exact HE.out
    obtain ⟨b1, o1, x, rfl, hl1, hc1, H1⟩ := (RC.out.below hbw.out).at hkn
    have hxm := HIN.out x (List.mem_of_getElem? H1.out)
    obtain ⟨z, rfl⟩ : ∃ z : Nat, x = (z : Int) := ⟨x.toNat, by omega⟩
    have hzn : (z : Int) < (n : Int) := hxm.2
    have HU : Hid (cuL n (ts.take (k + 1)) = (cuL n (ts.take k)).set z ((cuL n (ts.take k)).getD z 0 + 1)) := by
      show _ = _
      have := updL_take (fun y => y + 1) ts (List.replicate n 0) k _ H1.out
      rw [Int.toNat_natCast] at this
      exact this
    have hyb := cu_bound n (ts.take k) z
    rw [List.length_take] at hyb
    obtain ⟨hle, cur, hh, hcs, hcell⟩ := ho.out
    have hfr := frozen_of_row wr g z cur _ hh
    have hcy := cell_of_row wr g z cur _ _ hh
    rw [hcell z (by omega)] at hcy
    have hgl := (Array.getElem?_eq_some_iff.mp hh).1
    obtain ⟨y, hyy⟩ : ∃ y, Hid ((cuL n (ts.take k)).getD z 0 = y) := ⟨_, rfl⟩
    rw [hyy.out] at hcy hyb HU
    have hyb2 : 0 ≤ y ∧ y ≤ 60 := by omega
    have HN : Hid (OutR (wr.setCell ⟨g, z, none⟩ (.int .i64 (y + 1))) g n (cuL n (ts.take (k + 1)))) := by
      show OutR _ _ _ _
      rw [HU.out]; exact ho.out.set z (by omega) _
    have HBN := hide (hbw.out.setCell (p := ⟨g, z, none⟩) hgw (.int .i64 (y + 1)))
    clear ho hbw hh hcell hcs hle hyy H1 HU hyb hxm HIN RC HOK
    go_wp2_with fail
    go_roundw
    case rel => exact ⟨k + 1, by omega, by go_num, HN, HBN⟩
    case measure => simp [intOf]; omega
end Go.Proofs.Ytakenobplljkbaa
