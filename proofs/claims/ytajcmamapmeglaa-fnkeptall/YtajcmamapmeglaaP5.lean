/- Contracts that the proof stands on, one behind the other. -/
import Derived.Test.YtajcmamapmeglaaP4
import Derived.BigQuiet
import Derived.Lib.Strings
import Derived.Lib.Slices
import Derived.Lib.Small
import Derived.Lib.Walk
import Derived.Lib.Tables
import Derived.Lib.BitFns
/- ChangeBy and IsCycle of both sides. -/
namespace Go.Proofs.Ytajcmamapmeglaa
open Go.RowKit
set_option maxRecDepth 10000

def OEndC (g : Bool) (r : List Int) (w : World) (e : Ending) (w' : World) : Prop :=
  ∃ a b n c, e = .returned (.tuple #[.slice a n c, .bool g]) ∧ Ob w' a b n r ∧ w.heap.size ≤ b ∧ Below w.heap.size w w'
def WEndC (g : Bool) (r : List Int) (w : World) (e : Ending) (w' : World) : Prop :=
  ∃ a n c, e = .returned (.tuple #[.slice a n c, .bool g]) ∧ Row w' a n r ∧ Below w.heap.size w w'

theorem oendC_no {r : List Int} {w w' : World} (h : r = []) (hb : Below w.heap.size w w') : OEndC false r w (.returned (.tuple #[.slice none 0 0, .bool false])) w' :=
  ⟨none, w.heap.size, 0, 0, rfl, ⟨by rw [h]; rfl, .inl rfl⟩, Nat.le_refl _, hb⟩
theorem wendC_no {r : List Int} {w w' : World} (h : r = []) (hb : Below w.heap.size w w') : WEndC false r w (.returned (.tuple #[.slice none 0 0, .bool false])) w' :=
  ⟨none, 0, 0, rfl, ⟨by rw [h]; rfl, .inl rfl⟩, hb⟩

theorem MadeEnd.ob {f : Nat → Int} {n g : Nat} {w' : World} (h : OutR w' g n (listF f n)) : Ob w' (some ⟨g, 0, none⟩) g n (listF f n) :=
  ⟨h.1, .inr ⟨rfl, h.2⟩⟩

def chR (p : Int) (n : Nat) (L : List (List Int)) (cs : List Int) : List Int := if cntOk p n L cs then listF (chBy L n cs) p.toNat else []

theorem chR_len (p : Int) (n : Nat) (L : List (List Int)) (cs : List Int) : (chR p n L cs).length ≤ 16 := by
  unfold chR; split
  · rename_i h
    unfold cntOk plainB netOk at h
    simp [inB] at h
    rw [listF_len]; omega
  · exact Nat.zero_le _

theorem cnt_parts {p : Int} {n : Nat} {L : List (List Int)} {cs : List Int} (h : cntOk p n L cs = true) : netOk p n L = true ∧ cs.length = n ∧ (∀ i, i < n → -1000 ≤ cs.getD i 0 ∧ cs.getD i 0 ≤ 1000) ∧ 1 ≤ p ∧ p ≤ 16 := by
  unfold cntOk plainB at h
  simp only [Bool.and_eq_true] at h
  obtain ⟨⟨h1, _⟩, h2, h3⟩ := h
  have hl : cs.length = n := by have := of_decide_eq_true h2; omega
  refine ⟨h1, hl, fun i hi => ?_, ?_⟩
  · unfold allB at h3
    have hi' : i < cs.length := by omega
    have := List.all_eq_true.mp h3 (cs[i]) (List.getElem_mem hi')
    rw [List.getD_eq_getElem?_getD, List.getElem?_eq_getElem hi']
    simp [inB] at this ⊢; omega
  · unfold netOk at h1; simp [inB] at h1; omega

def cyR (p : Int) (n : Nat) (L : List (List Int)) (cs : List Int) : Bool := cntOk p n L cs && allB (chR p n L cs) 0 0

def CyEnd (p : Int) (n : Nat) (L : List (List Int)) (cs : List Int) (w : World) (e : Ending) (w' : World) : Prop :=
  e = .returned (.tuple #[.bool (cyR p n L cs), .bool (cntOk p n L cs)]) ∧ Below w.heap.size w w'

set_option maxHeartbeats 2000000 in
theorem changeByI_any (p : Int) (a ac : Option Addr) (n c nc cc : Nat) (L : List (List Int)) (cs : List Int) (w : World) (h : Lists w a (3 * n) L) (rc : Row w ac nc cs) (hs : sizeN n L ≤ 1048576) (hnc : nc ≤ 1048576) :
    Calls Try.prog 16 #[.agg #[.int .i64 p, .slice a n c], .slice ac nc cc] w fun e w' => OEndC (cntOk p n L cs) (chR p n L cs) w e w' := by
  have hAl := below_al w (.cells #[.int .i64 p, .slice a n c] 26)
  have HT := hide (netForCounts_any p a ac n c nc cc L cs _ (h.below hAl) (rc.below hAl) hs hnc)
  have HB0 := hide hAl
  have RC := hide rc
  have hLl := h.1
  clear h rc hAl
  go_enter Try.func16, Try.ntmps16
  go_wp2_with fail
  refine HT.out.mono ?_
  rintro e w1 ⟨p', a', m', c', rfl, hx, hb⟩
  have HB1 := hide (HB0.out.trans (hb.mono HB0.out.size))
  have hA1 := below_al w1 (.cells #[.int .i64 p', .slice a' m' c'] 59)
  have HB2 := hide (HB1.out.trans (hA1.mono HB1.out.size))
  by_cases g1 : cntOk p n L cs = true
  rotate_left
  · have g1' : cntOk p n L cs = false := by simpa using g1
    have HN : Hid (OEndC (cntOk p n L cs) (chR p n L cs) w (.returned (.tuple #[.slice none 0 0, .bool false])) (w1.alloc (.cells #[.int .i64 p', .slice a' m' c'] 59))) := by
      show OEndC (cntOk p n L cs) (chR p n L cs) w _ _
      rw [g1']; exact oendC_no (by unfold chR; rw [g1']; rfl) HB2.out
    rw [g1']
    clear g1 g1' hx HT hb hA1
    go_wp2_with fail
    go_ret2
    exact HN.out
  obtain ⟨hg, hcl, hcb, hp1, hp2⟩ := cnt_parts g1
  obtain ⟨e1, e2, e3, B, rfl, hBs, hps⟩ := hx.out g1
  subst e1 e2 e3
  obtain ⟨P, rfl⟩ : ∃ P : Nat, p' = (P : Int) := ⟨p'.toNat, by omega⟩
  obtain rfl : nc = c' := by rw [← RC.out.1]; exact hcl
  have HG1 := hide g1
  rw [g1]
  have hn24 := netN hg
  have HC := hide (changesBy_any P B nc cc ac L cs _ (hps.grow hA1) (RC.out.below HB2.out) hn24 (net_masks hg hLl) (by omega) hcb)
  have HR : Hid (chR (P : Int) nc L cs = listF (chBy L nc cs) P) := by show _ = _; unfold chR; rw [if_pos g1]; simp
  clear hb HT hx hBs hps hA1 g1 hcb hg HB1 HB0
  go_wp2_with fail
  refine HC.out.mono ?_
  rintro e w2 ⟨g, rfl, hgs, hout, hb⟩
  have HB3 := hide (HB2.out.trans (hb.mono HB2.out.size))
  have HO := hide hout
  have hgs' : w.heap.size ≤ g := by have := HB2.out.size; omega
  clear hb HC hout hgs HB2
  go_wp2_with fail
  go_ret2
  show OEndC _ _ _ _ _
  rw [HG1.out, HR.out]
  exact ⟨_, g, _, _, rfl, MadeEnd.ob HO.out, hgs', HB3.out⟩

set_option maxHeartbeats 2000000 in
theorem changeByS_any (p : Int) (a ac : Option Addr) (n c nc cc : Nat) (L : List (List Int)) (cs : List Int) (w : World) (h : Lists w a (3 * n) L) (rc : Row w ac nc cs) (hs : sizeN n L ≤ 1048576) (hnc : nc ≤ 1048576) :
    Calls Try.prog 20 #[.agg #[.int .i64 p, .slice a n c], .slice ac nc cc] w fun e w' => WEndC (cntOk p n L cs) (chR p n L cs) w e w' := by
  have hAl := below_al w (.cells #[.int .i64 p, .slice a n c] 26)
  have PAR := hide (heap_alloc_new w (.cells #[.int .i64 p, .slice a n c] 26))
  have HT := hide (countsS_any p a ac n c nc cc L cs _ (h.below hAl) (rc.below hAl) hs hnc)
  have HB0 := hide hAl
  have RC := hide rc
  have HL := hide h
  clear h rc hAl
  go_enter Try.func20, Try.ntmps20
  go_wp2_with fail
  refine HT.out.mono ?_
  rintro e w1 ⟨rfl, hb⟩
  have HB1 := hide (HB0.out.trans (hb.mono HB0.out.size))
  obtain ⟨hc0, hc1⟩ := cells2 (keep PAR.out hb)
  have hlt := row_lt (keep PAR.out hb)
  clear hb HT HB0 PAR
  by_cases g1 : cntOk p n L cs = true
  rotate_left
  · have g1' : cntOk p n L cs = false := by simpa using g1
    have HN : Hid (WEndC (cntOk p n L cs) (chR p n L cs) w (.returned (.tuple #[.slice none 0 0, .bool false])) w1) := by
      show WEndC (cntOk p n L cs) (chR p n L cs) w _ _
      rw [g1']; exact wendC_no (by unfold chR; rw [g1']; rfl) HB1.out
    rw [g1']
    clear g1 g1' hc0 hc1 hlt
    go_wp2_with fail
    go_ret2
    exact HN.out
  obtain ⟨hg, hcl, hcb, hp1, hp2⟩ := cnt_parts g1
  obtain ⟨P, rfl⟩ : ∃ P : Nat, p = (P : Int) := ⟨p.toNat, by omega⟩
  obtain rfl : nc = n := by rw [← RC.out.1]; exact hcl
  have HG1 := hide g1
  rw [g1]
  have HC := hide (changeS_any P a ac nc c nc cc L cs _ (HL.out.below HB1.out) (RC.out.below HB1.out) hs hg (Nat.le_refl _) hcb)
  have HR : Hid (chR (P : Int) nc L cs = listF (chBy L nc cs) P) := by show _ = _; unfold chR; rw [if_pos g1]; simp
  clear g1 hcb hg
  go_wp2_with fail
  refine HC.out.mono ?_
  rintro e w2 ⟨g, rfl, hgs, hout, hb⟩
  have HB3 := hide (HB1.out.trans (hb.mono HB1.out.size))
  have HO := hide hout
  clear hb HC hout hgs HB1
  go_wp2_with fail
  go_ret2
  show WEndC _ _ _ _ _
  rw [HG1.out, HR.out]
  exact ⟨_, _, _, rfl, HO.out.row, HB3.out⟩

set_option maxHeartbeats 400000 in
theorem cyc1_any (x : Int) (w : World) :
    Calls Try.prog 70 #[.int .i64 x] w fun e w' => e = .returned (.bool (!inB x 0 0)) ∧ w' = w := by
  have HI := hide (show (x != 0) = !inB x 0 0 by unfold inB; rw [Bool.eq_iff_iff]; simp; omega)
  go_enter Try.func70, Try.ntmps70
  go_wp2_with fail
  go_ret
  exact ⟨ret_bool HI.out, rfl⟩

/-- Where the first number beyond a bound is, or -1. -/
def CcEnd (g : Bool) (w : World) (e : Ending) (w' : World) : Prop := ∃ z : Int, e = .returned (.int .i64 z) ∧ Hid (decide (0 ≤ z) = !g) ∧ w' = w

set_option maxHeartbeats 1000000 in
theorem cycIx_any (a : Option Addr) (n c : Nat) (xs : List Int) (w : World) (rt : Row w a n xs) (hn : n ≤ 1048576) :
    Calls Try.prog 119 #[.slice a n c, .func (.func 70) #[] #[]] w fun e w' => CcEnd (allB xs 0 0) w e w' := by
  have HC := hide (fun x => cyc1_any x w)
  have hlen := rt.1
  go_enter Try.func119, Try.ntmps119
  go_wp2_with fail
  go_loop [8] (fun i => ∃ k : Nat, k ≤ n ∧ i = .int .i64 k ∧ Hid (AllUpto xs 0 0 k)) (fun i => n - (intOf i).toNat)
  case atStart => exact ⟨0, Nat.zero_le _, rfl, rfl⟩
  case round =>
    obtain ⟨k, hk, rfl, hu⟩ := hrel
    by_cases hkn : k < n
    rotate_left
    · have hk' : k = n := by omega
      subst hk'
      have HE : Hid (CcEnd (allB xs 0 0) w (.returned (.int .i64 (-1))) w) := ⟨-1, rfl, by rw [hu.out.done hlen]; rfl, rfl⟩
      go_wp2_with fail
      go_ret
      exact HE.out
    obtain ⟨b1, o1, t, rfl, hl1, hc1, H1⟩ := rt.at hkn
    have HH := hide (HC.out t)
    clear rt
    by_cases hi' : inB t 0 0 = true
    · have HU := hide (hu.out.step H1 hi')
      rw [hi'] at HH
      clear hi' hu H1
      go_wp2_with fail
      refine HH.out.mono ?_
      rintro e w1 ⟨rfl, rfl⟩
      clear HH hc1 hl1
      go_wp2_with fail
      go_round
      case rel => exact ⟨k + 1, by omega, by go_num, HU⟩
      case measure => simp [intOf]; omega
    · have hi'' : inB t 0 0 = false := by simpa using hi'
      have HE : Hid (CcEnd (allB xs 0 0) w (.returned (.int .i64 (k : Int))) w) := ⟨k, rfl, by rw [allB_no H1 hi'']; simp [Hid], rfl⟩
      rw [hi''] at HH
      clear hi' hi'' hu H1
      go_wp2_with fail
      refine HH.out.mono ?_
      rintro e w1 ⟨rfl, rfl⟩
      clear HH hc1 hl1
      go_wp2_with fail
      go_ret
      exact HE.out

set_option maxHeartbeats 400000 in
theorem cycC_any (a : Option Addr) (n c : Nat) (xs : List Int) (w : World) (rt : Row w a n xs) (hn : n ≤ 1048576) :
    Calls Try.prog 63 #[.slice a n c, .func (.func 70) #[] #[]] w fun e w' => e = .returned (.bool (!allB xs 0 0)) ∧ w' = w := by
  have HI := hide (cycIx_any a n c xs w rt hn)
  clear rt
  go_enter Try.func63, Try.ntmps63
  go_wp2_with fail
  refine HI.out.mono ?_
  rintro e w1 ⟨z, rfl, hz, rfl⟩
  clear HI
  go_wp2_with fail
  go_ret
  exact ⟨ret_bool hz.out, rfl⟩


set_option maxHeartbeats 2000000 in
theorem isCycleI_any (p : Int) (a ac : Option Addr) (n c nc cc : Nat) (L : List (List Int)) (cs : List Int) (w : World) (h : Lists w a (3 * n) L) (rc : Row w ac nc cs) (hs : sizeN n L ≤ 1048576) (hnc : nc ≤ 1048576) :
    Calls Try.prog 17 #[.agg #[.int .i64 p, .slice a n c], .slice ac nc cc] w fun e w' => CyEnd p n L cs w e w' := by
  have hAl := below_al w (.cells #[.int .i64 p, .slice a n c] 26)
  have HT := hide (netForCounts_any p a ac n c nc cc L cs _ (h.below hAl) (rc.below hAl) hs hnc)
  have HB0 := hide hAl
  have RC := hide rc
  have hLl := h.1
  clear h rc hAl
  go_enter Try.func17, Try.ntmps17
  go_wp2_with fail
  refine HT.out.mono ?_
  rintro e w1 ⟨p', a', m', c', rfl, hx, hb⟩
  have HB1 := hide (HB0.out.trans (hb.mono HB0.out.size))
  have hA1 := below_al w1 (.cells #[.int .i64 p', .slice a' m' c'] 59)
  have HB2 := hide (HB1.out.trans (hA1.mono HB1.out.size))
  by_cases g1 : cntOk p n L cs = true
  rotate_left
  · have g1' : cntOk p n L cs = false := by simpa using g1
    have HN : Hid (CyEnd p n L cs w (.returned (.tuple #[.bool false, .bool false])) (w1.alloc (.cells #[.int .i64 p', .slice a' m' c'] 59))) := by
      show CyEnd p n L cs w _ _
      exact ⟨ret_2 (by unfold cyR; rw [g1']; rfl) g1'.symm, HB2.out⟩
    rw [g1']
    clear g1 g1' hx HT hb hA1
    go_wp2_with fail
    go_ret2
    exact HN.out
  obtain ⟨hg, hcl, hcb, hp1, hp2⟩ := cnt_parts g1
  obtain ⟨e1, e2, e3, B, rfl, hBs, hps⟩ := hx.out g1
  subst e1 e2 e3
  obtain ⟨P, rfl⟩ : ∃ P : Nat, p' = (P : Int) := ⟨p'.toNat, by omega⟩
  obtain rfl : nc = c' := by rw [← RC.out.1]; exact hcl
  have HG1 := hide g1
  rw [g1]
  have hn24 := netN hg
  have HC := hide (changesBy_any P B nc cc ac L cs _ (hps.grow hA1) (RC.out.below HB2.out) hn24 (net_masks hg hLl) (by omega) hcb)
  have HR : Hid (chR (P : Int) nc L cs = listF (chBy L nc cs) P) := by show _ = _; unfold chR; rw [if_pos g1]; simp
  clear hb HT hx hBs hps hA1 g1 hcb hg HB1 HB0
  go_wp2_with fail
  refine HC.out.mono ?_
  rintro e w2 ⟨g, rfl, hgs, hout, hb⟩
  have HB3 := hide (HB2.out.trans (hb.mono HB2.out.size))
  have HO := hide hout
  have hgs' : w.heap.size ≤ g := by have := HB2.out.size; omega
  clear hb HC hout hgs HB2
  go_wp2_with fail
  refine (cycC_any _ P P _ _ HO.out.row (by omega)).mono ?_
  rintro e w3 ⟨rfl, rfl⟩
  obtain ⟨r, hr⟩ : ∃ r, Hid (allB (listF (chBy L nc cs) P) 0 0 = r) := ⟨_, rfl⟩
  rw [hr.out]
  have HY : Hid (cyR (P : Int) nc L cs = r) := by show _ = _; unfold cyR; rw [HG1.out, HR.out, hr.out]; rfl
  clear hr HO HR
  go_wp2_with fail
  go_ret2
  exact ⟨ret_2 (by simp [HY.out]) HG1.out.symm, HB3.out⟩

end Go.Proofs.Ytajcmamapmeglaa


/- IsInvariant of both sides. -/
namespace Go.Proofs.Ytajcmamapmeglaa
open Go.RowKit
set_option maxRecDepth 10000

def wgM (ws : List Int) (P n : Nat) (L : List (List Int)) : Bool := (List.range n).any fun i => !decide (chW (maskL (L.getD (3 * i) [])) (maskL (L.getD (3 * i + 1) [])) ws P = 0)

theorem wgM_yes {ws : List Int} {P n k : Nat} {L : List (List Int)} (hk : k < n) (h : (!decide (chW (maskL (L.getD (3 * k) [])) (maskL (L.getD (3 * k + 1) [])) ws P = 0)) = true) : wgM ws P n L = true := by
  unfold wgM
  rw [List.any_eq_true]
  exact ⟨k, by simpa using hk, h⟩

theorem wgM_step {ws : List Int} {P k : Nat} {L : List (List Int)} (h : wgM ws P k L = false) (he : (!decide (chW (maskL (L.getD (3 * k) [])) (maskL (L.getD (3 * k + 1) [])) ws P = 0)) = false) : wgM ws P (k + 1) L = false := by
  unfold wgM at *
  rw [List.range_succ, List.any_append, h]
  simp only [List.any_cons, List.any_nil, Bool.or_false, he]

set_option maxHeartbeats 1000000 in
theorem keeps1_any (P s0 s1 s2 bc cw : Nat) (aw : Option Addr) (ws : List Int) (w : World) (rw' : Row w aw P ws) (h0 : s0 < 2 ^ 16) (h1 : s1 < 2 ^ 16) (hP : P ≤ 16) (hws : ∀ i, i < P → -1000 ≤ ws.getD i 0 ∧ ws.getD i 0 ≤ 1000) (hbc : w.heap[bc]? = some (.cells #[.slice aw P cw] 27 (0, 0))) :
    Calls Try.prog 53 #[.agg #[.int .u16 (s0 : Int), .int .u16 (s1 : Int), .int .u16 (s2 : Int)], .pointer (some ⟨bc, 0, none⟩)] w fun e w' => e = .returned (.bool (!decide (chW s0 s1 ws P = 0))) ∧ Below w.heap.size w w' := by
  have hA := below_al w (.cells #[.int .u16 (s0 : Int), .int .u16 (s1 : Int), .int .u16 (s2 : Int)] 65)
  have HB := hide hA
  have HK := hide (keepsWeight_any P s0 s1 s2 cw aw ws _ (rw'.below hA) h0 h1 hP hws)
  have hc0 := cell_of_row _ bc 0 _ _ _ (keep hbc hA)
  simp at hc0
  have hlt := (Array.getElem?_eq_some_iff.mp hbc).1
  clear rw' hws hbc hA
  go_enter Try.func53, Try.ntmps53
  go_wp2_with fail
  refine HK.out.mono ?_
  rintro e w1 ⟨rfl, hb⟩
  have HB1 := hide (HB.out.trans (hb.mono HB.out.size))
  obtain ⟨r, hr⟩ : ∃ r, Hid (decide (chW s0 s1 ws P = 0) = r) := ⟨_, rfl⟩
  rw [hr.out]
  clear hb HK
  go_wp2_with fail
  go_ret
  exact ⟨ret_bool (by rw [hr.out]), HB1.out⟩

/-- Where the first one is that empties a place, or -1. -/
def IwEnd (ws : List Int) (P n : Nat) (L : List (List Int)) (w : World) (e : Ending) (w' : World) : Prop := ∃ z : Int, e = .returned (.int .i64 z) ∧ Hid (decide (0 ≤ z) = wgM ws P n L) ∧ Below w.heap.size w w'

set_option maxHeartbeats 1000000 in
theorem indexW_any (B P n bc cw : Nat) (aw : Option Addr) (ws : List Int) (L : List (List Int)) (w : World) (h : PartS w B (3 * n) (3 * n) L) (hn : n ≤ 24) (rw' : Row w aw P ws) (hP : P ≤ 16) (hws : ∀ i, i < P → -1000 ≤ ws.getD i 0 ∧ ws.getD i 0 ≤ 1000) (hm : ∀ i, maskL (L.getD i []) < 2 ^ 16) (hbc : w.heap[bc]? = some (.cells #[.slice aw P cw] 27 (0, 0))) :
    Calls Try.prog 115 #[.slice (some ⟨B, 0, none⟩) n n, .func (.func 53) #[] #[.pointer (some ⟨bc, 0, none⟩)]] w fun e w' => IwEnd ws P n L w e w' := by
  have HP := hide h
  have HW := hide rw'
  have HBC := hide hbc
  have HWS := hide hws
  clear h rw' hbc hws
  go_enter Try.func115, Try.ntmps115
  go_wp2_with fail
  go_loopw [8] (fun i wr => ∃ k : Nat, k ≤ n ∧ i = .int .i64 k ∧ Hid (wgM ws P k L = false) ∧ Hid (Below w.heap.size w wr)) (fun i _ => n - (intOf i).toNat)
  case atStart => exact ⟨0, Nat.zero_le _, rfl, rfl, Below.refl _ _⟩
  case round =>
    obtain ⟨k, hk, rfl, hu, hbw⟩ := hrel
    by_cases hlt : k < n
    rotate_left
    · have hk' : k = n := by omega
      subst hk'
      have HE : Hid (IwEnd ws P k L w (.returned (.int .i64 (-1))) wr) := ⟨-1, rfl, by rw [hu.out]; rfl, hbw.out⟩
      go_wp2_with fail
      go_ret
      exact HE.out
    obtain ⟨hc0, hc1, hc2⟩ := (HP.out.grow hbw.out).at3 hlt
    have HH := hide (keeps1_any P (maskL (L.getD (3 * k) [])) (maskL (L.getD (3 * k + 1) [])) (maskL (L.getD (3 * k + 2) [])) bc cw aw ws wr (HW.out.below hbw.out) (hm _) (hm _) hP HWS.out (keep HBC.out hbw.out))
    cases hh : !decide (chW (maskL (L.getD (3 * k) [])) (maskL (L.getD (3 * k + 1) [])) ws P = 0)
    · have HU := hide (wgM_step hu.out hh)
      rw [hh] at HH
      clear hh hu
      clear hm
      generalize maskL (L.getD (3 * k) []) = s0 at *
      generalize maskL (L.getD (3 * k + 1) []) = s1 at *
      generalize maskL (L.getD (3 * k + 2) []) = s2 at *
      go_wp2_with fail
      refine HH.out.mono ?_
      rintro e w1 ⟨rfl, hb⟩
      have HB := hide (hbw.out.trans (hb.mono hbw.out.size))
      clear hb HH hc0 hc1 hc2
      go_wp2_with fail
      go_roundw
      case rel => exact ⟨k + 1, by omega, by go_num, HU, HB⟩
      case measure => simp [intOf]; omega
    · have HY := hide (wgM_yes hlt hh)
      rw [hh] at HH
      clear hh hu
      clear hm
      generalize maskL (L.getD (3 * k) []) = s0 at *
      generalize maskL (L.getD (3 * k + 1) []) = s1 at *
      generalize maskL (L.getD (3 * k + 2) []) = s2 at *
      go_wp2_with fail
      refine HH.out.mono ?_
      rintro e w1 ⟨rfl, hb⟩
      have HE : Hid (IwEnd ws P n L w (.returned (.int .i64 (k : Int))) w1) := ⟨k, rfl, by rw [HY.out]; simp [Hid], hbw.out.trans (hb.mono hbw.out.size)⟩
      clear hb HH hc0 hc1 hc2
      go_wp2_with fail
      go_ret
      exact HE.out

set_option maxHeartbeats 400000 in
theorem containsW_any (B P n bc cw : Nat) (aw : Option Addr) (ws : List Int) (L : List (List Int)) (w : World) (h : PartS w B (3 * n) (3 * n) L) (hn : n ≤ 24) (rw' : Row w aw P ws) (hP : P ≤ 16) (hws : ∀ i, i < P → -1000 ≤ ws.getD i 0 ∧ ws.getD i 0 ≤ 1000) (hm : ∀ i, maskL (L.getD i []) < 2 ^ 16) (hbc : w.heap[bc]? = some (.cells #[.slice aw P cw] 27 (0, 0))) :
    Calls Try.prog 55 #[.slice (some ⟨B, 0, none⟩) n n, .func (.func 53) #[] #[.pointer (some ⟨bc, 0, none⟩)]] w fun e w' => e = .returned (.bool (wgM ws P n L)) ∧ Below w.heap.size w w' := by
  have HI := hide (indexW_any B P n bc cw aw ws L w h hn rw' hP hws hm hbc)
  clear h rw' hws hm hbc
  go_enter Try.func55, Try.ntmps55
  go_wp2_with fail
  refine HI.out.mono ?_
  rintro e w1 ⟨z, rfl, hz, hb⟩
  have HB := hide hb
  clear hb HI
  go_wp2_with fail
  go_ret
  exact ⟨ret_bool hz.out, HB.out⟩


/-- The weights of the places of a list, added. -/
def sumW (ws xs : List Int) : Int := sumF (fun i => ws.getD (xs.getD i 0).toNat 0) xs.length

theorem sumF_add {f : Nat → Int} {n j : Nat} {c : Int} (hj : j < n) : sumF (fun i => f i + if i = j then c else 0) n = sumF f n + c := by
  have key : ∀ m, sumF (fun i => f i + if i = j then c else 0) m = sumF f m + if j < m then c else 0 := by
    intro m
    induction m with
    | zero => simp [sumF]
    | succ k ih =>
      rw [sumF, sumF, ih]
      by_cases e : k = j
      · subst e; simp; omega
      · by_cases h : j < k
        · rw [if_pos h, if_neg e, if_pos (by omega)]; omega
        · rw [if_neg h, if_neg e, if_neg (by omega)]; omega
  rw [key, if_pos hj]

theorem sumF_sub {f g : Nat → Int} {n : Nat} : sumF (fun i => f i - g i) n = sumF f n - sumF g n := by
  induction n with
  | zero => rfl
  | succ k ih => simp only [sumF]; rw [ih]; omega

/-- The weights of a rising list's places are the weights of the places that lie in it. -/
theorem sumW_in {xs ws : List Int} {P : Nat} (h : riseB xs 0 ((P : Int) - 1) = true) : sumF (fun j => (if (j : Int) ∈ xs then 1 else 0) * ws.getD j 0) P = sumW ws xs := by
  induction xs using snoc_ind with
  | h0 =>
    show _ = 0
    have : ∀ m, sumF (fun j => (if (j : Int) ∈ ([] : List Int) then 1 else 0) * ws.getD j 0) m = 0 := by
      intro m
      induction m with
      | zero => rfl
      | succ k ih => rw [sumF, ih]; simp
    exact this P
  | h1 xs x ih =>
    have hs := riseB_snoc h
    have hx := riseB_mem h x (by simp)
    have e1 : sumW ws (xs ++ [x]) = sumW ws xs + ws.getD x.toNat 0 := by
      unfold sumW
      rw [List.length_append]
      show sumF _ (xs.length + 1) = _
      rw [sumF]
      congr 1
      · refine sumF_congr fun i hi => ?_
        have e : (xs ++ [x]).getD i 0 = xs.getD i 0 := by rw [List.getD_eq_getElem?_getD, List.getElem?_append_left hi, ← List.getD_eq_getElem?_getD]
        rw [e]
      · simp
    rw [e1, ← ih hs.1, ← sumF_add (n := P) (j := x.toNat) (c := ws.getD x.toNat 0) (by omega)]
    refine sumF_congr fun i hi => ?_
    by_cases e : i = x.toNat
    · subst e
      have hxe : ((x.toNat : Nat) : Int) = x := by omega
      rw [hxe, if_pos (by simp), if_pos rfl, if_neg hs.2]; omega
    · have hne : (i : Int) ≠ x := by omega
      rw [if_neg e]
      by_cases hm : (i : Int) ∈ xs
      · rw [if_pos hm, if_pos (by simp [hm])]; omega
      · rw [if_neg hm, if_neg (by simp [hm, hne])]; omega

theorem chW_eq {p : Int} {P n k : Nat} {L : List (List Int)} (ws : List Int) (hp : p = P) (h : netOk p n L = true) (hk : k < n) : chW (maskL (L.getD (3 * k) [])) (maskL (L.getD (3 * k + 1) [])) ws P = sumW ws (L.getD (3 * k + 1) []) - sumW ws (L.getD (3 * k) []) := by
  have hr := net_rises h hk
  subst hp
  rw [← sumW_in (P := P) hr.1, ← sumW_in (P := P) hr.2.1, ← sumF_sub]
  unfold chW
  refine sumF_congr fun j _ => ?_
  have := chL_eq (j := j) h hk
  unfold chL at this
  rw [this, Int.sub_mul]

def invB (ws : List Int) (n : Nat) (L : List (List Int)) : Bool := (List.range n).all fun k => decide (sumW ws (L.getD (3 * k) []) = sumW ws (L.getD (3 * k + 1) []))

theorem wgM_eq {p : Int} {P n : Nat} {L : List (List Int)} (ws : List Int) (hp : p = P) (h : netOk p n L = true) : (!wgM ws P n L) = invB ws n L := by
  unfold wgM invB
  rw [Bool.eq_iff_iff, Bool.not_eq_true', List.all_eq_true, List.any_eq_false]
  constructor
  · intro hh k hk
    have := hh k hk
    rw [chW_eq ws hp h (by simpa using hk)] at this
    simp at this ⊢; omega
  · intro hh k hk
    have := hh k hk
    rw [chW_eq ws hp h (by simpa using hk)]
    simp at this ⊢; omega

theorem invB_take {ws : List Int} {k : Nat} {L : List (List Int)} (h : invB ws k L = true) (hk : sumW ws (L.getD (3 * k) []) = sumW ws (L.getD (3 * k + 1) [])) : invB ws (k + 1) L = true := by
  unfold invB at *
  rw [List.range_succ, List.all_append, h]; simp at hk ⊢; exact hk

theorem invB_no {ws : List Int} {n k : Nat} {L : List (List Int)} (hk : k < n) (h : ¬ sumW ws (L.getD (3 * k) []) = sumW ws (L.getD (3 * k + 1) [])) : invB ws n L = false := by
  unfold invB
  rw [List.all_eq_false]
  exact ⟨k, by simpa using hk, by simpa using h⟩

set_option maxHeartbeats 1000000 in
theorem sumS_any (a b : Option Addr) (m n c d : Nat) (ws xs : List Int) (w : World) (ra : Row w a m ws) (rb : Row w b n xs) (hn : n ≤ 1000) (hin : ∀ x ∈ xs, 0 ≤ x ∧ x < m) (hb : ∀ i, -1000 ≤ ws.getD i 0 ∧ ws.getD i 0 ≤ 1000) :
    Calls Try.prog 116 #[.slice a m c, .slice b n d] w fun e w' => e = .returned (.int .i64 (sumW ws xs)) ∧ w' = w := by
  have HS := hide (sumF_bound (f := fun i => ws.getD (xs.getD i 0).toNat 0) (n := n) (M := 1000) (by omega) (fun i _ => hb _))
  have HB := hide hb
  have HIN := hide hin
  have hxl := rb.1
  clear hb hin
  go_enter Try.func116, Try.ntmps116
  go_wp2_with fail
  go_loop [5, 10] (fun s i => ∃ k : Nat, k ≤ n ∧ i = .int .i64 k ∧ s = .int .i64 (sumF (fun i => ws.getD (xs.getD i 0).toNat 0) k)) (fun _ i => n - (intOf i).toNat)
  case atStart => exact ⟨0, Nat.zero_le _, rfl, rfl⟩
  case round =>
    obtain ⟨k, hk, rfl, rfl⟩ := hrel
    by_cases hkn : k < n
    rotate_left
    · have hk' : k = n := by omega
      subst hk'
      have HE : Hid (sumF (fun i => ws.getD (xs.getD i 0).toNat 0) k = sumW ws xs) := by show _ = _; unfold sumW; rw [hxl]
      go_wp2_with fail
      go_ret
      exact ⟨ret_int HE.out, rfl⟩
    obtain ⟨b1, o1, x, rfl, hl1, hc1, H1⟩ := rb.at hkn
    have hx := HIN.out x (List.mem_of_getElem? H1.out)
    obtain ⟨z, rfl⟩ : ∃ z : Nat, x = (z : Int) := ⟨x.toNat, by omega⟩
    obtain ⟨b2, o2, t, rfl, hl2, hc2, H2⟩ := ra.at (show z < m by omega)
    have h1 := HS.out k hk
    have h2 := HB.out z
    have h3 := getD_at H1
    have h4 := getD_at H2
    have hzm : (z : Int) < (m : Int) := hx.2
    obtain ⟨s, hs⟩ : ∃ s, Hid (sumF (fun i => ws.getD (xs.getD i 0).toNat 0) k = s) := ⟨_, rfl⟩
    have HN : Hid (sumF (fun i => ws.getD (xs.getD i 0).toNat 0) (k + 1) = s + t) := by show _ = _; rw [sumF, hs.out, h3, Int.toNat_natCast, h4]
    rw [h4] at h2
    rw [hs.out] at h1 ⊢
    have hs1 : -1000000 ≤ s ∧ s ≤ 1000000 := by omega
    clear ra rb h1 H1 H2 h3 h4 HS HB HIN hx
    go_wp2_with fail
    go_round
    case rel => exact ⟨k + 1, by omega, by go_num, by rw [HN.out]⟩
    case measure => simp [intOf]; omega

theorem wgt_parts {p : Int} {n : Nat} {L : List (List Int)} {ws : List Int} (h : wgtOk p n L ws = true) : netOk p n L = true ∧ (ws.length : Int) = p ∧ (∀ i, -9 ≤ ws.getD i 0 ∧ ws.getD i 0 ≤ 9) ∧ 1 ≤ p ∧ p ≤ 16 := by
  unfold wgtOk plainB at h
  simp only [Bool.and_eq_true] at h
  obtain ⟨⟨h1, _⟩, h2, h3⟩ := h
  refine ⟨h1, of_decide_eq_true h2, fun i => ?_, ?_⟩
  · by_cases hi' : i < ws.length
    · unfold allB at h3
      have := List.all_eq_true.mp h3 (ws[i]) (List.getElem_mem hi')
      rw [List.getD_eq_getElem?_getD, List.getElem?_eq_getElem hi']
      simp [inB] at this ⊢; omega
    · rw [List.getD_eq_getElem?_getD, List.getElem?_eq_none (by omega)]; simp
  · unfold netOk at h1; simp [inB] at h1; omega

theorem rise_len {xs : List Int} {lo hi : Int} (h : riseB xs lo hi = true) : (xs.length : Int) ≤ hi + 1 - lo ∨ xs = [] := by
  induction xs generalizing lo with
  | nil => exact .inr rfl
  | cons x r ih =>
    simp only [riseB, Bool.and_eq_true, decide_eq_true_eq] at h
    have hx := h.1
    rcases ih h.2 with e | e
    · left; simp only [List.length_cons]; omega
    · left; subst e; simp; omega

set_option maxHeartbeats 2000000 in
theorem invS_any (P : Nat) (a aw : Option Addr) (n c m cw : Nat) (L : List (List Int)) (ws : List Int) (w : World) (h : Lists w a (3 * n) L) (rc : Row w aw m ws) (hm : P ≤ m) (hg : netOk (P : Int) n L = true) (hws : ∀ i, -1000 ≤ ws.getD i 0 ∧ ws.getD i 0 ≤ 1000) :
    Calls Try.prog 57 #[.agg #[.int .i64 (P : Int), .slice a n c], .slice aw m cw] w fun e w' => e = .returned (.bool (invB ws n L)) ∧ Below w.heap.size w w' := by
  have hAl := below_al w (.cells #[.int .i64 (P : Int), .slice a n c] 26)
  have hn := netN hg
  have hP : P ≤ 16 := by unfold netOk at hg; simp [inB] at hg; omega
  have HL := hide h
  have RC := hide rc
  have HG := hide hg
  have HWS := hide hws
  have HB0 := hide hAl
  clear h rc hg hws hAl
  go_enter Try.func57, Try.ntmps57
  go_wp2_with fail
  obtain ⟨V, hV⟩ : ∃ V, Hid (w.alloc (.cells #[.int .i64 (P : Int), .slice a n c] 26) = V) := ⟨_, rfl⟩
  rw [hV.out] at HB0 ⊢
  clear hV
  go_loopw [10] (fun i wr => ∃ k : Nat, k ≤ n ∧ i = .int .i64 k ∧ Hid (invB ws k L = true) ∧ Hid (Below w.heap.size w wr)) (fun i _ => n - (intOf i).toNat)
  case atStart => exact ⟨0, Nat.zero_le _, rfl, rfl, HB0⟩
  case round =>
    obtain ⟨k, hk, rfl, hu, hbw⟩ := hrel
    by_cases hlt : k < n
    rotate_left
    · have hk' : k = n := by omega
      subst hk'
      go_wp2_with fail
      go_ret
      exact ⟨ret_bool hu.out.symm, hbw.out⟩
    obtain ⟨b, off, a0, n0, c0, a1, n1, c1, a2, n2, c2, rfl, hb, hr, m0, m1, m2, r0, r1, r2⟩ := (HL.out.below hbw.out).tri hlt
    obtain ⟨hc0, hc1, hc2⟩ := rangeAt_cells3 hr
    have hri := net_rises HG.out hlt
    have hA1 := below_al wr (.cells #[.slice a0 n0 c0, .slice a1 n1 c1, .slice a2 n2 c2] 106)
    have HB1 := hide (hbw.out.trans (hA1.mono hbw.out.size))
    have HV1 := hide (heap_alloc_new wr (.cells #[.slice a0 n0 c0, .slice a1 n1 c1, .slice a2 n2 c2] 106))
    have q0 : n0 ≤ 1000 := by have h1 := r0.1; rcases rise_len hri.1 with e | e; omega; rw [e] at h1; simp at h1; omega
    have q1 : n1 ≤ 1000 := by have h1 := r1.1; rcases rise_len hri.2.1 with e | e; omega; rw [e] at h1; simp at h1; omega
    have H0 := hide (fun (W : World) (hW : Below (wr.alloc (.cells #[.slice a0 n0 c0, .slice a1 n1 c1, .slice a2 n2 c2] 106)).heap.size (wr.alloc (.cells #[.slice a0 n0 c0, .slice a1 n1 c1, .slice a2 n2 c2] 106)) W) => sumS_any aw a0 m n0 cw c0 ws (L.getD (3 * k) []) W ((RC.out.below HB1.out).below hW) ((r0.below hA1).below hW) q0 (fun x hx => by have := riseB_mem hri.1 x hx; omega) HWS.out)
    have H1 := hide (fun (W : World) (hW : Below (wr.alloc (.cells #[.slice a0 n0 c0, .slice a1 n1 c1, .slice a2 n2 c2] 106)).heap.size (wr.alloc (.cells #[.slice a0 n0 c0, .slice a1 n1 c1, .slice a2 n2 c2] 106)) W) => sumS_any aw a1 m n1 cw c1 ws (L.getD (3 * k + 1) []) W ((RC.out.below HB1.out).below hW) ((r1.below hA1).below hW) q1 (fun x hx => by have := riseB_mem hri.2.1 x hx; omega) HWS.out)
    have HY : Hid (sumW ws (L.getD (3 * k) []) = sumW ws (L.getD (3 * k + 1) []) → invB ws (k + 1) L = true) := invB_take hu.out
    have HN : Hid (¬ sumW ws (L.getD (3 * k) []) = sumW ws (L.getD (3 * k + 1) []) → invB ws n L = false) := invB_no hlt
    generalize sumW ws (L.getD (3 * k) []) = t0 at *
    generalize sumW ws (L.getD (3 * k + 1) []) = t1 at *
    clear hr m0 m1 m2 r0 r1 r2 hri hA1 hu q0 q1
    go_wp2_with fail
    clear hc0 hc1 hc2
    generalize wr.alloc (.cells #[.slice a0 n0 c0, .slice a1 n1 c1, .slice a2 n2 c2] 106) = W1 at *
    generalize wr.heap.size = q at *
    obtain ⟨hv0, hv1, hv2⟩ := cells3E HV1.out
    have hvl := (Array.getElem?_eq_some_iff.mp HV1.out).1
    go_quiet (first
      | (go_at_call 116; with_reducible show Calls _ _ #[_, .slice a0 n0 c0] _ _; refine Calls.quiet_of_same (H0.out _ (below_drewN' _ _)))
      | (go_at_call 116; with_reducible show Calls _ _ #[_, .slice a1 n1 c1] _ _; refine Calls.quiet_of_same (H1.out _ (below_drewN' _ _))))
    have HB2 : Hid (∀ N, Below w.heap.size w (W1.drewN N)) := fun N => HB1.out.trans ((below_drewN' W1 N).mono HB1.out.size)
    clear HB1 H0 H1 HV1 hv0 hv1 hv2 hvl
    by_cases ht : t0 = t1
    · have hd : (t0 != t1) = false := by simp [ht]
      have HU := hide (HY.out ht)
      clear HY HN ht
      go_wp2_with fail
      go_roundw
      case rel => exact ⟨k + 1, by omega, by go_num, HU, HB2.out _⟩
      case measure => simp [intOf]; omega
    · have hd : (t0 != t1) = true := by simp [ht]
      have HU := hide (HN.out ht)
      clear HY HN ht
      go_wp2_with fail
      go_ret
      exact ⟨ret_bool HU.out.symm, HB2.out _⟩

def inR (p : Int) (n : Nat) (L : List (List Int)) (ws : List Int) : Bool := wgtOk p n L ws && invB ws n L

def InEnd (p : Int) (n : Nat) (L : List (List Int)) (ws : List Int) (w : World) (e : Ending) (w' : World) : Prop :=
  e = .returned (.tuple #[.bool (inR p n L ws), .bool (wgtOk p n L ws)]) ∧ Below w.heap.size w w'

set_option maxHeartbeats 2000000 in
theorem isInvS_any (p : Int) (a ac : Option Addr) (n c nc cc : Nat) (L : List (List Int)) (ws : List Int) (w : World) (h : Lists w a (3 * n) L) (rc : Row w ac nc ws) (hs : sizeN n L ≤ 1048576) (hnc : nc ≤ 1048576) :
    Calls Try.prog 10 #[.agg #[.int .i64 p, .slice a n c], .slice ac nc cc] w fun e w' => InEnd p n L ws w e w' := by
  have hAl := below_al w (.cells #[.int .i64 p, .slice a n c] 26)
  have PAR := hide (heap_alloc_new w (.cells #[.int .i64 p, .slice a n c] 26))
  have HT := hide (weightsS_any p a ac n c nc cc L ws _ (h.below hAl) (rc.below hAl) hs hnc)
  have HB0 := hide hAl
  have RC := hide rc
  have HL := hide h
  clear h rc hAl
  go_enter Try.func10, Try.ntmps10
  go_wp2_with fail
  refine HT.out.mono ?_
  rintro e w1 ⟨rfl, hb⟩
  have HB1 := hide (HB0.out.trans (hb.mono HB0.out.size))
  obtain ⟨hc0, hc1⟩ := cells2 (keep PAR.out hb)
  have hlt := row_lt (keep PAR.out hb)
  clear hb HT HB0 PAR
  by_cases g1 : wgtOk p n L ws = true
  rotate_left
  · have g1' : wgtOk p n L ws = false := by simpa using g1
    have HN : Hid (InEnd p n L ws w (.returned (.tuple #[.bool false, .bool false])) w1) := ⟨ret_2 (by unfold inR; rw [g1']; rfl) g1'.symm, HB1.out⟩
    rw [g1']
    clear g1 g1' hc0 hc1 hlt
    go_wp2_with fail
    go_ret2
    exact HN.out
  obtain ⟨hg, hwl, hwb, hp1, hp2⟩ := wgt_parts g1
  obtain ⟨P, rfl⟩ : ∃ P : Nat, p = (P : Int) := ⟨p.toNat, by omega⟩
  have hPl : P ≤ nc := by have := RC.out.1; omega
  have HG1 := hide g1
  rw [g1]
  have HC := hide (invS_any P a ac n c nc cc L ws _ (HL.out.below HB1.out) (RC.out.below HB1.out) hPl hg (fun i => by have := hwb i; omega))
  obtain ⟨r, hr⟩ : ∃ r, Hid (invB ws n L = r) := ⟨_, rfl⟩
  have HY : Hid (inR (P : Int) n L ws = r) := by show _ = _; unfold inR; rw [g1, hr.out]; rfl
  rw [hr.out] at HC
  clear g1 hwb hg hr
  go_wp2_with fail
  refine HC.out.mono ?_
  rintro e w2 ⟨rfl, hb⟩
  have HB3 := hide (HB1.out.trans (hb.mono HB1.out.size))
  clear hb HC HB1
  go_wp2_with fail
  go_ret2
  exact ⟨ret_2 HY.out.symm HG1.out.symm, HB3.out⟩

set_option maxHeartbeats 2000000 in
theorem isInvI_any (p : Int) (a ac : Option Addr) (n c nc cc : Nat) (L : List (List Int)) (ws : List Int) (w : World) (h : Lists w a (3 * n) L) (rc : Row w ac nc ws) (hs : sizeN n L ≤ 1048576) (hnc : nc ≤ 1048576) :
    Calls Try.prog 9 #[.agg #[.int .i64 p, .slice a n c], .slice ac nc cc] w fun e w' => InEnd p n L ws w e w' := by
  have hAl := below_two w (.cells #[.int .i64 p, .slice a n c] 26) (.cells #[.slice ac nc cc] 27)
  have HT := hide (netForWeights_any p a ac n c nc cc L ws _ (h.below hAl) (rc.below hAl) hs hnc)
  have HB0 := hide hAl
  have HBX : Hid (((w.alloc (.cells #[.int .i64 p, .slice a n c] 26)).alloc (.cells #[.slice ac nc cc] 27)).heap[w.heap.size + 1]? = some (.cells #[.slice ac nc cc] 27 (0, 0))) := by
    have := heap_alloc_new (w.alloc (.cells #[.int .i64 p, .slice a n c] 26)) (.cells #[.slice ac nc cc] 27)
    rw [show (w.alloc (.cells #[.int .i64 p, .slice a n c] 26)).heap.size = w.heap.size + 1 by simp] at this
    exact this
  have RC := hide rc
  have hLl := h.1
  clear h rc hAl
  go_enter Try.func9, Try.ntmps9
  go_wp2_with fail
  refine HT.out.mono ?_
  rintro e w1 ⟨p', a', m', c', rfl, hx, hb⟩
  have HB1 := hide (HB0.out.trans (hb.mono HB0.out.size))
  have hA1 := below_al w1 (.cells #[.int .i64 p', .slice a' m' c'] 59)
  have HB2 := hide (HB1.out.trans (hA1.mono HB1.out.size))
  have HBX2 := hide (keep (keep HBX.out hb) hA1)
  by_cases g1 : wgtOk p n L ws = true
  rotate_left
  · have g1' : wgtOk p n L ws = false := by simpa using g1
    have HN : Hid (InEnd p n L ws w (.returned (.tuple #[.bool false, .bool false])) (w1.alloc (.cells #[.int .i64 p', .slice a' m' c'] 59))) := ⟨ret_2 (by unfold inR; rw [g1']; rfl) g1'.symm, HB2.out⟩
    rw [g1']
    clear g1 g1' hx HT hb hA1 HBX HBX2
    go_wp2_with fail
    go_ret2
    exact HN.out
  obtain ⟨hg, hwl, hwb, hp1, hp2⟩ := wgt_parts g1
  obtain ⟨e1, e2, e3, B, rfl, hBs, hps⟩ := hx.out g1
  subst e1 e2 e3
  have hn24 := netN hg
  have hnc' : (nc : Int) = p' := by have := RC.out.1; omega
  have HG1 := hide g1
  rw [g1]
  have HC := hide (containsW_any B nc c' (w.heap.size + 1) cc ac ws L _ (hps.grow hA1) hn24 (RC.out.below HB2.out) (by omega) (fun i _ => by have := hwb i; omega) (net_masks hg hLl) HBX2.out)
  have HY : Hid (inR p' c' L ws = !wgM ws nc c' L) := by show _ = _; unfold inR; rw [g1, wgM_eq ws hnc'.symm hg]; rfl
  clear hb HT hx hBs hps hA1 g1 hwb hg HB1 HB0 HBX HBX2
  go_wp2_with fail
  refine HC.out.mono ?_
  rintro e w2 ⟨rfl, hb⟩
  have HB3 := hide (HB2.out.trans (hb.mono HB2.out.size))
  obtain ⟨r, hr⟩ : ∃ r, Hid (wgM ws nc c' L = r) := ⟨_, rfl⟩
  rw [hr.out] at HY ⊢
  clear hb HC HB2 hr
  go_wp2_with fail
  go_ret2
  exact ⟨ret_2 HY.out.symm HG1.out.symm, HB3.out⟩
end Go.Proofs.Ytajcmamapmeglaa


/- How many places a set has; keeps of the program: whether each step takes as many tokens from a set of places as it gives to it. -/
namespace Go.Proofs.Ytajcmamapmeglaa
open Go.RowKit
set_option maxRecDepth 10000

/-- How many bits a number has. -/
def popc (s : Nat) : Int := sumF (fun j => if s.testBit j then 1 else 0) 10

theorem fold8 : ({ data := (([0, 1, 1, 2, 1, 2, 2, 3, 1, 2, 2, 3, 2, 3, 3, 4, 1, 2, 2, 3, 2, 3, 3, 4, 2, 3, 3, 4, 3, 4, 4, 5, 1, 2, 2, 3, 2, 3, 3, 4, 2, 3, 3, 4, 3, 4, 4, 5, 2, 3, 3, 4, 3, 4, 4, 5, 3, 4, 4, 5, 4, 5, 5, 6].append [1, 2, 2, 3, 2, 3, 3, 4, 2, 3, 3, 4, 3, 4, 4, 5, 2, 3, 3, 4, 3, 4, 4, 5, 3, 4, 4, 5, 4, 5, 5, 6, 2, 3, 3, 4, 3, 4, 4, 5, 3, 4, 4, 5, 4, 5, 5, 6, 3, 4, 4, 5, 4, 5, 5, 6, 4, 5, 5, 6, 5, 6, 6, 7]).append ([1, 2, 2, 3, 2, 3, 3, 4, 2, 3, 3, 4, 3, 4, 4, 5, 2, 3, 3, 4, 3, 4, 4, 5, 3, 4, 4, 5, 4, 5, 5, 6, 2, 3, 3, 4, 3, 4, 4, 5, 3, 4, 4, 5, 4, 5, 5, 6, 3, 4, 4, 5, 4, 5, 5, 6, 4, 5, 5, 6, 5, 6, 6, 7].append [2, 3, 3, 4, 3, 4, 4, 5, 3, 4, 4, 5, 4, 5, 5, 6, 3, 4, 4, 5, 4, 5, 5, 6, 4, 5, 5, 6, 5, 6, 6, 7, 3, 4, 4, 5, 4, 5, 5, 6, 4, 5, 5, 6, 5, 6, 6, 7, 4, 5, 5, 6, 5, 6, 6, 7, 5, 6, 6, 7, 6, 7, 7, 8])).toArray } : ByteArray) = Go.Lib.pop8tab := by kernel_rfl

theorem pop_all : ∀ n : Fin 1024, (Go.Lib.pop8 ((n.val : Int) / 256) + Go.Lib.pop8 (((n.val &&& 255 : Nat)) : Int)) = popc n.val := by decide +kernel
theorem pop_le : ∀ n : Fin 1024, 0 ≤ popc n.val ∧ popc n.val ≤ 10 := by decide +kernel

def kpM (st n : Nat) (L : List (List Int)) : Bool := (List.range n).any fun i => !decide (popc (maskL (L.getD (3 * i) []) &&& st) = popc (maskL (L.getD (3 * i + 1) []) &&& st))

theorem kpM_yes {st n k : Nat} {L : List (List Int)} (hk : k < n) (h : (!decide (popc (maskL (L.getD (3 * k) []) &&& st) = popc (maskL (L.getD (3 * k + 1) []) &&& st))) = true) : kpM st n L = true := by
  unfold kpM
  rw [List.any_eq_true]
  exact ⟨k, by simpa using hk, h⟩

theorem kpM_step {st k : Nat} {L : List (List Int)} (h : kpM st k L = false) (he : (!decide (popc (maskL (L.getD (3 * k) []) &&& st) = popc (maskL (L.getD (3 * k + 1) []) &&& st))) = false) : kpM st (k + 1) L = false := by
  unfold kpM at *
  rw [List.range_succ, List.any_append, h]
  simp only [List.any_cons, List.any_nil, Bool.or_false, he]

set_option maxHeartbeats 1000000 in
theorem ones_any (s : Nat) (w : World) (hs : s < 1024) :
    Calls Try.prog 150 #[.int .u16 (s : Int)] w fun e w' => e = .returned (.int .i64 (popc s)) ∧ ∃ q, w' = w.drewN q := by
  have h0 : (0 : Int) ≤ (s : Int) := by omega
  have h1 : (s : Int) < 1024 := by omega
  have a0 := @and_u16 s 255 (by omega) (by decide)
  rw [show ((255 : Nat) : Int) = (255 : Int) from rfl] at a0
  have a1 : (0 : Int) ≤ ((s &&& 255 : Nat) : Int) := by omega
  have a2 : ((s &&& 255 : Nat) : Int) ≤ 255 := by have := Nat.and_le_right (n := s) (m := 255); omega
  have b1 : (0 : Int) ≤ (s : Int) / 256 := by omega
  have b2 : (s : Int) / 256 ≤ 255 := by omega
  have hu : Try.prog.underlying 9 = some .string := by kernel_rfl
  have hp : Go.Lib.pop8 ((s : Int) / 256) + Go.Lib.pop8 (((s &&& 255 : Nat)) : Int) = popc s := pop_all ⟨s, hs⟩
  have hl := pop_le ⟨s, hs⟩
  simp only at hl
  go_enter Try.func150, Try.ntmps150
  simp only [fold8]
  go_wp2_with fail
  go_quiet (fail)
  go_wp2_with fail
  go_ret
  exact ⟨rfl, _, rfl⟩

set_option maxHeartbeats 400000 in
theorem size_any (s : Nat) (w : World) (hs : s < 1024) :
    Calls Try.prog 129 #[.int .u16 (s : Int)] w fun e w' => e = .returned (.int .i64 (popc s)) ∧ ∃ q, w' = w.drewN q := by
  go_enter Try.func129, Try.ntmps129
  go_wp2_with fail
  refine (ones_any s w hs).mono ?_
  rintro e w1 ⟨rfl, q, rfl⟩
  go_wp2_with fail
  go_ret
  exact ⟨rfl, _, rfl⟩

set_option maxHeartbeats 1000000 in
theorem takes1_any (s0 s1 s2 st bc : Nat) (w : World) (h0 : s0 < 2 ^ 16) (h1 : s1 < 2 ^ 16) (hst : st < 1024) (hbc : w.heap[bc]? = some (.cells #[.int .u16 (st : Int)] 63 (0, 0))) :
    Calls Try.prog 128 #[.agg #[.int .u16 (s0 : Int), .int .u16 (s1 : Int), .int .u16 (s2 : Int)], .pointer (some ⟨bc, 0, none⟩)] w fun e w' => e = .returned (.bool (!decide (popc (s0 &&& st) = popc (s1 &&& st)))) ∧ Below w.heap.size w w' := by
  have hA := below_al w (.cells #[.int .u16 (s0 : Int), .int .u16 (s1 : Int), .int .u16 (s2 : Int)] 65)
  have HB := hide hA
  have hc0 := cell_of_row _ bc 0 _ _ _ (keep hbc hA)
  simp at hc0
  have hlt := (Array.getElem?_eq_some_iff.mp hbc).1
  have a0 := and_u16 s0 st h0 (by omega)
  have a1 := and_u16 s1 st h1 (by omega)
  have l0 : s0 &&& st < 1024 := Nat.lt_of_le_of_lt Nat.and_le_right hst
  have l1 : s1 &&& st < 1024 := Nat.lt_of_le_of_lt Nat.and_le_right hst
  have Z0 := hide (fun W => size_any (s0 &&& st) W l0)
  have Z1 := hide (fun W => size_any (s1 &&& st) W l1)
  have HD : Hid ((popc (s0 &&& st) != popc (s1 &&& st)) = !decide (popc (s0 &&& st) = popc (s1 &&& st))) := by show _ = _; by_cases h : popc (s0 &&& st) = popc (s1 &&& st) <;> simp [h]
  rw [← HD.out]
  generalize popc (s0 &&& st) = u0 at *
  generalize popc (s1 &&& st) = u1 at *
  generalize s0 &&& st = t0 at *
  generalize s1 &&& st = t1 at *
  clear hbc hA l0 l1 HD
  go_enter Try.func128, Try.ntmps128
  go_wp2_with fail
  go_quiet (first
    | (go_at_call 129; with_reducible show Calls _ _ #[.int .u16 (t0 : Int)] _ _; refine Calls.quiet_of (Z0.out _))
    | (go_at_call 129; with_reducible show Calls _ _ #[.int .u16 (t1 : Int)] _ _; refine Calls.quiet_of (Z1.out _)))
  go_wp2_with fail
  go_ret
  exact ⟨rfl, HB.out.trans ((below_drewN' _ _).mono HB.out.size)⟩

/-- Where the first one is that empties a place, or -1. -/
def IkEnd (st n : Nat) (L : List (List Int)) (w : World) (e : Ending) (w' : World) : Prop := ∃ z : Int, e = .returned (.int .i64 z) ∧ Hid (decide (0 ≤ z) = kpM st n L) ∧ Below w.heap.size w w'

set_option maxHeartbeats 1000000 in
theorem indexK_any (B n bc st : Nat) (L : List (List Int)) (w : World) (h : PartS w B (3 * n) (3 * n) L) (hn : n ≤ 24) (hst : st < 1024) (hm : ∀ i, maskL (L.getD i []) < 2 ^ 16) (hbc : w.heap[bc]? = some (.cells #[.int .u16 (st : Int)] 63 (0, 0))) :
    Calls Try.prog 115 #[.slice (some ⟨B, 0, none⟩) n n, .func (.func 128) #[] #[.pointer (some ⟨bc, 0, none⟩)]] w fun e w' => IkEnd st n L w e w' := by
  have HP := hide h
  have HBC := hide hbc
  clear h hbc
  go_enter Try.func115, Try.ntmps115
  go_wp2_with fail
  go_loopw [8] (fun i wr => ∃ k : Nat, k ≤ n ∧ i = .int .i64 k ∧ Hid (kpM st k L = false) ∧ Hid (Below w.heap.size w wr)) (fun i _ => n - (intOf i).toNat)
  case atStart => exact ⟨0, Nat.zero_le _, rfl, rfl, Below.refl _ _⟩
  case round =>
    obtain ⟨k, hk, rfl, hu, hbw⟩ := hrel
    by_cases hlt : k < n
    rotate_left
    · have hk' : k = n := by omega
      subst hk'
      have HE : Hid (IkEnd st k L w (.returned (.int .i64 (-1))) wr) := ⟨-1, rfl, by rw [hu.out]; rfl, hbw.out⟩
      go_wp2_with fail
      go_ret
      exact HE.out
    obtain ⟨hc0, hc1, hc2⟩ := (HP.out.grow hbw.out).at3 hlt
    have HH := hide (takes1_any (maskL (L.getD (3 * k) [])) (maskL (L.getD (3 * k + 1) [])) (maskL (L.getD (3 * k + 2) [])) st bc wr (hm _) (hm _) hst (keep HBC.out hbw.out))
    cases hh : !decide (popc (maskL (L.getD (3 * k) []) &&& st) = popc (maskL (L.getD (3 * k + 1) []) &&& st))
    · have HU := hide (kpM_step hu.out hh)
      rw [hh] at HH
      clear hh hu
      clear hm
      generalize maskL (L.getD (3 * k) []) = s0 at *
      generalize maskL (L.getD (3 * k + 1) []) = s1 at *
      generalize maskL (L.getD (3 * k + 2) []) = s2 at *
      go_wp2_with fail
      refine HH.out.mono ?_
      rintro e w1 ⟨rfl, hb⟩
      have HB := hide (hbw.out.trans (hb.mono hbw.out.size))
      clear hb HH hc0 hc1 hc2
      go_wp2_with fail
      go_roundw
      case rel => exact ⟨k + 1, by omega, by go_num, HU, HB⟩
      case measure => simp [intOf]; omega
    · have HY := hide (kpM_yes hlt hh)
      rw [hh] at HH
      clear hh hu
      clear hm
      generalize maskL (L.getD (3 * k) []) = s0 at *
      generalize maskL (L.getD (3 * k + 1) []) = s1 at *
      generalize maskL (L.getD (3 * k + 2) []) = s2 at *
      go_wp2_with fail
      refine HH.out.mono ?_
      rintro e w1 ⟨rfl, hb⟩
      have HE : Hid (IkEnd st n L w (.returned (.int .i64 (k : Int))) w1) := ⟨k, rfl, by rw [HY.out]; simp [Hid], hbw.out.trans (hb.mono hbw.out.size)⟩
      clear hb HH hc0 hc1 hc2
      go_wp2_with fail
      go_ret
      exact HE.out

set_option maxHeartbeats 400000 in
theorem containsK_any (B n bc st : Nat) (L : List (List Int)) (w : World) (h : PartS w B (3 * n) (3 * n) L) (hn : n ≤ 24) (hst : st < 1024) (hm : ∀ i, maskL (L.getD i []) < 2 ^ 16) (hbc : w.heap[bc]? = some (.cells #[.int .u16 (st : Int)] 63 (0, 0))) :
    Calls Try.prog 55 #[.slice (some ⟨B, 0, none⟩) n n, .func (.func 128) #[] #[.pointer (some ⟨bc, 0, none⟩)]] w fun e w' => e = .returned (.bool (kpM st n L)) ∧ Below w.heap.size w w' := by
  have HI := hide (indexK_any B n bc st L w h hn hst hm hbc)
  clear h hm hbc
  go_enter Try.func55, Try.ntmps55
  go_wp2_with fail
  refine HI.out.mono ?_
  rintro e w1 ⟨z, rfl, hz, hb⟩
  have HB := hide hb
  clear hb HI
  go_wp2_with fail
  go_ret
  exact ⟨ret_bool hz.out, HB.out⟩


set_option maxHeartbeats 1000000 in
theorem keeps_any (p : Int) (B n st : Nat) (L : List (List Int)) (w : World) (h : PartS w B (3 * n) (3 * n) L) (hn : n ≤ 24) (hst : st < 1024) (hm : ∀ i, maskL (L.getD i []) < 2 ^ 16) :
    Calls Try.prog 80 #[.agg #[.int .i64 p, .slice (some ⟨B, 0, none⟩) n n], .int .u16 (st : Int)] w fun e w' => e = .returned (.bool (!kpM st n L)) ∧ Below w.heap.size w w' := by
  have hA := below_two w (.cells #[.int .i64 p, .slice (some ⟨B, 0, none⟩) n n] 59) (.cells #[.int .u16 (st : Int)] 63)
  have HB := hide hA
  have HBX : Hid (((w.alloc (.cells #[.int .i64 p, .slice (some ⟨B, 0, none⟩) n n] 59)).alloc (.cells #[.int .u16 (st : Int)] 63)).heap[w.heap.size + 1]? = some (.cells #[.int .u16 (st : Int)] 63 (0, 0))) := by
    have := heap_alloc_new (w.alloc (.cells #[.int .i64 p, .slice (some ⟨B, 0, none⟩) n n] 59)) (.cells #[.int .u16 (st : Int)] 63)
    rw [show (w.alloc (.cells #[.int .i64 p, .slice (some ⟨B, 0, none⟩) n n] 59)).heap.size = w.heap.size + 1 by simp] at this
    exact this
  have HC := hide (containsK_any B n (w.heap.size + 1) st L _ (h.grow hA) hn hst hm HBX.out)
  clear h hA hm HBX
  go_enter Try.func80, Try.ntmps80
  go_wp2_with fail
  refine HC.out.mono ?_
  rintro e w1 ⟨rfl, hb⟩
  have HB1 := hide (HB.out.trans (hb.mono HB.out.size))
  obtain ⟨r, hr⟩ : ∃ r, Hid (kpM st n L = r) := ⟨_, rfl⟩
  rw [hr.out]
  clear hb HC HB
  go_wp2_with fail
  go_ret
  exact ⟨ret_bool (by rw [hr.out]), HB1.out⟩

/-- 1 at the places of a set, 0 elsewhere. -/
def rowB (st P : Nat) : List Int := listF (fun j => if st.testBit j then 1 else 0) P

theorem rise_up {xs : List Int} {lo hi hi' : Int} (hh : hi ≤ hi') (h : riseB xs lo hi = true) : riseB xs lo hi' = true := by
  induction xs generalizing lo with
  | nil => rfl
  | cons y r ih =>
    simp only [riseB, Bool.and_eq_true, decide_eq_true_eq] at h ⊢
    exact ⟨⟨h.1.1, by omega⟩, ih h.2⟩

theorem sumW_congr {u v xs : List Int} (h : ∀ x ∈ xs, u.getD x.toNat 0 = v.getD x.toNat 0) : sumW u xs = sumW v xs := by
  unfold sumW
  refine sumF_congr fun i hi => h _ ?_
  rw [List.getD_eq_getElem?_getD, List.getElem?_eq_getElem hi]
  exact List.getElem_mem hi

theorem popc_sum {xs : List Int} {P st : Nat} (hP : P ≤ 10) (h : riseB xs 0 ((P : Int) - 1) = true) : popc (maskL xs &&& st) = sumW (rowB st P) xs := by
  have hr10 : riseB xs 0 (((10 : Nat) : Int) - 1) = true := rise_up (by omega) h
  have e1 : sumW (rowB st P) xs = sumW (rowB st 10) xs := sumW_congr fun x hx => by
    have := riseB_mem h x hx
    unfold rowB
    rw [listF_at _ _ _ (by omega), listF_at _ _ _ (by omega)]
  rw [e1, ← sumW_in (P := 10) hr10]
  unfold popc
  refine sumF_congr fun j hj => ?_
  rw [Nat.testBit_and, maskL_bit _ _ (fun x hx => (riseB_mem h x hx).1)]
  unfold rowB
  rw [listF_at _ _ _ hj]
  by_cases a : (j : Int) ∈ xs <;> by_cases b : st.testBit j = true <;> simp [a, b]

theorem kpM_eq {P n st : Nat} {L : List (List Int)} (hP : P ≤ 10) (h : netOk (P : Int) n L = true) : (!kpM st n L) = invB (rowB st P) n L := by
  unfold kpM invB
  rw [Bool.eq_iff_iff, Bool.not_eq_true', List.all_eq_true, List.any_eq_false]
  constructor
  · intro hh k hk
    have := hh k hk
    have hr := net_rises h (show k < n by simpa using hk)
    rw [popc_sum hP hr.1, popc_sum hP hr.2.1] at this
    simpa using this
  · intro hh k hk
    have := hh k hk
    have hr := net_rises h (show k < n by simpa using hk)
    rw [popc_sum hP hr.1, popc_sum hP hr.2.1]
    simpa using this
end Go.Proofs.Ytajcmamapmeglaa
