/- Contracts that the proof stands on, one behind the other. -/
import Derived.Test.YtakenobplljkbaaP2
import Derived.OwnWalk
/- stepsWithoutResets of the program: it takes a good net without Resets. -/
namespace Go.Proofs.Ytakenobplljkbaa
open Go.RowKit

set_option maxHeartbeats 1000000 in
theorem stepsNR_any (p : Int) (a : Option Addr) (n c : Nat) (L : List (List Int)) (w : World) (h : Lists w a (3 * n) L) (hs : sizeN n L ≤ 1048576) :
    Calls Try.prog 35 #[.agg #[.int .i64 p, .slice a n c]] w fun e w' => NetEnd (netOk p n L && !resB n L) p n L w e w' := by
  have HA := hide (below_two w (.cells #[.int .i64 p, .slice a n c] 28) (.cells #[.int .i64 0, .slice none 0 0] 54))
  have HT := hide (netSteps_any p a n c L ((w.alloc (.cells #[.int .i64 p, .slice a n c] 28)).alloc (.cells #[.int .i64 0, .slice none 0 0] 54)) (h.below HA.out) hs)
  have HR0 : Hid (((w.alloc (.cells #[.int .i64 p, .slice a n c] 28)).alloc (.cells #[.int .i64 0, .slice none 0 0] 54)).heap[w.heap.size + 1]? = some (.cells #[.int .i64 0, .slice none 0 0] 54 (0, 0))) := by
    have := heap_alloc_new (w.alloc (.cells #[.int .i64 p, .slice a n c] 28)) (.cells #[.int .i64 0, .slice none 0 0] 54)
    rw [show (w.alloc (.cells #[.int .i64 p, .slice a n c] 28)).heap.size = w.heap.size + 1 by simp] at this
    exact this
  clear h
  by_cases hg : netOk p n L = true
  rotate_left
  · have hg' : netOk p n L = false := by simpa using hg
    have HF : Hid ((netOk p n L && !resB n L) = false) := by show _ = _; rw [hg']; rfl
    rw [hg'] at HT
    rw [HF.out]
    clear hg hg' HF
    go_enter Try.func35, Try.ntmps35
    go_wp2_with fail
    refine HT.out.mono ?_
    rintro e w2 ⟨p', a', m, c', rfl, hx, hb⟩
    have HB2 := hide (HA.out.trans (hb.mono HA.out.size))
    have hR := (hb.block (w.heap.size + 1) (by simp)).trans HR0.out
    have hr0 : w2.cell? ⟨w.heap.size + 1, 0, none⟩ = some (.int .i64 0) := cell_of_row w2 _ 0 _ _ _ hR
    have hr1 : w2.cell? ⟨w.heap.size + 1, 1, none⟩ = some (.slice none 0 0) := cell_of_row w2 _ 1 _ _ _ hR
    have hf0 : w2.frozen? ⟨w.heap.size + 1, 0, none⟩ = false := frozen_of_row w2 _ 0 _ _ hR
    have hf1 : w2.frozen? ⟨w.heap.size + 1, 1, none⟩ = false := frozen_of_row w2 _ 1 _ _ hR
    have hlr : w.heap.size + 1 < w2.heap.size := (Array.getElem?_eq_some_iff.mp hR).1
    clear hb HT hx HA HR0 hR
    go_wp2_with fail
    refine bodyPost_ret (v := .tuple #[.agg #[.int .i64 0, .slice none 0 0], .bool false]) (by simp [results, Try.results35, go_sem, hr0, hr1, hlr]) rfl ?_
    exact ⟨_, _, _, _, rfl, by intro e; simp at e, (((HB2.out.setCell (by simp) _).setCell (by simp) _).alloc (by have := HB2.out.size; simp [World.setCell]; omega) _)⟩
  have HR := hide (res_eq hg)
  have HG := hide hg
  have hn24 := netN hg
  rw [hg] at HT
  clear hg
  go_enter Try.func35, Try.ntmps35
  go_wp2_with fail
  refine HT.out.mono ?_
  rintro e w2 ⟨p', a', m, c', rfl, hx, hb⟩
  obtain ⟨e1, e2, e3, B, rfl, hBs, hps⟩ := hx.out rfl
  subst e1 e2 e3
  have hA := below_al w2 (.cells #[.int .i64 p', .slice (some ⟨B, 0, none⟩) c' c'] 54)
  have HC := hide (contains_any B c' L _ (hps.grow hA) hn24)
  have HB2 := hide (HA.out.trans (hb.mono HA.out.size))
  have HR2 := hide ((hb.block (w.heap.size + 1) (by simp)).trans HR0.out)
  have hBs' : w.heap.size ≤ B := by have := HA.out.size; omega
  go_wp2_with fail
  refine HC.out.mono ?_
  rintro e w3 ⟨rfl, hb3⟩
  have HB3 := hide (HB2.out.trans ((hA.trans (hb3.mono hA.size)).mono HB2.out.size))
  have HPS := hide ((hps.grow hA).grow hb3)
  have hvl : w2.heap.size < w3.heap.size := by have := hb3.size; simp at this; omega
  have hv0 : w3.cell? ⟨w2.heap.size, 0, none⟩ = some (.int .i64 p') := by rw [hb3.cell (by simp)]; simp
  have hv1 : w3.cell? ⟨w2.heap.size, 1, none⟩ = some (.slice (some ⟨B, 0, none⟩) c' c') := by rw [hb3.cell (by simp)]; simp
  have hR := ((hA.trans (hb3.mono hA.size)).block (w.heap.size + 1) (Array.getElem?_eq_some_iff.mp HR2.out).1).trans HR2.out
  have hB1 : B ≠ w.heap.size + 1 := by have := HA.out.size; simp at hBs; omega
  have hr0 : w3.cell? ⟨w.heap.size + 1, 0, none⟩ = some (.int .i64 0) := cell_of_row w3 _ 0 _ _ _ hR
  have hr1 : w3.cell? ⟨w.heap.size + 1, 1, none⟩ = some (.slice none 0 0) := cell_of_row w3 _ 1 _ _ _ hR
  have hf0 : w3.frozen? ⟨w.heap.size + 1, 0, none⟩ = false := frozen_of_row w3 _ 0 _ _ hR
  have hf1 : w3.frozen? ⟨w.heap.size + 1, 1, none⟩ = false := frozen_of_row w3 _ 1 _ _ hR
  have hlr : w.heap.size + 1 < w3.heap.size := (Array.getElem?_eq_some_iff.mp hR).1
  clear HT hb hx hps hA HC hb3 hBs HR0 HR2 HA HB2 hR
  generalize w2.heap.size = z2 at *
  clear w2
  by_cases hrm : resM c' L = true
  · have HF : Hid ((netOk p' c' L && !resB c' L) = false) := by show _ = _; rw [← HR.out, hrm, HG.out]; rfl
    rw [hrm]
    clear hrm hv0 hv1
    go_wp2_with fail
    refine bodyPost_ret (v := .tuple #[.agg #[.int .i64 0, .slice none 0 0], .bool false]) (by simp [results, Try.results35, go_sem, hr0, hr1]) rfl ?_
    show NetEnd _ _ _ _ _ _ _
    rw [HF.out]
    exact ⟨_, _, _, _, rfl, by intro e; simp at e, ((HB3.out.setCell (by simp) _).setCell (by simp) _)⟩
  have hrm' : resM c' L = false := by simpa using hrm
  have HF : Hid ((netOk p' c' L && !resB c' L) = true) := by show _ = _; rw [← HR.out, hrm', HG.out]; rfl
  rw [hrm']
  clear hrm hrm'
  go_wp2_with fail
  refine bodyPost_ret (v := .tuple #[.agg #[.int .i64 p', .slice (some ⟨B, 0, none⟩) c' c'], .bool true]) (by simp [results, Try.results35, go_sem, hr0, hr1]) rfl ?_
  show NetEnd _ _ _ _ _ _ _
  rw [HF.out]
  exact ⟨_, _, _, _, rfl, fun _ => ⟨rfl, rfl, rfl, B, rfl, hBs', (HPS.out.set_other (by omega) _ _).set_other (by omega) _ _⟩, (HB3.out.setCell (by simp) _).setCell (by simp) _⟩
end Go.Proofs.Ytakenobplljkbaa


/- What tokensOf and both GoodMarks answer, for every number of places and every list: true just where the places are in 1..16, the list is as long, and each of its numbers is in 0..50; nothing that was there is written. -/
namespace Go.Proofs.Ytakenobplljkbaa
open Go.RowKit

theorem goodB_of {p : Int} {n : Nat} {xs : List Int} (hl : xs.length = n) (hp : inB p 1 16 = true) (hn : (n : Int) = p) : goodB p xs = allB xs 0 50 := by
  simp [goodB, hp, hl, hn]

theorem goodB_p {p : Int} {xs : List Int} (hp : inB p 1 16 = false) : goodB p xs = false := by simp [goodB, hp]

theorem goodB_n {p : Int} {n : Nat} {xs : List Int} (hl : xs.length = n) (hn : ¬ (n : Int) = p) : goodB p xs = false := by
  simp [goodB, hl, hn]

theorem inB_le {p : Int} {n : Nat} (hp : inB p 1 16 = true) (hn : (n : Int) = p) : 1 ≤ n ∧ n ≤ 16 := by
  simp [inB] at hp; omega

set_option maxHeartbeats 400000 in
theorem tokens_any (p : Int) (a : Option Addr) (n ca : Nat) (xs : List Int) (w : World) (ha : Row w a n xs) (_hn : n ≤ 1048576) :
    Calls Try.prog 75 #[.int .i64 p, .slice a n ca] w fun e w' => TokEnd (goodB p xs) xs n w e w' := by
  by_cases hp : inB p 1 16 = true
  · by_cases hnp : (n : Int) = p
    · exact tokens_run _ p a n ca xs w ha hp hnp (inB_le hp hnp).2 (goodB_of ha.1 hp hnp)
    · have hd : ((n : Int) != p) = true := by simp [hnp]
      have HG : Hid (goodB p xs = false) := goodB_n ha.1 hnp
      clear hnp ha
      go_enter Try.func75, Try.ntmps75
      go_wp2_with (go_at_call 77; refine (goodPlaces_any _ _).mono ?_; rintro e w' ⟨rfl, rfl⟩)
      exact bodyPost_ret (v := .tuple #[.agg #[.int .u8 0, .int .u8 0, .int .u8 0, .int .u8 0, .int .u8 0, .int .u8 0, .int .u8 0, .int .u8 0, .int .u8 0, .int .u8 0, .int .u8 0, .int .u8 0, .int .u8 0, .int .u8 0, .int .u8 0, .int .u8 0], .bool false]) (by simp [results, Try.results75, go_sem]) rfl (tokEnd_no HG.out (below_two _ _ _))
  · have hp' : inB p 1 16 = false := by simpa using hp
    have HG : Hid (goodB p xs = false) := goodB_p hp'
    clear hp ha
    go_enter Try.func75, Try.ntmps75
    go_wp2_with (go_at_call 77; refine (goodPlaces_any _ _).mono ?_; rintro e w' ⟨rfl, rfl⟩)
    exact bodyPost_ret (v := .tuple #[.agg #[.int .u8 0, .int .u8 0, .int .u8 0, .int .u8 0, .int .u8 0, .int .u8 0, .int .u8 0, .int .u8 0, .int .u8 0, .int .u8 0, .int .u8 0, .int .u8 0, .int .u8 0, .int .u8 0, .int .u8 0, .int .u8 0], .bool false]) (by simp [results, Try.results75, go_sem]) rfl (tokEnd_no HG.out (below_two _ _ _))

/-- A call that answers a bool and writes into nothing that was there. -/
def BoolEnd (b : Bool) (w : World) (e : Ending) (w' : World) : Prop := e = .returned (.bool b) ∧ Below w.heap.size w w'

set_option maxHeartbeats 400000 in
theorem goodI_any (p : Int) (a : Option Addr) (n ca : Nat) (xs : List Int) (w : World) (ha : Row w a n xs) (hn : n ≤ 1048576) :
    Calls Try.prog 56 #[.int .i64 p, .slice a n ca] w fun e w' => BoolEnd (goodB p xs) w e w' := by
  obtain ⟨g, hg⟩ : ∃ g, Hid (goodB p xs = g) := ⟨_, rfl⟩
  have ht := tokens_any p a n ca xs w ha hn
  rw [hg.out] at ht ⊢
  have HT := hide ht
  clear ht ha hg hn
  go_enter Try.func56, Try.ntmps56
  go_wp2_with (first
    | (go_at_call 75; refine HT.out.mono ?_; rintro e w1 ⟨m, rfl, hm, hb1⟩; have hg0 := heap_alloc_new w1 (.cells #[.int .u8 0, .int .u8 0, .int .u8 0, .int .u8 0, .int .u8 0, .int .u8 0, .int .u8 0, .int .u8 0, .int .u8 0, .int .u8 0, .int .u8 0, .int .u8 0, .int .u8 0, .int .u8 0, .int .u8 0, .int .u8 0] 88))
    | refine wpList_store_row rfl 88 _ _ rfl _ _ rfl rfl 88 _ (by assumption) (by rw [packOf_size]; exact Try.size88) (by rw [packOf_size]; rfl) (packOf_one _ _) ?_)
  go_ret
  exact ⟨rfl, below_setRow (hb1.alloc hb1.size _) _ hb1.size _⟩

def AllUpto (xs : List Int) (lo hi : Int) (k : Nat) : Prop := allB (xs.take k) lo hi = true

theorem AllUpto.step {xs : List Int} {lo hi : Int} {k : Nat} {x : Int} (h : AllUpto xs lo hi k) (hx : Hid (xs[k]? = some x)) (hi' : inB x lo hi = true) : AllUpto xs lo hi (k + 1) := by
  unfold AllUpto allB at *
  rw [List.take_add_one, hx.out, List.all_append, h]
  simp [hi']

theorem AllUpto.done {xs : List Int} {lo hi : Int} {n : Nat} (h : AllUpto xs lo hi n) (hl : xs.length = n) : allB xs lo hi = true := by
  unfold AllUpto at h
  rwa [List.take_of_length_le (by omega)] at h

theorem allB_no {xs : List Int} {lo hi : Int} {k : Nat} {x : Int} (hx : Hid (xs[k]? = some x)) (hi' : inB x lo hi = false) : allB xs lo hi = false := by
  unfold allB
  rw [List.all_eq_false]
  exact ⟨x, List.mem_of_getElem? hx.out, by simp [hi']⟩

set_option maxHeartbeats 400000 in
theorem allG_any (a : Option Addr) (n ca : Nat) (xs : List Int) (lo hi : Int) (w : World) (ha : Row w a n xs) (hn : n ≤ 1048576) :
    Calls Try.prog 46 #[.slice a n ca, .int .i64 lo, .int .i64 hi] w fun e w' => e = .returned (.bool (allB xs lo hi)) ∧ w' = w := by
  go_enter Try.func46, Try.ntmps46
  go_wp2
  go_loop [11] (fun i => ∃ k : Nat, k ≤ n ∧ i = .int .i64 k ∧ AllUpto xs lo hi k) (fun i => n - (intOf i).toNat)
  case atStart => exact ⟨0, Nat.zero_le _, rfl, rfl⟩
  case round =>
    obtain ⟨k, hk, rfl, hu⟩ := hrel
    by_cases hlt : k < n
    · obtain ⟨b1, o1, x, rfl, hl1, hc1, H1⟩ := ha.at hlt
      clear ha
      by_cases hi' : inB x lo hi = true
      · have HU := hu.step H1 hi'
        clear hu H1
        go_wp2_with (go_at_call 70; refine (in_any _ _ _ _).mono ?_; rintro e w' ⟨rfl, rfl⟩)
        go_round
        case rel => exact ⟨k + 1, by omega, by go_num, HU⟩
        case measure => simp [intOf]; omega
      · have hi'' : inB x lo hi = false := by simpa using hi'
        have HA := hide (allB_no H1 hi'')
        clear hu H1 hi'
        go_wp2_with (go_at_call 70; refine (in_any _ _ _ _).mono ?_; rintro e w' ⟨rfl, rfl⟩)
        go_ret
        exact ⟨ret_bool HA.out.symm, rfl⟩
    · have hk' : k = n := by omega
      subst hk'
      have HA := hide (hu.done ha.1)
      go_wp2
      go_ret
      exact ⟨ret_bool HA.out.symm, rfl⟩

set_option maxHeartbeats 400000 in
theorem goodS_any (p : Int) (a : Option Addr) (n ca : Nat) (xs : List Int) (w : World) (ha : Row w a n xs) (hn : n ≤ 1048576) :
    Calls Try.prog 55 #[.int .i64 p, .slice a n ca] w fun e w' => e = .returned (.bool (goodB p xs)) ∧ w' = w := by
  by_cases hp : inB p 1 16 = true
  · by_cases hnp : (n : Int) = p
    · have hd : ((n : Int) == p) = true := by simp [hnp]
      have HG := hide (goodB_of ha.1 hp hnp)
      have HA := hide (allG_any a n ca xs 0 50 w ha hn)
      clear hnp ha
      go_enter Try.func55, Try.ntmps55
      go_wp2_with (first
        | (go_at_call 61; refine (places_any _ _).mono ?_; rintro e w' ⟨rfl, rfl⟩)
        | (go_at_call 46; refine HA.out.mono ?_; rintro e w' ⟨rfl, rfl⟩))
      go_ret
      exact ⟨ret_bool HG.out.symm, rfl⟩
    · have hd : ((n : Int) == p) = false := by simp [hnp]
      have HG := hide (goodB_n ha.1 hnp)
      clear hnp ha
      go_enter Try.func55, Try.ntmps55
      go_wp2_with (go_at_call 61; refine (places_any _ _).mono ?_; rintro e w' ⟨rfl, rfl⟩)
      go_ret
      exact ⟨ret_bool HG.out.symm, rfl⟩
  · have hp' : inB p 1 16 = false := by simpa using hp
    have HG := hide (goodB_p (xs := xs) hp')
    clear hp ha
    go_enter Try.func55, Try.ntmps55
    go_wp2_with (go_at_call 61; refine (places_any _ _).mono ?_; rintro e w' ⟨rfl, rfl⟩)
    go_ret
    exact ⟨ret_bool HG.out.symm, rfl⟩
end Go.Proofs.Ytakenobplljkbaa


/- goodNumbers of the program: so many numbers, none of them beyond a bound. -/
namespace Go.Proofs.Ytakenobplljkbaa
open Go.RowKit
set_option maxRecDepth 10000

set_option maxHeartbeats 400000 in
theorem beyond_any (x lo hi : Int) (bl bm : Nat) (w : World) (h1 : w.cell? ⟨bl, 0, none⟩ = some (.int .i64 lo)) (h2 : w.cell? ⟨bm, 0, none⟩ = some (.int .i64 hi)) :
    Calls Try.prog 79 #[.int .i64 x, .pointer (some ⟨bl, 0, none⟩), .pointer (some ⟨bm, 0, none⟩)] w fun e w' => e = .returned (.bool (!inB x lo hi)) ∧ w' = w := by
  by_cases hl : x < lo
  · have HI := hide (show (!inB x lo hi) = true by unfold inB; simp; omega)
    go_enter Try.func79, Try.ntmps79
    go_wp2_with fail
    go_ret
    exact ⟨ret_bool HI.out.symm, rfl⟩
  by_cases hh : hi < x
  · have HI := hide (show (!inB x lo hi) = true by unfold inB; simp; omega)
    go_enter Try.func79, Try.ntmps79
    go_wp2_with fail
    go_ret
    exact ⟨ret_bool HI.out.symm, rfl⟩
  have HI := hide (show (!inB x lo hi) = false by unfold inB; simp; omega)
  go_enter Try.func79, Try.ntmps79
  go_wp2_with fail
  go_ret
  exact ⟨ret_bool HI.out.symm, rfl⟩

/-- Where the first number beyond a bound is, or -1. -/
def ByEnd (g : Bool) (w : World) (e : Ending) (w' : World) : Prop := ∃ z : Int, e = .returned (.int .i64 z) ∧ Hid (decide (0 ≤ z) = !g) ∧ w' = w

set_option maxHeartbeats 1000000 in
theorem beyIx_any (a : Option Addr) (n c : Nat) (xs : List Int) (lo hi : Int) (bl bm : Nat) (w : World) (rt : Row w a n xs) (hn : n ≤ 1048576) (h1 : w.cell? ⟨bl, 0, none⟩ = some (.int .i64 lo)) (h2 : w.cell? ⟨bm, 0, none⟩ = some (.int .i64 hi)) :
    Calls Try.prog 71 #[.slice a n c, .func (.func 79) #[] #[.pointer (some ⟨bl, 0, none⟩), .pointer (some ⟨bm, 0, none⟩)]] w fun e w' => ByEnd (allB xs lo hi) w e w' := by
  have HC := hide (fun x => beyond_any x lo hi bl bm w h1 h2)
  have hlen := rt.1
  clear h1 h2
  go_enter Try.func71, Try.ntmps71
  go_wp2_with fail
  go_loop [8] (fun i => ∃ k : Nat, k ≤ n ∧ i = .int .i64 k ∧ Hid (AllUpto xs lo hi k)) (fun i => n - (intOf i).toNat)
  case atStart => exact ⟨0, Nat.zero_le _, rfl, rfl⟩
  case round =>
    obtain ⟨k, hk, rfl, hu⟩ := hrel
    by_cases hkn : k < n
    rotate_left
    · have hk' : k = n := by omega
      subst hk'
      have HE : Hid (ByEnd (allB xs lo hi) w (.returned (.int .i64 (-1))) w) := ⟨-1, rfl, by rw [hu.out.done hlen]; rfl, rfl⟩
      go_wp2_with fail
      go_ret
      exact HE.out
    obtain ⟨b1, o1, t, rfl, hl1, hc1, H1⟩ := rt.at hkn
    have HH := hide (HC.out t)
    clear rt
    by_cases hi' : inB t lo hi = true
    · have HU := hide (hu.out.step H1 hi')
      rw [hi'] at HH
      clear hi' hu H1
      go_wp2_with fail
      refine HH.out.mono ?_
      rintro e w1 ⟨rfl, rfl⟩
      clear HH hc1 hl1
      go_wp2_with fail
      go_round
      case rel => exact ⟨k + 1, by omega, by go_num, HU⟩
      case measure => simp [intOf]; omega
    · have hi'' : inB t lo hi = false := by simpa using hi'
      have HE : Hid (ByEnd (allB xs lo hi) w (.returned (.int .i64 (k : Int))) w) := ⟨k, rfl, by rw [allB_no H1 hi'']; simp [Hid], rfl⟩
      rw [hi''] at HH
      clear hi' hi'' hu H1
      go_wp2_with fail
      refine HH.out.mono ?_
      rintro e w1 ⟨rfl, rfl⟩
      clear HH hc1 hl1
      go_wp2_with fail
      go_ret
      exact HE.out

set_option maxHeartbeats 400000 in
theorem beyC_any (a : Option Addr) (n c : Nat) (xs : List Int) (lo hi : Int) (bl bm : Nat) (w : World) (rt : Row w a n xs) (hn : n ≤ 1048576) (h1 : w.cell? ⟨bl, 0, none⟩ = some (.int .i64 lo)) (h2 : w.cell? ⟨bm, 0, none⟩ = some (.int .i64 hi)) :
    Calls Try.prog 47 #[.slice a n c, .func (.func 79) #[] #[.pointer (some ⟨bl, 0, none⟩), .pointer (some ⟨bm, 0, none⟩)]] w fun e w' => e = .returned (.bool (!allB xs lo hi)) ∧ w' = w := by
  have HI := hide (beyIx_any a n c xs lo hi bl bm w rt hn h1 h2)
  clear rt h1 h2
  go_enter Try.func47, Try.ntmps47
  go_wp2_with fail
  refine HI.out.mono ?_
  rintro e w1 ⟨z, rfl, hz, rfl⟩
  clear HI
  go_wp2_with fail
  go_ret
  exact ⟨ret_bool hz.out, rfl⟩

set_option maxHeartbeats 1000000 in
theorem goodNumbers_any (a : Option Addr) (n c : Nat) (xs : List Int) (many lo hi : Int) (w : World) (rt : Row w a n xs) (hn : n ≤ 1048576) :
    Calls Try.prog 68 #[.slice a n c, .int .i64 many, .int .i64 lo, .int .i64 hi] w fun e w' => e = .returned (.bool (decide ((n : Int) = many) && allB xs lo hi)) ∧ Below w.heap.size w w' := by
  have HB := hide (below_two w (.cells #[.int .i64 lo] 3) (.cells #[.int .i64 hi] 3))
  have HC := hide (beyC_any a n c xs lo hi w.heap.size (w.heap.size + 1) _ (rt.below HB.out) hn (by simp) (by simp))
  clear rt
  by_cases hm : (n : Int) = many
  · have hd : ((n : Int) == many) = true := by simp [hm]
    have HR : Hid ((decide ((n : Int) = many) && allB xs lo hi) = allB xs lo hi) := by show _ = _; simp [hm]
    rw [HR.out]
    clear hm HR
    obtain ⟨r, hr⟩ : ∃ r, Hid (allB xs lo hi = r) := ⟨_, rfl⟩
    rw [hr.out] at HC ⊢
    go_enter Try.func68, Try.ntmps68
    go_wp2_with fail
    refine HC.out.mono ?_
    rintro e w1 ⟨rfl, rfl⟩
    clear HC
    go_wp2_with fail
    go_ret
    exact ⟨ret_bool (by simp), HB.out⟩
  · have hd : ((n : Int) == many) = false := by simp [hm]
    have HR : Hid ((decide ((n : Int) = many) && allB xs lo hi) = false) := by show _ = _; simp [hm]
    rw [HR.out]
    clear hm HR HC
    go_enter Try.func68, Try.ntmps68
    go_wp2_with fail
    go_ret
    exact ⟨rfl, HB.out⟩
end Go.Proofs.Ytakenobplljkbaa


/- netForCounts and netForWeights of the program. -/
namespace Go.Proofs.Ytakenobplljkbaa
open Go.RowKit
set_option maxRecDepth 10000

/-- A good net without Resets. -/
def plainB (p : Int) (n : Nat) (L : List (List Int)) : Bool := netOk p n L && !resB n L
def cntOk (p : Int) (n : Nat) (L : List (List Int)) (xs : List Int) : Bool := plainB p n L && (decide ((xs.length : Int) = (n : Int)) && allB xs 0 1000)
def wgtOk (p : Int) (n : Nat) (L : List (List Int)) (xs : List Int) : Bool := plainB p n L && (decide ((xs.length : Int) = p) && allB xs (-9) 9)
set_option maxHeartbeats 2000000 in
theorem netForCounts_any (p : Int) (a ax : Option Addr) (n c nx cx : Nat) (L : List (List Int)) (xs : List Int) (w : World) (h : Lists w a (3 * n) L) (rx : Row w ax nx xs) (hs : sizeN n L ≤ 1048576) (hnx : nx ≤ 1048576) :
    Calls Try.prog 43 #[.agg #[.int .i64 p, .slice a n c], .slice ax nx cx] w fun e w' => NetEnd (cntOk p n L xs) p n L w e w' := by
  have HA := hide (below_two w (.cells #[.int .i64 p, .slice a n c] 28) (.cells #[.int .i64 0, .slice none 0 0] 54))
  have HT := hide (stepsNR_any p a n c L ((w.alloc (.cells #[.int .i64 p, .slice a n c] 28)).alloc (.cells #[.int .i64 0, .slice none 0 0] 54)) (h.below HA.out) hs)
  have HR0 : Hid (((w.alloc (.cells #[.int .i64 p, .slice a n c] 28)).alloc (.cells #[.int .i64 0, .slice none 0 0] 54)).heap[w.heap.size + 1]? = some (.cells #[.int .i64 0, .slice none 0 0] 54 (0, 0))) := by
    have := heap_alloc_new (w.alloc (.cells #[.int .i64 p, .slice a n c] 28)) (.cells #[.int .i64 0, .slice none 0 0] 54)
    rw [show (w.alloc (.cells #[.int .i64 p, .slice a n c] 28)).heap.size = w.heap.size + 1 by simp] at this
    exact this
  have RX := hide rx
  have hxl := rx.1
  clear h rx
  by_cases hg : plainB p n L = true
  rotate_left
  · have hg' : plainB p n L = false := by simpa using hg
    have HF : Hid (cntOk p n L xs = false) := by show _ = _; unfold cntOk; rw [hg']; rfl
    rw [show (netOk p n L && !resB n L) = false from hg'] at HT
    rw [HF.out]
    clear hg hg' HF
    go_enter Try.func43, Try.ntmps43
    go_wp2_with fail
    refine HT.out.mono ?_
    rintro e w2 ⟨p', a', m, c', rfl, hx, hb⟩
    have HB2 := hide (HA.out.trans (hb.mono HA.out.size))
    have hR := (hb.block (w.heap.size + 1) (by simp)).trans HR0.out
    have hr0 : w2.cell? ⟨w.heap.size + 1, 0, none⟩ = some (.int .i64 0) := cell_of_row w2 _ 0 _ _ _ hR
    have hr1 : w2.cell? ⟨w.heap.size + 1, 1, none⟩ = some (.slice none 0 0) := cell_of_row w2 _ 1 _ _ _ hR
    have hf0 : w2.frozen? ⟨w.heap.size + 1, 0, none⟩ = false := frozen_of_row w2 _ 0 _ _ hR
    have hf1 : w2.frozen? ⟨w.heap.size + 1, 1, none⟩ = false := frozen_of_row w2 _ 1 _ _ hR
    have hlr : w.heap.size + 1 < w2.heap.size := (Array.getElem?_eq_some_iff.mp hR).1
    clear hb HT hx HA HR0 hR
    go_wp2_with fail
    refine bodyPost_ret (v := .tuple #[.agg #[.int .i64 0, .slice none 0 0], .bool false]) (by simp [results, Try.results43, go_sem, hr0, hr1, hlr]) rfl ?_
    exact ⟨_, _, _, _, rfl, by intro e; simp at e, (((HB2.out.setCell (by simp) _).setCell (by simp) _).alloc (by have := HB2.out.size; simp [World.setCell]; omega) _)⟩
  have HG := hide hg
  rw [show (netOk p n L && !resB n L) = true from hg] at HT
  have hn24 : n ≤ 24 := netN (by unfold plainB at hg; simp only [Bool.and_eq_true] at hg; exact hg.1)
  clear hg
  go_enter Try.func43, Try.ntmps43
  go_wp2_with fail
  refine HT.out.mono ?_
  rintro e w2 ⟨p', a', m, c', rfl, hx, hb⟩
  obtain ⟨e1, e2, e3, B, rfl, hBs, hps⟩ := hx.out rfl
  subst e1 e2 e3
  have hA := below_al w2 (.cells #[.int .i64 p', .slice (some ⟨B, 0, none⟩) c' c'] 54)
  have HB2 := hide (HA.out.trans (hb.mono HA.out.size))
  have HC := hide (goodNumbers_any ax nx cx xs ((c' : Int)) (0) 1000 _ (RX.out.below (HB2.out.trans (hA.mono HB2.out.size))) hnx)
  have HR2 := hide ((hb.block (w.heap.size + 1) (by simp)).trans HR0.out)
  have hBs' : w.heap.size ≤ B := by have := HA.out.size; omega
  go_wp2_with fail
  refine HC.out.mono ?_
  rintro e w3 ⟨rfl, hb3⟩
  have HB3 := hide (HB2.out.trans ((hA.trans (hb3.mono hA.size)).mono HB2.out.size))
  have HPS := hide ((hps.grow hA).grow hb3)
  have hvl : w2.heap.size < w3.heap.size := by have := hb3.size; simp at this; omega
  have hv0 : w3.cell? ⟨w2.heap.size, 0, none⟩ = some (.int .i64 p') := by rw [hb3.cell (by simp)]; simp
  have hv1 : w3.cell? ⟨w2.heap.size, 1, none⟩ = some (.slice (some ⟨B, 0, none⟩) c' c') := by rw [hb3.cell (by simp)]; simp
  have hR := ((hA.trans (hb3.mono hA.size)).block (w.heap.size + 1) (Array.getElem?_eq_some_iff.mp HR2.out).1).trans HR2.out
  have hB1 : B ≠ w.heap.size + 1 := by have := HA.out.size; simp at hBs; omega
  have hr0 : w3.cell? ⟨w.heap.size + 1, 0, none⟩ = some (.int .i64 0) := cell_of_row w3 _ 0 _ _ _ hR
  have hr1 : w3.cell? ⟨w.heap.size + 1, 1, none⟩ = some (.slice none 0 0) := cell_of_row w3 _ 1 _ _ _ hR
  have hf0 : w3.frozen? ⟨w.heap.size + 1, 0, none⟩ = false := frozen_of_row w3 _ 0 _ _ hR
  have hf1 : w3.frozen? ⟨w.heap.size + 1, 1, none⟩ = false := frozen_of_row w3 _ 1 _ _ hR
  have hlr : w.heap.size + 1 < w3.heap.size := (Array.getElem?_eq_some_iff.mp hR).1
  have HOK : Hid (cntOk p' c' L xs = (decide ((nx : Int) = (c' : Int)) && allB xs (0) 1000)) := by show _ = _; unfold cntOk; rw [HG.out, hxl]; rfl
  clear HT hb hx hps hA HC hb3 hBs HR0 HR2 HA HB2 hR RX
  generalize w2.heap.size = z2 at *
  clear w2
  obtain ⟨r, hr⟩ : ∃ r, Hid ((decide ((nx : Int) = (c' : Int)) && allB xs (0) 1000) = r) := ⟨_, rfl⟩
  rw [hr.out] at HOK ⊢
  cases r
  · clear hv0 hv1
    go_wp2_with fail
    refine bodyPost_ret (v := .tuple #[.agg #[.int .i64 0, .slice none 0 0], .bool false]) (by simp [results, Try.results43, go_sem, hr0, hr1]) rfl ?_
    show NetEnd _ _ _ _ _ _ _
    rw [HOK.out]
    exact ⟨_, _, _, _, rfl, by intro e; simp at e, ((HB3.out.setCell (by simp) _).setCell (by simp) _)⟩
  · go_wp2_with fail
    refine bodyPost_ret (v := .tuple #[.agg #[.int .i64 p', .slice (some ⟨B, 0, none⟩) c' c'], .bool true]) (by simp [results, Try.results43, go_sem, hr0, hr1]) rfl ?_
    show NetEnd _ _ _ _ _ _ _
    rw [HOK.out]
    exact ⟨_, _, _, _, rfl, fun _ => ⟨rfl, rfl, rfl, B, rfl, hBs', (HPS.out.set_other (by omega) _ _).set_other (by omega) _ _⟩, (HB3.out.setCell (by simp) _).setCell (by simp) _⟩
set_option maxHeartbeats 2000000 in
theorem netForWeights_any (p : Int) (a ax : Option Addr) (n c nx cx : Nat) (L : List (List Int)) (xs : List Int) (w : World) (h : Lists w a (3 * n) L) (rx : Row w ax nx xs) (hs : sizeN n L ≤ 1048576) (hnx : nx ≤ 1048576) :
    Calls Try.prog 51 #[.agg #[.int .i64 p, .slice a n c], .slice ax nx cx] w fun e w' => NetEnd (wgtOk p n L xs) p n L w e w' := by
  have HA := hide (below_two w (.cells #[.int .i64 p, .slice a n c] 28) (.cells #[.int .i64 0, .slice none 0 0] 54))
  have HT := hide (stepsNR_any p a n c L ((w.alloc (.cells #[.int .i64 p, .slice a n c] 28)).alloc (.cells #[.int .i64 0, .slice none 0 0] 54)) (h.below HA.out) hs)
  have HR0 : Hid (((w.alloc (.cells #[.int .i64 p, .slice a n c] 28)).alloc (.cells #[.int .i64 0, .slice none 0 0] 54)).heap[w.heap.size + 1]? = some (.cells #[.int .i64 0, .slice none 0 0] 54 (0, 0))) := by
    have := heap_alloc_new (w.alloc (.cells #[.int .i64 p, .slice a n c] 28)) (.cells #[.int .i64 0, .slice none 0 0] 54)
    rw [show (w.alloc (.cells #[.int .i64 p, .slice a n c] 28)).heap.size = w.heap.size + 1 by simp] at this
    exact this
  have RX := hide rx
  have hxl := rx.1
  clear h rx
  by_cases hg : plainB p n L = true
  rotate_left
  · have hg' : plainB p n L = false := by simpa using hg
    have HF : Hid (wgtOk p n L xs = false) := by show _ = _; unfold wgtOk; rw [hg']; rfl
    rw [show (netOk p n L && !resB n L) = false from hg'] at HT
    rw [HF.out]
    clear hg hg' HF
    go_enter Try.func51, Try.ntmps51
    go_wp2_with fail
    refine HT.out.mono ?_
    rintro e w2 ⟨p', a', m, c', rfl, hx, hb⟩
    have HB2 := hide (HA.out.trans (hb.mono HA.out.size))
    have hR := (hb.block (w.heap.size + 1) (by simp)).trans HR0.out
    have hr0 : w2.cell? ⟨w.heap.size + 1, 0, none⟩ = some (.int .i64 0) := cell_of_row w2 _ 0 _ _ _ hR
    have hr1 : w2.cell? ⟨w.heap.size + 1, 1, none⟩ = some (.slice none 0 0) := cell_of_row w2 _ 1 _ _ _ hR
    have hf0 : w2.frozen? ⟨w.heap.size + 1, 0, none⟩ = false := frozen_of_row w2 _ 0 _ _ hR
    have hf1 : w2.frozen? ⟨w.heap.size + 1, 1, none⟩ = false := frozen_of_row w2 _ 1 _ _ hR
    have hlr : w.heap.size + 1 < w2.heap.size := (Array.getElem?_eq_some_iff.mp hR).1
    clear hb HT hx HA HR0 hR
    go_wp2_with fail
    refine bodyPost_ret (v := .tuple #[.agg #[.int .i64 0, .slice none 0 0], .bool false]) (by simp [results, Try.results51, go_sem, hr0, hr1, hlr]) rfl ?_
    exact ⟨_, _, _, _, rfl, by intro e; simp at e, (((HB2.out.setCell (by simp) _).setCell (by simp) _).alloc (by have := HB2.out.size; simp [World.setCell]; omega) _)⟩
  have HG := hide hg
  rw [show (netOk p n L && !resB n L) = true from hg] at HT
  have hn24 : n ≤ 24 := netN (by unfold plainB at hg; simp only [Bool.and_eq_true] at hg; exact hg.1)
  clear hg
  go_enter Try.func51, Try.ntmps51
  go_wp2_with fail
  refine HT.out.mono ?_
  rintro e w2 ⟨p', a', m, c', rfl, hx, hb⟩
  obtain ⟨e1, e2, e3, B, rfl, hBs, hps⟩ := hx.out rfl
  subst e1 e2 e3
  have hA := below_al w2 (.cells #[.int .i64 p', .slice (some ⟨B, 0, none⟩) c' c'] 54)
  have HB2 := hide (HA.out.trans (hb.mono HA.out.size))
  have HC := hide (goodNumbers_any ax nx cx xs p' (-9) 9 _ (RX.out.below (HB2.out.trans (hA.mono HB2.out.size))) hnx)
  have HR2 := hide ((hb.block (w.heap.size + 1) (by simp)).trans HR0.out)
  have hBs' : w.heap.size ≤ B := by have := HA.out.size; omega
  go_wp2_with fail
  refine HC.out.mono ?_
  rintro e w3 ⟨rfl, hb3⟩
  have HB3 := hide (HB2.out.trans ((hA.trans (hb3.mono hA.size)).mono HB2.out.size))
  have HPS := hide ((hps.grow hA).grow hb3)
  have hvl : w2.heap.size < w3.heap.size := by have := hb3.size; simp at this; omega
  have hv0 : w3.cell? ⟨w2.heap.size, 0, none⟩ = some (.int .i64 p') := by rw [hb3.cell (by simp)]; simp
  have hv1 : w3.cell? ⟨w2.heap.size, 1, none⟩ = some (.slice (some ⟨B, 0, none⟩) c' c') := by rw [hb3.cell (by simp)]; simp
  have hR := ((hA.trans (hb3.mono hA.size)).block (w.heap.size + 1) (Array.getElem?_eq_some_iff.mp HR2.out).1).trans HR2.out
  have hB1 : B ≠ w.heap.size + 1 := by have := HA.out.size; simp at hBs; omega
  have hr0 : w3.cell? ⟨w.heap.size + 1, 0, none⟩ = some (.int .i64 0) := cell_of_row w3 _ 0 _ _ _ hR
  have hr1 : w3.cell? ⟨w.heap.size + 1, 1, none⟩ = some (.slice none 0 0) := cell_of_row w3 _ 1 _ _ _ hR
  have hf0 : w3.frozen? ⟨w.heap.size + 1, 0, none⟩ = false := frozen_of_row w3 _ 0 _ _ hR
  have hf1 : w3.frozen? ⟨w.heap.size + 1, 1, none⟩ = false := frozen_of_row w3 _ 1 _ _ hR
  have hlr : w.heap.size + 1 < w3.heap.size := (Array.getElem?_eq_some_iff.mp hR).1
  have HOK : Hid (wgtOk p' c' L xs = (decide ((nx : Int) = p') && allB xs (-9) 9)) := by show _ = _; unfold wgtOk; rw [HG.out, hxl]; rfl
  clear HT hb hx hps hA HC hb3 hBs HR0 HR2 HA HB2 hR RX
  generalize w2.heap.size = z2 at *
  clear w2
  obtain ⟨r, hr⟩ : ∃ r, Hid ((decide ((nx : Int) = p') && allB xs (-9) 9) = r) := ⟨_, rfl⟩
  rw [hr.out] at HOK ⊢
  cases r
  · clear hv0 hv1
    go_wp2_with fail
    refine bodyPost_ret (v := .tuple #[.agg #[.int .i64 0, .slice none 0 0], .bool false]) (by simp [results, Try.results51, go_sem, hr0, hr1]) rfl ?_
    show NetEnd _ _ _ _ _ _ _
    rw [HOK.out]
    exact ⟨_, _, _, _, rfl, by intro e; simp at e, ((HB3.out.setCell (by simp) _).setCell (by simp) _)⟩
  · go_wp2_with fail
    refine bodyPost_ret (v := .tuple #[.agg #[.int .i64 p', .slice (some ⟨B, 0, none⟩) c' c'], .bool true]) (by simp [results, Try.results51, go_sem, hr0, hr1]) rfl ?_
    show NetEnd _ _ _ _ _ _ _
    rw [HOK.out]
    exact ⟨_, _, _, _, rfl, fun _ => ⟨rfl, rfl, rfl, B, rfl, hBs', (HPS.out.set_other (by omega) _ _).set_other (by omega) _ _⟩, (HB3.out.setCell (by simp) _).setCell (by simp) _⟩
end Go.Proofs.Ytakenobplljkbaa


/- The specification's small functions on lists: l1Has, l2Meet and l1Same. -/
namespace Go.Proofs.Ytakenobplljkbaa
open Go.RowKit

def hasB (xs : List Int) (x : Int) : Bool := xs.contains x

theorem hasB_take {xs : List Int} {k : Nat} {x y : Int} (h : hasB (xs.take k) y = false) (hx : xs[k]? = some x) (hne : ¬ x = y) : hasB (xs.take (k + 1)) y = false := by
  unfold hasB at *
  rw [List.take_add_one, hx]
  simp at h ⊢
  exact ⟨h, fun e => hne e.symm⟩

theorem hasB_yes {xs : List Int} {k : Nat} {x : Int} (hx : xs[k]? = some x) : hasB xs x = true := by
  unfold hasB
  simpa using List.mem_of_getElem? hx



end Go.Proofs.Ytakenobplljkbaa


/- What markIntS writes, what heldIntS answers, and what the list of an array is, for slices that lie from the head of a block of their own; nothing else that was there is written. -/
namespace Go.Proofs.Ytakenobplljkbaa
open Go.RowKit

/-- Nothing but the block b has turned, and no block is new. -/
structure Only (b : Nat) (w w' : World) : Prop where
  os : w'.os = w.os
  tape : w'.tape = w.tape
  output : w'.output = w.output
  size : w'.heap.size = w.heap.size
  block : ∀ k, k ≠ b → w'.heap[k]? = w.heap[k]?

theorem Only.refl (b : Nat) (w : World) : Only b w w := ⟨rfl, rfl, rfl, rfl, fun _ _ => rfl⟩
theorem Only.below {b B : Nat} {w w' : World} (h : Only b w w') (hb : B ≤ b) : Below B w w' := ⟨h.os, h.tape, h.output, Nat.le_of_eq h.size.symm, fun k hk => h.block k (by omega)⟩
theorem Only.setCell {b : Nat} {w w' : World} (h : Only b w w') (o : Nat) (v : Value) : Only b w (w'.setCell ⟨b, o, none⟩ v) :=
  ⟨h.os, h.tape, h.output, by rw [← h.size]; simp [World.setCell], fun k hk => (Below.heap_setCell _ _ _ _ hk).trans (h.block k hk)⟩

/-- A slice that lies from the head of the block b, as long as it is; or an empty one. -/
def Blk (w : World) (a : Option Addr) (b n : Nat) (xs : List Int) : Prop :=
  xs.length = n ∧ (n = 0 ∨ (a = some ⟨b, 0, none⟩ ∧ w.heap[b]? = some (.cells (cellsOf xs) 3 (0, 0))))

theorem Blk.row {w : World} {a : Option Addr} {b n : Nat} {xs : List Int} (h : Blk w a b n xs) : Row w a n xs := by
  rcases h.2 with h0 | ⟨e, hh⟩
  · exact ⟨h.1, .inl h0⟩
  · exact Own.row (B := 0) ⟨h.1, b, e, Nat.zero_le _, hh⟩

theorem Blk.below {w w' : World} {a : Option Addr} {b n B : Nat} {xs : List Int} (h : Blk w a b n xs) (hb : Below B w w') (hB : b < B) : Blk w' a b n xs := by
  refine ⟨h.1, ?_⟩
  rcases h.2 with h0 | ⟨e, hh⟩
  · exact .inl h0
  · exact .inr ⟨e, (hb.block b hB).trans hh⟩

theorem Blk.only {w w' : World} {a : Option Addr} {b c n : Nat} {xs : List Int} (h : Blk w a b n xs) (hb : Only c w w') (hB : b ≠ c) : Blk w' a b n xs := by
  refine ⟨h.1, ?_⟩
  rcases h.2 with h0 | ⟨e, hh⟩
  · exact .inl h0
  · exact .inr ⟨e, (hb.block b hB).trans hh⟩

/-- k, k + 1, and so on. -/
def seqL (k n : Nat) : List Int := (List.range n).map fun i => ((k + i : Nat) : Int)

theorem seqL_len (k n : Nat) : (seqL k n).length = n := by simp [seqL]
theorem seqL_at (k n i : Nat) (h : i < n) : (seqL k n).getD i 0 = ((k + i : Nat) : Int) := by simp [seqL, h]

theorem set_fill {xs : List Int} {n k : Nat} {cs : Array Value} {x : Int} (h : Fill xs n k cs) (hk : k < n) (hx : xs.getD k 0 = x) : Fill xs n (k + 1) (cs.setIfInBounds k (.int .i64 x)) := by
  obtain ⟨h1, h2⟩ := h
  refine ⟨by simp [h1], fun i hi => ?_⟩
  rw [Array.getElem?_setIfInBounds]
  by_cases e : k = i
  · subst e; rw [if_pos rfl, if_pos (by omega), hx]
  · rw [if_neg e]; exact h2 i (by omega)

set_option maxHeartbeats 400000 in
theorem mark_any (a : Option Addr) (b n c k0 : Nat) (xs : List Int) (w : World) (h : Blk w a b n xs) (hn : n ≤ 1048576) (hk0 : k0 ≤ 4194304) :
    Calls Try.prog 20 #[.slice a n c, .int .i64 (k0 : Int)] w fun e w' => e = .returned (.int .i64 ((k0 + n : Nat) : Int)) ∧ Blk w' a b n (seqL k0 n) ∧ Only b w w' := by
  have HB := hide h
  clear h
  go_enter Try.func20, Try.ntmps20
  go_wp2
  go_loopw [1, 5] (fun t i wr => ∃ k : Nat, k ≤ n ∧ i = .int .i64 k ∧ t = .int .i64 ((k0 + k : Nat) : Int) ∧ Only b w wr ∧ (n = 0 ∨ (a = some ⟨b, 0, none⟩ ∧ ∃ cs, Fill (seqL k0 n) n k cs ∧ wr.heap[b]? = some (.cells cs 3 (0, 0))))) (fun _ i _ => n - (intOf i).toNat)
  case atStart =>
    refine ⟨0, Nat.zero_le _, rfl, rfl, Only.refl _ _, ?_⟩
    rcases HB.out.2 with h0 | ⟨e, hh⟩
    · exact .inl h0
    · exact .inr ⟨e, _, ⟨by have := HB.out.1; simp [cellsOf]; omega, fun i hi => absurd hi (by omega)⟩, hh⟩
  case round =>
    obtain ⟨k, hk, rfl, rfl, ho, hd⟩ := hrel
    by_cases hlt : k < n
    · obtain ⟨rfl, cs, hf, hh⟩ : a = some ⟨b, 0, none⟩ ∧ ∃ cs, Fill (seqL k0 n) n k cs ∧ wr.heap[b]? = some (.cells cs 3 (0, 0)) := by
        rcases hd with h0 | h
        · omega
        · exact h
      have HF := hide (set_fill hf hlt (seqL_at k0 n k hlt))
      have hsz := hf.1
      obtain ⟨v0, hv0⟩ : ∃ v0, wr.cell? ⟨b, k, none⟩ = some v0 := ⟨_, by rw [cell_of_row wr b k cs _ _ hh]; exact Array.getElem?_eq_getElem (by omega)⟩
      have hfr := frozen_of_row wr b k cs _ hh
      have HH := hide (heap_setCell_same wr b k cs _ (.int .i64 ((k0 + k : Nat) : Int)) hh)
      have HO := hide (ho.setCell k (.int .i64 ((k0 + k : Nat) : Int)))
      have hb1 : ((k0 + k : Nat) : Int) ≤ 5242880 := by omega
      have hb0 : (0 : Int) ≤ ((k0 + k : Nat) : Int) := by omega
      obtain ⟨t, ht⟩ : ∃ t : Nat, Hid (k0 + k = t) := ⟨_, rfl⟩
      rw [ht.out] at hb1 hb0 HF HH HO ⊢
      clear hd ho hf hh HB
      go_wp2
      go_roundw
      case rel => exact ⟨k + 1, by omega, by go_num, by rw [show k0 + (k + 1) = t + 1 by have := ht.out; omega]; go_num, HO.out, by first | exact .inr ⟨rfl, _, HF.out, HH.out⟩ | exact .inr ⟨trivial, _, HF.out, HH.out⟩⟩
      case measure => simp [intOf]; omega
    · have hk' : k = n := by omega
      subst hk'
      have HD := hide hd
      have HO := hide ho
      clear hd ho
      go_wp2
      go_ret
      refine ⟨rfl, ⟨seqL_len _ _, ?_⟩, HO.out⟩
      rcases HD.out with h0 | ⟨e, cs, hf, hh⟩
      · exact .inl h0
      · exact .inr ⟨e, by rw [hh, hf.done (seqL_len _ _)]⟩

set_option maxHeartbeats 400000 in
theorem held_any (a : Option Addr) (n c k0 : Nat) (w : World) (h : Row w a n (seqL k0 n)) (hn : n ≤ 1048576) (hk0 : k0 ≤ 4194304) :
    Calls Try.prog 21 #[.slice a n c, .int .i64 (k0 : Int)] w fun e w' => e = .returned (.int .i64 ((k0 + n : Nat) : Int)) ∧ w' = w := by
  go_enter Try.func21, Try.ntmps21
  go_wp2
  go_loop [1, 5] (fun t i => ∃ k : Nat, k ≤ n ∧ i = .int .i64 k ∧ t = .int .i64 ((k0 + k : Nat) : Int)) (fun _ i => n - (intOf i).toNat)
  case atStart => exact ⟨0, Nat.zero_le _, rfl, rfl⟩
  case round =>
    obtain ⟨k, hk, rfl, rfl⟩ := hrel
    by_cases hlt : k < n
    · obtain ⟨b1, o1, x, rfl, hl1, hc1, H1⟩ := h.at hlt
      have hx : x = ((k0 + k : Nat) : Int) := by
        have := seqL_at k0 n k hlt
        rw [List.getD_eq_getElem?_getD, H1.out] at this
        simpa using this
      subst hx
      clear h H1
      have hb1 : ((k0 + k : Nat) : Int) ≤ 5242880 := by omega
      have hb0 : (0 : Int) ≤ ((k0 + k : Nat) : Int) := by omega
      obtain ⟨t, ht⟩ : ∃ t : Nat, Hid (k0 + k = t) := ⟨_, rfl⟩
      rw [ht.out] at hb1 hb0 hc1 ⊢
      have hne : ((t : Int) != (t : Int)) = false := by simp
      go_wp2
      go_round
      case rel => exact ⟨k + 1, by omega, by go_num, by rw [show k0 + (k + 1) = t + 1 by have := ht.out; omega]; go_num⟩
      case measure => simp [intOf]; omega
    · have hk' : k = n := by omega
      subst hk'
      go_wp2
      go_ret
      exact ⟨rfl, rfl⟩

/-- The first n numbers of an array. -/
def listF (f : Nat → Int) (n : Nat) : List Int := (List.range n).map f

theorem listF_len (f : Nat → Int) (n : Nat) : (listF f n).length = n := by simp [listF]
theorem listF_at (f : Nat → Int) (n i : Nat) (h : i < n) : (listF f n).getD i 0 = f i := by simp [listF, h]
end Go.Proofs.Ytakenobplljkbaa


/- What markTransS and markNet write: the lists of a net that lies in blocks of its own, one behind the other; nothing else. -/
namespace Go.Proofs.Ytakenobplljkbaa
open Go.RowKit

/-- Lists by their number, each in a block of its own between B and hi. -/
def PartF (w : World) (B hi n : Nat) (T : TypeId) (M : Nat → List Int) : Prop :=
  ∃ (C : Array Value) (f : Nat → Nat), w.heap[B]? = some (.cells C T (0, 0)) ∧ C.size = n ∧
    (∀ j, j < n → C[j]? = some (.slice (some ⟨f j, 0, none⟩) (M j).length (M j).length) ∧ B < f j ∧ f j < hi ∧ Blk w (some ⟨f j, 0, none⟩) (f j) (M j).length (M j)) ∧
    (∀ i j, i < j → j < n → f i < f j)

theorem PartL.bound {w : World} {B n : Nat} {T : TypeId} {L : List (List Int)} (h : PartL w B n n T L) : PartF w B w.heap.size n T (fun j => L.getD j []) := by
  obtain ⟨C, f, h1, h2, h3, h4⟩ := h
  refine ⟨C, f, h1, h2, fun j hj => ?_, h4⟩
  obtain ⟨e1, e2, e3⟩ := h3 j hj
  exact ⟨e1, e2, (Array.getElem?_eq_some_iff.mp e3).1, rfl, .inr ⟨rfl, e3⟩⟩

/-- Below lo all stands, and from hi on what was there. -/
structure Keeps (lo hi : Nat) (w w' : World) : Prop where
  bel : Below lo w w'
  top : ∀ k, hi ≤ k → k < w.heap.size → w'.heap[k]? = w.heap[k]?

theorem Keeps.refl (lo hi : Nat) (w : World) : Keeps lo hi w w := ⟨Below.refl _ _, fun _ _ _ => rfl⟩
theorem Keeps.trans {lo hi : Nat} {u v w : World} (h : Keeps lo hi u v) (g : Keeps lo hi v w) : Keeps lo hi u w :=
  ⟨h.bel.trans g.bel, fun k h1 h2 => (g.top k h1 (Nat.lt_of_lt_of_le h2 h.bel.size)).trans (h.top k h1 h2)⟩
theorem Keeps.of_only {lo hi b : Nat} {w w' : World} (h : Only b w w') (h1 : lo ≤ b) (h2 : b < hi) : Keeps lo hi w w' :=
  ⟨h.below h1, fun k hk _ => h.block k (by omega)⟩
theorem Keeps.of_below {lo hi : Nat} {w w' : World} (h : Below w.heap.size w w') (hl : lo ≤ w.heap.size) : Keeps lo hi w w' :=
  ⟨h.mono hl, fun k _ hk => h.block k hk⟩

theorem Blk.keeps {w w' : World} {a : Option Addr} {b n lo hi : Nat} {xs : List Int} (h : Blk w a b n xs) (hk : Keeps lo hi w w') (hb : hi ≤ b) : Blk w' a b n xs := by
  refine ⟨h.1, ?_⟩
  rcases h.2 with h0 | ⟨e, hh⟩
  · exact .inl h0
  · exact .inr ⟨e, (hk.top b hb (Array.getElem?_eq_some_iff.mp hh).1).trans hh⟩

theorem Blk.grow' {w w' : World} {a : Option Addr} {b n : Nat} {xs : List Int} (h : Blk w a b n xs) (hb : Below w.heap.size w w') : Blk w' a b n xs := by
  refine ⟨h.1, ?_⟩
  rcases h.2 with h0 | ⟨e, hh⟩
  · exact .inl h0
  · exact .inr ⟨e, (hb.block b (Array.getElem?_eq_some_iff.mp hh).1).trans hh⟩

theorem PartF.grow {w w' : World} {B hi n : Nat} {T : TypeId} {M : Nat → List Int} (h : PartF w B hi n T M) (hb : Below w.heap.size w w') : PartF w' B hi n T M := by
  obtain ⟨C, f, h1, h2, h3, h4⟩ := h
  refine ⟨C, f, (hb.block B (Array.getElem?_eq_some_iff.mp h1).1).trans h1, h2, fun j hj => ?_, h4⟩
  obtain ⟨e1, e2, e3, e4⟩ := h3 j hj
  exact ⟨e1, e2, e3, e4.grow' hb⟩

def updF (M : Nat → List Int) (j : Nat) (l : List Int) : Nat → List Int := fun i => if i = j then l else M i

theorem PartF.one {w : World} {B hi n : Nat} {T : TypeId} {M : Nat → List Int} (h : PartF w B hi n T M) {j : Nat} (hj : j < n) :
    ∃ b, w.cell? ⟨B, j, none⟩ = some (.slice (some ⟨b, 0, none⟩) (M j).length (M j).length) ∧ B < b ∧ b < hi ∧ Blk w (some ⟨b, 0, none⟩) b (M j).length (M j) ∧
      ∀ w' l, Blk w' (some ⟨b, 0, none⟩) b (M j).length l → Only b w w' → PartF w' B hi n T (updF M j l) := by
  obtain ⟨C, f, h1, h2, h3, h4⟩ := h
  obtain ⟨e1, e2, e3, e4⟩ := h3 j hj
  refine ⟨f j, by rw [cell_of_row w B j C T _ h1]; exact e1, e2, e3, e4, fun w' l hb ho => ?_⟩
  refine ⟨C, f, (ho.block B (by omega)).trans h1, h2, fun i hi' => ?_, h4⟩
  unfold updF
  by_cases hij : i = j
  · subst hij
    rw [if_pos rfl, hb.1]
    exact ⟨e1, e2, e3, hb⟩
  · rw [if_neg hij]
    obtain ⟨q1, q2, q3, q4⟩ := h3 i hi'
    have hne : f i ≠ f j := by
      rcases Nat.lt_or_gt_of_ne hij with h | h
      · have := h4 i j h hj; omega
      · have := h4 j i h hi'; omega
    exact ⟨q1, q2, q3, q4.only ho hne⟩

/-- How much the first k lists hold. -/
def cntF (M : Nat → List Int) : Nat → Nat
  | 0 => 0
  | k + 1 => cntF M k + (M k).length

theorem cntF_congr {M N : Nat → List Int} {k : Nat} (h : ∀ j, j < k → (M j).length = (N j).length) : cntF M k = cntF N k := by
  induction k with
  | zero => rfl
  | succ k ih => simp only [cntF]; rw [ih fun j hj => h j (by omega), h k (by omega)]

theorem cntF_mono {M : Nat → List Int} {j k : Nat} (h : j ≤ k) : cntF M j ≤ cntF M k := by
  induction k with
  | zero => have : j = 0 := by omega
            subst this; exact Nat.le_refl _
  | succ k ih =>
    by_cases e : j = k + 1
    · subst e; exact Nat.le_refl _
    · have := ih (by omega); simp only [cntF]; omega

/-- The first q lists are marked, from k0 on. -/
def markedF (k0 : Nat) (M : Nat → List Int) (q : Nat) : Nat → List Int := fun j => if j < q then seqL (k0 + cntF M j) (M j).length else M j

theorem markedF_len (k0 : Nat) (M : Nat → List Int) (q j : Nat) : (markedF k0 M q j).length = (M j).length := by
  unfold markedF; split
  · exact seqL_len _ _
  · rfl

theorem markedF_step (k0 : Nat) (M : Nat → List Int) (q : Nat) : updF (markedF k0 M q) q (seqL (k0 + cntF M q) (M q).length) = markedF k0 M (q + 1) := by
  funext j
  unfold updF markedF
  by_cases e : j = q
  · subst e; rw [if_pos rfl, if_pos (by omega)]
  · rw [if_neg e]
    by_cases h : j < q
    · rw [if_pos h, if_pos (by omega)]
    · rw [if_neg h, if_neg (by omega)]

theorem mark_step {w : World} {B hi n k0 q : Nat} {T : TypeId} {M : Nat → List Int} (h : PartF w B hi n T (markedF k0 M q)) (hq : q < n) (o : Nat) (ho : o = q) :
    ∃ b ln, Hid ((M q).length = ln) ∧ w.cell? ⟨B, o, none⟩ = some (.slice (some ⟨b, 0, none⟩) ln ln) ∧ Hid (Blk w (some ⟨b, 0, none⟩) b ln (M q)) ∧
      Hid (∀ w', Blk w' (some ⟨b, 0, none⟩) b ln (seqL (k0 + cntF M q) ln) → Only b w w' → PartF w' B hi n T (markedF k0 M (q + 1)) ∧ Keeps (B + 1) hi w w') := by
  obtain ⟨b, h1, h2, h3, h4, h5⟩ := h.one hq
  have e : markedF k0 M q q = M q := by unfold markedF; rw [if_neg (by omega)]
  rw [e] at h1 h4 h5
  subst ho
  refine ⟨b, _, rfl, h1, h4, fun w' hb ho => ⟨?_, Keeps.of_only ho (by omega) h3⟩⟩
  have := h5 w' _ hb ho
  rwa [markedF_step] at this

set_option maxHeartbeats 1000000 in
theorem markTris_any (B hi n c k0 : Nat) (T : TypeId) (M : Nat → List Int) (w : World) (h : PartF w B hi (3 * n) T M) (hs : cntF M (3 * n) ≤ 1048576) (hn : n ≤ 1048576) (hk0 : k0 ≤ 2097152) :
    Calls Try.prog 39 #[.slice (some ⟨B, 0, none⟩) n c, .int .i64 (k0 : Int)] w fun e w' => e = .returned (.int .i64 ((k0 + cntF M (3 * n) : Nat) : Int)) ∧ PartF w' B hi (3 * n) T (markedF k0 M (3 * n)) ∧ Keeps (B + 1) hi w w' := by
  have HP := hide h
  clear h
  go_enter Try.func39, Try.ntmps39
  go_wp2_with fail
  go_loopw [1, 5] (fun t i wr => ∃ k t' : Nat, k ≤ n ∧ i = .int .i64 k ∧ t = .int .i64 (t' : Int) ∧ Hid (t' = k0 + cntF M (3 * k)) ∧ Hid (PartF wr B hi (3 * n) T (markedF k0 M (3 * k))) ∧ Hid (Keeps (B + 1) hi w wr)) (fun _ i _ => n - (intOf i).toNat)
  case atStart => exact ⟨0, k0, Nat.zero_le _, rfl, rfl, rfl, by have := HP.out; exact (show markedF k0 M (3 * 0) = M from by funext j; unfold markedF; rw [if_neg (by omega)]) ▸ this, Keeps.refl _ _ _⟩
  case round =>
    obtain ⟨k, t0, hk, rfl, rfl, ht0, hp, hkp⟩ := hrel
    clear HP
    by_cases hlt : k < n
    rotate_left
    · have hk' : k = n := by omega
      subst hk'
      have HT := hide ht0.out.symm
      go_wp2_with fail
      go_ret
      exact ⟨by rw [HT.out]; rfl, hp.out, hkp.out⟩
    have HQ := hide (And.intro (cntF_mono (M := M) (show 3 * k + 1 + 1 + 1 ≤ 3 * n by omega)) (And.intro (show cntF M (3 * k + 1) = cntF M (3 * k) + (M (3 * k)).length from rfl) (And.intro (show cntF M (3 * k + 1 + 1) = cntF M (3 * k + 1) + (M (3 * k + 1)).length from rfl) (show cntF M (3 * k + 1 + 1 + 1) = cntF M (3 * k + 1 + 1) + (M (3 * k + 1 + 1)).length from rfl))))
    obtain ⟨b0, l0, hl0, hc0, hb0, st0⟩ := mark_step hp.out (show 3 * k < 3 * n by omega) (k * 3) (by omega)
    have HM0 := hide (mark_any _ b0 _ l0 t0 _ wr hb0.out (by have := HQ.out; have := hl0.out; omega) (by have := HQ.out; have := ht0.out; omega))
    go_wp2_with fail
    refine HM0.out.mono ?_
    rintro e w1 ⟨rfl, hbk, ho⟩
    rw [ht0.out] at hbk
    obtain ⟨p1, kp1⟩ := st0.out w1 hbk ho
    have HK1 := hide (hkp.out.trans kp1)
    obtain ⟨t1, ht1⟩ : ∃ t, Hid (t0 + l0 = t) := ⟨_, rfl⟩
    rw [ht1.out]
    have HT1 : Hid (t1 = k0 + cntF M (3 * k + 1)) := by show _ = _; have := HQ.out; have := hl0.out; have := ht0.out; have := ht1.out; omega
    obtain ⟨b1, l1, hl1, hc1, hb1, st1⟩ := mark_step p1 (show 3 * k + 1 < 3 * n by omega) (k * 3 + 1) (by omega)
    have HM1 := hide (mark_any _ b1 _ l1 t1 _ w1 hb1.out (by have := HQ.out; have := hl1.out; omega) (by have := HQ.out; have := HT1.out; omega))
    clear st0 HM0 hc0 hbk ho p1 kp1 hp hkp hb0
    go_wp2_with fail
    refine HM1.out.mono ?_
    rintro e w2 ⟨rfl, hbk, ho⟩
    rw [HT1.out] at hbk
    obtain ⟨p2, kp2⟩ := st1.out w2 hbk ho
    have HK2 := hide (HK1.out.trans kp2)
    obtain ⟨t2, ht2⟩ : ∃ t, Hid (t1 + l1 = t) := ⟨_, rfl⟩
    rw [ht2.out]
    have HT2 : Hid (t2 = k0 + cntF M (3 * k + 1 + 1)) := by show _ = _; have := HQ.out; have := hl1.out; have := HT1.out; have := ht2.out; omega
    obtain ⟨b2, l2, hl2, hc2, hb2, st2⟩ := mark_step p2 (show 3 * k + 1 + 1 < 3 * n by omega) (k * 3 + 2) (by omega)
    have HM2 := hide (mark_any _ b2 _ l2 t2 _ w2 hb2.out (by have := HQ.out; have := hl2.out; omega) (by have := HQ.out; have := HT2.out; omega))
    clear st1 HM1 hc1 hbk ho p2 kp2 HK1 hb1
    go_wp2_with fail
    refine HM2.out.mono ?_
    rintro e w3 ⟨rfl, hbk, ho⟩
    rw [HT2.out] at hbk
    obtain ⟨p3, kp3⟩ := st2.out w3 hbk ho
    have HK3 := hide (HK2.out.trans kp3)
    have e3 : 3 * (k + 1) = 3 * k + 1 + 1 + 1 := by omega
    have HP3 : Hid (PartF w3 B hi (3 * n) T (markedF k0 M (3 * (k + 1)))) := by
      show PartF w3 B hi (3 * n) T (markedF k0 M (3 * (k + 1)))
      rw [e3]; exact p3
    obtain ⟨t3, ht3⟩ : ∃ t, Hid (t2 + l2 = t) := ⟨_, rfl⟩
    rw [ht3.out]
    have HT3 : Hid (t3 = k0 + cntF M (3 * (k + 1))) := by
      show _ = _
      rw [e3]
      have := HQ.out; have := hl2.out; have := HT2.out; have := ht3.out; omega
    clear st2 HM2 hc2 hbk ho p3 kp3 HK2 e3 hb2
    go_wp2_with fail
    go_roundw
    case rel => exact ⟨k + 1, t3, by omega, by go_num, rfl, HT3, HP3, HK3⟩
    case measure => simp [intOf]; omega

set_option maxHeartbeats 400000 in
theorem markNet_any (p : Int) (B hi n c k0 : Nat) (T : TypeId) (M : Nat → List Int) (w : World) (h : PartF w B hi (3 * n) T M) (hs : cntF M (3 * n) ≤ 1048576) (hn : n ≤ 1048576) (hk0 : k0 ≤ 2097152) :
    Calls Try.prog 14 #[.agg #[.int .i64 p, .slice (some ⟨B, 0, none⟩) n c], .int .i64 (k0 : Int)] w fun e w' => e = .returned (.int .i64 ((k0 + cntF M (3 * n) : Nat) : Int)) ∧ PartF w' B hi (3 * n) T (markedF k0 M (3 * n)) ∧ Keeps (B + 1) hi w w' := by
  have hA := below_al w (.cells #[.int .i64 p, .slice (some ⟨B, 0, none⟩) n c] 28)
  have hlt : B < w.heap.size := by obtain ⟨C, f, h1, _⟩ := h; exact (Array.getElem?_eq_some_iff.mp h1).1
  have HT := hide (markTris_any B hi n c k0 T M _ (h.grow hA) hs hn hk0)
  have HK := hide (Keeps.of_below (lo := B + 1) (hi := hi) hA (by omega))
  obtain ⟨t0, ht0⟩ : ∃ t, Hid (k0 + cntF M (3 * n) = t) := ⟨_, rfl⟩
  rw [ht0.out] at HT ⊢
  clear h hA
  go_enter Try.func14, Try.ntmps14
  go_wp2_with fail
  refine HT.out.mono ?_
  rintro e w3 ⟨rfl, p3, kp3⟩
  have HP3 := hide p3
  have HK3 := hide (HK.out.trans kp3)
  clear p3 kp3 HT HK
  go_wp2_with fail
  go_ret
  exact ⟨rfl, HP3.out, HK3.out⟩
end Go.Proofs.Ytakenobplljkbaa


/- l1Own: a list's own copy; l2Can, l2Fire and the specification's Fire, for every net and mark in memory. -/
namespace Go.Proofs.Ytakenobplljkbaa
open Go.RowKit

/-- A slice of n numbers from the head of the block g, in which there may be more room. -/
def OutR (w : World) (g n : Nat) (ys : List Int) : Prop :=
  ys.length = n ∧ ∃ cur, w.heap[g]? = some (.cells cur 3 (0, 0)) ∧ n ≤ cur.size ∧ ∀ i, i < n → cur[i]? = some (.int .i64 (ys.getD i 0))

theorem OutR.row {w : World} {g n : Nat} {ys : List Int} (h : OutR w g n ys) : Row w (some ⟨g, 0, none⟩) n ys := by
  obtain ⟨hl, cur, h1, h2, h3⟩ := h
  refine ⟨hl, .inr ⟨g, 0, rfl, (Array.getElem?_eq_some_iff.mp h1).1, fun i hi => ?_⟩⟩
  rw [cell_of_row w g (0 + i) _ _ _ h1, Nat.zero_add]
  exact h3 i hi

theorem OutR.grow {w w' : World} {g n : Nat} {ys : List Int} (h : OutR w g n ys) (hb : Below w.heap.size w w') : OutR w' g n ys := by
  obtain ⟨hl, cur, h1, h2, h3⟩ := h
  exact ⟨hl, cur, (hb.block g (Array.getElem?_eq_some_iff.mp h1).1).trans h1, h2, h3⟩

theorem OutR.set {w : World} {g n : Nat} {ys : List Int} (h : OutR w g n ys) (k : Nat) (hk : k < n) (x : Int) : OutR (w.setCell ⟨g, k, none⟩ (.int .i64 x)) g n (ys.set k x) := by
  obtain ⟨hl, cur, h1, h2, h3⟩ := h
  refine ⟨by simpa using hl, _, heap_setCell_same w g k cur _ _ h1, by simpa using h2, fun i hi => ?_⟩
  rw [Array.getElem?_setIfInBounds]
  by_cases e : k = i
  · subst e
    rw [if_pos rfl, if_pos (by omega)]
    simp [List.getD_eq_getElem?_getD, show k < ys.length by omega]
  · rw [if_neg e, h3 i hi]
    simp [List.getD_eq_getElem?_getD, e]

theorem outR_of_own {B : Nat} {w : World} {v : Value} {n : Nat} {l : List Int} (hown : w.ownsRow B 3 1 v n (l.map (Value.int .i64))) (hv : v ≠ .slice none 0 0) : ∃ g c, v = .slice (some ⟨g, 0, none⟩) n c ∧ B ≤ g ∧ n ≤ c ∧ OutR w g n l := by
  have hl : l.length = n := by have := hown.1; simpa using this
  rcases hown.2 with ⟨rfl, rfl⟩ | ⟨g, cap, cur, rfl, hb, hh, hnc, _, hsz, ht⟩
  · exact absurd rfl hv
  · refine ⟨g, cap, rfl, hb, hnc, hl, cur, hh, by omega, fun i hi => ?_⟩
    have e : (cur.toList.take (n * 1))[i]? = (l.map (Value.int .i64))[i]? := by rw [ht]
    rw [List.getElem?_take_of_lt (by omega), Array.getElem?_toList] at e
    rw [e]
    simp [List.getElem?_eq_getElem (show i < l.length by omega)]

theorem info_split {P : Program} {e : TypeId} {z : Value} {size bytes : Nat} (h : (P.info? e).map (fun i => (i.zero, i.size, i.bytes)) = some (some z, size, bytes)) : ∃ i, P.info? e = some i ∧ i.zero = some z ∧ i.size = size ∧ i.bytes = bytes := by
  obtain ⟨i, hi, hzz⟩ := Option.map_eq_some_iff.1 h
  simp only [Prod.mk.injEq] at hzz
  exact ⟨i, hi, hzz.1, hzz.2.1, hzz.2.2⟩

theorem Row.cells {w : World} {b off n : Nat} {xs : List Int} (h : Row w (some ⟨b, off, none⟩) n xs) : ∀ j u, (xs.map (Value.int .i64))[j]? = some u → w.cell? ((⟨b, off, none⟩ : Addr).add j) = some u := by
  intro j u hu
  rw [Addr.add_mid]
  simp only [List.getElem?_map, Option.map_eq_some_iff] at hu
  obtain ⟨x, hx, rfl⟩ := hu
  have hj := (List.getElem?_eq_some_iff.mp hx).1
  have hl := h.1
  obtain ⟨b1, o1, y, he, _, hc, H⟩ := h.at (show j < n by omega)
  simp only [Option.some.injEq, Addr.mk.injEq] at he
  obtain ⟨rfl, rfl, _⟩ := he
  rw [hc]
  have := H.out
  rw [hx] at this
  simp at this
  rw [this]

set_option maxHeartbeats 400000 in
theorem own_any (b off n ca : Nat) (xs : List Int) (w : World) (ha : Row w (some ⟨b, off, none⟩) n xs) (hn : n ≤ 1048576) :
    Calls Try.prog 33 #[.slice (some ⟨b, off, none⟩) n ca] w fun e w' => ∃ g c, e = .returned (.slice (some ⟨g, 0, none⟩) n c) ∧ w.heap.size ≤ g ∧ n ≤ c ∧ OutR w' g n xs ∧ Below w.heap.size w w' := by
  obtain ⟨i0, hi, hz0, hz1, hz2⟩ := info_split Try.info3
  have HA := hide ha
  have HL := hide ha.1
  clear ha
  have HW := hide (HA.out.alloc (.cells #[] 3))
  have HO : Hid ((w.alloc (.cells #[] 3)).ownsRow w.heap.size 3 1 (.slice (some ⟨w.heap.size, 0, none⟩) 0 0) 0 []) :=
    ⟨rfl, .inr ⟨w.heap.size, 0, #[], rfl, Nat.le_refl _, heap_alloc_new _ _, Nat.le_refl _, Nat.zero_le _, rfl, rfl⟩⟩
  have HN := hide (show (xs.map (Value.int .i64)).length = n * 1 by rw [List.length_map, Nat.mul_one]; exact HL.out)
  have H1 := hide (show ∀ u ∈ xs.map (Value.int .i64), u.oneCell' = true by intro u hu; simp at hu; obtain ⟨x, _, rfl⟩ := hu; rfl)
  have HX := hide (show 0 + n ≤ maxLen by unfold maxLen; omega)
  have HY := hide (show (0 + n) * 8 ≤ 140737488355328 by omega)
  have HZ := hide (show w.heap.size ≤ (w.alloc (.cells #[] 3)).heap.size by simp)
  go_enter Try.func33, Try.ntmps33
  go_wp2_with (refine wpList_append_own _ rfl (.tmp 3) (.tmp 4) 35 rfl w.heap.size 3 i0 (.int .i64 0) 1 8 Try.underlying35 hi hz0 hz1 hz2 rfl (by decide) (.slice (some ⟨w.heap.size, 0, none⟩) 0 0) 0 [] rfl HO.out ⟨b, off, none⟩ n ca (xs.map (Value.int .i64)) rfl HN.out HW.out.cells H1.out HX.out HY.out HZ.out ?_; intro v' W' r1 r2 r3)
  go_ret
  rw [Nat.zero_add, List.nil_append] at r1
  obtain ⟨g, c, rfl, hg, hc, hout⟩ := outR_of_own r1 (fun e => by have := (r3.mp e).1; simp at this)
  exact ⟨g, c, rfl, hg, hc, hout, (below_al w _).grown r2 (by simp) (fun k hk => by simp [Value.ownBlock] at hk; omega)⟩

def canB (x0 ys : List Int) : Bool := x0.all fun p => !decide (ys.getD p.toNat 0 = 0)

theorem canB_take {xs ys : List Int} {k : Nat} {x : Int} (h : canB (xs.take k) ys = true) (hx : xs[k]? = some x) (hne : ¬ ys.getD x.toNat 0 = 0) : canB (xs.take (k + 1)) ys = true := by
  unfold canB at *
  rw [List.take_add_one, hx, List.all_append, h]
  simpa [List.getD_eq_getElem?_getD] using hne

theorem canB_no {xs ys : List Int} {k : Nat} {x : Int} (hx : xs[k]? = some x) (he : ys.getD x.toNat 0 = 0) : canB xs ys = false := by
  unfold canB
  rw [List.all_eq_false]
  exact ⟨x, List.mem_of_getElem? hx, by simpa [List.getD_eq_getElem?_getD] using he⟩

end Go.Proofs.Ytakenobplljkbaa
