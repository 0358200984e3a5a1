/- Contracts that the proof stands on, one behind the other. -/
import Derived.Test.YtdhnhpjcoeglmaaP4
import Derived.Deep.RegionHeld3
import Derived.Deep.MidRow
import Derived.Deep.RegionLaw
/- TurnNet of the program: the walk. -/
namespace Go.Proofs.Ytdhnhpjcoeglmaa
open Go.RowKit

set_option maxHeartbeats 4000000 in
theorem turnI_any (p : Int) (a : Option Addr) (n c : Nat) (L : List (List Int)) (w : World) (h : Lists w a (3 * n) L) (hs : sizeN n L ≤ 1048576) :
    Calls Try.prog 10 #[.agg #[.int .i64 p, .slice a n c]] w fun e w' => TuEnd (turnOk p n L) p n L w e w' := by
  have HT := hide (stepsNR_any p a n c L ((w.alloc (.cells #[.int .i64 p, .slice a n c] 26)).alloc (.cells #[.int .i64 0, .slice none 0 0] 26)) (h.below (below_two _ _ _)) hs)
  have HA := hide (below_two w (.cells #[.int .i64 p, .slice a n c] 26) (.cells #[.int .i64 0, .slice none 0 0] 26))
  have HR0 : Hid (((w.alloc (.cells #[.int .i64 p, .slice a n c] 26)).alloc (.cells #[.int .i64 0, .slice none 0 0] 26)).heap[w.heap.size + 1]? = some (.cells #[.int .i64 0, .slice none 0 0] 26 (0, 0))) := by
    have := heap_alloc_new (w.alloc (.cells #[.int .i64 p, .slice a n c] 26)) (.cells #[.int .i64 0, .slice none 0 0] 26)
    rw [show (w.alloc (.cells #[.int .i64 p, .slice a n c] 26)).heap.size = w.heap.size + 1 by simp] at this
    exact this
  clear h
  by_cases hg : (netOk p n L && !resB n L) = true
  rotate_left
  · have hg' : (netOk p n L && !resB n L) = false := by simpa using hg
    rw [show turnOk p n L = false by
      cases h1 : netOk p n L
      · exact turnOk_net h1
      · rw [h1] at hg'; exact turnOk_res (by simpa using hg')]
    rw [hg'] at HT
    clear hg hg'
    go_enter Try.func10, Try.ntmps10
    go_wp2_with fail
    refine HT.out.mono ?_
    rintro e w2 ⟨p', a', m, c', rfl, hx, hb⟩
    have HB2 := hide (HA.out.trans (hb.mono HA.out.size))
    have hR := (hb.block (w.heap.size + 1) (by simp)).trans HR0.out
    have hr0 : w2.cell? ⟨w.heap.size + 1, 0, none⟩ = some (.int .i64 0) := cell_of_row w2 _ 0 _ _ _ hR
    have hr1 : w2.cell? ⟨w.heap.size + 1, 1, none⟩ = some (.slice none 0 0) := cell_of_row w2 _ 1 _ _ _ hR
    have hf0 : w2.frozen? ⟨w.heap.size + 1, 0, none⟩ = false := frozen_of_row w2 _ 0 _ _ hR
    have hf1 : w2.frozen? ⟨w.heap.size + 1, 1, none⟩ = false := frozen_of_row w2 _ 1 _ _ hR
    have hlr : w.heap.size + 1 < w2.heap.size := (Array.getElem?_eq_some_iff.mp hR).1
    clear hb HT hx HA HR0 hR
    go_wp2_with fail
    refine bodyPost_ret (v := .tuple #[.agg #[.int .i64 0, .slice none 0 0], .bool false]) (by simp [results, Try.results10, go_sem, hr0, hr1, hlr]) rfl ?_
    exact tuEnd_no (((HB2.out.setCell (by simp) _).setCell (by simp) _).alloc (by have := HB2.out.size; simp [World.setCell]; omega) _)
  have hgn : netOk p n L = true := by simp only [Bool.and_eq_true] at hg; exact hg.1
  have hgr : resB n L = false := by simp only [Bool.and_eq_true] at hg; simpa using hg.2
  have HG := hide hgn
  have hn24 := netN hgn
  have HSZ := hide (turnL_size hgn)
  rw [hg] at HT
  clear hg
  have hmk := run_make_many (P := Try.prog) 24 78 _ 3 72 Try.underlying24 Try.info78 .i64 .i64 n (by omega) (by omega)
  simp only [Value.cells] at hmk
  go_enter Try.func10, Try.ntmps10
  go_wp2_with fail
  refine HT.out.mono ?_
  rintro e w2 ⟨p', a', m, c', rfl, hx, hb⟩
  obtain ⟨e1, e2, e3, B, rfl, hBs, hps⟩ := hx.out rfl
  subst e1 e2 e3
  have HRB := hide hgr
  have hA := below_al w2 (.cells #[.int .i64 p', .slice (some ⟨B, 0, none⟩) c' c'] 82)
  have HB2 := hide (HA.out.trans (hb.mono HA.out.size))
  have HR2 := hide ((hb.block (w.heap.size + 1) (by simp)).trans HR0.out)
  have HB3 := hide (HB2.out.trans (hA.mono HB2.out.size))
  have HPS := hide (hps.grow hA)
  have hvl : w2.heap.size < (w2.alloc (.cells #[.int .i64 p', .slice (some ⟨B, 0, none⟩) c' c'] 82)).heap.size := by simp
  have hv0 : (w2.alloc (.cells #[.int .i64 p', .slice (some ⟨B, 0, none⟩) c' c'] 82)).cell? ⟨w2.heap.size, 0, none⟩ = some (.int .i64 p') := by simp
  have hv1 : (w2.alloc (.cells #[.int .i64 p', .slice (some ⟨B, 0, none⟩) c' c'] 82)).cell? ⟨w2.heap.size, 1, none⟩ = some (.slice (some ⟨B, 0, none⟩) c' c') := by simp
  have HRW := hide ((hA.block (w.heap.size + 1) (Array.getElem?_eq_some_iff.mp HR2.out).1).trans HR2.out)
  have HRS := hide ((Array.getElem?_eq_some_iff.mp HRW.out).1)
  clear HT hb hx hps hBs HR0 HR2 HA HB2 hgn hgr hA
  go_wp2_with fail
  generalize w2.alloc (.cells #[.int .i64 p', .slice (some ⟨B, 0, none⟩) c' c'] 82) = w3 at *
  generalize w2.heap.size = z2 at *
  clear w2
  go_region
  all_goals go_wp2_with fail
  · have HI := hide (TuInv.first1 w3 p' c' L)
    generalize ((w3.alloc (.cells (madeCells #[.slice none 0 0, .slice none 0 0, .slice none 0 0] (c' * 3)) 78)).alloc (.cells #[.int .i64 p', .slice (some ⟨w3.heap.size, 0, none⟩) c' c'] 26)).drew = W at HI ⊢
    generalize w3.heap.size + 1 = V at HI ⊢
    generalize w3.heap.size = M at HI ⊢
    clear hv0 hv1 hmk hvl
    go_loopw [27] (fun i wr => ∃ k : Nat, k ≤ c' ∧ i = .int .i64 k ∧ Hid (TuInv w3 wr V M p' c' k L)) (fun i _ => c' - (intOf i).toNat)
    case atStart => exact ⟨0, Nat.zero_le _, rfl, HI⟩
    case round =>
      obtain ⟨k, hk, rfl, hin⟩ := hrel
      clear HI
      by_cases hlt : k < c'
      rotate_left
      · have hk' : k = c' := by omega
        subst hk'
        have hVr := hin.out.var
        have hV0 : wr.cell? ⟨V, 0, none⟩ = some (.int .i64 p') := cell_of_row wr V 0 _ _ _ hVr
        have hV1 : wr.cell? ⟨V, 1, none⟩ = some (.slice (some ⟨M, 0, none⟩) k k) := cell_of_row wr V 1 _ _ _ hVr
        have HNG := hide (show NetG wr (some ⟨M, 0, none⟩) M w3.heap.size wr.heap.size k (turnF L k) from .inr ⟨rfl, hin.out.part⟩)
        have HGN := hide (goodNetI_any p' (some ⟨M, 0, none⟩) k k (turnL k L) wr (NetG.lists (B := M) (lo := w3.heap.size) (hi := wr.heap.size) (by rw [turnL_get]; exact HNG.out) (turnL_len k L) HSZ.out) HSZ.out)
        have hlV := (Array.getElem?_eq_some_iff.mp hVr).1
        clear hVr
        go_wp2_with fail
        refine HGN.out.mono ?_
        rintro e w4 ⟨rfl, hb4⟩
        have h40 : w4.cell? ⟨V, 0, none⟩ = some (.int .i64 p') := (hb4.cell hlV).trans hV0
        have h41 : w4.cell? ⟨V, 1, none⟩ = some (.slice (some ⟨M, 0, none⟩) k k) := (hb4.cell hlV).trans hV1
        have HB4 := hide (hin.out.bel.trans (hb4.mono hin.out.bel.size))
        have hR4 := (HB4.out.block (w.heap.size + 1) HRS.out).trans HRW.out
        have hr0 : w4.cell? ⟨w.heap.size + 1, 0, none⟩ = some (.int .i64 0) := cell_of_row w4 _ 0 _ _ _ hR4
        have hr1 : w4.cell? ⟨w.heap.size + 1, 1, none⟩ = some (.slice none 0 0) := cell_of_row w4 _ 1 _ _ _ hR4
        have hf0 : w4.frozen? ⟨w.heap.size + 1, 0, none⟩ = false := frozen_of_row w4 _ 0 _ _ hR4
        have hf1 : w4.frozen? ⟨w.heap.size + 1, 1, none⟩ = false := frozen_of_row w4 _ 1 _ _ hR4
        have HBF := hide (HB3.out.trans (HB4.out.mono HB3.out.size))
        have HTO := hide (turnOk_last HG.out HRB.out)
        have HNG4 := hide (show PartG w4 M w3.heap.size wr.heap.size (3 * k) 78 (turnF L k) from hin.out.part.grow hb4)
        have HMV := hide hin.out.hM
        have H4S := hide hb4.size
        clear hV0 hV1 HGN HNG hR4 hin hb4
        cases hgt : netOk p' k (turnL k L)
        · rw [hgt] at HTO
          go_wp2_with fail
          refine bodyPost_ret (v := .tuple #[.agg #[.int .i64 0, .slice none 0 0], .bool false]) (by simp [results, Try.results10, go_sem, hr0, hr1]) rfl ?_
          rw [HTO.out]
          exact tuEnd_no ((HBF.out.setCell (by simp) _).setCell (by simp) _)
        · rw [hgt] at HTO
          go_wp2_with fail
          refine bodyPost_ret (v := .tuple #[.agg #[.int .i64 p', .slice (some ⟨M, 0, none⟩) k k], .bool true]) (by simp [results, Try.results10, go_sem, hr0, hr1]) rfl ?_
          rw [HTO.out]
          exact tuEnd_yes (B := M) (lo := w3.heap.size) (hi := wr.heap.size) (.inr ⟨rfl, HNG4.out.high (high_set2 w4 w3.heap.size (w.heap.size + 1) 0 1 _ _ HRS.out) HMV.out (Nat.le_refl _)⟩) (Nat.le_trans HB3.out.size HMV.out) HB3.out.size (by have := H4S.out; simpa [World.setCell] using this) ((HBF.out.setCell (by simp) _).setCell (by simp) _)
      obtain ⟨hc0, hc1, hc2⟩ := (HPS.out.grow hin.out.bel).at3 hlt
      obtain ⟨s0, hs0⟩ : ∃ s, Hid (maskL (L.getD (3 * k) []) = s) := ⟨_, rfl⟩
      obtain ⟨s1, hs1⟩ : ∃ s, Hid (maskL (L.getD (3 * k + 1) []) = s) := ⟨_, rfl⟩
      obtain ⟨s2, hs2⟩ : ∃ s, Hid (maskL (L.getD (3 * k + 2) []) = s) := ⟨_, rfl⟩
      rw [hs0.out] at hc0
      rw [hs1.out] at hc1
      rw [hs2.out] at hc2
      have hA1 := below_al wr (.cells #[.int .u16 (s0 : Int), .int .u16 (s1 : Int), .int .u16 (s2 : Int)] 88)
      have HI1 := hide (hin.out.grow hA1)
      have hSM : wr.heap.size ≠ M := by have := hin.out.ltM; omega
      have hVM := hin.out.ne
      have HC := hide (show (wr.alloc (.cells #[.int .u16 (s0 : Int), .int .u16 (s1 : Int), .int .u16 (s2 : Int)] 88)).cell? ⟨wr.heap.size, 0, none⟩ = some (.int .u16 s0) ∧ (wr.alloc (.cells #[.int .u16 (s0 : Int), .int .u16 (s1 : Int), .int .u16 (s2 : Int)] 88)).cell? ⟨wr.heap.size, 1, none⟩ = some (.int .u16 s1) by simp)
      have HSM := hide (turn_sets HG.out hlt hs0.out hs1.out)
      clear hin hA1
      go_wp2_with fail
      clear hc0 hc1 hc2
      generalize wr.alloc (.cells #[.int .u16 (s0 : Int), .int .u16 (s1 : Int), .int .u16 (s2 : Int)] 88) = W0 at HI1 HC ⊢
      generalize wr.heap.size = sB at HC hSM ⊢
      have hVc : W0.cell? ⟨V, 1, none⟩ = some (.slice (some ⟨M, 0, none⟩) c' c') := cell_of_row W0 V 1 _ _ _ HI1.out.var
      obtain ⟨hS0, hS1⟩ := HC.out
      have hk0 : (0 : Int) ≤ (k : Int) := by omega
      have hk1 : (k : Int) < (c' : Int) := by omega
      have HI2 := hide (HI1.out.grow (Below.refl _ W0).drew)
      clear HC HI1
      go_region_held3 (fun W => W.cell? ⟨V, 1, none⟩ = some (.slice (some ⟨M, 0, none⟩) c' c') ∧ W.cell? ⟨sB, 0, none⟩ = some (.int .u16 s0) ∧ W.cell? ⟨sB, 1, none⟩ = some (.int .u16 s1)) (first | (refine ⟨?_, ?_, ?_⟩ <;> simp only [World.cell?_drew] <;> assumption) | (apply keep3_set; assumption; assumption; assumption; assumption) | (apply keep3; assumption; assumption))
        (first
          | (go_at_call_of 63 (Value.int .u16 (s1 : Int)); refine (setList_any s1 _ HSM.out.2.1).mono ?_; rintro e v1 ⟨a1, b1, m1, c1, rfl, hg1, ho1, hbl1⟩)
          | (go_at_call_of 63 (Value.int .u16 (s0 : Int)); refine (setList_any s0 _ HSM.out.1).mono ?_; rintro e v2 ⟨a2, b2, m2, c2, rfl, hg2, ho2, hbl2⟩; obtain ⟨u0, u1, u2, hu0, hu1, hu2, hf0, hf1, hf2⟩ := ((HI2.out.grow hbl1).grow hbl2).there hlt))
      have HI3 := hide (HI2.out.step (c1 := c1) (c2 := c2) hlt hbl1 hg1 ho1 hbl2 hg2 ho2 HSM.out.2.2.2 HSM.out.2.2.1)
      clear hu0 hu1 hu2 hf0 hf1 hf2 hbl1 hg1 ho1 hbl2 hg2 ho2 HSM
      go_wp2_with fail
      go_roundw
      case rel => exact ⟨k + 1, by omega, by go_num, HI3⟩
      case measure => simp [intOf]; omega
  · have HI := hide (TuInv.first2 w3 p' c' L)
    generalize ((w3.alloc (.cells #[.int .i64 p', .slice (some ⟨w3.heap.size + 1, 0, none⟩) c' c'] 26)).alloc (.cells (madeCells #[.slice none 0 0, .slice none 0 0, .slice none 0 0] (c' * 3)) 78)).drew = W at HI ⊢
    generalize w3.heap.size + 1 = M at HI ⊢
    generalize w3.heap.size = V at HI ⊢
    clear hv0 hv1 hmk hvl
    go_loopw [27] (fun i wr => ∃ k : Nat, k ≤ c' ∧ i = .int .i64 k ∧ Hid (TuInv w3 wr V M p' c' k L)) (fun i _ => c' - (intOf i).toNat)
    case atStart => exact ⟨0, Nat.zero_le _, rfl, HI⟩
    case round =>
      obtain ⟨k, hk, rfl, hin⟩ := hrel
      clear HI
      by_cases hlt : k < c'
      rotate_left
      · have hk' : k = c' := by omega
        subst hk'
        have hVr := hin.out.var
        have hV0 : wr.cell? ⟨V, 0, none⟩ = some (.int .i64 p') := cell_of_row wr V 0 _ _ _ hVr
        have hV1 : wr.cell? ⟨V, 1, none⟩ = some (.slice (some ⟨M, 0, none⟩) k k) := cell_of_row wr V 1 _ _ _ hVr
        have HNG := hide (show NetG wr (some ⟨M, 0, none⟩) M w3.heap.size wr.heap.size k (turnF L k) from .inr ⟨rfl, hin.out.part⟩)
        have HGN := hide (goodNetI_any p' (some ⟨M, 0, none⟩) k k (turnL k L) wr (NetG.lists (B := M) (lo := w3.heap.size) (hi := wr.heap.size) (by rw [turnL_get]; exact HNG.out) (turnL_len k L) HSZ.out) HSZ.out)
        have hlV := (Array.getElem?_eq_some_iff.mp hVr).1
        clear hVr
        go_wp2_with fail
        refine HGN.out.mono ?_
        rintro e w4 ⟨rfl, hb4⟩
        have h40 : w4.cell? ⟨V, 0, none⟩ = some (.int .i64 p') := (hb4.cell hlV).trans hV0
        have h41 : w4.cell? ⟨V, 1, none⟩ = some (.slice (some ⟨M, 0, none⟩) k k) := (hb4.cell hlV).trans hV1
        have HB4 := hide (hin.out.bel.trans (hb4.mono hin.out.bel.size))
        have hR4 := (HB4.out.block (w.heap.size + 1) HRS.out).trans HRW.out
        have hr0 : w4.cell? ⟨w.heap.size + 1, 0, none⟩ = some (.int .i64 0) := cell_of_row w4 _ 0 _ _ _ hR4
        have hr1 : w4.cell? ⟨w.heap.size + 1, 1, none⟩ = some (.slice none 0 0) := cell_of_row w4 _ 1 _ _ _ hR4
        have hf0 : w4.frozen? ⟨w.heap.size + 1, 0, none⟩ = false := frozen_of_row w4 _ 0 _ _ hR4
        have hf1 : w4.frozen? ⟨w.heap.size + 1, 1, none⟩ = false := frozen_of_row w4 _ 1 _ _ hR4
        have HBF := hide (HB3.out.trans (HB4.out.mono HB3.out.size))
        have HTO := hide (turnOk_last HG.out HRB.out)
        have HNG4 := hide (show PartG w4 M w3.heap.size wr.heap.size (3 * k) 78 (turnF L k) from hin.out.part.grow hb4)
        have HMV := hide hin.out.hM
        have H4S := hide hb4.size
        clear hV0 hV1 HGN HNG hR4 hin hb4
        cases hgt : netOk p' k (turnL k L)
        · rw [hgt] at HTO
          go_wp2_with fail
          refine bodyPost_ret (v := .tuple #[.agg #[.int .i64 0, .slice none 0 0], .bool false]) (by simp [results, Try.results10, go_sem, hr0, hr1]) rfl ?_
          rw [HTO.out]
          exact tuEnd_no ((HBF.out.setCell (by simp) _).setCell (by simp) _)
        · rw [hgt] at HTO
          go_wp2_with fail
          refine bodyPost_ret (v := .tuple #[.agg #[.int .i64 p', .slice (some ⟨M, 0, none⟩) k k], .bool true]) (by simp [results, Try.results10, go_sem, hr0, hr1]) rfl ?_
          rw [HTO.out]
          exact tuEnd_yes (B := M) (lo := w3.heap.size) (hi := wr.heap.size) (.inr ⟨rfl, HNG4.out.high (high_set2 w4 w3.heap.size (w.heap.size + 1) 0 1 _ _ HRS.out) HMV.out (Nat.le_refl _)⟩) (Nat.le_trans HB3.out.size HMV.out) HB3.out.size (by have := H4S.out; simpa [World.setCell] using this) ((HBF.out.setCell (by simp) _).setCell (by simp) _)
      obtain ⟨hc0, hc1, hc2⟩ := (HPS.out.grow hin.out.bel).at3 hlt
      obtain ⟨s0, hs0⟩ : ∃ s, Hid (maskL (L.getD (3 * k) []) = s) := ⟨_, rfl⟩
      obtain ⟨s1, hs1⟩ : ∃ s, Hid (maskL (L.getD (3 * k + 1) []) = s) := ⟨_, rfl⟩
      obtain ⟨s2, hs2⟩ : ∃ s, Hid (maskL (L.getD (3 * k + 2) []) = s) := ⟨_, rfl⟩
      rw [hs0.out] at hc0
      rw [hs1.out] at hc1
      rw [hs2.out] at hc2
      have hA1 := below_al wr (.cells #[.int .u16 (s0 : Int), .int .u16 (s1 : Int), .int .u16 (s2 : Int)] 88)
      have HI1 := hide (hin.out.grow hA1)
      have hSM : wr.heap.size ≠ M := by have := hin.out.ltM; omega
      have hVM := hin.out.ne
      have HC := hide (show (wr.alloc (.cells #[.int .u16 (s0 : Int), .int .u16 (s1 : Int), .int .u16 (s2 : Int)] 88)).cell? ⟨wr.heap.size, 0, none⟩ = some (.int .u16 s0) ∧ (wr.alloc (.cells #[.int .u16 (s0 : Int), .int .u16 (s1 : Int), .int .u16 (s2 : Int)] 88)).cell? ⟨wr.heap.size, 1, none⟩ = some (.int .u16 s1) by simp)
      have HSM := hide (turn_sets HG.out hlt hs0.out hs1.out)
      clear hin hA1
      go_wp2_with fail
      clear hc0 hc1 hc2
      generalize wr.alloc (.cells #[.int .u16 (s0 : Int), .int .u16 (s1 : Int), .int .u16 (s2 : Int)] 88) = W0 at HI1 HC ⊢
      generalize wr.heap.size = sB at HC hSM ⊢
      have hVc : W0.cell? ⟨V, 1, none⟩ = some (.slice (some ⟨M, 0, none⟩) c' c') := cell_of_row W0 V 1 _ _ _ HI1.out.var
      obtain ⟨hS0, hS1⟩ := HC.out
      have hk0 : (0 : Int) ≤ (k : Int) := by omega
      have hk1 : (k : Int) < (c' : Int) := by omega
      have HI2 := hide (HI1.out.grow (Below.refl _ W0).drew)
      clear HC HI1
      go_region_held3 (fun W => W.cell? ⟨V, 1, none⟩ = some (.slice (some ⟨M, 0, none⟩) c' c') ∧ W.cell? ⟨sB, 0, none⟩ = some (.int .u16 s0) ∧ W.cell? ⟨sB, 1, none⟩ = some (.int .u16 s1)) (first | (refine ⟨?_, ?_, ?_⟩ <;> simp only [World.cell?_drew] <;> assumption) | (apply keep3_set; assumption; assumption; assumption; assumption) | (apply keep3; assumption; assumption))
        (first
          | (go_at_call_of 63 (Value.int .u16 (s1 : Int)); refine (setList_any s1 _ HSM.out.2.1).mono ?_; rintro e v1 ⟨a1, b1, m1, c1, rfl, hg1, ho1, hbl1⟩)
          | (go_at_call_of 63 (Value.int .u16 (s0 : Int)); refine (setList_any s0 _ HSM.out.1).mono ?_; rintro e v2 ⟨a2, b2, m2, c2, rfl, hg2, ho2, hbl2⟩; obtain ⟨u0, u1, u2, hu0, hu1, hu2, hf0, hf1, hf2⟩ := ((HI2.out.grow hbl1).grow hbl2).there hlt))
      have HI3 := hide (HI2.out.step (c1 := c1) (c2 := c2) hlt hbl1 hg1 ho1 hbl2 hg2 ho2 HSM.out.2.2.2 HSM.out.2.2.1)
      clear hu0 hu1 hu2 hf0 hf1 hf2 hbl1 hg1 ho1 hbl2 hg2 ho2 HSM
      go_wp2_with fail
      go_roundw
      case rel => exact ⟨k + 1, by omega, by go_num, HI3⟩
      case measure => simp [intOf]; omega
end Go.Proofs.Ytdhnhpjcoeglmaa


/- What tokensOf and both GoodMarks answer, for every number of places and every list: true just where the places are in 1..16, the list is as long, and each of its numbers is in 0..50; nothing that was there is written. -/
namespace Go.Proofs.Ytdhnhpjcoeglmaa
open Go.RowKit

theorem goodB_of {p : Int} {n : Nat} {xs : List Int} (hl : xs.length = n) (hp : inB p 1 16 = true) (hn : (n : Int) = p) : goodB p xs = allB xs 0 50 := by
  simp [goodB, hp, hl, hn]

theorem goodB_p {p : Int} {xs : List Int} (hp : inB p 1 16 = false) : goodB p xs = false := by simp [goodB, hp]

theorem goodB_n {p : Int} {n : Nat} {xs : List Int} (hl : xs.length = n) (hn : ¬ (n : Int) = p) : goodB p xs = false := by
  simp [goodB, hl, hn]

theorem inB_le {p : Int} {n : Nat} (hp : inB p 1 16 = true) (hn : (n : Int) = p) : 1 ≤ n ∧ n ≤ 16 := by
  simp [inB] at hp; omega

set_option maxHeartbeats 400000 in
theorem tokens_any (p : Int) (a : Option Addr) (n ca : Nat) (xs : List Int) (w : World) (ha : Row w a n xs) (_hn : n ≤ 1048576) :
    Calls Try.prog 112 #[.int .i64 p, .slice a n ca] w fun e w' => TokEnd (goodB p xs) xs n w e w' := by
  by_cases hp : inB p 1 16 = true
  · by_cases hnp : (n : Int) = p
    · exact tokens_run _ p a n ca xs w ha hp hnp (inB_le hp hnp).2 (goodB_of ha.1 hp hnp)
    · have hd : ((n : Int) != p) = true := by simp [hnp]
      have HG : Hid (goodB p xs = false) := goodB_n ha.1 hnp
      clear hnp ha
      go_enter Try.func112, Try.ntmps112
      go_wp2_with (go_at_call 140; refine (goodPlaces_any _ _).mono ?_; rintro e w' ⟨rfl, rfl⟩)
      exact bodyPost_ret (v := .tuple #[.agg #[.int .u8 0, .int .u8 0, .int .u8 0, .int .u8 0, .int .u8 0, .int .u8 0, .int .u8 0, .int .u8 0, .int .u8 0, .int .u8 0, .int .u8 0, .int .u8 0, .int .u8 0, .int .u8 0, .int .u8 0, .int .u8 0], .bool false]) (by simp [results, Try.results112, go_sem]) rfl (tokEnd_no HG.out (below_two _ _ _))
  · have hp' : inB p 1 16 = false := by simpa using hp
    have HG : Hid (goodB p xs = false) := goodB_p hp'
    clear hp ha
    go_enter Try.func112, Try.ntmps112
    go_wp2_with (go_at_call 140; refine (goodPlaces_any _ _).mono ?_; rintro e w' ⟨rfl, rfl⟩)
    exact bodyPost_ret (v := .tuple #[.agg #[.int .u8 0, .int .u8 0, .int .u8 0, .int .u8 0, .int .u8 0, .int .u8 0, .int .u8 0, .int .u8 0, .int .u8 0, .int .u8 0, .int .u8 0, .int .u8 0, .int .u8 0, .int .u8 0, .int .u8 0, .int .u8 0], .bool false]) (by simp [results, Try.results112, go_sem]) rfl (tokEnd_no HG.out (below_two _ _ _))

/-- A call that answers a bool and writes into nothing that was there. -/
def BoolEnd (b : Bool) (w : World) (e : Ending) (w' : World) : Prop := e = .returned (.bool b) ∧ Below w.heap.size w w'

set_option maxHeartbeats 400000 in
theorem goodI_any (p : Int) (a : Option Addr) (n ca : Nat) (xs : List Int) (w : World) (ha : Row w a n xs) (hn : n ≤ 1048576) :
    Calls Try.prog 92 #[.int .i64 p, .slice a n ca] w fun e w' => BoolEnd (goodB p xs) w e w' := by
  obtain ⟨g, hg⟩ : ∃ g, Hid (goodB p xs = g) := ⟨_, rfl⟩
  have ht := tokens_any p a n ca xs w ha hn
  rw [hg.out] at ht ⊢
  have HT := hide ht
  clear ht ha hg hn
  go_enter Try.func92, Try.ntmps92
  go_wp2_with (first
    | (go_at_call 112; refine HT.out.mono ?_; rintro e w1 ⟨m, rfl, hm, hb1⟩; have hg0 := heap_alloc_new w1 (.cells #[.int .u8 0, .int .u8 0, .int .u8 0, .int .u8 0, .int .u8 0, .int .u8 0, .int .u8 0, .int .u8 0, .int .u8 0, .int .u8 0, .int .u8 0, .int .u8 0, .int .u8 0, .int .u8 0, .int .u8 0, .int .u8 0] 93))
    | refine wpList_store_row rfl 93 _ _ rfl _ _ rfl rfl 93 _ (by assumption) (by rw [packOf_size]; exact Try.size93) (by rw [packOf_size]; rfl) (packOf_one _ _) ?_)
  go_ret
  exact ⟨rfl, below_setRow (hb1.alloc hb1.size _) _ hb1.size _⟩

def AllUpto (xs : List Int) (lo hi : Int) (k : Nat) : Prop := allB (xs.take k) lo hi = true

theorem AllUpto.step {xs : List Int} {lo hi : Int} {k : Nat} {x : Int} (h : AllUpto xs lo hi k) (hx : Hid (xs[k]? = some x)) (hi' : inB x lo hi = true) : AllUpto xs lo hi (k + 1) := by
  unfold AllUpto allB at *
  rw [List.take_add_one, hx.out, List.all_append, h]
  simp [hi']

theorem AllUpto.done {xs : List Int} {lo hi : Int} {n : Nat} (h : AllUpto xs lo hi n) (hl : xs.length = n) : allB xs lo hi = true := by
  unfold AllUpto at h
  rwa [List.take_of_length_le (by omega)] at h

theorem allB_no {xs : List Int} {lo hi : Int} {k : Nat} {x : Int} (hx : Hid (xs[k]? = some x)) (hi' : inB x lo hi = false) : allB xs lo hi = false := by
  unfold allB
  rw [List.all_eq_false]
  exact ⟨x, List.mem_of_getElem? hx.out, by simp [hi']⟩

set_option maxHeartbeats 400000 in
theorem allG_any (a : Option Addr) (n ca : Nat) (xs : List Int) (lo hi : Int) (w : World) (ha : Row w a n xs) (hn : n ≤ 1048576) :
    Calls Try.prog 106 #[.slice a n ca, .int .i64 lo, .int .i64 hi] w fun e w' => e = .returned (.bool (allB xs lo hi)) ∧ w' = w := by
  go_enter Try.func106, Try.ntmps106
  go_wp2
  go_loop [11] (fun i => ∃ k : Nat, k ≤ n ∧ i = .int .i64 k ∧ AllUpto xs lo hi k) (fun i => n - (intOf i).toNat)
  case atStart => exact ⟨0, Nat.zero_le _, rfl, rfl⟩
  case round =>
    obtain ⟨k, hk, rfl, hu⟩ := hrel
    by_cases hlt : k < n
    · obtain ⟨b1, o1, x, rfl, hl1, hc1, H1⟩ := ha.at hlt
      clear ha
      by_cases hi' : inB x lo hi = true
      · have HU := hu.step H1 hi'
        clear hu H1
        go_wp2_with (go_at_call 74; refine (in_any _ _ _ _).mono ?_; rintro e w' ⟨rfl, rfl⟩)
        go_round
        case rel => exact ⟨k + 1, by omega, by go_num, HU⟩
        case measure => simp [intOf]; omega
      · have hi'' : inB x lo hi = false := by simpa using hi'
        have HA := hide (allB_no H1 hi'')
        clear hu H1 hi'
        go_wp2_with (go_at_call 74; refine (in_any _ _ _ _).mono ?_; rintro e w' ⟨rfl, rfl⟩)
        go_ret
        exact ⟨ret_bool HA.out.symm, rfl⟩
    · have hk' : k = n := by omega
      subst hk'
      have HA := hide (hu.done ha.1)
      go_wp2
      go_ret
      exact ⟨ret_bool HA.out.symm, rfl⟩

set_option maxHeartbeats 400000 in
theorem goodS_any (p : Int) (a : Option Addr) (n ca : Nat) (xs : List Int) (w : World) (ha : Row w a n xs) (hn : n ≤ 1048576) :
    Calls Try.prog 95 #[.int .i64 p, .slice a n ca] w fun e w' => e = .returned (.bool (goodB p xs)) ∧ w' = w := by
  by_cases hp : inB p 1 16 = true
  · by_cases hnp : (n : Int) = p
    · have hd : ((n : Int) == p) = true := by simp [hnp]
      have HG := hide (goodB_of ha.1 hp hnp)
      have HA := hide (allG_any a n ca xs 0 50 w ha hn)
      clear hnp ha
      go_enter Try.func95, Try.ntmps95
      go_wp2_with (first
        | (go_at_call 133; refine (places_any _ _).mono ?_; rintro e w' ⟨rfl, rfl⟩)
        | (go_at_call 106; refine HA.out.mono ?_; rintro e w' ⟨rfl, rfl⟩))
      go_ret
      exact ⟨ret_bool HG.out.symm, rfl⟩
    · have hd : ((n : Int) == p) = false := by simp [hnp]
      have HG := hide (goodB_n ha.1 hnp)
      clear hnp ha
      go_enter Try.func95, Try.ntmps95
      go_wp2_with (go_at_call 133; refine (places_any _ _).mono ?_; rintro e w' ⟨rfl, rfl⟩)
      go_ret
      exact ⟨ret_bool HG.out.symm, rfl⟩
  · have hp' : inB p 1 16 = false := by simpa using hp
    have HG := hide (goodB_p (xs := xs) hp')
    clear hp ha
    go_enter Try.func95, Try.ntmps95
    go_wp2_with (go_at_call 133; refine (places_any _ _).mono ?_; rintro e w' ⟨rfl, rfl⟩)
    go_ret
    exact ⟨ret_bool HG.out.symm, rfl⟩
end Go.Proofs.Ytdhnhpjcoeglmaa


/- What bothTokensOf answers, for every number of places and every two lists: both arrays and true where both are good marks, else false; nothing that was there is written. -/
namespace Go.Proofs.Ytdhnhpjcoeglmaa
open Go.RowKit

def tokL (f : Nat → Int) : List Value := (tokF f).toList

theorem tokL_len (f : Nat → Int) : (tokL f).length = 16 := by simp [tokL, tokF_size]
theorem tokL_arr (f : Nat → Int) : (tokL f).toArray = tokF f := by simp [tokL]
theorem tokL_one (f : Nat → Int) : ∀ v ∈ tokL f, v.oneCell' = true := by
  intro v hv
  exact Array.all_eq_true_iff_forall_mem.1 (tokF_one f) v (by simpa [tokL] using hv)

theorem range_of_block {w : World} {b : Nat} {f : Nat → Int} {t : TypeId} {fr : Nat × Nat} (hb : w.heap[b]? = some (.cells (tokF f) t fr)) : w.rangeAt b 0 (tokL f) := by
  intro j v hv
  rw [cell_of_row w b (0 + j) _ t fr hb, Nat.zero_add]
  simpa [tokL] using hv

theorem there_of_block {w : World} {b : Nat} {C : Array Value} {t : TypeId} (hb : w.heap[b]? = some (.cells C t (0, 0))) (hs : C.size = 16) : w.there b 0 16 := by
  intro j hj
  refine ⟨?_, frozen_of_row w b _ C t hb⟩
  rw [cell_of_row w b (0 + j) _ t (0, 0) hb, Nat.zero_add, Array.getElem?_eq_getElem (by omega)]
  rfl

theorem setRow_same {w : World} {b : Nat} {C : Array Value} {t : TypeId} (hb : w.heap[b]? = some (.cells C t (0, 0))) (D : Array Value) : (w.setRow b D).heap[b]? = some (.cells D t (0, 0)) := by
  simp only [World.setRow, Array.getElem?_modify]
  rw [if_pos trivial, hb]
  rfl

theorem setRow_other (w : World) (b k : Nat) (D : Array Value) (h : k ≠ b) : (w.setRow b D).heap[k]? = w.heap[k]? := by
  simp only [World.setRow, Array.getElem?_modify]
  rw [if_neg (by omega)]

theorem below_setCells {B : Nat} {a w : World} (h : Below B a w) (b o : Nat) (hb : B ≤ b) (vs : List Value) : Below B a (w.setCells b o vs) := by
  induction vs generalizing w o with
  | nil => exact h
  | cons v r ih => exact ih (h.setCell hb v) (o + 1)

theorem results_cells_tmp {fn : Func} {p q u : Tmp} {ty tz : TypeId} (h : fn.results = #[.cell p ty, .cell q tz, .tmp u]) (tmps : Array Value) (P : Program) (w : World) :
    (results fn tmps).run P w =
      ((asAddr (tmps.getD p undef)).run P w).andThen fun a w₁ => ((loadVar ty a).run P w₁).andThen fun v w₂ =>
        ((asAddr (tmps.getD q undef)).run P w₂).andThen fun b w₃ => ((loadVar tz b).run P w₃).andThen fun v' w₄ => .ok (.tuple #[v, v', tmps.getD u undef]) w₄ := by
  simp only [results, h]
  simp [Sem.run_bind, Result.andThen]

theorem cons_store {P : Program} {md : Region.Mode} {ops : Array Oper} {Q : Exit → Act → World → Prop} {fuel : Nat} {listed : Array Bool} {a : Act} {w : World} {i : Nat} {o : Oper} {rs : List Nat} (ho : ops[i]? = some o)
    (hgd : o.guard = none) (hd : o.dst = none) (ty : TypeId) (x y : Operand) (hop : o.op = .store ty x y)
    (g : Nat) (cells : Array Value) (hx : a.eval x = .pointer (some ⟨g, 0, none⟩)) (hy : a.eval y = .agg cells)
    (t : TypeId) (old : Array Value) (hg : w.heap[g]? = some (.cells old t (0, 0))) (hi : (P.info? ty).map (·.size) = some cells.size)
    (hold : old.size = cells.size) (h1 : cells.all (·.oneCell') = true)
    (h : wpAny P md ops Q fuel (listed.setIfInBounds i true) a (w.setRow g cells))
    (hs : AllReady P md ops Q fuel listed a w rs) : AllReady P md ops Q fuel listed a w (i :: rs) := by
  refine AllReady.cons ho (fun K hK => ?_) hs
  rw [if_pos (by simp [Region.wanted, hgd])]
  refine wp_store_row ty x y hop g cells hx hy t old hg hi hold h1 (hK _ _ ?_)
  rw [hd]
  exact h

theorem cons_load {P : Program} {md : Region.Mode} {ops : Array Oper} {Q : Exit → Act → World → Prop} {fuel : Nat} {listed : Array Bool} {a : Act} {w : World} {i : Nat} {o : Oper} {rs : List Nat} (ho : ops[i]? = some o)
    (hgd : o.guard = none) (d : Option Tmp) (hd : o.dst = d) (ty : TypeId) (x : Operand) (hop : o.op = .load ty x)
    (g : Nat) (cells : Array Value) (hx : a.eval x = .pointer (some ⟨g, 0, none⟩))
    (t : TypeId) (n : Nat) (e : TypeId) (hu : P.underlying ty = some (.array n e)) (hg : w.heap[g]? = some (.cells cells t (0, 0))) (hi : (P.info? ty).map (·.size) = some cells.size)
    (h : wpAny P md ops Q fuel (listed.setIfInBounds i true) (a.put d (.agg cells)) w)
    (hs : AllReady P md ops Q fuel listed a w rs) : AllReady P md ops Q fuel listed a w (i :: rs) := by
  refine AllReady.cons ho (fun K hK => ?_) hs
  rw [if_pos (by simp [Region.wanted, hgd])]
  refine wp_load_row ty x hop g hx t cells (0, 0) _ hg hu rfl hi (hK _ _ ?_)
  rw [hd]
  exact h

theorem cons_assign {P : Program} {md : Region.Mode} {ops : Array Oper} {Q : Exit → Act → World → Prop} {fuel : Nat} {listed : Array Bool} {a : Act} {w : World} {i : Nat} {o : Oper} {rs : List Nat} (ho : ops[i]? = some o)
    (hgd : o.guard = none) (d : Option Tmp) (hd : o.dst = d) (x : Operand) (hop : o.op = .assign x)
    (h : wpAny P md ops Q fuel (listed.setIfInBounds i true) (a.put d (a.eval x)) w)
    (hs : AllReady P md ops Q fuel listed a w rs) : AllReady P md ops Q fuel listed a w (i :: rs) := by
  refine AllReady.cons ho (fun K hK => ?_) hs
  rw [if_pos (by simp [Region.wanted, hgd])]
  unfold Oper.wp
  simp only [execOp, hop, Sem.run_pure]
  refine hK _ _ ?_
  rw [hd]
  exact h

set_option maxRecDepth 10000 in
theorem both_results {fn : Func} (hr : fn.results = #[.cell 6 93, .cell 7 93, .tmp 8]) (tmps : Array Value) (W : World) (b6 b7 : Nat) (f g : Nat → Int) (v : Value)
    (h6 : tmps.getD 6 undef = .pointer (some ⟨b6, 0, none⟩)) (h7 : tmps.getD 7 undef = .pointer (some ⟨b7, 0, none⟩)) (h8 : tmps.getD 8 undef = v)
    (q6 : W.heap[b6]? = some (.cells (tokF f) 93 (0, 0))) (q7 : W.heap[b7]? = some (.cells (tokF g) 93 (0, 0))) :
    (results fn tmps).run Try.prog W = .ok (.tuple #[.agg (tokF f), .agg (tokF g), v]) W := by
  refine (results_cells_tmp hr _ _ _).trans ?_
  rw [h6, h7, h8]
  show ((loadVar 93 ⟨b6, 0, none⟩).run Try.prog W).andThen _ = _
  rw [run_loadVar_row _ _ 93 93 (tokF f) (0, 0) _ q6 Try.underlying93 rfl (by rw [tokF_size]; exact Try.size93)]
  show ((loadVar 93 ⟨b7, 0, none⟩).run Try.prog W).andThen _ = _
  rw [run_loadVar_row _ _ 93 93 (tokF g) (0, 0) _ q7 Try.underlying93 rfl (by rw [tokF_size]; exact Try.size93)]
  rfl

theorem below_rows {B : Nat} {w V : World} (h : Below B w V) (b c : Nat) (hb : B ≤ b) (hc : B ≤ c) (C D : Array Value) : Below B w ((V.drew.setRow b C).setRow c D) :=
  below_setRow (below_setRow h.drew _ hb _) _ hc _

theorem lit_one : (#[.int .u8 0, .int .u8 0, .int .u8 0, .int .u8 0, .int .u8 0, .int .u8 0, .int .u8 0, .int .u8 0, .int .u8 0, .int .u8 0, .int .u8 0, .int .u8 0, .int .u8 0, .int .u8 0, .int .u8 0, .int .u8 0] : Array Value).all (·.oneCell') = true := by
  rw [← packOf_zero []]; exact packOf_one _ _

end Go.Proofs.Ytdhnhpjcoeglmaa


/- What both Covers answer, for every number of places and every two lists: whether each number of the first is at least that of the second, and true, where both are good marks, else false and false; nothing that was there is written. -/
namespace Go.Proofs.Ytdhnhpjcoeglmaa
open Go.RowKit
set_option maxRecDepth 10000

theorem _root_.Go.RowKit.Below.drewN {B : Nat} {a w : World} (h : Below B a w) (q : Nat) : Below B a (w.drewN q) := ⟨h.os, h.tape, h.output, h.size, h.block⟩

def getF (xs : List Int) : Nat → Int := fun i => xs.getD i 0

theorem getF_of {xs : List Int} {k : Nat} {x : Int} (h : Hid (xs[k]? = some x)) : getF xs k = x := by simp [getF, h.out]

/-- Each number of the list is in 0..50. -/
def Small50 (f : Nat → Int) : Prop := ∀ i, 0 ≤ f i ∧ f i ≤ 50

theorem good_parts {p : Int} {xs : List Int} (h : goodB p xs = true) : Small50 (getF xs) ∧ xs.length ≤ 16 ∧ 1 ≤ xs.length ∧ (xs.length : Int) = p := by
  simp only [goodB, Bool.and_eq_true, decide_eq_true_eq] at h
  obtain ⟨⟨h1, h2⟩, h3⟩ := h
  refine ⟨fun i => ?_, (inB_le h1 h2).2, (inB_le h1 h2).1, h2⟩
  unfold getF
  by_cases hi : i < xs.length
  · rw [List.getD_eq_getElem?_getD, List.getElem?_eq_getElem hi]
    have := List.all_eq_true.mp h3 xs[i] (List.getElem_mem hi)
    simp [inB] at this
    simpa using this
  · rw [List.getD_eq_getElem?_getD, List.getElem?_eq_none (by omega)]
    simp

theorem small_fOf {xs : List Int} (h : Small50 (getF xs)) (n : Nat) : Small50 (fOf xs n) := by
  intro i
  unfold fOf
  split
  · exact h i
  · omega

/-- The first k numbers of f are at least those of g. -/
def CovUpto (f g : Nat → Int) (k : Nat) : Prop := ∀ i, i < k → g i ≤ f i
def covF (f g : Nat → Int) (n : Nat) : Bool := (List.range n).all fun i => decide (g i ≤ f i)

theorem covF_yes {f g : Nat → Int} {n : Nat} (h : CovUpto f g n) : covF f g n = true := by
  simp only [covF, List.all_eq_true, List.mem_range, decide_eq_true_eq]; exact h

theorem covF_iff {f g : Nat → Int} {n : Nat} : covF f g n = true ↔ CovUpto f g n := by
  simp [covF, CovUpto]

theorem covF_no {f g : Nat → Int} {n k : Nat} (hk : k < n) (h : f k < g k) : covF f g n = false := by
  rw [Bool.eq_false_iff]
  intro hc
  have := covF_iff.mp hc k hk
  omega

theorem CovUpto.step {f g : Nat → Int} {k : Nat} (h : CovUpto f g k) (hk : g k ≤ f k) : CovUpto f g (k + 1) := by
  intro i hi
  by_cases e : i = k
  · subst e; exact hk
  · exact h i (by omega)

theorem covF_pad (xs ys : List Int) (n : Nat) (hn : n ≤ 16) : covF (fOf xs n) (fOf ys n) 16 = covF (getF xs) (getF ys) n := by
  rw [Bool.eq_iff_iff, covF_iff, covF_iff]
  constructor
  · intro h i hi
    have := h i (by omega)
    unfold fOf at this
    rw [if_pos hi, if_pos hi] at this
    exact this
  · intro h i hi
    unfold fOf
    by_cases e : i < n
    · rw [if_pos e, if_pos e]; exact h i e
    · rw [if_neg e, if_neg e]; exact Int.le_refl 0

def covB (p : Int) (xs ys : List Int) : Bool := goodB p xs && goodB p ys && covF (getF xs) (getF ys) xs.length

def CovEnd (p : Int) (xs ys : List Int) (w : World) (e : Ending) (w' : World) : Prop :=
  e = .returned (.tuple #[.bool (covB p xs ys), .bool (goodB p xs && goodB p ys)]) ∧ Below w.heap.size w w'

theorem covEnd_no {p : Int} {xs ys : List Int} {w w' : World} (h : (goodB p xs && goodB p ys) = false) (hb : Below w.heap.size w w') : CovEnd p xs ys w (.returned (.tuple #[.bool false, .bool false])) w' := by
  refine ⟨?_, hb⟩; unfold covB; rw [h]; rfl

theorem covEnd_yes {p : Int} {xs ys : List Int} {w w' : World} {c : Bool} (h : (goodB p xs && goodB p ys) = true) (hc : covF (getF xs) (getF ys) xs.length = c) (hb : Below w.heap.size w w') : CovEnd p xs ys w (.returned (.tuple #[.bool c, .bool true])) w' := by
  refine ⟨?_, hb⟩; unfold covB; rw [h, hc]; simp

theorem two_len {p : Int} {xs ys : List Int} (h : (goodB p xs && goodB p ys) = true) : xs.length = ys.length ∧ xs.length ≤ 16 := by
  rw [Bool.and_eq_true] at h
  have h1 := good_parts h.1
  have h2 := good_parts h.2
  omega

end Go.Proofs.Ytdhnhpjcoeglmaa


/- What both AddMarks answer, for every number of places and every two lists: the sums in new memory and true, where both are good marks and the sums are one, else nothing and false; nothing that was there is written. -/
namespace Go.Proofs.Ytdhnhpjcoeglmaa
open Go.RowKit
set_option maxRecDepth 10000

/-- How a call ends that answers a list in new memory and a bool: the list lies alone in its block. -/
def ListEnd (ok : Bool) (r : List Int) (w : World) (e : Ending) (w' : World) : Prop :=
  ∃ a b n, e = .returned (.tuple #[.slice a n n, .bool ok]) ∧ Blk w' a b n r ∧ w.heap.size ≤ b ∧ Below w.heap.size w w'

/-- .. and where of the list's room nothing is said. -/
def ReadEnd (ok : Bool) (r : List Int) (w : World) (e : Ending) (w' : World) : Prop :=
  ∃ a n c, e = .returned (.tuple #[.slice a n c, .bool ok]) ∧ Row w' a n r ∧ Below w.heap.size w w'

def sumL (xs ys : List Int) : List Int := (List.range xs.length).map fun i => getF xs i + getF ys i
def addOk (p : Int) (xs ys : List Int) : Bool := goodB p xs && goodB p ys && goodB p (sumL xs ys)
def addR (p : Int) (xs ys : List Int) : List Int := if addOk p xs ys then sumL xs ys else []

theorem sumL_len (xs ys : List Int) : (sumL xs ys).length = xs.length := by simp [sumL]

theorem addEnd_no {p : Int} {xs ys : List Int} {w w' : World} (h : addOk p xs ys = false) (hb : Below w.heap.size w w') : ListEnd (addOk p xs ys) (addR p xs ys) w (.returned (.tuple #[.slice none 0 0, .bool false])) w' := by
  refine ⟨none, w.heap.size, 0, by rw [h], ⟨?_, .inl rfl⟩, Nat.le_refl _, hb⟩
  unfold addR; rw [h]; rfl

theorem addEnd_yes {p : Int} {xs ys : List Int} {w w' : World} {b n : Nat} (h : addOk p xs ys = true) (hn : xs.length = n) (hh : w'.heap[b]? = some (.cells (cellsOf (sumL xs ys)) 3 (0, 0))) (hB : w.heap.size ≤ b) (hb : Below w.heap.size w w') :
    ListEnd (addOk p xs ys) (addR p xs ys) w (.returned (.tuple #[.slice (some ⟨b, 0, none⟩) n n, .bool true])) w' := by
  have hr : addR p xs ys = sumL xs ys := by unfold addR; rw [h]; rfl
  refine ⟨_, b, n, by rw [h], ⟨?_, .inr ⟨rfl, ?_⟩⟩, hB, hb⟩
  · rw [hr, sumL_len, hn]
  · rw [hr]; exact hh

/-- The first k numbers are sums. -/
def addF (f g : Nat → Int) (k : Nat) : Nat → Int := fun i => if i < k then f i + g i else f i

theorem addF_set (f g : Nat → Int) (k : Nat) : (tokF (addF f g k)).setIfInBounds k (.int .u8 (f k + g k)) = tokF (addF f g (k + 1)) := by
  refine tokF_set _ _ k _ ?_ fun i hi => ?_
  · unfold addF; rw [if_pos (by omega)]
  · unfold addF
    by_cases h : i < k
    · rw [if_pos h, if_pos (by omega)]
    · rw [if_neg h, if_neg (by omega)]

theorem addF_zero (f g : Nat → Int) : addF f g 0 = f := by
  funext i; unfold addF; rw [if_neg (by omega)]

def SumUpto (f g : Nat → Int) (k : Nat) : Prop := ∀ i, i < k → f i + g i ≤ 50

theorem SumUpto.step {f g : Nat → Int} {k : Nat} (h : SumUpto f g k) (hk : f k + g k ≤ 50) : SumUpto f g (k + 1) := by
  intro i hi
  by_cases e : i = k
  · subst e; exact hk
  · exact h i (by omega)

theorem list_sum (xs ys : List Int) (n : Nat) (hx : xs.length = n) (hn : n ≤ 16) : listF (addF (fOf xs n) (fOf ys n) 16) n = sumL xs ys := by
  unfold listF sumL
  rw [hx]
  apply List.map_congr_left
  intro i hi
  have hi' : i < n := by simpa using hi
  unfold addF fOf getF
  rw [if_pos (by omega), if_pos hi', if_pos hi']

theorem good_sum {p : Int} {xs ys : List Int} (hg : (goodB p xs && goodB p ys) = true) (h : ∀ i, i < xs.length → getF xs i + getF ys i ≤ 50) : addOk p xs ys = true := by
  have hg' := hg
  rw [Bool.and_eq_true] at hg'
  have h1 := good_parts hg'.1
  have h2 := good_parts hg'.2
  unfold addOk
  rw [hg, Bool.true_and]
  unfold goodB at *
  simp only [Bool.and_eq_true] at hg' ⊢
  refine ⟨⟨hg'.1.1.1, by rw [sumL_len]; exact hg'.1.1.2⟩, ?_⟩
  unfold allB
  rw [List.all_eq_true]
  intro x hx
  simp only [sumL, List.mem_map, List.mem_range] at hx
  obtain ⟨i, hi, rfl⟩ := hx
  have a1 := h1.1 i
  have a2 := h2.1 i
  have a3 := h i hi
  simp [inB]; omega

theorem not_sum {p : Int} {xs ys : List Int} {k : Nat} (hk : k < xs.length) (h : 50 < getF xs k + getF ys k) : addOk p xs ys = false := by
  unfold addOk
  have : goodB p (sumL xs ys) = false := by
    unfold goodB
    have : allB (sumL xs ys) 0 50 = false := by
      unfold allB
      rw [List.all_eq_false]
      exact ⟨_, List.mem_map.mpr ⟨k, List.mem_range.mpr hk, rfl⟩, by simp [inB]; omega⟩
    rw [this, Bool.and_false]
  rw [this, Bool.and_false]

theorem not_both {p : Int} {xs ys : List Int} (h : (goodB p xs && goodB p ys) = false) : addOk p xs ys = false := by unfold addOk; rw [h]; rfl

/-- append to a row of the call's own, as one step of a region that draws its order. -/
theorem step_append_own {P : Program} {ops : Array Oper} {o : Oper} {a : Act} {w : World} {K : Act → World → Prop} {Q : Exit → Act → World → Prop} {E : Prop}
    (hg : o.guard = none) (s x : Operand) (t : TypeId) (hop : o.op = Op.call { callee := Callee.builtin Builtin.append, args := #[s, x], argTypes := #[t, t] })
    (base : Nat) (e : TypeId) (i : TypeInfo) (z : Value) (size bytes : Nat) (h1 : P.underlying t = some (.slice e)) (h2 : P.info? e = some i) (h3 : i.zero = some z) (h4 : i.size = size) (h5 : i.bytes = bytes) (h6 : z.cells.size = size) (h7 : 0 < size)
    (v : Value) (n : Nat) (olds : List Value) (hs : a.eval s = v) (hown : w.ownsRow base e size v n olds)
    (ad : Addr) (m c : Nat) (news : List Value) (hx : a.eval x = .slice (some ad) m c) (hn : news.length = m * size) (hc : ∀ j u, news[j]? = some u → w.cell? (ad.add j) = some u) (h1c : ∀ u ∈ news, u.oneCell' = true)
    (b1 : n + m ≤ maxLen) (b2 : (n + m) * bytes ≤ 140737488355328) (hB : base ≤ w.heap.size)
    (hK : ∀ v' w', w'.ownsRow base e size v' (n + m) (olds ++ news) → w.grownBy w' v.ownBlock → K (a.put o.dst v') w') :
    if Region.wanted o (yielded ops a.tmps) = true then Oper.wp P o a w K Q else E := by
  have hw : Region.wanted o (yielded ops a.tmps) = true := by simp [Region.wanted, hg]
  rw [if_pos hw]
  obtain ⟨v', w', hrun, r1, r2, _⟩ := run_append_own (P := P) w base t o.type e i z size bytes h1 h2 h3 h4 h5 h6 h7 v n olds hown ad m c news hn hc h1c b1 b2 hB
  unfold Oper.wp
  simp [execOp, hop, resolve, invoke, builtin, hs, hx, hrun, Result.andThen]
  exact hK v' w' r1 r2

theorem wrap_in (n : Int) (h : 0 ≤ n ∧ n ≤ 1000000) : IntKind.i64.wrap n = n := by rw [IntKind.wrap_i64]; omega

theorem readEnd_no {p : Int} {xs ys : List Int} {w w' : World} (h : addOk p xs ys = false) (hb : Below w.heap.size w w') : ReadEnd (addOk p xs ys) (addR p xs ys) w (.returned (.tuple #[.slice none 0 0, .bool false])) w' := by
  refine ⟨none, 0, 0, by rw [h], ⟨?_, .inl rfl⟩, hb⟩
  unfold addR; rw [h]; rfl

theorem readEnd_yes {p : Int} {xs ys : List Int} {w w' : World} {a : Option Addr} {n c : Nat} (h : addOk p xs ys = true) (hr : Row w' a n (sumL xs ys)) (hb : Below w.heap.size w w') : ReadEnd (addOk p xs ys) (addR p xs ys) w (.returned (.tuple #[.slice a n c, .bool true])) w' := by
  refine ⟨a, n, c, by rw [h], ?_, hb⟩
  unfold addR; rw [h]; exact hr

def sumU (xs ys : List Int) (k : Nat) : List Int := (List.range k).map fun i => getF xs i + getF ys i

theorem sumU_all (xs ys : List Int) : sumU xs ys xs.length = sumL xs ys := rfl

theorem sumU_succ (xs ys : List Int) (k : Nat) : (sumU xs ys (k + 1)).map (Value.int .i64) = (sumU xs ys k).map (Value.int .i64) ++ [.int .i64 (getF xs k + getF ys k)] := by
  simp [sumU, List.range_succ]

theorem ownsRow_below {B : Nat} {w w' : World} {v : Value} {n : Nat} {l : List Value} (hown : w.ownsRow B 3 1 v n l) (hg : w.grownBy w' v.ownBlock) {a : World} {C : Nat} (h : Below C a w) (hC : C ≤ w.heap.size) (hB : C ≤ B) : Below C a w' := by
  refine h.grown hg hC fun k hk => ?_
  rcases hown.2 with ⟨rfl, _⟩ | ⟨g, cap, cur, rfl, hb, _⟩
  · simp [Value.ownBlock] at hk
  · simp [Value.ownBlock] at hk; omega

theorem ownsRow_row {B : Nat} {w : World} {v : Value} {n : Nat} {l : List Int} (hown : w.ownsRow B 3 1 v n (l.map (Value.int .i64))) : ∃ a c, v = .slice a n c ∧ Row w a n l := by
  have hl : l.length = n := by have := hown.1; simpa using this
  rcases hown.2 with ⟨rfl, rfl⟩ | ⟨g, cap, cur, rfl, hb, hh, hnc, _, hsz, ht⟩
  · exact ⟨none, 0, rfl, hl, .inl rfl⟩
  · refine ⟨_, cap, rfl, hl, .inr ⟨g, 0, rfl, (Array.getElem?_eq_some_iff.mp hh).1, fun i hi => ?_⟩⟩
    rw [cell_of_row w g (0 + i) _ _ _ hh, Nat.zero_add]
    have e1 : (cur.toList.take (n * 1))[i]? = some (.int .i64 (l.getD i 0)) := by
      rw [ht]; simp [List.getElem?_map, List.getElem?_eq_getElem (show i < l.length by omega)]
    rw [List.getElem?_take_of_lt (by omega)] at e1
    simpa using e1

end Go.Proofs.Ytdhnhpjcoeglmaa


/- l2Fire and the specification's Fire, for every net and mark in memory. -/
namespace Go.Proofs.Ytdhnhpjcoeglmaa
open Go.RowKit

/-- The numbers at the places xs are changed by g, one behind the other. -/
def updL (g : Int → Int) (xs ys : List Int) : List Int := xs.foldl (fun l p => l.set p.toNat (g (l.getD p.toNat 0))) ys

theorem updL_snoc (g : Int → Int) (xs ys : List Int) (x : Int) : updL g (xs ++ [x]) ys = (updL g xs ys).set x.toNat (g ((updL g xs ys).getD x.toNat 0)) := by simp [updL, List.foldl_append]

theorem updL_take (g : Int → Int) (xs ys : List Int) (k : Nat) (x : Int) (h : xs[k]? = some x) : updL g (xs.take (k + 1)) ys = (updL g (xs.take k) ys).set x.toNat (g ((updL g (xs.take k) ys).getD x.toNat 0)) := by
  rw [List.take_add_one, h]; exact updL_snoc _ _ _ _

theorem updL_len (g : Int → Int) (xs ys : List Int) : (updL g xs ys).length = ys.length := by
  induction xs using snoc_ind with
  | h0 => rfl
  | h1 xs x ih => rw [updL_snoc, List.length_set, ih]

theorem riseB_snoc {xs : List Int} {x lo hi : Int} (h : riseB (xs ++ [x]) lo hi = true) : riseB xs lo hi = true ∧ x ∉ xs := by
  induction xs generalizing lo with
  | nil => exact ⟨rfl, by simp⟩
  | cons y r ih =>
    simp only [List.cons_append, riseB, Bool.and_eq_true, decide_eq_true_eq] at h ⊢
    obtain ⟨h1, h2⟩ := h
    have := ih h2
    refine ⟨⟨h1, this.1⟩, ?_⟩
    intro hm
    rcases List.mem_cons.mp hm with e | hm
    · have := riseB_mem h2 x (by simp); omega
    · exact this.2 hm

theorem updL_at (g : Int → Int) {xs : List Int} (ys : List Int) (hi : Int) (h : riseB xs 0 hi = true) (hl : hi < ys.length) (i : Nat) : (updL g xs ys).getD i 0 = if (i : Int) ∈ xs then g (ys.getD i 0) else ys.getD i 0 := by
  induction xs using snoc_ind with
  | h0 => simp [updL]
  | h1 xs x ih =>
    have hs := riseB_snoc h
    have hx := riseB_mem h x (by simp)
    have ih' := ih hs.1
    rw [updL_snoc, List.getD_eq_getElem?_getD, List.getElem?_set, updL_len]
    by_cases e : x.toNat = i
    · subst e
      rw [if_pos rfl, if_pos (by omega), ih', Int.toNat_of_nonneg hx.1, if_neg hs.2, if_pos (by simp)]
      rfl
    · rw [if_neg e, ← List.getD_eq_getElem?_getD, ih']
      have hne : (i : Int) ≠ x := by omega
      by_cases hm : (i : Int) ∈ xs
      · rw [if_pos hm, if_pos (by simp [hm])]
      · rw [if_neg hm, if_neg (by simp [hm, hne])]

theorem bound3 (g : Int → Int) {xs : List Int} (ys : List Int) (hi : Int) (h : riseB xs 0 hi = true) (hl : hi < ys.length) (i : Nat) (hb : -60 ≤ ys.getD i 0 ∧ ys.getD i 0 ≤ 60) (hg : -60 ≤ g (ys.getD i 0) ∧ g (ys.getD i 0) ≤ 60) : -60 ≤ (updL g xs ys).getD i 0 ∧ (updL g xs ys).getD i 0 ≤ 60 := by
  rw [updL_at g ys hi h hl i]; split
  · exact hg
  · exact hb

def fireL (x0 x1 x2 ys : List Int) : List Int := updL (· + 1) x1 (updL (fun _ => 0) x2 (updL (· - 1) x0 ys))

set_option maxHeartbeats 1000000 in
theorem fireS_any (a0 a1 a2 : Option Addr) (n0 n1 n2 c0 c1 c2 nm bm om cm : Nat) (x0 x1 x2 ys : List Int) (w : World) (r0 : Row w a0 n0 x0) (r1 : Row w a1 n1 x1) (r2 : Row w a2 n2 x2) (rm : Row w (some ⟨bm, om, none⟩) nm ys)
    (h0 : n0 ≤ 1048576) (h1 : n1 ≤ 1048576) (h2 : n2 ≤ 1048576) (hm : nm ≤ 16) (hr0 : riseB x0 0 ((nm : Int) - 1) = true) (hr1 : riseB x1 0 ((nm : Int) - 1) = true) (hr2 : riseB x2 0 ((nm : Int) - 1) = true) (hys : ∀ i, 0 ≤ ys.getD i 0 ∧ ys.getD i 0 ≤ 50) :
    Calls Try.prog 160 #[.agg #[.slice a0 n0 c0, .slice a1 n1 c1, .slice a2 n2 c2], .slice (some ⟨bm, om, none⟩) nm cm] w fun e w' => ∃ g c, e = .returned (.slice (some ⟨g, 0, none⟩) nm c) ∧ w.heap.size ≤ g ∧ OutR w' g nm (fireL x0 x1 x2 ys) ∧ Below w.heap.size w w' := by
  have hAl := below_al w (.cells #[.slice a0 n0 c0, .slice a1 n1 c1, .slice a2 n2 c2] 78)
  have R0 := hide (r0.below hAl)
  have R1 := hide (r1.below hAl)
  have R2 := hide (r2.below hAl)
  have RM := hide (rm.below hAl)
  have HB := hide hAl
  have HV := hide (heap_alloc_new w (.cells #[.slice a0 n0 c0, .slice a1 n1 c1, .slice a2 n2 c2] 78))
  clear r0 r1 r2 rm hAl
  go_enter Try.func160, Try.ntmps160
  go_wp2_with fail
  have HR := hide (And.intro hr0 (And.intro hr1 hr2))
  generalize w.alloc (.cells #[.slice a0 n0 c0, .slice a1 n1 c1, .slice a2 n2 c2] 78) = v at *
  refine (own_any _ _ _ _ ys _ RM.out (by omega)).mono ?_
  rintro e w1 ⟨g, c, rfl, hg, hc, hout, hb⟩
  have hly := hide hout.1
  have HBV := hide hb
  have HO := hide hout
  clear RM hout hb
  have hv0 := cell_of_row w1 w.heap.size 0 _ _ _ (keep HV.out HBV.out)
  simp at hv0
  go_wp2_with fail
  clear hv0
  go_loopw [17] (fun i wr => ∃ k : Nat, k ≤ n0 ∧ i = .int .i64 k ∧ Hid (OutR wr g nm (updL (· - 1) (x0.take k) ys)) ∧ Hid (Below v.heap.size v wr)) (fun i _ => n0 - (intOf i).toNat)
  case atStart => exact ⟨0, Nat.zero_le _, rfl, HO, HBV⟩
  case round =>
    obtain ⟨k, hk, rfl, ho, hbw⟩ := hrel
    by_cases hlt : k < n0
    · obtain ⟨b1, o1, x, rfl, hl1, hc1, H1⟩ := (R0.out.below hbw.out).at hlt
      have hxm := riseB_mem HR.out.1 x (List.mem_of_getElem? H1.out)
      obtain ⟨j, rfl⟩ : ∃ j : Nat, x = (j : Int) := ⟨x.toNat, by omega⟩
      have hjn : (j : Int) < (nm : Int) := by omega
      have HU := hide (updL_take (· - 1) x0 ys k _ H1.out)
      rw [Int.toNat_natCast] at HU
      obtain ⟨hle, cur, hh, hcs, hcell⟩ := ho.out
      have hy := hcell j (by omega)
      have hfr := frozen_of_row wr g j cur _ hh
      have hcy := cell_of_row wr g j cur _ _ hh
      rw [hy] at hcy
      have hyb : -60 ≤ (updL (· - 1) (x0.take k) ys).getD j 0 ∧ (updL (· - 1) (x0.take k) ys).getD j 0 ≤ 60 := bound3 (fun y => y - 1) ys ((nm : Int) - 1) (riseB_take (k := k) HR.out.1) (by have := hly.out; omega) j (by have := hys j; omega) (by have := hys j; omega)
      obtain ⟨y, hyy⟩ : ∃ y, Hid ((updL (· - 1) (x0.take k) ys).getD j 0 = y) := ⟨_, rfl⟩
      rw [hyy.out] at hcy hyb HU
      have HN : Hid (OutR (wr.setCell ⟨g, j, none⟩ (.int .i64 (y - 1))) g nm (updL (· - 1) (x0.take (k + 1)) ys)) := by
        show OutR _ _ _ _
        rw [HU.out]; exact ho.out.set j (by omega) _
      have HBN := hide (hbw.out.setCell (p := ⟨g, j, none⟩) hg (.int .i64 (y - 1)))
      clear ho hbw hh hcell hy hxm HU H1 hcs hle hyy
      go_wp2_with fail
      go_roundw
      case rel => exact ⟨k + 1, by omega, by go_num, HN, HBN⟩
      case measure => simp [intOf]; omega
    · have hk' : k = n0 := by omega
      subst hk'
      have HO2 : Hid (OutR wr g nm (updL (· - 1) x0 ys)) := by have := ho.out; rwa [List.take_of_length_le (by have := R0.out.1; omega)] at this
      have HBV2 := hbw
      clear ho hbw HO HBV
      have HO := HO2
      have HBV := HBV2
      clear HO2 HBV2
      have hv1 := cell_of_row wr w.heap.size 1 _ _ _ (keep HV.out HBV.out)
      have hv2 := cell_of_row wr w.heap.size 2 _ _ _ (keep HV.out HBV.out)
      simp at hv1 hv2
      go_wp2_with fail
      go_loopw [31] (fun i wr => ∃ k : Nat, k ≤ n2 ∧ i = .int .i64 k ∧ Hid (OutR wr g nm (updL (fun _ => 0) (x2.take k) (updL (· - 1) x0 ys))) ∧ Hid (Below v.heap.size v wr)) (fun i _ => n2 - (intOf i).toNat)
      case atStart => exact ⟨0, Nat.zero_le _, rfl, HO, HBV⟩
      case round =>
        obtain ⟨k, hk, rfl, ho, hbw⟩ := hrel
        by_cases hlt : k < n2
        · obtain ⟨b1, o1, x, rfl, hl1, hc1, H1⟩ := (R2.out.below hbw.out).at hlt
          have hxm := riseB_mem HR.out.2.2 x (List.mem_of_getElem? H1.out)
          obtain ⟨j, rfl⟩ : ∃ j : Nat, x = (j : Int) := ⟨x.toNat, by omega⟩
          have hjn : (j : Int) < (nm : Int) := by omega
          have HU := hide (updL_take (fun _ => 0) x2 (updL (· - 1) x0 ys) k _ H1.out)
          rw [Int.toNat_natCast] at HU
          obtain ⟨hle, cur, hh, hcs, hcell⟩ := ho.out
          have hy := hcell j (by omega)
          have hfr := frozen_of_row wr g j cur _ hh
          have hcy := cell_of_row wr g j cur _ _ hh
          rw [hy] at hcy
          have hyb : -60 ≤ (updL (fun _ => 0) (x2.take k) (updL (· - 1) x0 ys)).getD j 0 ∧ (updL (fun _ => 0) (x2.take k) (updL (· - 1) x0 ys)).getD j 0 ≤ 60 := by
            have hb1 := bound3 (fun y => y - 1) (xs := x0) ys ((nm : Int) - 1) HR.out.1 (by have := hly.out; omega) j (by have := hys j; omega) (by have := hys j; omega)
            exact bound3 (fun _ => 0) _ ((nm : Int) - 1) (riseB_take (k := k) HR.out.2.2) (by rw [updL_len]; have := hly.out; omega) j hb1 (by omega)
          obtain ⟨y, hyy⟩ : ∃ y, Hid ((updL (fun _ => 0) (x2.take k) (updL (· - 1) x0 ys)).getD j 0 = y) := ⟨_, rfl⟩
          rw [hyy.out] at hcy hyb
          have HN : Hid (OutR (wr.setCell ⟨g, j, none⟩ (.int .i64 (0))) g nm (updL (fun _ => 0) (x2.take (k + 1)) (updL (· - 1) x0 ys))) := by
            show OutR _ _ _ _
            rw [HU.out]; exact ho.out.set j (by omega) _
          have HBN := hide (hbw.out.setCell (p := ⟨g, j, none⟩) hg (.int .i64 (0)))
          clear ho hbw hh hcell hy hxm HU H1 hcs hle hyy
          go_wp2_with fail
          go_roundw
          case rel => exact ⟨k + 1, by omega, by go_num, HN, HBN⟩
          case measure => simp [intOf]; omega
        · have hk' : k = n2 := by omega
          subst hk'
          have HO2 : Hid (OutR wr g nm (updL (fun _ => 0) x2 (updL (· - 1) x0 ys))) := by have := ho.out; rwa [List.take_of_length_le (by have := R2.out.1; omega)] at this
          have HBV2 := hbw
          clear ho hbw HO HBV
          have HO := HO2
          have HBV := HBV2
          clear HO2 HBV2
          have hv1 := cell_of_row wr w.heap.size 1 _ _ _ (keep HV.out HBV.out)
          have hv2 := cell_of_row wr w.heap.size 2 _ _ _ (keep HV.out HBV.out)
          simp at hv1 hv2
          go_wp2_with fail
          go_loopw [42] (fun i wr => ∃ k : Nat, k ≤ n1 ∧ i = .int .i64 k ∧ Hid (OutR wr g nm (updL (· + 1) (x1.take k) (updL (fun _ => 0) x2 (updL (· - 1) x0 ys)))) ∧ Hid (Below v.heap.size v wr)) (fun i _ => n1 - (intOf i).toNat)
          case atStart => exact ⟨0, Nat.zero_le _, rfl, HO, HBV⟩
          case round =>
            obtain ⟨k, hk, rfl, ho, hbw⟩ := hrel
            by_cases hlt : k < n1
            · obtain ⟨b1, o1, x, rfl, hl1, hc1, H1⟩ := (R1.out.below hbw.out).at hlt
              have hxm := riseB_mem HR.out.2.1 x (List.mem_of_getElem? H1.out)
              obtain ⟨j, rfl⟩ : ∃ j : Nat, x = (j : Int) := ⟨x.toNat, by omega⟩
              have hjn : (j : Int) < (nm : Int) := by omega
              have HU := hide (updL_take (· + 1) x1 (updL (fun _ => 0) x2 (updL (· - 1) x0 ys)) k _ H1.out)
              rw [Int.toNat_natCast] at HU
              obtain ⟨hle, cur, hh, hcs, hcell⟩ := ho.out
              have hy := hcell j (by omega)
              have hfr := frozen_of_row wr g j cur _ hh
              have hcy := cell_of_row wr g j cur _ _ hh
              rw [hy] at hcy
              have hyb : -60 ≤ (updL (· + 1) (x1.take k) (updL (fun _ => 0) x2 (updL (· - 1) x0 ys))).getD j 0 ∧ (updL (· + 1) (x1.take k) (updL (fun _ => 0) x2 (updL (· - 1) x0 ys))).getD j 0 ≤ 60 := by
                have hb1 := updL_at (fun y => y - 1) (xs := x0) ys ((nm : Int) - 1) HR.out.1 (by have := hly.out; omega) j
                have hb2 := updL_at (fun _ => 0) (xs := x2) (updL (· - 1) x0 ys) ((nm : Int) - 1) HR.out.2.2 (by rw [updL_len]; have := hly.out; omega) j
                have hb3 := updL_at (fun y => y + 1) (xs := x1.take k) (updL (fun _ => 0) x2 (updL (· - 1) x0 ys)) ((nm : Int) - 1) (riseB_take (k := k) HR.out.2.1) (by rw [updL_len, updL_len]; have := hly.out; omega) j
                have := hys j
                rw [hb3, hb2, hb1]
                (repeat' split) <;> omega
              obtain ⟨y, hyy⟩ : ∃ y, Hid ((updL (· + 1) (x1.take k) (updL (fun _ => 0) x2 (updL (· - 1) x0 ys))).getD j 0 = y) := ⟨_, rfl⟩
              rw [hyy.out] at hcy hyb HU
              have HN : Hid (OutR (wr.setCell ⟨g, j, none⟩ (.int .i64 (y + 1))) g nm (updL (· + 1) (x1.take (k + 1)) (updL (fun _ => 0) x2 (updL (· - 1) x0 ys)))) := by
                show OutR _ _ _ _
                rw [HU.out]; exact ho.out.set j (by omega) _
              have HBN := hide (hbw.out.setCell (p := ⟨g, j, none⟩) hg (.int .i64 (y + 1)))
              clear ho hbw hh hcell hy hxm HU H1 hcs hle hyy
              go_wp2_with fail
              go_roundw
              case rel => exact ⟨k + 1, by omega, by go_num, HN, HBN⟩
              case measure => simp [intOf]; omega
            · have hk' : k = n1 := by omega
              subst hk'
              have HO2 : Hid (OutR wr g nm (updL (· + 1) x1 (updL (fun _ => 0) x2 (updL (· - 1) x0 ys)))) := by have := ho.out; rwa [List.take_of_length_le (by have := R1.out.1; omega)] at this
              have HBV2 := hbw
              clear ho hbw HO HBV
              have HO := HO2
              have HBV := HBV2
              clear HO2 HBV2
              have hv1 := cell_of_row wr w.heap.size 1 _ _ _ (keep HV.out HBV.out)
              have hv2 := cell_of_row wr w.heap.size 2 _ _ _ (keep HV.out HBV.out)
              simp at hv1 hv2
              go_wp2_with fail
              go_ret
              exact ⟨g, c, rfl, by have := HB.out.size; omega, HO.out, HB.out.trans (HBV.out.mono HB.out.size)⟩
end Go.Proofs.Ytdhnhpjcoeglmaa
