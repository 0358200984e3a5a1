/- Contracts that the proof stands on, one behind the other. -/
import Derived.Test.YtbobppcnmpiacaaP4
import Derived.Deep.RegionHeld3
import Derived.Deep.MidRow
/- TurnNet of the program: the walk. -/
namespace Go.Proofs.Ytbobppcnmpiacaa
open Go.RowKit

set_option maxHeartbeats 4000000 in
theorem turnI_any (p : Int) (a : Option Addr) (n c : Nat) (L : List (List Int)) (w : World) (h : Lists w a (3 * n) L) (hs : sizeN n L ≤ 1048576) :
    Calls Try.prog 20 #[.agg #[.int .i64 p, .slice a n c]] w fun e w' => TuEnd (turnOk p n L) p n L w e w' := by
  have HT := hide (netSteps_any p a n c L ((w.alloc (.cells #[.int .i64 p, .slice a n c] 26)).alloc (.cells #[.int .i64 0, .slice none 0 0] 26)) (h.below (below_two _ _ _)) hs)
  have HA := hide (below_two w (.cells #[.int .i64 p, .slice a n c] 26) (.cells #[.int .i64 0, .slice none 0 0] 26))
  have HR0 : Hid (((w.alloc (.cells #[.int .i64 p, .slice a n c] 26)).alloc (.cells #[.int .i64 0, .slice none 0 0] 26)).heap[w.heap.size + 1]? = some (.cells #[.int .i64 0, .slice none 0 0] 26 (0, 0))) := by
    have := heap_alloc_new (w.alloc (.cells #[.int .i64 p, .slice a n c] 26)) (.cells #[.int .i64 0, .slice none 0 0] 26)
    rw [show (w.alloc (.cells #[.int .i64 p, .slice a n c] 26)).heap.size = w.heap.size + 1 by simp] at this
    exact this
  clear h
  by_cases hg : netOk p n L = true
  rotate_left
  · have hg' : netOk p n L = false := by simpa using hg
    rw [turnOk_net hg']
    rw [hg'] at HT
    clear hg hg'
    go_enter Try.func20, Try.ntmps20
    go_wp2_with fail
    refine HT.out.mono ?_
    rintro e w2 ⟨p', a', m, c', rfl, hx, hb⟩
    have HB2 := hide (HA.out.trans (hb.mono HA.out.size))
    have hR := (hb.block (w.heap.size + 1) (by simp)).trans HR0.out
    have hr0 : w2.cell? ⟨w.heap.size + 1, 0, none⟩ = some (.int .i64 0) := cell_of_row w2 _ 0 _ _ _ hR
    have hr1 : w2.cell? ⟨w.heap.size + 1, 1, none⟩ = some (.slice none 0 0) := cell_of_row w2 _ 1 _ _ _ hR
    have hf0 : w2.frozen? ⟨w.heap.size + 1, 0, none⟩ = false := frozen_of_row w2 _ 0 _ _ hR
    have hf1 : w2.frozen? ⟨w.heap.size + 1, 1, none⟩ = false := frozen_of_row w2 _ 1 _ _ hR
    have hlr : w.heap.size + 1 < w2.heap.size := (Array.getElem?_eq_some_iff.mp hR).1
    clear hb HT hx HA HR0 hR
    go_wp2_with fail
    refine bodyPost_ret (v := .tuple #[.agg #[.int .i64 0, .slice none 0 0], .bool false]) (by simp [results, Try.results20, go_sem, hr0, hr1, hlr]) rfl ?_
    exact tuEnd_no (((HB2.out.setCell (by simp) _).setCell (by simp) _).alloc (by have := HB2.out.size; simp [World.setCell]; omega) _)
  have HR := hide (res_eq hg)
  have HG := hide hg
  have hn24 := netN hg
  have HSZ := hide (turnL_size hg)
  rw [hg] at HT
  clear hg
  have hmk := run_make_many (P := Try.prog) 24 39 _ 3 72 Try.underlying24 Try.info39 .i64 .i64 n (by omega) (by omega)
  simp only [Value.cells] at hmk
  go_enter Try.func20, Try.ntmps20
  go_wp2_with fail
  refine HT.out.mono ?_
  rintro e w2 ⟨p', a', m, c', rfl, hx, hb⟩
  obtain ⟨e1, e2, e3, B, rfl, hBs, hps⟩ := hx.out rfl
  subst e1 e2 e3
  have hA := below_al w2 (.cells #[.int .i64 p', .slice (some ⟨B, 0, none⟩) c' c'] 66)
  have HC := hide (contains_any B c' L _ (hps.grow hA) hn24)
  have HB2 := hide (HA.out.trans (hb.mono HA.out.size))
  have HR2 := hide ((hb.block (w.heap.size + 1) (by simp)).trans HR0.out)
  go_wp2_with fail
  refine HC.out.mono ?_
  rintro e w3 ⟨rfl, hb3⟩
  have HB3 := hide (HB2.out.trans ((hA.trans (hb3.mono hA.size)).mono HB2.out.size))
  have HPS := hide ((hps.grow hA).grow hb3)
  have hvl : w2.heap.size < w3.heap.size := by have := hb3.size; simp at this; omega
  have hv0 : w3.cell? ⟨w2.heap.size, 0, none⟩ = some (.int .i64 p') := by rw [hb3.cell (by simp)]; simp
  have hv1 : w3.cell? ⟨w2.heap.size, 1, none⟩ = some (.slice (some ⟨B, 0, none⟩) c' c') := by rw [hb3.cell (by simp)]; simp
  have HRW := hide (((hA.trans (hb3.mono hA.size)).block (w.heap.size + 1) (Array.getElem?_eq_some_iff.mp HR2.out).1).trans HR2.out)
  have HRS := hide ((Array.getElem?_eq_some_iff.mp HRW.out).1)
  clear HT hb hx hps hA HC hb3 hBs HR0 HR2 HA HB2
  by_cases hrm : resM c' L = true
  · have HTO := hide (turnOk_res (p := p') (show resB c' L = true by rw [← HR.out]; exact hrm))
    rw [hrm]
    have hR := HRW.out
    have hr0 : w3.cell? ⟨w.heap.size + 1, 0, none⟩ = some (.int .i64 0) := cell_of_row w3 _ 0 _ _ _ hR
    have hr1 : w3.cell? ⟨w.heap.size + 1, 1, none⟩ = some (.slice none 0 0) := cell_of_row w3 _ 1 _ _ _ hR
    have hf0 : w3.frozen? ⟨w.heap.size + 1, 0, none⟩ = false := frozen_of_row w3 _ 0 _ _ hR
    have hf1 : w3.frozen? ⟨w.heap.size + 1, 1, none⟩ = false := frozen_of_row w3 _ 1 _ _ hR
    clear hrm hR hv0 hv1 hmk
    go_wp2_with fail
    refine bodyPost_ret (v := .tuple #[.agg #[.int .i64 0, .slice none 0 0], .bool false]) (by simp [results, Try.results20, go_sem, hr0, hr1]) rfl ?_
    rw [HTO.out]
    exact tuEnd_no ((HB3.out.setCell (by simp) _).setCell (by simp) _)
  rw [show resM c' L = false by simpa using hrm]
  have HRB : Hid (resB c' L = false) := by show _ = _; rw [← HR.out]; simpa using hrm
  clear hrm HR
  go_wp2_with fail
  go_region
  all_goals go_wp2_with fail
  · have HI := hide (TuInv.first1 w3 p' c' L)
    generalize ((w3.alloc (.cells (madeCells #[.slice none 0 0, .slice none 0 0, .slice none 0 0] (c' * 3)) 39)).alloc (.cells #[.int .i64 p', .slice (some ⟨w3.heap.size, 0, none⟩) c' c'] 26)).drew = W at HI ⊢
    generalize w3.heap.size + 1 = V at HI ⊢
    generalize w3.heap.size = M at HI ⊢
    clear hv0 hv1 hmk hvl
    go_loopw [32] (fun i wr => ∃ k : Nat, k ≤ c' ∧ i = .int .i64 k ∧ Hid (TuInv w3 wr V M p' c' k L)) (fun i _ => c' - (intOf i).toNat)
    case atStart => exact ⟨0, Nat.zero_le _, rfl, HI⟩
    case round =>
      obtain ⟨k, hk, rfl, hin⟩ := hrel
      clear HI
      by_cases hlt : k < c'
      rotate_left
      · have hk' : k = c' := by omega
        subst hk'
        have hVr := hin.out.var
        have hV0 : wr.cell? ⟨V, 0, none⟩ = some (.int .i64 p') := cell_of_row wr V 0 _ _ _ hVr
        have hV1 : wr.cell? ⟨V, 1, none⟩ = some (.slice (some ⟨M, 0, none⟩) k k) := cell_of_row wr V 1 _ _ _ hVr
        have HNG := hide (show NetG wr (some ⟨M, 0, none⟩) M w3.heap.size wr.heap.size k (turnF L k) from .inr ⟨rfl, hin.out.part⟩)
        have HGN := hide (goodNetI_any p' (some ⟨M, 0, none⟩) k k (turnL k L) wr (NetG.lists (B := M) (lo := w3.heap.size) (hi := wr.heap.size) (by rw [turnL_get]; exact HNG.out) (turnL_len k L) HSZ.out) HSZ.out)
        have hlV := (Array.getElem?_eq_some_iff.mp hVr).1
        clear hVr
        go_wp2_with fail
        refine HGN.out.mono ?_
        rintro e w4 ⟨rfl, hb4⟩
        have h40 : w4.cell? ⟨V, 0, none⟩ = some (.int .i64 p') := (hb4.cell hlV).trans hV0
        have h41 : w4.cell? ⟨V, 1, none⟩ = some (.slice (some ⟨M, 0, none⟩) k k) := (hb4.cell hlV).trans hV1
        have HB4 := hide (hin.out.bel.trans (hb4.mono hin.out.bel.size))
        have hR4 := (HB4.out.block (w.heap.size + 1) HRS.out).trans HRW.out
        have hr0 : w4.cell? ⟨w.heap.size + 1, 0, none⟩ = some (.int .i64 0) := cell_of_row w4 _ 0 _ _ _ hR4
        have hr1 : w4.cell? ⟨w.heap.size + 1, 1, none⟩ = some (.slice none 0 0) := cell_of_row w4 _ 1 _ _ _ hR4
        have hf0 : w4.frozen? ⟨w.heap.size + 1, 0, none⟩ = false := frozen_of_row w4 _ 0 _ _ hR4
        have hf1 : w4.frozen? ⟨w.heap.size + 1, 1, none⟩ = false := frozen_of_row w4 _ 1 _ _ hR4
        have HBF := hide (HB3.out.trans (HB4.out.mono HB3.out.size))
        have HTO := hide (turnOk_last HG.out HRB.out)
        have HNG4 := hide (show PartG w4 M w3.heap.size wr.heap.size (3 * k) 39 (turnF L k) from hin.out.part.grow hb4)
        have HMV := hide hin.out.hM
        have H4S := hide hb4.size
        clear hV0 hV1 HGN HNG hR4 hin hb4
        cases hgt : netOk p' k (turnL k L)
        · rw [hgt] at HTO
          go_wp2_with fail
          refine bodyPost_ret (v := .tuple #[.agg #[.int .i64 0, .slice none 0 0], .bool false]) (by simp [results, Try.results20, go_sem, hr0, hr1]) rfl ?_
          rw [HTO.out]
          exact tuEnd_no ((HBF.out.setCell (by simp) _).setCell (by simp) _)
        · rw [hgt] at HTO
          go_wp2_with fail
          refine bodyPost_ret (v := .tuple #[.agg #[.int .i64 p', .slice (some ⟨M, 0, none⟩) k k], .bool true]) (by simp [results, Try.results20, go_sem, hr0, hr1]) rfl ?_
          rw [HTO.out]
          exact tuEnd_yes (B := M) (lo := w3.heap.size) (hi := wr.heap.size) (.inr ⟨rfl, HNG4.out.high (high_set2 w4 w3.heap.size (w.heap.size + 1) 0 1 _ _ HRS.out) HMV.out (Nat.le_refl _)⟩) (Nat.le_trans HB3.out.size HMV.out) HB3.out.size (by have := H4S.out; simpa [World.setCell] using this) ((HBF.out.setCell (by simp) _).setCell (by simp) _)
      obtain ⟨hc0, hc1, hc2⟩ := (HPS.out.grow hin.out.bel).at3 hlt
      obtain ⟨s0, hs0⟩ : ∃ s, Hid (maskL (L.getD (3 * k) []) = s) := ⟨_, rfl⟩
      obtain ⟨s1, hs1⟩ : ∃ s, Hid (maskL (L.getD (3 * k + 1) []) = s) := ⟨_, rfl⟩
      obtain ⟨s2, hs2⟩ : ∃ s, Hid (maskL (L.getD (3 * k + 2) []) = s) := ⟨_, rfl⟩
      rw [hs0.out] at hc0
      rw [hs1.out] at hc1
      rw [hs2.out] at hc2
      have hA1 := below_al wr (.cells #[.int .u16 (s0 : Int), .int .u16 (s1 : Int), .int .u16 (s2 : Int)] 91)
      have HI1 := hide (hin.out.grow hA1)
      have hSM : wr.heap.size ≠ M := by have := hin.out.ltM; omega
      have hVM := hin.out.ne
      have HC := hide (show (wr.alloc (.cells #[.int .u16 (s0 : Int), .int .u16 (s1 : Int), .int .u16 (s2 : Int)] 91)).cell? ⟨wr.heap.size, 0, none⟩ = some (.int .u16 s0) ∧ (wr.alloc (.cells #[.int .u16 (s0 : Int), .int .u16 (s1 : Int), .int .u16 (s2 : Int)] 91)).cell? ⟨wr.heap.size, 1, none⟩ = some (.int .u16 s1) by simp)
      have HSM := hide (turn_sets HG.out hlt hs0.out hs1.out)
      clear hin hA1
      go_wp2_with fail
      clear hc0 hc1 hc2
      generalize wr.alloc (.cells #[.int .u16 (s0 : Int), .int .u16 (s1 : Int), .int .u16 (s2 : Int)] 91) = W0 at HI1 HC ⊢
      generalize wr.heap.size = sB at HC hSM ⊢
      have hVc : W0.cell? ⟨V, 1, none⟩ = some (.slice (some ⟨M, 0, none⟩) c' c') := cell_of_row W0 V 1 _ _ _ HI1.out.var
      obtain ⟨hS0, hS1⟩ := HC.out
      have hk0 : (0 : Int) ≤ (k : Int) := by omega
      have hk1 : (k : Int) < (c' : Int) := by omega
      have HI2 := hide (HI1.out.grow (Below.refl _ W0).drew)
      clear HC HI1
      go_region_held3 (fun W => W.cell? ⟨V, 1, none⟩ = some (.slice (some ⟨M, 0, none⟩) c' c') ∧ W.cell? ⟨sB, 0, none⟩ = some (.int .u16 s0) ∧ W.cell? ⟨sB, 1, none⟩ = some (.int .u16 s1)) (first | (refine ⟨?_, ?_, ?_⟩ <;> simp only [World.cell?_drew] <;> assumption) | (apply keep3_set; assumption; assumption; assumption; assumption) | (apply keep3; assumption; assumption))
        (first
          | (go_at_call_of 60 (Value.int .u16 (s1 : Int)); refine (setList_any s1 _ HSM.out.2.1).mono ?_; rintro e v1 ⟨a1, b1, m1, c1, rfl, hg1, ho1, hbl1⟩)
          | (go_at_call_of 60 (Value.int .u16 (s0 : Int)); refine (setList_any s0 _ HSM.out.1).mono ?_; rintro e v2 ⟨a2, b2, m2, c2, rfl, hg2, ho2, hbl2⟩; obtain ⟨u0, u1, u2, hu0, hu1, hu2, hf0, hf1, hf2⟩ := ((HI2.out.grow hbl1).grow hbl2).there hlt))
      have HI3 := hide (HI2.out.step (c1 := c1) (c2 := c2) hlt hbl1 hg1 ho1 hbl2 hg2 ho2 HSM.out.2.2.2 HSM.out.2.2.1)
      clear hu0 hu1 hu2 hf0 hf1 hf2 hbl1 hg1 ho1 hbl2 hg2 ho2 HSM
      go_wp2_with fail
      go_roundw
      case rel => exact ⟨k + 1, by omega, by go_num, HI3⟩
      case measure => simp [intOf]; omega
  · have HI := hide (TuInv.first2 w3 p' c' L)
    generalize ((w3.alloc (.cells #[.int .i64 p', .slice (some ⟨w3.heap.size + 1, 0, none⟩) c' c'] 26)).alloc (.cells (madeCells #[.slice none 0 0, .slice none 0 0, .slice none 0 0] (c' * 3)) 39)).drew = W at HI ⊢
    generalize w3.heap.size + 1 = M at HI ⊢
    generalize w3.heap.size = V at HI ⊢
    clear hv0 hv1 hmk hvl
    go_loopw [32] (fun i wr => ∃ k : Nat, k ≤ c' ∧ i = .int .i64 k ∧ Hid (TuInv w3 wr V M p' c' k L)) (fun i _ => c' - (intOf i).toNat)
    case atStart => exact ⟨0, Nat.zero_le _, rfl, HI⟩
    case round =>
      obtain ⟨k, hk, rfl, hin⟩ := hrel
      clear HI
      by_cases hlt : k < c'
      rotate_left
      · have hk' : k = c' := by omega
        subst hk'
        have hVr := hin.out.var
        have hV0 : wr.cell? ⟨V, 0, none⟩ = some (.int .i64 p') := cell_of_row wr V 0 _ _ _ hVr
        have hV1 : wr.cell? ⟨V, 1, none⟩ = some (.slice (some ⟨M, 0, none⟩) k k) := cell_of_row wr V 1 _ _ _ hVr
        have HNG := hide (show NetG wr (some ⟨M, 0, none⟩) M w3.heap.size wr.heap.size k (turnF L k) from .inr ⟨rfl, hin.out.part⟩)
        have HGN := hide (goodNetI_any p' (some ⟨M, 0, none⟩) k k (turnL k L) wr (NetG.lists (B := M) (lo := w3.heap.size) (hi := wr.heap.size) (by rw [turnL_get]; exact HNG.out) (turnL_len k L) HSZ.out) HSZ.out)
        have hlV := (Array.getElem?_eq_some_iff.mp hVr).1
        clear hVr
        go_wp2_with fail
        refine HGN.out.mono ?_
        rintro e w4 ⟨rfl, hb4⟩
        have h40 : w4.cell? ⟨V, 0, none⟩ = some (.int .i64 p') := (hb4.cell hlV).trans hV0
        have h41 : w4.cell? ⟨V, 1, none⟩ = some (.slice (some ⟨M, 0, none⟩) k k) := (hb4.cell hlV).trans hV1
        have HB4 := hide (hin.out.bel.trans (hb4.mono hin.out.bel.size))
        have hR4 := (HB4.out.block (w.heap.size + 1) HRS.out).trans HRW.out
        have hr0 : w4.cell? ⟨w.heap.size + 1, 0, none⟩ = some (.int .i64 0) := cell_of_row w4 _ 0 _ _ _ hR4
        have hr1 : w4.cell? ⟨w.heap.size + 1, 1, none⟩ = some (.slice none 0 0) := cell_of_row w4 _ 1 _ _ _ hR4
        have hf0 : w4.frozen? ⟨w.heap.size + 1, 0, none⟩ = false := frozen_of_row w4 _ 0 _ _ hR4
        have hf1 : w4.frozen? ⟨w.heap.size + 1, 1, none⟩ = false := frozen_of_row w4 _ 1 _ _ hR4
        have HBF := hide (HB3.out.trans (HB4.out.mono HB3.out.size))
        have HTO := hide (turnOk_last HG.out HRB.out)
        have HNG4 := hide (show PartG w4 M w3.heap.size wr.heap.size (3 * k) 39 (turnF L k) from hin.out.part.grow hb4)
        have HMV := hide hin.out.hM
        have H4S := hide hb4.size
        clear hV0 hV1 HGN HNG hR4 hin hb4
        cases hgt : netOk p' k (turnL k L)
        · rw [hgt] at HTO
          go_wp2_with fail
          refine bodyPost_ret (v := .tuple #[.agg #[.int .i64 0, .slice none 0 0], .bool false]) (by simp [results, Try.results20, go_sem, hr0, hr1]) rfl ?_
          rw [HTO.out]
          exact tuEnd_no ((HBF.out.setCell (by simp) _).setCell (by simp) _)
        · rw [hgt] at HTO
          go_wp2_with fail
          refine bodyPost_ret (v := .tuple #[.agg #[.int .i64 p', .slice (some ⟨M, 0, none⟩) k k], .bool true]) (by simp [results, Try.results20, go_sem, hr0, hr1]) rfl ?_
          rw [HTO.out]
          exact tuEnd_yes (B := M) (lo := w3.heap.size) (hi := wr.heap.size) (.inr ⟨rfl, HNG4.out.high (high_set2 w4 w3.heap.size (w.heap.size + 1) 0 1 _ _ HRS.out) HMV.out (Nat.le_refl _)⟩) (Nat.le_trans HB3.out.size HMV.out) HB3.out.size (by have := H4S.out; simpa [World.setCell] using this) ((HBF.out.setCell (by simp) _).setCell (by simp) _)
      obtain ⟨hc0, hc1, hc2⟩ := (HPS.out.grow hin.out.bel).at3 hlt
      obtain ⟨s0, hs0⟩ : ∃ s, Hid (maskL (L.getD (3 * k) []) = s) := ⟨_, rfl⟩
      obtain ⟨s1, hs1⟩ : ∃ s, Hid (maskL (L.getD (3 * k + 1) []) = s) := ⟨_, rfl⟩
      obtain ⟨s2, hs2⟩ : ∃ s, Hid (maskL (L.getD (3 * k + 2) []) = s) := ⟨_, rfl⟩
      rw [hs0.out] at hc0
      rw [hs1.out] at hc1
      rw [hs2.out] at hc2
      have hA1 := below_al wr (.cells #[.int .u16 (s0 : Int), .int .u16 (s1 : Int), .int .u16 (s2 : Int)] 91)
      have HI1 := hide (hin.out.grow hA1)
      have hSM : wr.heap.size ≠ M := by have := hin.out.ltM; omega
      have hVM := hin.out.ne
      have HC := hide (show (wr.alloc (.cells #[.int .u16 (s0 : Int), .int .u16 (s1 : Int), .int .u16 (s2 : Int)] 91)).cell? ⟨wr.heap.size, 0, none⟩ = some (.int .u16 s0) ∧ (wr.alloc (.cells #[.int .u16 (s0 : Int), .int .u16 (s1 : Int), .int .u16 (s2 : Int)] 91)).cell? ⟨wr.heap.size, 1, none⟩ = some (.int .u16 s1) by simp)
      have HSM := hide (turn_sets HG.out hlt hs0.out hs1.out)
      clear hin hA1
      go_wp2_with fail
      clear hc0 hc1 hc2
      generalize wr.alloc (.cells #[.int .u16 (s0 : Int), .int .u16 (s1 : Int), .int .u16 (s2 : Int)] 91) = W0 at HI1 HC ⊢
      generalize wr.heap.size = sB at HC hSM ⊢
      have hVc : W0.cell? ⟨V, 1, none⟩ = some (.slice (some ⟨M, 0, none⟩) c' c') := cell_of_row W0 V 1 _ _ _ HI1.out.var
      obtain ⟨hS0, hS1⟩ := HC.out
      have hk0 : (0 : Int) ≤ (k : Int) := by omega
      have hk1 : (k : Int) < (c' : Int) := by omega
      have HI2 := hide (HI1.out.grow (Below.refl _ W0).drew)
      clear HC HI1
      go_region_held3 (fun W => W.cell? ⟨V, 1, none⟩ = some (.slice (some ⟨M, 0, none⟩) c' c') ∧ W.cell? ⟨sB, 0, none⟩ = some (.int .u16 s0) ∧ W.cell? ⟨sB, 1, none⟩ = some (.int .u16 s1)) (first | (refine ⟨?_, ?_, ?_⟩ <;> simp only [World.cell?_drew] <;> assumption) | (apply keep3_set; assumption; assumption; assumption; assumption) | (apply keep3; assumption; assumption))
        (first
          | (go_at_call_of 60 (Value.int .u16 (s1 : Int)); refine (setList_any s1 _ HSM.out.2.1).mono ?_; rintro e v1 ⟨a1, b1, m1, c1, rfl, hg1, ho1, hbl1⟩)
          | (go_at_call_of 60 (Value.int .u16 (s0 : Int)); refine (setList_any s0 _ HSM.out.1).mono ?_; rintro e v2 ⟨a2, b2, m2, c2, rfl, hg2, ho2, hbl2⟩; obtain ⟨u0, u1, u2, hu0, hu1, hu2, hf0, hf1, hf2⟩ := ((HI2.out.grow hbl1).grow hbl2).there hlt))
      have HI3 := hide (HI2.out.step (c1 := c1) (c2 := c2) hlt hbl1 hg1 ho1 hbl2 hg2 ho2 HSM.out.2.2.2 HSM.out.2.2.1)
      clear hu0 hu1 hu2 hf0 hf1 hf2 hbl1 hg1 ho1 hbl2 hg2 ho2 HSM
      go_wp2_with fail
      go_roundw
      case rel => exact ⟨k + 1, by omega, by go_num, HI3⟩
      case measure => simp [intOf]; omega
end Go.Proofs.Ytbobppcnmpiacaa


/- What tokensOf and both GoodMarks answer, for every number of places and every list: true just where the places are in 1..16, the list is as long, and each of its numbers is in 0..50; nothing that was there is written. -/
namespace Go.Proofs.Ytbobppcnmpiacaa
open Go.RowKit

theorem goodB_of {p : Int} {n : Nat} {xs : List Int} (hl : xs.length = n) (hp : inB p 1 16 = true) (hn : (n : Int) = p) : goodB p xs = allB xs 0 50 := by
  simp [goodB, hp, hl, hn]

theorem goodB_p {p : Int} {xs : List Int} (hp : inB p 1 16 = false) : goodB p xs = false := by simp [goodB, hp]

theorem goodB_n {p : Int} {n : Nat} {xs : List Int} (hl : xs.length = n) (hn : ¬ (n : Int) = p) : goodB p xs = false := by
  simp [goodB, hl, hn]

theorem inB_le {p : Int} {n : Nat} (hp : inB p 1 16 = true) (hn : (n : Int) = p) : 1 ≤ n ∧ n ≤ 16 := by
  simp [inB] at hp; omega

set_option maxHeartbeats 400000 in
theorem tokens_any (p : Int) (a : Option Addr) (n ca : Nat) (xs : List Int) (w : World) (ha : Row w a n xs) (_hn : n ≤ 1048576) :
    Calls Try.prog 74 #[.int .i64 p, .slice a n ca] w fun e w' => TokEnd (goodB p xs) xs n w e w' := by
  by_cases hp : inB p 1 16 = true
  · by_cases hnp : (n : Int) = p
    · exact tokens_run _ p a n ca xs w ha hp hnp (inB_le hp hnp).2 (goodB_of ha.1 hp hnp)
    · have hd : ((n : Int) != p) = true := by simp [hnp]
      have HG : Hid (goodB p xs = false) := goodB_n ha.1 hnp
      clear hnp ha
      go_enter Try.func74, Try.ntmps74
      go_wp2_with (go_at_call 77; refine (goodPlaces_any _ _).mono ?_; rintro e w' ⟨rfl, rfl⟩)
      exact bodyPost_ret (v := .tuple #[.agg #[.int .u8 0, .int .u8 0, .int .u8 0, .int .u8 0, .int .u8 0, .int .u8 0, .int .u8 0, .int .u8 0, .int .u8 0, .int .u8 0, .int .u8 0, .int .u8 0, .int .u8 0, .int .u8 0, .int .u8 0, .int .u8 0], .bool false]) (by simp [results, Try.results74, go_sem]) rfl (tokEnd_no HG.out (below_two _ _ _))
  · have hp' : inB p 1 16 = false := by simpa using hp
    have HG : Hid (goodB p xs = false) := goodB_p hp'
    clear hp ha
    go_enter Try.func74, Try.ntmps74
    go_wp2_with (go_at_call 77; refine (goodPlaces_any _ _).mono ?_; rintro e w' ⟨rfl, rfl⟩)
    exact bodyPost_ret (v := .tuple #[.agg #[.int .u8 0, .int .u8 0, .int .u8 0, .int .u8 0, .int .u8 0, .int .u8 0, .int .u8 0, .int .u8 0, .int .u8 0, .int .u8 0, .int .u8 0, .int .u8 0, .int .u8 0, .int .u8 0, .int .u8 0, .int .u8 0], .bool false]) (by simp [results, Try.results74, go_sem]) rfl (tokEnd_no HG.out (below_two _ _ _))

/-- A call that answers a bool and writes into nothing that was there. -/
def BoolEnd (b : Bool) (w : World) (e : Ending) (w' : World) : Prop := e = .returned (.bool b) ∧ Below w.heap.size w w'


def AllUpto (xs : List Int) (lo hi : Int) (k : Nat) : Prop := allB (xs.take k) lo hi = true

theorem AllUpto.step {xs : List Int} {lo hi : Int} {k : Nat} {x : Int} (h : AllUpto xs lo hi k) (hx : Hid (xs[k]? = some x)) (hi' : inB x lo hi = true) : AllUpto xs lo hi (k + 1) := by
  unfold AllUpto allB at *
  rw [List.take_add_one, hx.out, List.all_append, h]
  simp [hi']

theorem AllUpto.done {xs : List Int} {lo hi : Int} {n : Nat} (h : AllUpto xs lo hi n) (hl : xs.length = n) : allB xs lo hi = true := by
  unfold AllUpto at h
  rwa [List.take_of_length_le (by omega)] at h

theorem allB_no {xs : List Int} {lo hi : Int} {k : Nat} {x : Int} (hx : Hid (xs[k]? = some x)) (hi' : inB x lo hi = false) : allB xs lo hi = false := by
  unfold allB
  rw [List.all_eq_false]
  exact ⟨x, List.mem_of_getElem? hx.out, by simp [hi']⟩

set_option maxHeartbeats 400000 in
theorem all_any (a : Option Addr) (n ca : Nat) (xs : List Int) (lo hi : Int) (w : World) (ha : Row w a n xs) (hn : n ≤ 1048576) :
    Calls Try.prog 46 #[.slice a n ca, .int .i64 lo, .int .i64 hi] w fun e w' => e = .returned (.bool (allB xs lo hi)) ∧ w' = w := by
  go_enter Try.func46, Try.ntmps46
  go_wp2
  go_loop [11] (fun i => ∃ k : Nat, k ≤ n ∧ i = .int .i64 k ∧ AllUpto xs lo hi k) (fun i => n - (intOf i).toNat)
  case atStart => exact ⟨0, Nat.zero_le _, rfl, rfl⟩
  case round =>
    obtain ⟨k, hk, rfl, hu⟩ := hrel
    by_cases hlt : k < n
    · obtain ⟨b1, o1, x, rfl, hl1, hc1, H1⟩ := ha.at hlt
      clear ha
      by_cases hi' : inB x lo hi = true
      · have HU := hu.step H1 hi'
        clear hu H1
        go_wp2_with (go_at_call 53; refine (in_any _ _ _ _).mono ?_; rintro e w' ⟨rfl, rfl⟩)
        go_round
        case rel => exact ⟨k + 1, by omega, by go_num, HU⟩
        case measure => simp [intOf]; omega
      · have hi'' : inB x lo hi = false := by simpa using hi'
        have HA := hide (allB_no H1 hi'')
        clear hu H1 hi'
        go_wp2_with (go_at_call 53; refine (in_any _ _ _ _).mono ?_; rintro e w' ⟨rfl, rfl⟩)
        go_ret
        exact ⟨ret_bool HA.out.symm, rfl⟩
    · have hk' : k = n := by omega
      subst hk'
      have HA := hide (hu.done ha.1)
      go_wp2
      go_ret
      exact ⟨ret_bool HA.out.symm, rfl⟩

set_option maxHeartbeats 400000 in
theorem goodS_any (p : Int) (a : Option Addr) (n ca : Nat) (xs : List Int) (w : World) (ha : Row w a n xs) (hn : n ≤ 1048576) :
    Calls Try.prog 56 #[.int .i64 p, .slice a n ca] w fun e w' => e = .returned (.bool (goodB p xs)) ∧ w' = w := by
  by_cases hp : inB p 1 16 = true
  · by_cases hnp : (n : Int) = p
    · have hd : ((n : Int) == p) = true := by simp [hnp]
      have HG := hide (goodB_of ha.1 hp hnp)
      have HA := hide (all_any a n ca xs 0 50 w ha hn)
      clear hnp ha
      go_enter Try.func56, Try.ntmps56
      go_wp2_with (first
        | (go_at_call 48; refine (places_any _ _).mono ?_; rintro e w' ⟨rfl, rfl⟩)
        | (go_at_call 46; refine HA.out.mono ?_; rintro e w' ⟨rfl, rfl⟩))
      go_ret
      exact ⟨ret_bool HG.out.symm, rfl⟩
    · have hd : ((n : Int) == p) = false := by simp [hnp]
      have HG := hide (goodB_n ha.1 hnp)
      clear hnp ha
      go_enter Try.func56, Try.ntmps56
      go_wp2_with (go_at_call 48; refine (places_any _ _).mono ?_; rintro e w' ⟨rfl, rfl⟩)
      go_ret
      exact ⟨ret_bool HG.out.symm, rfl⟩
  · have hp' : inB p 1 16 = false := by simpa using hp
    have HG := hide (goodB_p (xs := xs) hp')
    clear hp ha
    go_enter Try.func56, Try.ntmps56
    go_wp2_with (go_at_call 48; refine (places_any _ _).mono ?_; rintro e w' ⟨rfl, rfl⟩)
    go_ret
    exact ⟨ret_bool HG.out.symm, rfl⟩
end Go.Proofs.Ytbobppcnmpiacaa


/- What bothTokensOf answers, for every number of places and every two lists: both arrays and true where both are good marks, else false; nothing that was there is written. -/
namespace Go.Proofs.Ytbobppcnmpiacaa
open Go.RowKit

def tokL (f : Nat → Int) : List Value := (tokF f).toList

theorem tokL_len (f : Nat → Int) : (tokL f).length = 16 := by simp [tokL, tokF_size]
theorem tokL_arr (f : Nat → Int) : (tokL f).toArray = tokF f := by simp [tokL]
theorem tokL_one (f : Nat → Int) : ∀ v ∈ tokL f, v.oneCell' = true := by
  intro v hv
  exact Array.all_eq_true_iff_forall_mem.1 (tokF_one f) v (by simpa [tokL] using hv)

theorem range_of_block {w : World} {b : Nat} {f : Nat → Int} {t : TypeId} {fr : Nat × Nat} (hb : w.heap[b]? = some (.cells (tokF f) t fr)) : w.rangeAt b 0 (tokL f) := by
  intro j v hv
  rw [cell_of_row w b (0 + j) _ t fr hb, Nat.zero_add]
  simpa [tokL] using hv

theorem there_of_block {w : World} {b : Nat} {C : Array Value} {t : TypeId} (hb : w.heap[b]? = some (.cells C t (0, 0))) (hs : C.size = 16) : w.there b 0 16 := by
  intro j hj
  refine ⟨?_, frozen_of_row w b _ C t hb⟩
  rw [cell_of_row w b (0 + j) _ t (0, 0) hb, Nat.zero_add, Array.getElem?_eq_getElem (by omega)]
  rfl

theorem setRow_same {w : World} {b : Nat} {C : Array Value} {t : TypeId} (hb : w.heap[b]? = some (.cells C t (0, 0))) (D : Array Value) : (w.setRow b D).heap[b]? = some (.cells D t (0, 0)) := by
  simp only [World.setRow, Array.getElem?_modify]
  rw [if_pos trivial, hb]
  rfl

theorem setRow_other (w : World) (b k : Nat) (D : Array Value) (h : k ≠ b) : (w.setRow b D).heap[k]? = w.heap[k]? := by
  simp only [World.setRow, Array.getElem?_modify]
  rw [if_neg (by omega)]

theorem below_setCells {B : Nat} {a w : World} (h : Below B a w) (b o : Nat) (hb : B ≤ b) (vs : List Value) : Below B a (w.setCells b o vs) := by
  induction vs generalizing w o with
  | nil => exact h
  | cons v r ih => exact ih (h.setCell hb v) (o + 1)

theorem results_cells_tmp {fn : Func} {p q u : Tmp} {ty tz : TypeId} (h : fn.results = #[.cell p ty, .cell q tz, .tmp u]) (tmps : Array Value) (P : Program) (w : World) :
    (results fn tmps).run P w =
      ((asAddr (tmps.getD p undef)).run P w).andThen fun a w₁ => ((loadVar ty a).run P w₁).andThen fun v w₂ =>
        ((asAddr (tmps.getD q undef)).run P w₂).andThen fun b w₃ => ((loadVar tz b).run P w₃).andThen fun v' w₄ => .ok (.tuple #[v, v', tmps.getD u undef]) w₄ := by
  simp only [results, h]
  simp [Sem.run_bind, Result.andThen]

theorem cons_store {P : Program} {md : Region.Mode} {ops : Array Oper} {Q : Exit → Act → World → Prop} {fuel : Nat} {listed : Array Bool} {a : Act} {w : World} {i : Nat} {o : Oper} {rs : List Nat} (ho : ops[i]? = some o)
    (hgd : o.guard = none) (hd : o.dst = none) (ty : TypeId) (x y : Operand) (hop : o.op = .store ty x y)
    (g : Nat) (cells : Array Value) (hx : a.eval x = .pointer (some ⟨g, 0, none⟩)) (hy : a.eval y = .agg cells)
    (t : TypeId) (old : Array Value) (hg : w.heap[g]? = some (.cells old t (0, 0))) (hi : (P.info? ty).map (·.size) = some cells.size)
    (hold : old.size = cells.size) (h1 : cells.all (·.oneCell') = true)
    (h : wpAny P md ops Q fuel (listed.setIfInBounds i true) a (w.setRow g cells))
    (hs : AllReady P md ops Q fuel listed a w rs) : AllReady P md ops Q fuel listed a w (i :: rs) := by
  refine AllReady.cons ho (fun K hK => ?_) hs
  rw [if_pos (by simp [Region.wanted, hgd])]
  refine wp_store_row ty x y hop g cells hx hy t old hg hi hold h1 (hK _ _ ?_)
  rw [hd]
  exact h

theorem cons_load {P : Program} {md : Region.Mode} {ops : Array Oper} {Q : Exit → Act → World → Prop} {fuel : Nat} {listed : Array Bool} {a : Act} {w : World} {i : Nat} {o : Oper} {rs : List Nat} (ho : ops[i]? = some o)
    (hgd : o.guard = none) (d : Option Tmp) (hd : o.dst = d) (ty : TypeId) (x : Operand) (hop : o.op = .load ty x)
    (g : Nat) (cells : Array Value) (hx : a.eval x = .pointer (some ⟨g, 0, none⟩))
    (t : TypeId) (n : Nat) (e : TypeId) (hu : P.underlying ty = some (.array n e)) (hg : w.heap[g]? = some (.cells cells t (0, 0))) (hi : (P.info? ty).map (·.size) = some cells.size)
    (h : wpAny P md ops Q fuel (listed.setIfInBounds i true) (a.put d (.agg cells)) w)
    (hs : AllReady P md ops Q fuel listed a w rs) : AllReady P md ops Q fuel listed a w (i :: rs) := by
  refine AllReady.cons ho (fun K hK => ?_) hs
  rw [if_pos (by simp [Region.wanted, hgd])]
  refine wp_load_row ty x hop g hx t cells (0, 0) _ hg hu rfl hi (hK _ _ ?_)
  rw [hd]
  exact h

theorem cons_assign {P : Program} {md : Region.Mode} {ops : Array Oper} {Q : Exit → Act → World → Prop} {fuel : Nat} {listed : Array Bool} {a : Act} {w : World} {i : Nat} {o : Oper} {rs : List Nat} (ho : ops[i]? = some o)
    (hgd : o.guard = none) (d : Option Tmp) (hd : o.dst = d) (x : Operand) (hop : o.op = .assign x)
    (h : wpAny P md ops Q fuel (listed.setIfInBounds i true) (a.put d (a.eval x)) w)
    (hs : AllReady P md ops Q fuel listed a w rs) : AllReady P md ops Q fuel listed a w (i :: rs) := by
  refine AllReady.cons ho (fun K hK => ?_) hs
  rw [if_pos (by simp [Region.wanted, hgd])]
  unfold Oper.wp
  simp only [execOp, hop, Sem.run_pure]
  refine hK _ _ ?_
  rw [hd]
  exact h

set_option maxRecDepth 10000 in
theorem both_results {fn : Func} (hr : fn.results = #[.cell 6 68, .cell 7 68, .tmp 8]) (tmps : Array Value) (W : World) (b6 b7 : Nat) (f g : Nat → Int) (v : Value)
    (h6 : tmps.getD 6 undef = .pointer (some ⟨b6, 0, none⟩)) (h7 : tmps.getD 7 undef = .pointer (some ⟨b7, 0, none⟩)) (h8 : tmps.getD 8 undef = v)
    (q6 : W.heap[b6]? = some (.cells (tokF f) 68 (0, 0))) (q7 : W.heap[b7]? = some (.cells (tokF g) 68 (0, 0))) :
    (results fn tmps).run Try.prog W = .ok (.tuple #[.agg (tokF f), .agg (tokF g), v]) W := by
  refine (results_cells_tmp hr _ _ _).trans ?_
  rw [h6, h7, h8]
  show ((loadVar 68 ⟨b6, 0, none⟩).run Try.prog W).andThen _ = _
  rw [run_loadVar_row _ _ 68 68 (tokF f) (0, 0) _ q6 Try.underlying68 rfl (by rw [tokF_size]; exact Try.size68)]
  show ((loadVar 68 ⟨b7, 0, none⟩).run Try.prog W).andThen _ = _
  rw [run_loadVar_row _ _ 68 68 (tokF g) (0, 0) _ q7 Try.underlying68 rfl (by rw [tokF_size]; exact Try.size68)]
  rfl

theorem below_rows {B : Nat} {w V : World} (h : Below B w V) (b c : Nat) (hb : B ≤ b) (hc : B ≤ c) (C D : Array Value) : Below B w ((V.drew.setRow b C).setRow c D) :=
  below_setRow (below_setRow h.drew _ hb _) _ hc _

theorem lit_one : (#[.int .u8 0, .int .u8 0, .int .u8 0, .int .u8 0, .int .u8 0, .int .u8 0, .int .u8 0, .int .u8 0, .int .u8 0, .int .u8 0, .int .u8 0, .int .u8 0, .int .u8 0, .int .u8 0, .int .u8 0, .int .u8 0] : Array Value).all (·.oneCell') = true := by
  rw [← packOf_zero []]; exact packOf_one _ _

def BothEnd (g : Bool) (xs ys : List Int) (n m : Nat) (w : World) (e : Ending) (w' : World) : Prop :=
  ∃ k l, e = .returned (.tuple #[.agg (packOf xs k), .agg (packOf ys l), .bool g]) ∧ Hid (g = true → k = n ∧ l = m) ∧ Below w.heap.size w w'

set_option maxRecDepth 10000 in
set_option maxHeartbeats 1000000 in
theorem both_run (ga gb : Bool) (p : Int) (a b : Option Addr) (n m ca cb : Nat) (xs ys : List Int) (w : World) (ha : Row w a n xs) (hb : Row w b m ys) (hn : n ≤ 1048576) (hm : m ≤ 1048576)
    (hga : Hid (goodB p xs = ga)) (hgb : Hid (goodB p ys = gb)) :
    Calls Try.prog 70 #[.int .i64 p, .slice a n ca, .slice b m cb] w fun e w' => BothEnd (ga && gb) xs ys n m w e w' := by
  have HA := hide ha
  have HB := hide hb
  clear ha hb
  go_enter Try.func70, Try.ntmps70
  go_wp2_with fail
  refine (tokens_any p a n ca xs _ ((HA.out.alloc _).alloc _) hn).mono ?_
  rintro e w1 ⟨k, rfl, hk, hb1⟩
  rw [hga.out]
  rw [hga.out] at hk
  have hz1 : w.heap.size + 2 ≤ w1.heap.size := by have := hb1.size; simp at this; omega
  have q6 : w1.heap[w.heap.size]? = some (.cells #[.int .u8 0, .int .u8 0, .int .u8 0, .int .u8 0, .int .u8 0, .int .u8 0, .int .u8 0, .int .u8 0, .int .u8 0, .int .u8 0, .int .u8 0, .int .u8 0, .int .u8 0, .int .u8 0, .int .u8 0, .int .u8 0] 68 (0, 0)) := (hb1.block _ (by simp; omega)).trans (heap_alloc2_old _ _ _)
  have q7 : w1.heap[w.heap.size + 1]? = some (.cells #[.int .u8 0, .int .u8 0, .int .u8 0, .int .u8 0, .int .u8 0, .int .u8 0, .int .u8 0, .int .u8 0, .int .u8 0, .int .u8 0, .int .u8 0, .int .u8 0, .int .u8 0, .int .u8 0, .int .u8 0, .int .u8 0] 68 (0, 0)) := (hb1.block _ (by simp)).trans (heap_alloc2_new _ _ _)
  have hbw1 : Below w.heap.size w w1 := (below_two w _ _).trans (hb1.mono (by simp; omega))
  clear hb1
  have hg0 := heap_alloc_new w1 (.cells #[.int .u8 0, .int .u8 0, .int .u8 0, .int .u8 0, .int .u8 0, .int .u8 0, .int .u8 0, .int .u8 0, .int .u8 0, .int .u8 0, .int .u8 0, .int .u8 0, .int .u8 0, .int .u8 0, .int .u8 0, .int .u8 0] 68)
  go_wp2_with (first
    | refine wpList_store_row rfl 68 _ _ rfl _ _ rfl rfl 68 _ hg0 (by rw [packOf_size]; exact Try.size68) (by rw [packOf_size]; rfl) (packOf_one _ _) ?_)
  have h9 := setRow_same hg0 (packOf xs k)
  have q6' : ((w1.alloc (.cells #[.int .u8 0, .int .u8 0, .int .u8 0, .int .u8 0, .int .u8 0, .int .u8 0, .int .u8 0, .int .u8 0, .int .u8 0, .int .u8 0, .int .u8 0, .int .u8 0, .int .u8 0, .int .u8 0, .int .u8 0, .int .u8 0] 68)).setRow w1.heap.size (packOf xs k)).heap[w.heap.size]? = some (.cells #[.int .u8 0, .int .u8 0, .int .u8 0, .int .u8 0, .int .u8 0, .int .u8 0, .int .u8 0, .int .u8 0, .int .u8 0, .int .u8 0, .int .u8 0, .int .u8 0, .int .u8 0, .int .u8 0, .int .u8 0, .int .u8 0] 68 (0, 0)) := by
    rw [setRow_other _ _ _ _ (by omega), Below.heap_alloc _ _ _ (by omega)]; exact q6
  have q7' : ((w1.alloc (.cells #[.int .u8 0, .int .u8 0, .int .u8 0, .int .u8 0, .int .u8 0, .int .u8 0, .int .u8 0, .int .u8 0, .int .u8 0, .int .u8 0, .int .u8 0, .int .u8 0, .int .u8 0, .int .u8 0, .int .u8 0, .int .u8 0] 68)).setRow w1.heap.size (packOf xs k)).heap[w.heap.size + 1]? = some (.cells #[.int .u8 0, .int .u8 0, .int .u8 0, .int .u8 0, .int .u8 0, .int .u8 0, .int .u8 0, .int .u8 0, .int .u8 0, .int .u8 0, .int .u8 0, .int .u8 0, .int .u8 0, .int .u8 0, .int .u8 0, .int .u8 0] 68 (0, 0)) := by
    rw [setRow_other _ _ _ _ (by omega), Below.heap_alloc _ _ _ (by omega)]; exact q7
  have hbW := below_setRow (hbw1.alloc hbw1.size (.cells #[.int .u8 0, .int .u8 0, .int .u8 0, .int .u8 0, .int .u8 0, .int .u8 0, .int .u8 0, .int .u8 0, .int .u8 0, .int .u8 0, .int .u8 0, .int .u8 0, .int .u8 0, .int .u8 0, .int .u8 0, .int .u8 0] 68)) w1.heap.size (by omega) (packOf xs k)
  have hzW : ((w1.alloc (.cells #[.int .u8 0, .int .u8 0, .int .u8 0, .int .u8 0, .int .u8 0, .int .u8 0, .int .u8 0, .int .u8 0, .int .u8 0, .int .u8 0, .int .u8 0, .int .u8 0, .int .u8 0, .int .u8 0, .int .u8 0, .int .u8 0] 68)).setRow w1.heap.size (packOf xs k)).heap.size = w1.heap.size + 1 := by simp
  clear q6 q7 hbw1 hg0
  generalize ((w1.alloc (.cells #[.int .u8 0, .int .u8 0, .int .u8 0, .int .u8 0, .int .u8 0, .int .u8 0, .int .u8 0, .int .u8 0, .int .u8 0, .int .u8 0, .int .u8 0, .int .u8 0, .int .u8 0, .int .u8 0, .int .u8 0, .int .u8 0] 68)).setRow w1.heap.size (packOf xs k)) = W at *
  generalize w1.heap.size = B9 at *
  clear w1
  refine (tokens_any p b m cb ys _ (HB.out.below hbW) hm).mono ?_
  rintro e w2 ⟨l, rfl, hl, hb2⟩
  rw [hgb.out]
  rw [hgb.out] at hl
  have hz2 : B9 + 1 ≤ w2.heap.size := by have := hb2.size; omega
  have p6 : w2.heap[w.heap.size]? = some (.cells #[.int .u8 0, .int .u8 0, .int .u8 0, .int .u8 0, .int .u8 0, .int .u8 0, .int .u8 0, .int .u8 0, .int .u8 0, .int .u8 0, .int .u8 0, .int .u8 0, .int .u8 0, .int .u8 0, .int .u8 0, .int .u8 0] 68 (0, 0)) := (hb2.block _ (by omega)).trans q6'
  have p7 : w2.heap[w.heap.size + 1]? = some (.cells #[.int .u8 0, .int .u8 0, .int .u8 0, .int .u8 0, .int .u8 0, .int .u8 0, .int .u8 0, .int .u8 0, .int .u8 0, .int .u8 0, .int .u8 0, .int .u8 0, .int .u8 0, .int .u8 0, .int .u8 0, .int .u8 0] 68 (0, 0)) := (hb2.block _ (by omega)).trans q7'
  have p9 : w2.heap[B9]? = some (.cells (packOf xs k) 68 (0, 0)) := (hb2.block _ (by omega)).trans h9
  have hbw2 : Below w.heap.size w w2 := hbW.trans (hb2.mono (by omega))
  clear hb2 h9 q6' q7' hbW hzW W
  have hg0 := heap_alloc_new w2 (.cells #[.int .u8 0, .int .u8 0, .int .u8 0, .int .u8 0, .int .u8 0, .int .u8 0, .int .u8 0, .int .u8 0, .int .u8 0, .int .u8 0, .int .u8 0, .int .u8 0, .int .u8 0, .int .u8 0, .int .u8 0, .int .u8 0] 68)
  have h11 := setRow_same hg0 (packOf ys l)
  have r6 : ((w2.alloc (.cells #[.int .u8 0, .int .u8 0, .int .u8 0, .int .u8 0, .int .u8 0, .int .u8 0, .int .u8 0, .int .u8 0, .int .u8 0, .int .u8 0, .int .u8 0, .int .u8 0, .int .u8 0, .int .u8 0, .int .u8 0, .int .u8 0] 68)).setRow w2.heap.size (packOf ys l)).heap[w.heap.size]? = some (.cells #[.int .u8 0, .int .u8 0, .int .u8 0, .int .u8 0, .int .u8 0, .int .u8 0, .int .u8 0, .int .u8 0, .int .u8 0, .int .u8 0, .int .u8 0, .int .u8 0, .int .u8 0, .int .u8 0, .int .u8 0, .int .u8 0] 68 (0, 0)) := by
    rw [setRow_other _ _ _ _ (by omega), Below.heap_alloc _ _ _ (by omega)]; exact p6
  have r7 : ((w2.alloc (.cells #[.int .u8 0, .int .u8 0, .int .u8 0, .int .u8 0, .int .u8 0, .int .u8 0, .int .u8 0, .int .u8 0, .int .u8 0, .int .u8 0, .int .u8 0, .int .u8 0, .int .u8 0, .int .u8 0, .int .u8 0, .int .u8 0] 68)).setRow w2.heap.size (packOf ys l)).heap[w.heap.size + 1]? = some (.cells #[.int .u8 0, .int .u8 0, .int .u8 0, .int .u8 0, .int .u8 0, .int .u8 0, .int .u8 0, .int .u8 0, .int .u8 0, .int .u8 0, .int .u8 0, .int .u8 0, .int .u8 0, .int .u8 0, .int .u8 0, .int .u8 0] 68 (0, 0)) := by
    rw [setRow_other _ _ _ _ (by omega), Below.heap_alloc _ _ _ (by omega)]; exact p7
  have r9 : ((w2.alloc (.cells #[.int .u8 0, .int .u8 0, .int .u8 0, .int .u8 0, .int .u8 0, .int .u8 0, .int .u8 0, .int .u8 0, .int .u8 0, .int .u8 0, .int .u8 0, .int .u8 0, .int .u8 0, .int .u8 0, .int .u8 0, .int .u8 0] 68)).setRow w2.heap.size (packOf ys l)).heap[B9]? = some (.cells (packOf xs k) 68 (0, 0)) := by
    rw [setRow_other _ _ _ _ (by omega), Below.heap_alloc _ _ _ (by omega)]; exact p9
  have hbV := below_setRow (hbw2.alloc hbw2.size (.cells #[.int .u8 0, .int .u8 0, .int .u8 0, .int .u8 0, .int .u8 0, .int .u8 0, .int .u8 0, .int .u8 0, .int .u8 0, .int .u8 0, .int .u8 0, .int .u8 0, .int .u8 0, .int .u8 0, .int .u8 0, .int .u8 0] 68)) w2.heap.size (by omega) (packOf ys l)
  clear p6 p7 p9 hbw2
  have HK := hk
  have HL := hl
  by_cases hg : (ga && gb) = true
  · obtain ⟨rfl, rfl⟩ : ga = true ∧ gb = true := by simpa using hg
    clear hg
    go_wp2_with (refine wpList_store_row rfl 68 _ _ rfl _ _ rfl rfl 68 _ hg0 (by rw [packOf_size]; exact Try.size68) (by rw [packOf_size]; rfl) (packOf_one _ _) ?_)
    clear hg0
    generalize ((w2.alloc (.cells #[.int .u8 0, .int .u8 0, .int .u8 0, .int .u8 0, .int .u8 0, .int .u8 0, .int .u8 0, .int .u8 0, .int .u8 0, .int .u8 0, .int .u8 0, .int .u8 0, .int .u8 0, .int .u8 0, .int .u8 0, .int .u8 0] 68)).setRow w2.heap.size (packOf ys l)) = V at *
    generalize w2.heap.size = B11 at *
    clear w2
    have r7s : (V.setRow w.heap.size (packOf xs k)).heap[w.heap.size + 1]? = some (.cells #[.int .u8 0, .int .u8 0, .int .u8 0, .int .u8 0, .int .u8 0, .int .u8 0, .int .u8 0, .int .u8 0, .int .u8 0, .int .u8 0, .int .u8 0, .int .u8 0, .int .u8 0, .int .u8 0, .int .u8 0, .int .u8 0] 68 (0, 0)) := by
      rw [setRow_other _ _ _ _ (by omega)]; exact r7
    have r9s : (V.setRow w.heap.size (packOf xs k)).heap[B9]? = some (.cells (packOf xs k) 68 (0, 0)) := by
      rw [setRow_other _ _ _ _ (by omega)]; exact r9
    have r11s : (V.setRow w.heap.size (packOf xs k)).heap[B11]? = some (.cells (packOf ys l) 68 (0, 0)) := by
      rw [setRow_other _ _ _ _ (by omega)]; exact h11
    have HV := hide hbV
    clear hbV hk hl
    refine wp_region_any (by kernel_rfl) ?_
    refine wpAny_ready (rs := [0, 1]) (by kernel_rfl) (by simp) ?_
    refine cons_load rfl rfl (some 33) rfl 68 (.tmp 9) rfl B9 (packOf xs k) rfl 68 _ _ Try.underlying68 r9 (by rw [packOf_size]; exact Try.size68) ?_ (cons_load rfl rfl (some 34) rfl 68 (.tmp 11) rfl B11 (packOf ys l) rfl 68 _ _ Try.underlying68 h11 (by rw [packOf_size]; exact Try.size68) ?_ AllReady.nil)
    · refine wpAny_ready (rs := [1, 2]) (by kernel_rfl) (by simp) ?_
      refine cons_load rfl rfl (some 34) rfl 68 (.tmp 11) rfl B11 (packOf ys l) rfl 68 _ _ Try.underlying68 h11 (by rw [packOf_size]; exact Try.size68) ?_ (cons_store rfl rfl rfl 68 (.tmp 6) (.tmp 33) rfl w.heap.size (packOf xs k) rfl rfl 68 _ r6 (by rw [packOf_size]; exact Try.size68) (by rw [packOf_size]; rfl) (packOf_one _ _) ?_ AllReady.nil)
      · refine wpAny_ready (rs := [2]) (by kernel_rfl) (by simp) ?_
        refine cons_store rfl rfl rfl 68 (.tmp 6) (.tmp 33) rfl w.heap.size (packOf xs k) rfl rfl 68 _ r6 (by rw [packOf_size]; exact Try.size68) (by rw [packOf_size]; rfl) (packOf_one _ _) ?_ AllReady.nil
        refine wpAny_ready (rs := [3]) (by kernel_rfl) (by simp) ?_
        refine cons_store rfl rfl rfl 68 (.tmp 7) (.tmp 34) rfl (w.heap.size + 1) (packOf ys l) rfl rfl 68 _ r7s (by rw [packOf_size]; exact Try.size68) (by rw [packOf_size]; rfl) (packOf_one _ _) ?_ AllReady.nil
        refine wpAny_ready (rs := [4]) (by kernel_rfl) (by simp) ?_
        refine cons_assign rfl rfl (some 8) rfl (.const (.bool true)) rfl ?_ AllReady.nil
        refine wpAny_done (by kernel_rfl) ?_ _
        go_wp2
        refine bodyPost_ret (v := .tuple #[.agg (packOf xs k), .agg (packOf ys l), .bool true]) ?_ rfl ⟨k, l, rfl, fun _ => ⟨HK.out trivial, HL.out trivial⟩, below_rows HV.out _ _ (Nat.le_refl _) (Nat.le_succ _) _ _⟩
        exact both_results Try.results70 _ _ w.heap.size (w.heap.size + 1) (fOf xs k) (fOf ys l) _ rfl rfl rfl ((setRow_other _ _ _ _ (by omega)).trans (setRow_same (w := V.drew) r6 _)) (setRow_same r7s _)
      · refine wpAny_ready (rs := [1]) (by kernel_rfl) (by simp) ?_
        refine cons_load rfl rfl (some 34) rfl 68 (.tmp 11) rfl B11 (packOf ys l) rfl 68 _ _ Try.underlying68 r11s (by rw [packOf_size]; exact Try.size68) ?_ AllReady.nil
        refine wpAny_ready (rs := [3]) (by kernel_rfl) (by simp) ?_
        refine cons_store rfl rfl rfl 68 (.tmp 7) (.tmp 34) rfl (w.heap.size + 1) (packOf ys l) rfl rfl 68 _ r7s (by rw [packOf_size]; exact Try.size68) (by rw [packOf_size]; rfl) (packOf_one _ _) ?_ AllReady.nil
        refine wpAny_ready (rs := [4]) (by kernel_rfl) (by simp) ?_
        refine cons_assign rfl rfl (some 8) rfl (.const (.bool true)) rfl ?_ AllReady.nil
        refine wpAny_done (by kernel_rfl) ?_ _
        go_wp2
        refine bodyPost_ret (v := .tuple #[.agg (packOf xs k), .agg (packOf ys l), .bool true]) ?_ rfl ⟨k, l, rfl, fun _ => ⟨HK.out trivial, HL.out trivial⟩, below_rows HV.out _ _ (Nat.le_refl _) (Nat.le_succ _) _ _⟩
        exact both_results Try.results70 _ _ w.heap.size (w.heap.size + 1) (fOf xs k) (fOf ys l) _ rfl rfl rfl ((setRow_other _ _ _ _ (by omega)).trans (setRow_same (w := V.drew) r6 _)) (setRow_same r7s _)
    · refine wpAny_ready (rs := [0]) (by kernel_rfl) (by simp) ?_
      refine cons_load rfl rfl (some 33) rfl 68 (.tmp 9) rfl B9 (packOf xs k) rfl 68 _ _ Try.underlying68 r9 (by rw [packOf_size]; exact Try.size68) ?_ AllReady.nil
      refine wpAny_ready (rs := [2]) (by kernel_rfl) (by simp) ?_
      refine cons_store rfl rfl rfl 68 (.tmp 6) (.tmp 33) rfl w.heap.size (packOf xs k) rfl rfl 68 _ r6 (by rw [packOf_size]; exact Try.size68) (by rw [packOf_size]; rfl) (packOf_one _ _) ?_ AllReady.nil
      refine wpAny_ready (rs := [3]) (by kernel_rfl) (by simp) ?_
      refine cons_store rfl rfl rfl 68 (.tmp 7) (.tmp 34) rfl (w.heap.size + 1) (packOf ys l) rfl rfl 68 _ r7s (by rw [packOf_size]; exact Try.size68) (by rw [packOf_size]; rfl) (packOf_one _ _) ?_ AllReady.nil
      refine wpAny_ready (rs := [4]) (by kernel_rfl) (by simp) ?_
      refine cons_assign rfl rfl (some 8) rfl (.const (.bool true)) rfl ?_ AllReady.nil
      refine wpAny_done (by kernel_rfl) ?_ _
      go_wp2
      refine bodyPost_ret (v := .tuple #[.agg (packOf xs k), .agg (packOf ys l), .bool true]) ?_ rfl ⟨k, l, rfl, fun _ => ⟨HK.out trivial, HL.out trivial⟩, below_rows HV.out _ _ (Nat.le_refl _) (Nat.le_succ _) _ _⟩
      exact both_results Try.results70 _ _ w.heap.size (w.heap.size + 1) (fOf xs k) (fOf ys l) _ rfl rfl rfl ((setRow_other _ _ _ _ (by omega)).trans (setRow_same (w := V.drew) r6 _)) (setRow_same r7s _)
  · have hg' : (ga && gb) = false := by simpa using hg
    have hbr := below_setRow (below_setRow hbV w.heap.size (Nat.le_refl _) #[.int .u8 0, .int .u8 0, .int .u8 0, .int .u8 0, .int .u8 0, .int .u8 0, .int .u8 0, .int .u8 0, .int .u8 0, .int .u8 0, .int .u8 0, .int .u8 0, .int .u8 0, .int .u8 0, .int .u8 0, .int .u8 0]) (w.heap.size + 1) (Nat.le_succ _) #[.int .u8 0, .int .u8 0, .int .u8 0, .int .u8 0, .int .u8 0, .int .u8 0, .int .u8 0, .int .u8 0, .int .u8 0, .int .u8 0, .int .u8 0, .int .u8 0, .int .u8 0, .int .u8 0, .int .u8 0, .int .u8 0]
    have r7s : (((w2.alloc (.cells #[.int .u8 0, .int .u8 0, .int .u8 0, .int .u8 0, .int .u8 0, .int .u8 0, .int .u8 0, .int .u8 0, .int .u8 0, .int .u8 0, .int .u8 0, .int .u8 0, .int .u8 0, .int .u8 0, .int .u8 0, .int .u8 0] 68)).setRow w2.heap.size (packOf ys l)).setRow w.heap.size #[.int .u8 0, .int .u8 0, .int .u8 0, .int .u8 0, .int .u8 0, .int .u8 0, .int .u8 0, .int .u8 0, .int .u8 0, .int .u8 0, .int .u8 0, .int .u8 0, .int .u8 0, .int .u8 0, .int .u8 0, .int .u8 0]).heap[w.heap.size + 1]? = some (.cells #[.int .u8 0, .int .u8 0, .int .u8 0, .int .u8 0, .int .u8 0, .int .u8 0, .int .u8 0, .int .u8 0, .int .u8 0, .int .u8 0, .int .u8 0, .int .u8 0, .int .u8 0, .int .u8 0, .int .u8 0, .int .u8 0] 68 (0, 0)) := by
      rw [setRow_other _ _ _ _ (by omega)]; exact r7
    have f7 := setRow_same r7s #[.int .u8 0, .int .u8 0, .int .u8 0, .int .u8 0, .int .u8 0, .int .u8 0, .int .u8 0, .int .u8 0, .int .u8 0, .int .u8 0, .int .u8 0, .int .u8 0, .int .u8 0, .int .u8 0, .int .u8 0, .int .u8 0]
    have f6 := (setRow_other (((w2.alloc (.cells #[.int .u8 0, .int .u8 0, .int .u8 0, .int .u8 0, .int .u8 0, .int .u8 0, .int .u8 0, .int .u8 0, .int .u8 0, .int .u8 0, .int .u8 0, .int .u8 0, .int .u8 0, .int .u8 0, .int .u8 0, .int .u8 0] 68)).setRow w2.heap.size (packOf ys l)).setRow w.heap.size #[.int .u8 0, .int .u8 0, .int .u8 0, .int .u8 0, .int .u8 0, .int .u8 0, .int .u8 0, .int .u8 0, .int .u8 0, .int .u8 0, .int .u8 0, .int .u8 0, .int .u8 0, .int .u8 0, .int .u8 0, .int .u8 0]) (w.heap.size + 1) w.heap.size #[.int .u8 0, .int .u8 0, .int .u8 0, .int .u8 0, .int .u8 0, .int .u8 0, .int .u8 0, .int .u8 0, .int .u8 0, .int .u8 0, .int .u8 0, .int .u8 0, .int .u8 0, .int .u8 0, .int .u8 0, .int .u8 0] (by omega)).trans (setRow_same r6 #[.int .u8 0, .int .u8 0, .int .u8 0, .int .u8 0, .int .u8 0, .int .u8 0, .int .u8 0, .int .u8 0, .int .u8 0, .int .u8 0, .int .u8 0, .int .u8 0, .int .u8 0, .int .u8 0, .int .u8 0, .int .u8 0])
    have HF6 := hide f6
    have HF7 := hide f7
    have HBR := hide hbr
    clear f6 f7 hbr hbV
    have hE : Hid (∀ W, Below w.heap.size w W → BothEnd (ga && gb) xs ys n m w (.returned (.tuple #[.agg #[.int .u8 0, .int .u8 0, .int .u8 0, .int .u8 0, .int .u8 0, .int .u8 0, .int .u8 0, .int .u8 0, .int .u8 0, .int .u8 0, .int .u8 0, .int .u8 0, .int .u8 0, .int .u8 0, .int .u8 0, .int .u8 0], .agg #[.int .u8 0, .int .u8 0, .int .u8 0, .int .u8 0, .int .u8 0, .int .u8 0, .int .u8 0, .int .u8 0, .int .u8 0, .int .u8 0, .int .u8 0, .int .u8 0, .int .u8 0, .int .u8 0, .int .u8 0, .int .u8 0], .bool false])) W) := by
      intro W hW; rw [hg']; exact ⟨0, 0, by rw [packOf_zero, packOf_zero], fun h => by simp at h, hW⟩
    clear hg'
    by_cases h1 : ga = true
    · subst h1
      obtain rfl : gb = false := by simpa using hg
      clear hg
      go_wp2_with (first
        | refine wpList_store_row rfl 68 (.tmp 11) _ rfl _ _ rfl rfl 68 _ hg0 (by rw [packOf_size]; exact Try.size68) (by rw [packOf_size]; rfl) (packOf_one _ _) ?_
        | refine wpList_store_row rfl 68 (.tmp 6) _ rfl _ _ rfl rfl 68 _ r6 Try.size68 rfl lit_one ?_
        | refine wpList_store_row rfl 68 (.tmp 7) _ rfl _ _ rfl rfl 68 _ r7s Try.size68 rfl lit_one ?_)
      refine bodyPost_ret (v := .tuple #[.agg #[.int .u8 0, .int .u8 0, .int .u8 0, .int .u8 0, .int .u8 0, .int .u8 0, .int .u8 0, .int .u8 0, .int .u8 0, .int .u8 0, .int .u8 0, .int .u8 0, .int .u8 0, .int .u8 0, .int .u8 0, .int .u8 0], .agg #[.int .u8 0, .int .u8 0, .int .u8 0, .int .u8 0, .int .u8 0, .int .u8 0, .int .u8 0, .int .u8 0, .int .u8 0, .int .u8 0, .int .u8 0, .int .u8 0, .int .u8 0, .int .u8 0, .int .u8 0, .int .u8 0], .bool false]) ?_ rfl (hE.out _ HBR.out)
      have hx : (#[.int .u8 0, .int .u8 0, .int .u8 0, .int .u8 0, .int .u8 0, .int .u8 0, .int .u8 0, .int .u8 0, .int .u8 0, .int .u8 0, .int .u8 0, .int .u8 0, .int .u8 0, .int .u8 0, .int .u8 0, .int .u8 0] : Array Value) = tokF (fOf xs 0) := (packOf_zero xs).symm
      have f6 := HF6.out
      have f7 := HF7.out
      rw [hx] at f6 f7 ⊢
      exact both_results Try.results70 _ _ w.heap.size (w.heap.size + 1) (fOf xs 0) (fOf xs 0) (.bool false) rfl rfl rfl f6 f7
    · obtain rfl : ga = false := by simpa using h1
      clear hg h1
      go_wp2_with (first
        | refine wpList_store_row rfl 68 (.tmp 11) _ rfl _ _ rfl rfl 68 _ hg0 (by rw [packOf_size]; exact Try.size68) (by rw [packOf_size]; rfl) (packOf_one _ _) ?_
        | refine wpList_store_row rfl 68 (.tmp 6) _ rfl _ _ rfl rfl 68 _ r6 Try.size68 rfl lit_one ?_
        | refine wpList_store_row rfl 68 (.tmp 7) _ rfl _ _ rfl rfl 68 _ r7s Try.size68 rfl lit_one ?_)
      refine bodyPost_ret (v := .tuple #[.agg #[.int .u8 0, .int .u8 0, .int .u8 0, .int .u8 0, .int .u8 0, .int .u8 0, .int .u8 0, .int .u8 0, .int .u8 0, .int .u8 0, .int .u8 0, .int .u8 0, .int .u8 0, .int .u8 0, .int .u8 0, .int .u8 0], .agg #[.int .u8 0, .int .u8 0, .int .u8 0, .int .u8 0, .int .u8 0, .int .u8 0, .int .u8 0, .int .u8 0, .int .u8 0, .int .u8 0, .int .u8 0, .int .u8 0, .int .u8 0, .int .u8 0, .int .u8 0, .int .u8 0], .bool false]) ?_ rfl (hE.out _ HBR.out)
      have hx : (#[.int .u8 0, .int .u8 0, .int .u8 0, .int .u8 0, .int .u8 0, .int .u8 0, .int .u8 0, .int .u8 0, .int .u8 0, .int .u8 0, .int .u8 0, .int .u8 0, .int .u8 0, .int .u8 0, .int .u8 0, .int .u8 0] : Array Value) = tokF (fOf xs 0) := (packOf_zero xs).symm
      have f6 := HF6.out
      have f7 := HF7.out
      rw [hx] at f6 f7 ⊢
      exact both_results Try.results70 _ _ w.heap.size (w.heap.size + 1) (fOf xs 0) (fOf xs 0) (.bool false) rfl rfl rfl f6 f7
theorem both_any (p : Int) (a b : Option Addr) (n m ca cb : Nat) (xs ys : List Int) (w : World) (ha : Row w a n xs) (hb : Row w b m ys) (hn : n ≤ 1048576) (hm : m ≤ 1048576) :
    Calls Try.prog 70 #[.int .i64 p, .slice a n ca, .slice b m cb] w fun e w' => BothEnd (goodB p xs && goodB p ys) xs ys n m w e w' :=
  both_run _ _ p a b n m ca cb xs ys w ha hb hn hm rfl rfl
end Go.Proofs.Ytbobppcnmpiacaa


/- What both Covers answer, for every number of places and every two lists: whether each number of the first is at least that of the second, and true, where both are good marks, else false and false; nothing that was there is written. -/
namespace Go.Proofs.Ytbobppcnmpiacaa
open Go.RowKit
set_option maxRecDepth 10000

theorem _root_.Go.RowKit.Below.drewN {B : Nat} {a w : World} (h : Below B a w) (q : Nat) : Below B a (w.drewN q) := ⟨h.os, h.tape, h.output, h.size, h.block⟩

def getF (xs : List Int) : Nat → Int := fun i => xs.getD i 0

theorem getF_of {xs : List Int} {k : Nat} {x : Int} (h : Hid (xs[k]? = some x)) : getF xs k = x := by simp [getF, h.out]

/-- Each number of the list is in 0..50. -/
def Small (f : Nat → Int) : Prop := ∀ i, 0 ≤ f i ∧ f i ≤ 50

theorem good_parts {p : Int} {xs : List Int} (h : goodB p xs = true) : Small (getF xs) ∧ xs.length ≤ 16 ∧ 1 ≤ xs.length ∧ (xs.length : Int) = p := by
  simp only [goodB, Bool.and_eq_true, decide_eq_true_eq] at h
  obtain ⟨⟨h1, h2⟩, h3⟩ := h
  refine ⟨fun i => ?_, (inB_le h1 h2).2, (inB_le h1 h2).1, h2⟩
  unfold getF
  by_cases hi : i < xs.length
  · rw [List.getD_eq_getElem?_getD, List.getElem?_eq_getElem hi]
    have := List.all_eq_true.mp h3 xs[i] (List.getElem_mem hi)
    simp [inB] at this
    simpa using this
  · rw [List.getD_eq_getElem?_getD, List.getElem?_eq_none (by omega)]
    simp

theorem small_fOf {xs : List Int} (h : Small (getF xs)) (n : Nat) : Small (fOf xs n) := by
  intro i
  unfold fOf
  split
  · exact h i
  · omega

/-- The first k numbers of f are at least those of g. -/
def CovUpto (f g : Nat → Int) (k : Nat) : Prop := ∀ i, i < k → g i ≤ f i
def covF (f g : Nat → Int) (n : Nat) : Bool := (List.range n).all fun i => decide (g i ≤ f i)

theorem covF_yes {f g : Nat → Int} {n : Nat} (h : CovUpto f g n) : covF f g n = true := by
  simp only [covF, List.all_eq_true, List.mem_range, decide_eq_true_eq]; exact h

theorem covF_iff {f g : Nat → Int} {n : Nat} : covF f g n = true ↔ CovUpto f g n := by
  simp [covF, CovUpto]

theorem covF_no {f g : Nat → Int} {n k : Nat} (hk : k < n) (h : f k < g k) : covF f g n = false := by
  rw [Bool.eq_false_iff]
  intro hc
  have := covF_iff.mp hc k hk
  omega

theorem CovUpto.step {f g : Nat → Int} {k : Nat} (h : CovUpto f g k) (hk : g k ≤ f k) : CovUpto f g (k + 1) := by
  intro i hi
  by_cases e : i = k
  · subst e; exact hk
  · exact h i (by omega)

theorem covF_pad (xs ys : List Int) (n : Nat) (hn : n ≤ 16) : covF (fOf xs n) (fOf ys n) 16 = covF (getF xs) (getF ys) n := by
  rw [Bool.eq_iff_iff, covF_iff, covF_iff]
  constructor
  · intro h i hi
    have := h i (by omega)
    unfold fOf at this
    rw [if_pos hi, if_pos hi] at this
    exact this
  · intro h i hi
    unfold fOf
    by_cases e : i < n
    · rw [if_pos e, if_pos e]; exact h i e
    · rw [if_neg e, if_neg e]; exact Int.le_refl 0

def covB (p : Int) (xs ys : List Int) : Bool := goodB p xs && goodB p ys && covF (getF xs) (getF ys) xs.length

def CovEnd (p : Int) (xs ys : List Int) (w : World) (e : Ending) (w' : World) : Prop :=
  e = .returned (.tuple #[.bool (covB p xs ys), .bool (goodB p xs && goodB p ys)]) ∧ Below w.heap.size w w'

theorem covEnd_no {p : Int} {xs ys : List Int} {w w' : World} (h : (goodB p xs && goodB p ys) = false) (hb : Below w.heap.size w w') : CovEnd p xs ys w (.returned (.tuple #[.bool false, .bool false])) w' := by
  refine ⟨?_, hb⟩; unfold covB; rw [h]; rfl

theorem covEnd_yes {p : Int} {xs ys : List Int} {w w' : World} {c : Bool} (h : (goodB p xs && goodB p ys) = true) (hc : covF (getF xs) (getF ys) xs.length = c) (hb : Below w.heap.size w w') : CovEnd p xs ys w (.returned (.tuple #[.bool c, .bool true])) w' := by
  refine ⟨?_, hb⟩; unfold covB; rw [h, hc]; simp

theorem two_len {p : Int} {xs ys : List Int} (h : (goodB p xs && goodB p ys) = true) : xs.length = ys.length ∧ xs.length ≤ 16 := by
  rw [Bool.and_eq_true] at h
  have h1 := good_parts h.1
  have h2 := good_parts h.2
  omega

end Go.Proofs.Ytbobppcnmpiacaa
