/- TurnNet of the program: the walk. -/
import Derived.Test.YtbobppcnmpiacaaTu
namespace Go.Proofs.Ytbobppcnmpiacaa
open Go.RowKit

set_option maxHeartbeats 4000000 in
theorem turnI_any (p : Int) (a : Option Addr) (n c : Nat) (L : List (List Int)) (w : World) (h : Lists w a (3 * n) L) (hs : sizeN n L ≤ 1048576) :
    Calls Try.prog 20 #[.agg #[.int .i64 p, .slice a n c]] w fun e w' => TuEnd (turnOk p n L) p n L w e w' := by
  have HT := hide (netSteps_any p a n c L ((w.alloc (.cells #[.int .i64 p, .slice a n c] 26)).alloc (.cells #[.int .i64 0, .slice none 0 0] 26)) (h.below (below_two _ _ _)) hs)
  have HA := hide (below_two w (.cells #[.int .i64 p, .slice a n c] 26) (.cells #[.int .i64 0, .slice none 0 0] 26))
  have HR0 : Hid (((w.alloc (.cells #[.int .i64 p, .slice a n c] 26)).alloc (.cells #[.int .i64 0, .slice none 0 0] 26)).heap[w.heap.size + 1]? = some (.cells #[.int .i64 0, .slice none 0 0] 26 (0, 0))) := by
    have := heap_alloc_new (w.alloc (.cells #[.int .i64 p, .slice a n c] 26)) (.cells #[.int .i64 0, .slice none 0 0] 26)
    rw [show (w.alloc (.cells #[.int .i64 p, .slice a n c] 26)).heap.size = w.heap.size + 1 by simp] at this
    exact this
  clear h
  by_cases hg : netOk p n L = true
  rotate_left
  · have hg' : netOk p n L = false := by simpa using hg
    rw [turnOk_net hg']
    rw [hg'] at HT
    clear hg hg'
    go_enter Try.func20, Try.ntmps20
    go_wp2_with fail
    refine HT.out.mono ?_
    rintro e w2 ⟨p', a', m, c', rfl, hx, hb⟩
    have HB2 := hide (HA.out.trans (hb.mono HA.out.size))
    have hR := (hb.block (w.heap.size + 1) (by simp)).trans HR0.out
    have hr0 : w2.cell? ⟨w.heap.size + 1, 0, none⟩ = some (.int .i64 0) := cell_of_row w2 _ 0 _ _ _ hR
    have hr1 : w2.cell? ⟨w.heap.size + 1, 1, none⟩ = some (.slice none 0 0) := cell_of_row w2 _ 1 _ _ _ hR
    have hf0 : w2.frozen? ⟨w.heap.size + 1, 0, none⟩ = false := frozen_of_row w2 _ 0 _ _ hR
    have hf1 : w2.frozen? ⟨w.heap.size + 1, 1, none⟩ = false := frozen_of_row w2 _ 1 _ _ hR
    have hlr : w.heap.size + 1 < w2.heap.size := (Array.getElem?_eq_some_iff.mp hR).1
    clear hb HT hx HA HR0 hR
    go_wp2_with fail
    refine bodyPost_ret (v := .tuple #[.agg #[.int .i64 0, .slice none 0 0], .bool false]) (by simp [results, Try.results20, go_sem, hr0, hr1, hlr]) rfl ?_
    exact tuEnd_no (((HB2.out.setCell (by simp) _).setCell (by simp) _).alloc (by have := HB2.out.size; simp [World.setCell]; omega) _)
  have HR := hide (res_eq hg)
  have HG := hide hg
  have hn24 := netN hg
  have HSZ := hide (turnL_size hg)
  rw [hg] at HT
  clear hg
  have hmk := run_make_many (P := Try.prog) 24 39 _ 3 72 Try.underlying24 Try.info39 .i64 .i64 n (by omega) (by omega)
  simp only [Value.cells] at hmk
  go_enter Try.func20, Try.ntmps20
  go_wp2_with fail
  refine HT.out.mono ?_
  rintro e w2 ⟨p', a', m, c', rfl, hx, hb⟩
  obtain ⟨e1, e2, e3, B, rfl, hBs, hps⟩ := hx.out rfl
  subst e1 e2 e3
  have hA := below_al w2 (.cells #[.int .i64 p', .slice (some ⟨B, 0, none⟩) c' c'] 66)
  have HC := hide (contains_any B c' L _ (hps.grow hA) hn24)
  have HB2 := hide (HA.out.trans (hb.mono HA.out.size))
  have HR2 := hide ((hb.block (w.heap.size + 1) (by simp)).trans HR0.out)
  go_wp2_with fail
  refine HC.out.mono ?_
  rintro e w3 ⟨rfl, hb3⟩
  have HB3 := hide (HB2.out.trans ((hA.trans (hb3.mono hA.size)).mono HB2.out.size))
  have HPS := hide ((hps.grow hA).grow hb3)
  have hvl : w2.heap.size < w3.heap.size := by have := hb3.size; simp at this; omega
  have hv0 : w3.cell? ⟨w2.heap.size, 0, none⟩ = some (.int .i64 p') := by rw [hb3.cell (by simp)]; simp
  have hv1 : w3.cell? ⟨w2.heap.size, 1, none⟩ = some (.slice (some ⟨B, 0, none⟩) c' c') := by rw [hb3.cell (by simp)]; simp
  have HRW := hide (((hA.trans (hb3.mono hA.size)).block (w.heap.size + 1) (Array.getElem?_eq_some_iff.mp HR2.out).1).trans HR2.out)
  have HRS := hide ((Array.getElem?_eq_some_iff.mp HRW.out).1)
  clear HT hb hx hps hA HC hb3 hBs HR0 HR2 HA HB2
  by_cases hrm : resM c' L = true
  · have HTO := hide (turnOk_res (p := p') (show resB c' L = true by rw [← HR.out]; exact hrm))
    rw [hrm]
    have hR := HRW.out
    have hr0 : w3.cell? ⟨w.heap.size + 1, 0, none⟩ = some (.int .i64 0) := cell_of_row w3 _ 0 _ _ _ hR
    have hr1 : w3.cell? ⟨w.heap.size + 1, 1, none⟩ = some (.slice none 0 0) := cell_of_row w3 _ 1 _ _ _ hR
    have hf0 : w3.frozen? ⟨w.heap.size + 1, 0, none⟩ = false := frozen_of_row w3 _ 0 _ _ hR
    have hf1 : w3.frozen? ⟨w.heap.size + 1, 1, none⟩ = false := frozen_of_row w3 _ 1 _ _ hR
    clear hrm hR hv0 hv1 hmk
    go_wp2_with fail
    refine bodyPost_ret (v := .tuple #[.agg #[.int .i64 0, .slice none 0 0], .bool false]) (by simp [results, Try.results20, go_sem, hr0, hr1]) rfl ?_
    rw [HTO.out]
    exact tuEnd_no ((HB3.out.setCell (by simp) _).setCell (by simp) _)
  rw [show resM c' L = false by simpa using hrm]
  have HRB : Hid (resB c' L = false) := by show _ = _; rw [← HR.out]; simpa using hrm
  clear hrm HR
  go_wp2_with fail
  go_region
  all_goals go_wp2_with fail
  · have HI := hide (TuInv.first1 w3 p' c' L)
    generalize ((w3.alloc (.cells (madeCells #[.slice none 0 0, .slice none 0 0, .slice none 0 0] (c' * 3)) 39)).alloc (.cells #[.int .i64 p', .slice (some ⟨w3.heap.size, 0, none⟩) c' c'] 26)).drew = W at HI ⊢
    generalize w3.heap.size + 1 = V at HI ⊢
    generalize w3.heap.size = M at HI ⊢
    clear hv0 hv1 hmk hvl
    go_loopw [32] (fun i wr => ∃ k : Nat, k ≤ c' ∧ i = .int .i64 k ∧ Hid (TuInv w3 wr V M p' c' k L)) (fun i _ => c' - (intOf i).toNat)
    case atStart => exact ⟨0, Nat.zero_le _, rfl, HI⟩
    case round =>
      obtain ⟨k, hk, rfl, hin⟩ := hrel
      clear HI
      by_cases hlt : k < c'
      rotate_left
      · have hk' : k = c' := by omega
        subst hk'
        have hVr := hin.out.var
        have hV0 : wr.cell? ⟨V, 0, none⟩ = some (.int .i64 p') := cell_of_row wr V 0 _ _ _ hVr
        have hV1 : wr.cell? ⟨V, 1, none⟩ = some (.slice (some ⟨M, 0, none⟩) k k) := cell_of_row wr V 1 _ _ _ hVr
        have HNG := hide (show NetG wr (some ⟨M, 0, none⟩) M w3.heap.size wr.heap.size k (turnF L k) from .inr ⟨rfl, hin.out.part⟩)
        have HGN := hide (goodNetI_any p' (some ⟨M, 0, none⟩) k k (turnL k L) wr (NetG.lists (B := M) (lo := w3.heap.size) (hi := wr.heap.size) (by rw [turnL_get]; exact HNG.out) (turnL_len k L) HSZ.out) HSZ.out)
        have hlV := (Array.getElem?_eq_some_iff.mp hVr).1
        clear hVr
        go_wp2_with fail
        refine HGN.out.mono ?_
        rintro e w4 ⟨rfl, hb4⟩
        have h40 : w4.cell? ⟨V, 0, none⟩ = some (.int .i64 p') := (hb4.cell hlV).trans hV0
        have h41 : w4.cell? ⟨V, 1, none⟩ = some (.slice (some ⟨M, 0, none⟩) k k) := (hb4.cell hlV).trans hV1
        have HB4 := hide (hin.out.bel.trans (hb4.mono hin.out.bel.size))
        have hR4 := (HB4.out.block (w.heap.size + 1) HRS.out).trans HRW.out
        have hr0 : w4.cell? ⟨w.heap.size + 1, 0, none⟩ = some (.int .i64 0) := cell_of_row w4 _ 0 _ _ _ hR4
        have hr1 : w4.cell? ⟨w.heap.size + 1, 1, none⟩ = some (.slice none 0 0) := cell_of_row w4 _ 1 _ _ _ hR4
        have hf0 : w4.frozen? ⟨w.heap.size + 1, 0, none⟩ = false := frozen_of_row w4 _ 0 _ _ hR4
        have hf1 : w4.frozen? ⟨w.heap.size + 1, 1, none⟩ = false := frozen_of_row w4 _ 1 _ _ hR4
        have HBF := hide (HB3.out.trans (HB4.out.mono HB3.out.size))
        have HTO := hide (turnOk_last HG.out HRB.out)
        have HNG4 := hide (show PartG w4 M w3.heap.size wr.heap.size (3 * k) 39 (turnF L k) from hin.out.part.grow hb4)
        have HMV := hide hin.out.hM
        have H4S := hide hb4.size
        clear hV0 hV1 HGN HNG hR4 hin hb4
        cases hgt : netOk p' k (turnL k L)
        · rw [hgt] at HTO
          go_wp2_with fail
          refine bodyPost_ret (v := .tuple #[.agg #[.int .i64 0, .slice none 0 0], .bool false]) (by simp [results, Try.results20, go_sem, hr0, hr1]) rfl ?_
          rw [HTO.out]
          exact tuEnd_no ((HBF.out.setCell (by simp) _).setCell (by simp) _)
        · rw [hgt] at HTO
          go_wp2_with fail
          refine bodyPost_ret (v := .tuple #[.agg #[.int .i64 p', .slice (some ⟨M, 0, none⟩) k k], .bool true]) (by simp [results, Try.results20, go_sem, hr0, hr1]) rfl ?_
          rw [HTO.out]
          exact tuEnd_yes (B := M) (lo := w3.heap.size) (hi := wr.heap.size) (.inr ⟨rfl, HNG4.out.high (high_set2 w4 w3.heap.size (w.heap.size + 1) 0 1 _ _ HRS.out) HMV.out (Nat.le_refl _)⟩) (Nat.le_trans HB3.out.size HMV.out) HB3.out.size (by have := H4S.out; simpa [World.setCell] using this) ((HBF.out.setCell (by simp) _).setCell (by simp) _)
      obtain ⟨hc0, hc1, hc2⟩ := (HPS.out.grow hin.out.bel).at3 hlt
      obtain ⟨s0, hs0⟩ : ∃ s, Hid (maskL (L.getD (3 * k) []) = s) := ⟨_, rfl⟩
      obtain ⟨s1, hs1⟩ : ∃ s, Hid (maskL (L.getD (3 * k + 1) []) = s) := ⟨_, rfl⟩
      obtain ⟨s2, hs2⟩ : ∃ s, Hid (maskL (L.getD (3 * k + 2) []) = s) := ⟨_, rfl⟩
      rw [hs0.out] at hc0
      rw [hs1.out] at hc1
      rw [hs2.out] at hc2
      have hA1 := below_al wr (.cells #[.int .u16 (s0 : Int), .int .u16 (s1 : Int), .int .u16 (s2 : Int)] 91)
      have HI1 := hide (hin.out.grow hA1)
      have hSM : wr.heap.size ≠ M := by have := hin.out.ltM; omega
      have hVM := hin.out.ne
      have HC := hide (show (wr.alloc (.cells #[.int .u16 (s0 : Int), .int .u16 (s1 : Int), .int .u16 (s2 : Int)] 91)).cell? ⟨wr.heap.size, 0, none⟩ = some (.int .u16 s0) ∧ (wr.alloc (.cells #[.int .u16 (s0 : Int), .int .u16 (s1 : Int), .int .u16 (s2 : Int)] 91)).cell? ⟨wr.heap.size, 1, none⟩ = some (.int .u16 s1) by simp)
      have HSM := hide (turn_sets HG.out hlt hs0.out hs1.out)
      clear hin hA1
      go_wp2_with fail
      clear hc0 hc1 hc2
      generalize wr.alloc (.cells #[.int .u16 (s0 : Int), .int .u16 (s1 : Int), .int .u16 (s2 : Int)] 91) = W0 at HI1 HC ⊢
      generalize wr.heap.size = sB at HC hSM ⊢
      have hVc : W0.cell? ⟨V, 1, none⟩ = some (.slice (some ⟨M, 0, none⟩) c' c') := cell_of_row W0 V 1 _ _ _ HI1.out.var
      obtain ⟨hS0, hS1⟩ := HC.out
      have hk0 : (0 : Int) ≤ (k : Int) := by omega
      have hk1 : (k : Int) < (c' : Int) := by omega
      have HI2 := hide (HI1.out.grow (Below.refl _ W0).drew)
      clear HC HI1
      go_region_held3 (fun W => W.cell? ⟨V, 1, none⟩ = some (.slice (some ⟨M, 0, none⟩) c' c') ∧ W.cell? ⟨sB, 0, none⟩ = some (.int .u16 s0) ∧ W.cell? ⟨sB, 1, none⟩ = some (.int .u16 s1)) (first | (refine ⟨?_, ?_, ?_⟩ <;> simp only [World.cell?_drew] <;> assumption) | (apply keep3_set; assumption; assumption; assumption; assumption) | (apply keep3; assumption; assumption))
        (first
          | (go_at_call_of 60 (Value.int .u16 (s1 : Int)); refine (setList_any s1 _ HSM.out.2.1).mono ?_; rintro e v1 ⟨a1, b1, m1, c1, rfl, hg1, ho1, hbl1⟩)
          | (go_at_call_of 60 (Value.int .u16 (s0 : Int)); refine (setList_any s0 _ HSM.out.1).mono ?_; rintro e v2 ⟨a2, b2, m2, c2, rfl, hg2, ho2, hbl2⟩; obtain ⟨u0, u1, u2, hu0, hu1, hu2, hf0, hf1, hf2⟩ := ((HI2.out.grow hbl1).grow hbl2).there hlt))
      have HI3 := hide (HI2.out.step (c1 := c1) (c2 := c2) hlt hbl1 hg1 ho1 hbl2 hg2 ho2 HSM.out.2.2.2 HSM.out.2.2.1)
      clear hu0 hu1 hu2 hf0 hf1 hf2 hbl1 hg1 ho1 hbl2 hg2 ho2 HSM
      go_wp2_with fail
      go_roundw
      case rel => exact ⟨k + 1, by omega, by go_num, HI3⟩
      case measure => simp [intOf]; omega
  · have HI := hide (TuInv.first2 w3 p' c' L)
    generalize ((w3.alloc (.cells #[.int .i64 p', .slice (some ⟨w3.heap.size + 1, 0, none⟩) c' c'] 26)).alloc (.cells (madeCells #[.slice none 0 0, .slice none 0 0, .slice none 0 0] (c' * 3)) 39)).drew = W at HI ⊢
    generalize w3.heap.size + 1 = M at HI ⊢
    generalize w3.heap.size = V at HI ⊢
    clear hv0 hv1 hmk hvl
    go_loopw [32] (fun i wr => ∃ k : Nat, k ≤ c' ∧ i = .int .i64 k ∧ Hid (TuInv w3 wr V M p' c' k L)) (fun i _ => c' - (intOf i).toNat)
    case atStart => exact ⟨0, Nat.zero_le _, rfl, HI⟩
    case round =>
      obtain ⟨k, hk, rfl, hin⟩ := hrel
      clear HI
      by_cases hlt : k < c'
      rotate_left
      · have hk' : k = c' := by omega
        subst hk'
        have hVr := hin.out.var
        have hV0 : wr.cell? ⟨V, 0, none⟩ = some (.int .i64 p') := cell_of_row wr V 0 _ _ _ hVr
        have hV1 : wr.cell? ⟨V, 1, none⟩ = some (.slice (some ⟨M, 0, none⟩) k k) := cell_of_row wr V 1 _ _ _ hVr
        have HNG := hide (show NetG wr (some ⟨M, 0, none⟩) M w3.heap.size wr.heap.size k (turnF L k) from .inr ⟨rfl, hin.out.part⟩)
        have HGN := hide (goodNetI_any p' (some ⟨M, 0, none⟩) k k (turnL k L) wr (NetG.lists (B := M) (lo := w3.heap.size) (hi := wr.heap.size) (by rw [turnL_get]; exact HNG.out) (turnL_len k L) HSZ.out) HSZ.out)
        have hlV := (Array.getElem?_eq_some_iff.mp hVr).1
        clear hVr
        go_wp2_with fail
        refine HGN.out.mono ?_
        rintro e w4 ⟨rfl, hb4⟩
        have h40 : w4.cell? ⟨V, 0, none⟩ = some (.int .i64 p') := (hb4.cell hlV).trans hV0
        have h41 : w4.cell? ⟨V, 1, none⟩ = some (.slice (some ⟨M, 0, none⟩) k k) := (hb4.cell hlV).trans hV1
        have HB4 := hide (hin.out.bel.trans (hb4.mono hin.out.bel.size))
        have hR4 := (HB4.out.block (w.heap.size + 1) HRS.out).trans HRW.out
        have hr0 : w4.cell? ⟨w.heap.size + 1, 0, none⟩ = some (.int .i64 0) := cell_of_row w4 _ 0 _ _ _ hR4
        have hr1 : w4.cell? ⟨w.heap.size + 1, 1, none⟩ = some (.slice none 0 0) := cell_of_row w4 _ 1 _ _ _ hR4
        have hf0 : w4.frozen? ⟨w.heap.size + 1, 0, none⟩ = false := frozen_of_row w4 _ 0 _ _ hR4
        have hf1 : w4.frozen? ⟨w.heap.size + 1, 1, none⟩ = false := frozen_of_row w4 _ 1 _ _ hR4
        have HBF := hide (HB3.out.trans (HB4.out.mono HB3.out.size))
        have HTO := hide (turnOk_last HG.out HRB.out)
        have HNG4 := hide (show PartG w4 M w3.heap.size wr.heap.size (3 * k) 39 (turnF L k) from hin.out.part.grow hb4)
        have HMV := hide hin.out.hM
        have H4S := hide hb4.size
        clear hV0 hV1 HGN HNG hR4 hin hb4
        cases hgt : netOk p' k (turnL k L)
        · rw [hgt] at HTO
          go_wp2_with fail
          refine bodyPost_ret (v := .tuple #[.agg #[.int .i64 0, .slice none 0 0], .bool false]) (by simp [results, Try.results20, go_sem, hr0, hr1]) rfl ?_
          rw [HTO.out]
          exact tuEnd_no ((HBF.out.setCell (by simp) _).setCell (by simp) _)
        · rw [hgt] at HTO
          go_wp2_with fail
          refine bodyPost_ret (v := .tuple #[.agg #[.int .i64 p', .slice (some ⟨M, 0, none⟩) k k], .bool true]) (by simp [results, Try.results20, go_sem, hr0, hr1]) rfl ?_
          rw [HTO.out]
          exact tuEnd_yes (B := M) (lo := w3.heap.size) (hi := wr.heap.size) (.inr ⟨rfl, HNG4.out.high (high_set2 w4 w3.heap.size (w.heap.size + 1) 0 1 _ _ HRS.out) HMV.out (Nat.le_refl _)⟩) (Nat.le_trans HB3.out.size HMV.out) HB3.out.size (by have := H4S.out; simpa [World.setCell] using this) ((HBF.out.setCell (by simp) _).setCell (by simp) _)
      obtain ⟨hc0, hc1, hc2⟩ := (HPS.out.grow hin.out.bel).at3 hlt
      obtain ⟨s0, hs0⟩ : ∃ s, Hid (maskL (L.getD (3 * k) []) = s) := ⟨_, rfl⟩
      obtain ⟨s1, hs1⟩ : ∃ s, Hid (maskL (L.getD (3 * k + 1) []) = s) := ⟨_, rfl⟩
      obtain ⟨s2, hs2⟩ : ∃ s, Hid (maskL (L.getD (3 * k + 2) []) = s) := ⟨_, rfl⟩
      rw [hs0.out] at hc0
      rw [hs1.out] at hc1
      rw [hs2.out] at hc2
      have hA1 := below_al wr (.cells #[.int .u16 (s0 : Int), .int .u16 (s1 : Int), .int .u16 (s2 : Int)] 91)
      have HI1 := hide (hin.out.grow hA1)
      have hSM : wr.heap.size ≠ M := by have := hin.out.ltM; omega
      have hVM := hin.out.ne
      have HC := hide (show (wr.alloc (.cells #[.int .u16 (s0 : Int), .int .u16 (s1 : Int), .int .u16 (s2 : Int)] 91)).cell? ⟨wr.heap.size, 0, none⟩ = some (.int .u16 s0) ∧ (wr.alloc (.cells #[.int .u16 (s0 : Int), .int .u16 (s1 : Int), .int .u16 (s2 : Int)] 91)).cell? ⟨wr.heap.size, 1, none⟩ = some (.int .u16 s1) by simp)
      have HSM := hide (turn_sets HG.out hlt hs0.out hs1.out)
      clear hin hA1
      go_wp2_with fail
      clear hc0 hc1 hc2
      generalize wr.alloc (.cells #[.int .u16 (s0 : Int), .int .u16 (s1 : Int), .int .u16 (s2 : Int)] 91) = W0 at HI1 HC ⊢
      generalize wr.heap.size = sB at HC hSM ⊢
      have hVc : W0.cell? ⟨V, 1, none⟩ = some (.slice (some ⟨M, 0, none⟩) c' c') := cell_of_row W0 V 1 _ _ _ HI1.out.var
      obtain ⟨hS0, hS1⟩ := HC.out
      have hk0 : (0 : Int) ≤ (k : Int) := by omega
      have hk1 : (k : Int) < (c' : Int) := by omega
      have HI2 := hide (HI1.out.grow (Below.refl _ W0).drew)
      clear HC HI1
      go_region_held3 (fun W => W.cell? ⟨V, 1, none⟩ = some (.slice (some ⟨M, 0, none⟩) c' c') ∧ W.cell? ⟨sB, 0, none⟩ = some (.int .u16 s0) ∧ W.cell? ⟨sB, 1, none⟩ = some (.int .u16 s1)) (first | (refine ⟨?_, ?_, ?_⟩ <;> simp only [World.cell?_drew] <;> assumption) | (apply keep3_set; assumption; assumption; assumption; assumption) | (apply keep3; assumption; assumption))
        (first
          | (go_at_call_of 60 (Value.int .u16 (s1 : Int)); refine (setList_any s1 _ HSM.out.2.1).mono ?_; rintro e v1 ⟨a1, b1, m1, c1, rfl, hg1, ho1, hbl1⟩)
          | (go_at_call_of 60 (Value.int .u16 (s0 : Int)); refine (setList_any s0 _ HSM.out.1).mono ?_; rintro e v2 ⟨a2, b2, m2, c2, rfl, hg2, ho2, hbl2⟩; obtain ⟨u0, u1, u2, hu0, hu1, hu2, hf0, hf1, hf2⟩ := ((HI2.out.grow hbl1).grow hbl2).there hlt))
      have HI3 := hide (HI2.out.step (c1 := c1) (c2 := c2) hlt hbl1 hg1 ho1 hbl2 hg2 ho2 HSM.out.2.2.2 HSM.out.2.2.1)
      clear hu0 hu1 hu2 hf0 hf1 hf2 hbl1 hg1 ho1 hbl2 hg2 ho2 HSM
      go_wp2_with fail
      go_roundw
      case rel => exact ⟨k + 1, by omega, by go_num, HI3⟩
      case measure => simp [intOf]; omega
end Go.Proofs.Ytbobppcnmpiacaa
