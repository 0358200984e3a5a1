/- GoodFlow: the specification's and the program's. -/
import Derived.Test.YtnknhjiofpjbbaaWh
namespace Go.Proofs.Ytnknhjiofpjbbaa
open Go.RowKit
set_option maxRecDepth 10000

set_option maxHeartbeats 1000000 in
theorem goodFlowI_any (p s t : Int) (a : Option Addr) (n c : Nat) (L : List (List Int)) (w : World) (h : Lists w a (3 * n) L) (hs : sizeN n L ≤ 1048576) :
    Calls Try.prog 12 #[.agg #[.int .i64 p, .slice a n c, .int .i64 s, .int .i64 t]] w fun e w' => e = .returned (.bool (flowOk p n L s t)) ∧ Below w.heap.size w w' := by
  have HA := hide (below_al w (.cells #[.int .i64 p, .slice a n c, .int .i64 s, .int .i64 t] 33))
  have HF := hide (flowSteps_any p s t a n c L _ (h.below HA.out) hs)
  clear h
  go_enter Try.func12, Try.ntmps12
  go_wp2_with fail
  refine HF.out.mono ?_
  rintro e w1 ⟨p', a', m, c', s', t', rfl, hx, hb⟩
  have HB := hide (HA.out.trans (hb.mono HA.out.size))
  obtain ⟨r, hr⟩ : ∃ r, Hid (flowOk p n L s t = r) := ⟨_, rfl⟩
  rw [hr.out]
  clear hx hb HF
  go_wp2_with fail
  go_ret
  exact ⟨ret_b hr.out.symm, HB.out.alloc HB.out.size _⟩

theorem spoil_step {L : List (List Int)} {s t : Int} {k : Nat} (h : anyK (spoilL L s t) k = false) (h0 : hasB (outL L k) s = false) (h1 : hasB (inL L k) t = false) (h2 : hasB (L.getD (3 * k + 2) []) s = false) (h3 : hasB (L.getD (3 * k + 2) []) t = false) : anyK (spoilL L s t) (k + 1) = false :=
  anyK_step h (by unfold spoilL; rw [h0, h1, h2, h3]; rfl)

set_option maxHeartbeats 4000000 in
theorem goodFlowS_any (p s t : Int) (a : Option Addr) (n c : Nat) (L : List (List Int)) (w : World) (h : Lists w a (3 * n) L) (hs : sizeN n L ≤ 1048576) :
    Calls Try.prog 10 #[.agg #[.int .i64 p, .slice a n c, .int .i64 s, .int .i64 t]] w fun e w' => e = .returned (.bool (flowOk p n L s t)) ∧ Below w.heap.size w w' := by
  have HA := hide (below_al w (.cells #[.int .i64 p, .slice a n c, .int .i64 s, .int .i64 t] 33))
  have PAR := hide (heap_alloc_new w (.cells #[.int .i64 p, .slice a n c, .int .i64 s, .int .i64 t] 33))
  have HF := hide (onWayS_any p s t a n c L _ (h.below HA.out) hs)
  have HL := hide h
  have hs' : n + sizeL L ≤ 1048576 := hs
  clear h
  go_enter Try.func10, Try.ntmps10
  go_wp2_with fail
  refine HF.out.mono ?_
  rintro e w1 ⟨a1, n1, c1, a2, n2, c2, rfl, hr1, hr2, hb⟩
  have HB1 := hide (HA.out.trans (hb.mono HA.out.size))
  have PAR1 := hide (keep PAR.out hb)
  have hl1 := hr1.1
  have hl2 := hr2.1
  obtain ⟨⟨hc0, hc1, hc2, hc3⟩, _⟩ := cells4 PAR1.out
  clear hb HF HA PAR hr1 hr2
  by_cases hg : wayOk p n L s t = true
  rotate_left
  · have hg' : wayOk p n L s t = false := by simpa using hg
    have HN := hide (flow_no1 hg')
    rw [hg']
    clear hg hg' hl1 hl2
    go_wp2_with fail
    go_ret
    exact ⟨ret_b HN.out.symm, HB1.out⟩
  have HG := hide hg
  have hn24 := (netOk_parts (wayOk_parts hg).1).2.1
  rw [hg]
  clear hg
  by_cases hst : s = t
  · have HN := hide (flow_no2 (p := p) (n := n) (L := L) hst)
    subst hst
    have hdd : (s == s) = true := by simp
    clear hl1 hl2
    go_wp2_with fail
    go_ret
    exact ⟨ret_b HN.out.symm, HB1.out⟩
  have hdd : (s == t) = false := by simpa using hst
  have HST := hide hst
  clear hst
  by_cases h1 : ((n1 : Nat) : Int) = p
  rotate_left
  · have HN := hide (flow_no3 (p := p) (n := n) (L := L) (s := s) (t := t) (by rw [hl1]; exact h1))
    have hd1 : (((n1 : Nat) : Int) != p) = true := by simpa using h1
    clear hl1 hl2 h1
    go_wp2_with fail
    go_ret
    exact ⟨ret_b HN.out.symm, HB1.out⟩
  have hd1 : (((n1 : Nat) : Int) != p) = false := by simpa using h1
  by_cases h2 : n2 = n
  rotate_left
  · have HN := hide (flow_no4 (p := p) (n := n) (L := L) (s := s) (t := t) (by rw [hl2]; exact h2))
    have hd2 : (((n2 : Nat) : Int) != ((n : Nat) : Int)) = true := by simp; omega
    clear hl1 hl2 h1 h2
    go_wp2_with fail
    go_ret
    exact ⟨ret_b HN.out.symm, HB1.out⟩
  have hd2 : (((n : Nat) : Int) != ((n : Nat) : Int)) = false := by simp
  have HY := hide (fun h5 => flow_yes HG.out HST.out (by rw [hl1]; exact h1) (by rw [hl2]; exact h2) h5)
  subst h2
  clear hl1 hl2 h1
  go_wp2_with fail
  clear hc0 hc1 hc2 hc3
  go_loopw [49] (fun i wr => ∃ k : Nat, k ≤ n2 ∧ i = .int .i64 k ∧ Hid (anyK (spoilL L s t) k = false) ∧ Hid (Below w.heap.size w wr) ∧ Hid (wr.heap[w.heap.size]? = some (.cells #[.int .i64 p, .slice a n2 c, .int .i64 s, .int .i64 t] 33 (0, 0)))) (fun i _ => n2 - (intOf i).toNat)
  case atStart => exact ⟨0, Nat.zero_le _, rfl, rfl, HB1, PAR1⟩
  case round =>
    clear HB1 PAR1
    obtain ⟨k, hk, rfl, hu, hbw, par⟩ := hrel
    by_cases hlt : k < n2
    rotate_left
    · have hk' : k = n2 := by omega
      subst hk'
      have HE := hide (HY.out hu.out)
      go_wp2_with fail
      go_ret
      exact ⟨ret_b HE.out.symm, hbw.out⟩
    obtain ⟨b, off, a0, m0, c0, a3, m3, c3, a4, m4, c4, rfl, hb, hr, q0, q1, q2, r0, r1, r2⟩ := (HL.out.below hbw.out).tri hlt
    obtain ⟨hd0, hd3, hd4⟩ := rangeAt_cells3 hr
    have l0 := len_le L (3 * k)
    have l1 := len_le L (3 * k + 1)
    have l2 := len_le L (3 * k + 2)
    have z0 : m0 ≤ 1048576 := by have := r0.1; omega
    have z1 : m3 ≤ 1048576 := by have := r1.1; omega
    have z2 : m4 ≤ 1048576 := by have := r2.1; omega
    have hA1 := below_al wr (.cells #[.slice a0 m0 c0, .slice a3 m3 c3, .slice a4 m4 c4] 56)
    have R0 := hide (r0.below hA1)
    have R1 := hide (r1.below hA1)
    have R2 := hide (r2.below hA1)
    have HB2 := hide (hbw.out.trans (hA1.mono hbw.out.size))
    have PAR2 := hide (keep par.out hA1)
    have hlw : w.heap.size < wr.heap.size := row_lt par.out
    have HT := hide (heap_alloc_new wr (.cells #[.slice a0 m0 c0, .slice a3 m3 c3, .slice a4 m4 c4] 56))
    obtain ⟨⟨hc0, hc1, hc2, hc3⟩, _⟩ := cells4 par.out
    clear hr r0 r1 r2 q0 q1 q2 hA1 l0 l1 l2
    have H1 := hide (has_any a3 m3 c3 (outL L k) s _ R1.out z1)
    have H2 := hide (has_any a0 m0 c0 (inL L k) t _ R0.out z0)
    have H3 := hide (has_any a4 m4 c4 (L.getD (3 * k + 2) []) s _ R2.out z2)
    have H4 := hide (has_any a4 m4 c4 (L.getD (3 * k + 2) []) t _ R2.out z2)
    have HNO := hide (fun (h : spoilL L s t k = true) => flow_no5 (p := p) (anyK_yes hlt h))
    obtain ⟨x1, e1⟩ : ∃ x, Hid (hasB (outL L k) s = x) := ⟨_, rfl⟩
    obtain ⟨x2, e2⟩ : ∃ x, Hid (hasB (inL L k) t = x) := ⟨_, rfl⟩
    obtain ⟨x3, e3⟩ : ∃ x, Hid (hasB (L.getD (3 * k + 2) []) s = x) := ⟨_, rfl⟩
    obtain ⟨x4, e4⟩ : ∃ x, Hid (hasB (L.getD (3 * k + 2) []) t = x) := ⟨_, rfl⟩
    rw [e1.out] at H1
    rw [e2.out] at H2
    rw [e3.out] at H3
    rw [e4.out] at H4
    clear R0 R1 R2
    go_wp2_with fail
    refine H1.out.mono ?_
    rintro e w3 ⟨rfl, hw3⟩
    obtain rfl := hw3
    cases x1
    rotate_left
    · have HN := hide (HNO.out (by unfold spoilL; rw [e1.out]; rfl))
      go_wp2_with fail
      go_ret
      exact ⟨ret_b HN.out.symm, HB2.out⟩
    go_wp2_with fail
    refine H2.out.mono ?_
    rintro e w3 ⟨rfl, hw3⟩
    obtain rfl := hw3
    cases x2
    rotate_left
    · have HN := hide (HNO.out (by unfold spoilL; rw [e1.out, e2.out]; rfl))
      go_wp2_with fail
      go_ret
      exact ⟨ret_b HN.out.symm, HB2.out⟩
    go_wp2_with fail
    refine H3.out.mono ?_
    rintro e w3 ⟨rfl, hw3⟩
    obtain rfl := hw3
    cases x3
    rotate_left
    · have HN := hide (HNO.out (by unfold spoilL; rw [e1.out, e2.out, e3.out]; rfl))
      go_wp2_with fail
      go_ret
      exact ⟨ret_b HN.out.symm, HB2.out⟩
    go_wp2_with fail
    refine H4.out.mono ?_
    rintro e w3 ⟨rfl, hw3⟩
    obtain rfl := hw3
    cases x4
    rotate_left
    · have HN := hide (HNO.out (by unfold spoilL; rw [e1.out, e2.out, e3.out, e4.out]; rfl))
      go_wp2_with fail
      go_ret
      exact ⟨ret_b HN.out.symm, HB2.out⟩
    have HU := hide (spoil_step hu.out e1.out e2.out e3.out e4.out)
    go_wp2_with fail
    go_roundw
    case rel => exact ⟨k + 1, by omega, by go_num, HU, HB2, PAR2⟩
    case measure => simp [intOf]; omega
end Go.Proofs.Ytnknhjiofpjbbaa
