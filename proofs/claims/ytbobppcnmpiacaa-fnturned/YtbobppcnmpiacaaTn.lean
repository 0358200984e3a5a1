/- The program's TakersOf and GiversOf, for every net and place. -/
import Derived.Test.YtbobppcnmpiacaaTm
namespace Go.Proofs.Ytbobppcnmpiacaa
open Go.RowKit
set_option maxRecDepth 10000

theorem triOkT {p : Int} {n i : Nat} {L : List (List Int)} (h : netOk p n L = true) (hi : i < n) : triOk p L i = true := by
  unfold netOk at h
  rw [Bool.and_eq_true] at h
  exact List.all_eq_true.mp h.2 i (by simpa using hi)

theorem tri_riseT {p : Int} {L : List (List Int)} {i : Nat} (h : triOk p L i = true) : riseB (L.getD (3 * i) []) 0 (p - 1) = true ∧ riseB (L.getD (3 * i + 1) []) 0 (p - 1) = true ∧ riseB (L.getD (3 * i + 2) []) 0 (p - 1) = true := by
  unfold triOk at h
  simp only [Bool.and_eq_true] at h
  exact ⟨h.1.1.2, h.1.2, h.2⟩

theorem mask16T {p : Int} {xs : List Int} (h : riseB xs 0 (p - 1) = true) (hp : 1 ≤ p ∧ p ≤ 16) : maskL xs < 2 ^ 16 := by
  refine maskL_lt _ fun x hx => ?_
  have := riseB_mem h x hx
  omega

theorem oend_no {f : Nat → Bool} {p : Int} {n : Nat} {L : List (List Int)} {q : Int} {w w' : World} (h : atOk p n L q = false) (hb : Below w.heap.size w w') : OEnd (atOk p n L q) (atR f p n L q) w (.returned (.tuple #[.slice none 0 0, .bool false])) w' := by
  refine ⟨none, w.heap.size, 0, 0, by rw [h], ⟨?_, .inl rfl⟩, Nat.le_refl _, hb⟩
  unfold atR; rw [h]; rfl

theorem oend_yes {f : Nat → Bool} {p : Int} {n : Nat} {L : List (List Int)} {q : Int} {w w' : World} {a : Option Addr} {b m c : Nat} (h : atOk p n L q = true) (hr : Ob w' a b m (numsL f n)) (hB : w.heap.size ≤ b) (hb : Below w.heap.size w w') : OEnd (atOk p n L q) (atR f p n L q) w (.returned (.tuple #[.slice a m c, .bool true])) w' := by
  refine ⟨a, b, m, c, by rw [h], ?_, hB, hb⟩
  unfold atR; rw [h]; exact hr

set_option maxHeartbeats 400000 in
theorem takes_any (s0 s1 s2 k : Nat) (w : World) (hs : s0 < 2 ^ 16) (hk : k < 16) :
    Calls Try.prog 63 #[.agg #[.int .u16 (s0 : Int), .int .u16 (s1 : Int), .int .u16 (s2 : Int)], .int .i64 (k : Int)] w fun e w' => e = .returned (.bool (s0.testBit k)) ∧ Below w.heap.size w w' := by
  go_enter Try.func63, Try.ntmps63
  go_wp2_with fail
  refine (hasI_any s0 k _ hs hk).mono ?_
  rintro e w' ⟨rfl, rfl⟩
  obtain ⟨b, hb⟩ : ∃ b, Hid (s0.testBit k = b) := ⟨_, rfl⟩
  rw [hb.out]
  go_wp2_with fail
  go_ret
  exact ⟨by rw [hb.out]; rfl, below_al _ _⟩

set_option maxHeartbeats 400000 in
theorem takesCl_any (s0 s1 s2 k bj bq : Nat) (w : World) (hs : s0 < 2 ^ 16) (hk : k < 16) (hj : w.cell? ⟨bj, 0, none⟩ = some (.func (.func 63) #[] #[])) (hq : w.cell? ⟨bq, 0, none⟩ = some (.int .i64 (k : Int))) (hbj : bj < w.heap.size) (hbq : bq < w.heap.size) :
    Calls Try.prog 81 #[.agg #[.int .u16 (s0 : Int), .int .u16 (s1 : Int), .int .u16 (s2 : Int)], .pointer (some ⟨bj, 0, none⟩), .pointer (some ⟨bq, 0, none⟩)] w fun e w' => e = .returned (.bool (s0.testBit k)) ∧ Below w.heap.size w w' := by
  go_enter Try.func81, Try.ntmps81
  go_wp2_with fail
  refine (takes_any s0 s1 s2 k _ hs hk).mono ?_
  rintro e w1 ⟨rfl, hb1⟩
  have HB := hide ((below_al w (.cells #[.int .u16 (s0 : Int), .int .u16 (s1 : Int), .int .u16 (s2 : Int)] 91)).trans (hb1.mono (by simp)))
  obtain ⟨b, hb⟩ : ∃ b, Hid (s0.testBit k = b) := ⟨_, rfl⟩
  rw [hb.out]
  clear hb1
  go_wp2_with fail
  go_ret
  exact ⟨by rw [hb.out]; rfl, HB.out⟩

set_option maxHeartbeats 2000000 in
theorem takesAt_any (p q : Int) (a : Option Addr) (n c : Nat) (L : List (List Int)) (w : World) (h : Lists w a (3 * n) L) (hs : sizeN n L ≤ 1048576) :
    Calls Try.prog 62 #[.agg #[.int .i64 p, .slice a n c], .int .i64 q, .func (.func 63) #[] #[]] w fun e w' => OEnd (atOk p n L q) (atR (fun i => hasB (L.getD (3 * i) []) q) p n L q) w e w' := by
  have hAl := ((below_al w (.cells #[.int .i64 p, .slice a n c] 26)).alloc (by simp) (.cells #[.int .i64 q] 3)).alloc (by simp; omega) (.cells #[.func (.func 63) #[] #[]] 95)
  have P1 : (((w.alloc (.cells #[.int .i64 p, .slice a n c] 26)).alloc (.cells #[.int .i64 q] 3)).alloc (.cells #[.func (.func 63) #[] #[]] 95)).heap[w.heap.size + 1]? = some (.cells #[.int .i64 q] 3 (0, 0)) := by
    rw [heap_al_old _ _ _ (by simp)]
    have := heap_alloc_new (w.alloc (.cells #[.int .i64 p, .slice a n c] 26)) (.cells #[.int .i64 q] 3)
    simpa using this
  have P2 : (((w.alloc (.cells #[.int .i64 p, .slice a n c] 26)).alloc (.cells #[.int .i64 q] 3)).alloc (.cells #[.func (.func 63) #[] #[]] 95)).heap[w.heap.size + 1 + 1]? = some (.cells #[.func (.func 63) #[] #[]] 95 (0, 0)) := by
    have := heap_alloc_new ((w.alloc (.cells #[.int .i64 p, .slice a n c] 26)).alloc (.cells #[.int .i64 q] 3)) (.cells #[.func (.func 63) #[] #[]] 95)
    simpa using this
  have HNS := hide (netSteps_any p a n c L _ (h.below hAl) hs)
  have HB0 := hide hAl
  have HP := hide (And.intro P1 P2)
  clear h hAl P1 P2
  go_enter Try.func62, Try.ntmps62
  go_wp2_with fail
  refine HNS.out.mono ?_
  rintro e w2 ⟨p', a', m, c', rfl, hx, hb⟩
  have hA := below_al w2 (.cells #[.int .i64 p', .slice a' m c'] 66)
  have hbA := hb.trans (hA.mono hb.size)
  have HB1 := hide (HB0.out.trans (hbA.mono HB0.out.size))
  have HP1 := hide (And.intro (keep HP.out.1 hbA) (keep HP.out.2 hbA))
  have hq1 := cell_of_row _ (w.heap.size + 1) 0 _ _ _ (keep HP.out.1 hb)
  simp at hq1
  have hlq := row_lt (keep HP.out.1 hb)
  have hl2 := row_lt (keep HP.out.2 hb)
  have hz := HB0.out.size
  clear HNS HB0 HP
  by_cases hg : netOk p n L = true
  rotate_left
  · have hg' : netOk p n L = false := by simpa using hg
    have HN : Hid (OEnd (atOk p n L q) (atR (fun i => hasB (L.getD (3 * i) []) q) p n L q) w (.returned (.tuple #[.slice none 0 0, .bool false])) (w2.alloc (.cells #[.int .i64 p', .slice a' m c'] 66))) := oend_no (show atOk p n L q = false by unfold atOk; rw [hg']; rfl) HB1.out
    rw [hg']
    clear hg hg' hx hb hA hbA
    go_wp2_with fail
    go_ret2
    exact HN.out
  obtain ⟨e1, e2, e3, B, e4, hBs, hps⟩ := hx.out hg
  subst e1 e2 e3 e4
  rw [hg]
  have HG := hide hg
  have hn24 := netOkN' hg
  obtain ⟨hp1, hp2⟩ := netOkP' hg
  have HPS := hide (hps.grow hA)
  clear hg hx hb hA hbA hps
  by_cases g2 : inB q 0 (p' - 1) = true
  rotate_left
  · have g2' : inB q 0 (p' - 1) = false := by simpa using g2
    have HN : Hid (OEnd (atOk p' c' L q) (atR (fun i => hasB (L.getD (3 * i) []) q) p' c' L q) w (.returned (.tuple #[.slice none 0 0, .bool false])) (w2.alloc (.cells #[.int .i64 p', .slice (some ⟨B, 0, none⟩) c' c'] 66))) := oend_no (show atOk p' c' L q = false by unfold atOk; rw [g2']; simp) HB1.out
    have hqq : q < 0 ∨ p' ≤ q := by simp [inB] at g2; omega
    clear g2 g2'
    rcases hqq with hqq | hqq
    · go_wp2_with fail
      go_ret2
      exact HN.out
    · have hq0 : ¬ q < 0 := by omega
      go_wp2_with fail
      go_ret2
      exact HN.out
  have hqb : 0 ≤ q ∧ q ≤ p' - 1 := by simpa [inB] using g2
  obtain ⟨k, rfl⟩ : ∃ k : Nat, q = (k : Int) := ⟨q.toNat, by omega⟩
  have hk16 : k < 16 := by omega
  have hk0 : ¬ (k : Int) < 0 := by omega
  have hkp : ¬ p' ≤ (k : Int) := by omega
  have HOK := hide (show atOk p' c' L (k : Int) = true by unfold atOk; rw [HG.out, g2]; rfl)
  obtain ⟨W, hW⟩ : ∃ W, Hid (w2.alloc (.cells #[.int .i64 p', .slice (some ⟨B, 0, none⟩) c' c'] 66) = W) := ⟨_, rfl⟩
  rw [hW.out] at HB1 HP1 HPS
  have HC := hide (numsAt_any (w.heap.size + 1 + 1) (w.heap.size + 1) (fun i => hasB (L.getD (3 * i) []) (k : Int)) p' B c' L W HPS.out hn24 (fun W1 hW1 i hi => by
    have htri := tri_riseT (triOkT HG.out hi)
    have hm := mask16T htri.1 ⟨hp1, hp2⟩
    have hc := takesCl_any (maskL (L.getD (3 * i) [])) (maskL (L.getD (3 * i + 1) [])) (maskL (L.getD (3 * i + 2) [])) k (w.heap.size + 1 + 1) (w.heap.size + 1) W1 hm hk16 (cell_of_row W1 _ 0 _ _ _ (keep HP1.out.2 hW1)) (cell_of_row W1 _ 0 _ _ _ (keep HP1.out.1 hW1)) (row_lt (keep HP1.out.2 hW1)) (row_lt (keep HP1.out.1 hW1))
    rw [maskL_bit _ _ (fun z hz => (riseB_mem htri.1 z hz).1)] at hc
    rw [show hasB (L.getD (3 * i) []) (k : Int) = decide ((k : Int) ∈ L.getD (3 * i) []) by unfold hasB; simp]
    exact hc))
  clear g2 hqb
  go_wp2_with fail
  rw [hW.out]
  refine HC.out.mono ?_
  rintro e w3 ⟨v, mm, rfl, hown, hb⟩
  obtain ⟨av, bv, cv, hv, hbv, hob⟩ := own_ob hown
  subst hv
  have HY : Hid (OEnd (atOk p' c' L (k : Int)) (atR (fun i => hasB (L.getD (3 * i) []) (k : Int)) p' c' L (k : Int)) w (.returned (.tuple #[.slice av mm cv, .bool true])) w3) := oend_yes HOK.out hob (by have := HB1.out.size; omega) (HB1.out.trans (hb.mono HB1.out.size))
  clear hown hb hob HC
  go_wp2_with fail
  go_ret2
  exact HY.out

set_option maxHeartbeats 400000 in
theorem takesI_any (p q : Int) (a : Option Addr) (n c : Nat) (L : List (List Int)) (w : World) (h : Lists w a (3 * n) L) (hs : sizeN n L ≤ 1048576) :
    Calls Try.prog 25 #[.agg #[.int .i64 p, .slice a n c], .int .i64 q] w fun e w' => OEnd (atOk p n L q) (atR (fun i => hasB (L.getD (3 * i) []) q) p n L q) w e w' := by
  have hAl := below_al w (.cells #[.int .i64 p, .slice a n c] 26)
  have HT := hide (takesAt_any p q a n c L _ (h.below hAl) hs)
  have HB0 := hide hAl
  clear h hAl
  go_enter Try.func25, Try.ntmps25
  go_wp2_with fail
  refine HT.out.mono ?_
  rintro e w1 ⟨av, bv, nv, cv, rfl, hob, hbv, hb⟩
  have HE : Hid (OEnd (atOk p n L q) (atR (fun i => hasB (L.getD (3 * i) []) q) p n L q) w (.returned (.tuple #[.slice av nv cv, .bool (atOk p n L q)])) w1) := ⟨av, bv, nv, cv, rfl, hob, by have := HB0.out.size; omega, HB0.out.trans (hb.mono HB0.out.size)⟩
  obtain ⟨g, hg⟩ : ∃ g, Hid (atOk p n L q = g) := ⟨_, rfl⟩
  have HE2 : Hid (OEnd (atOk p n L q) (atR (fun i => hasB (L.getD (3 * i) []) q) p n L q) w (.returned (.tuple #[.slice av nv cv, .bool g])) w1) := by have := HE.out; rw [hg.out] at this; rw [hg.out]; exact this
  rw [hg.out]
  clear hob hb HT HE
  go_wp2_with fail
  go_ret2
  exact HE2.out

set_option maxHeartbeats 400000 in
theorem gives_any (s0 s1 s2 k : Nat) (w : World) (hs : s1 < 2 ^ 16) (hk : k < 16) :
    Calls Try.prog 65 #[.agg #[.int .u16 (s0 : Int), .int .u16 (s1 : Int), .int .u16 (s2 : Int)], .int .i64 (k : Int)] w fun e w' => e = .returned (.bool (s1.testBit k)) ∧ Below w.heap.size w w' := by
  go_enter Try.func65, Try.ntmps65
  go_wp2_with fail
  refine (hasI_any s1 k _ hs hk).mono ?_
  rintro e w' ⟨rfl, rfl⟩
  obtain ⟨b, hb⟩ : ∃ b, Hid (s1.testBit k = b) := ⟨_, rfl⟩
  rw [hb.out]
  go_wp2_with fail
  go_ret
  exact ⟨by rw [hb.out]; rfl, below_al _ _⟩

set_option maxHeartbeats 400000 in
theorem givesCl_any (s0 s1 s2 k bj bq : Nat) (w : World) (hs : s1 < 2 ^ 16) (hk : k < 16) (hj : w.cell? ⟨bj, 0, none⟩ = some (.func (.func 65) #[] #[])) (hq : w.cell? ⟨bq, 0, none⟩ = some (.int .i64 (k : Int))) (hbj : bj < w.heap.size) (hbq : bq < w.heap.size) :
    Calls Try.prog 81 #[.agg #[.int .u16 (s0 : Int), .int .u16 (s1 : Int), .int .u16 (s2 : Int)], .pointer (some ⟨bj, 0, none⟩), .pointer (some ⟨bq, 0, none⟩)] w fun e w' => e = .returned (.bool (s1.testBit k)) ∧ Below w.heap.size w w' := by
  go_enter Try.func81, Try.ntmps81
  go_wp2_with fail
  refine (gives_any s0 s1 s2 k _ hs hk).mono ?_
  rintro e w1 ⟨rfl, hb1⟩
  have HB := hide ((below_al w (.cells #[.int .u16 (s0 : Int), .int .u16 (s1 : Int), .int .u16 (s2 : Int)] 91)).trans (hb1.mono (by simp)))
  obtain ⟨b, hb⟩ : ∃ b, Hid (s1.testBit k = b) := ⟨_, rfl⟩
  rw [hb.out]
  clear hb1
  go_wp2_with fail
  go_ret
  exact ⟨by rw [hb.out]; rfl, HB.out⟩

set_option maxHeartbeats 2000000 in
theorem givesAt_any (p q : Int) (a : Option Addr) (n c : Nat) (L : List (List Int)) (w : World) (h : Lists w a (3 * n) L) (hs : sizeN n L ≤ 1048576) :
    Calls Try.prog 62 #[.agg #[.int .i64 p, .slice a n c], .int .i64 q, .func (.func 65) #[] #[]] w fun e w' => OEnd (atOk p n L q) (atR (fun i => hasB (L.getD (3 * i + 1) []) q) p n L q) w e w' := by
  have hAl := ((below_al w (.cells #[.int .i64 p, .slice a n c] 26)).alloc (by simp) (.cells #[.int .i64 q] 3)).alloc (by simp; omega) (.cells #[.func (.func 65) #[] #[]] 95)
  have P1 : (((w.alloc (.cells #[.int .i64 p, .slice a n c] 26)).alloc (.cells #[.int .i64 q] 3)).alloc (.cells #[.func (.func 65) #[] #[]] 95)).heap[w.heap.size + 1]? = some (.cells #[.int .i64 q] 3 (0, 0)) := by
    rw [heap_al_old _ _ _ (by simp)]
    have := heap_alloc_new (w.alloc (.cells #[.int .i64 p, .slice a n c] 26)) (.cells #[.int .i64 q] 3)
    simpa using this
  have P2 : (((w.alloc (.cells #[.int .i64 p, .slice a n c] 26)).alloc (.cells #[.int .i64 q] 3)).alloc (.cells #[.func (.func 65) #[] #[]] 95)).heap[w.heap.size + 1 + 1]? = some (.cells #[.func (.func 65) #[] #[]] 95 (0, 0)) := by
    have := heap_alloc_new ((w.alloc (.cells #[.int .i64 p, .slice a n c] 26)).alloc (.cells #[.int .i64 q] 3)) (.cells #[.func (.func 65) #[] #[]] 95)
    simpa using this
  have HNS := hide (netSteps_any p a n c L _ (h.below hAl) hs)
  have HB0 := hide hAl
  have HP := hide (And.intro P1 P2)
  clear h hAl P1 P2
  go_enter Try.func62, Try.ntmps62
  go_wp2_with fail
  refine HNS.out.mono ?_
  rintro e w2 ⟨p', a', m, c', rfl, hx, hb⟩
  have hA := below_al w2 (.cells #[.int .i64 p', .slice a' m c'] 66)
  have hbA := hb.trans (hA.mono hb.size)
  have HB1 := hide (HB0.out.trans (hbA.mono HB0.out.size))
  have HP1 := hide (And.intro (keep HP.out.1 hbA) (keep HP.out.2 hbA))
  have hq1 := cell_of_row _ (w.heap.size + 1) 0 _ _ _ (keep HP.out.1 hb)
  simp at hq1
  have hlq := row_lt (keep HP.out.1 hb)
  have hl2 := row_lt (keep HP.out.2 hb)
  have hz := HB0.out.size
  clear HNS HB0 HP
  by_cases hg : netOk p n L = true
  rotate_left
  · have hg' : netOk p n L = false := by simpa using hg
    have HN : Hid (OEnd (atOk p n L q) (atR (fun i => hasB (L.getD (3 * i + 1) []) q) p n L q) w (.returned (.tuple #[.slice none 0 0, .bool false])) (w2.alloc (.cells #[.int .i64 p', .slice a' m c'] 66))) := oend_no (show atOk p n L q = false by unfold atOk; rw [hg']; rfl) HB1.out
    rw [hg']
    clear hg hg' hx hb hA hbA
    go_wp2_with fail
    go_ret2
    exact HN.out
  obtain ⟨e1, e2, e3, B, e4, hBs, hps⟩ := hx.out hg
  subst e1 e2 e3 e4
  rw [hg]
  have HG := hide hg
  have hn24 := netOkN' hg
  obtain ⟨hp1, hp2⟩ := netOkP' hg
  have HPS := hide (hps.grow hA)
  clear hg hx hb hA hbA hps
  by_cases g2 : inB q 0 (p' - 1) = true
  rotate_left
  · have g2' : inB q 0 (p' - 1) = false := by simpa using g2
    have HN : Hid (OEnd (atOk p' c' L q) (atR (fun i => hasB (L.getD (3 * i + 1) []) q) p' c' L q) w (.returned (.tuple #[.slice none 0 0, .bool false])) (w2.alloc (.cells #[.int .i64 p', .slice (some ⟨B, 0, none⟩) c' c'] 66))) := oend_no (show atOk p' c' L q = false by unfold atOk; rw [g2']; simp) HB1.out
    have hqq : q < 0 ∨ p' ≤ q := by simp [inB] at g2; omega
    clear g2 g2'
    rcases hqq with hqq | hqq
    · go_wp2_with fail
      go_ret2
      exact HN.out
    · have hq0 : ¬ q < 0 := by omega
      go_wp2_with fail
      go_ret2
      exact HN.out
  have hqb : 0 ≤ q ∧ q ≤ p' - 1 := by simpa [inB] using g2
  obtain ⟨k, rfl⟩ : ∃ k : Nat, q = (k : Int) := ⟨q.toNat, by omega⟩
  have hk16 : k < 16 := by omega
  have hk0 : ¬ (k : Int) < 0 := by omega
  have hkp : ¬ p' ≤ (k : Int) := by omega
  have HOK := hide (show atOk p' c' L (k : Int) = true by unfold atOk; rw [HG.out, g2]; rfl)
  obtain ⟨W, hW⟩ : ∃ W, Hid (w2.alloc (.cells #[.int .i64 p', .slice (some ⟨B, 0, none⟩) c' c'] 66) = W) := ⟨_, rfl⟩
  rw [hW.out] at HB1 HP1 HPS
  have HC := hide (numsAt_any (w.heap.size + 1 + 1) (w.heap.size + 1) (fun i => hasB (L.getD (3 * i + 1) []) (k : Int)) p' B c' L W HPS.out hn24 (fun W1 hW1 i hi => by
    have htri := tri_riseT (triOkT HG.out hi)
    have hm := mask16T htri.2.1 ⟨hp1, hp2⟩
    have hc := givesCl_any (maskL (L.getD (3 * i) [])) (maskL (L.getD (3 * i + 1) [])) (maskL (L.getD (3 * i + 2) [])) k (w.heap.size + 1 + 1) (w.heap.size + 1) W1 hm hk16 (cell_of_row W1 _ 0 _ _ _ (keep HP1.out.2 hW1)) (cell_of_row W1 _ 0 _ _ _ (keep HP1.out.1 hW1)) (row_lt (keep HP1.out.2 hW1)) (row_lt (keep HP1.out.1 hW1))
    rw [maskL_bit _ _ (fun z hz => (riseB_mem htri.2.1 z hz).1)] at hc
    rw [show hasB (L.getD (3 * i + 1) []) (k : Int) = decide ((k : Int) ∈ L.getD (3 * i + 1) []) by unfold hasB; simp]
    exact hc))
  clear g2 hqb
  go_wp2_with fail
  rw [hW.out]
  refine HC.out.mono ?_
  rintro e w3 ⟨v, mm, rfl, hown, hb⟩
  obtain ⟨av, bv, cv, hv, hbv, hob⟩ := own_ob hown
  subst hv
  have HY : Hid (OEnd (atOk p' c' L (k : Int)) (atR (fun i => hasB (L.getD (3 * i + 1) []) (k : Int)) p' c' L (k : Int)) w (.returned (.tuple #[.slice av mm cv, .bool true])) w3) := oend_yes HOK.out hob (by have := HB1.out.size; omega) (HB1.out.trans (hb.mono HB1.out.size))
  clear hown hb hob HC
  go_wp2_with fail
  go_ret2
  exact HY.out

set_option maxHeartbeats 400000 in
theorem givesI_any (p q : Int) (a : Option Addr) (n c : Nat) (L : List (List Int)) (w : World) (h : Lists w a (3 * n) L) (hs : sizeN n L ≤ 1048576) :
    Calls Try.prog 27 #[.agg #[.int .i64 p, .slice a n c], .int .i64 q] w fun e w' => OEnd (atOk p n L q) (atR (fun i => hasB (L.getD (3 * i + 1) []) q) p n L q) w e w' := by
  have hAl := below_al w (.cells #[.int .i64 p, .slice a n c] 26)
  have HT := hide (givesAt_any p q a n c L _ (h.below hAl) hs)
  have HB0 := hide hAl
  clear h hAl
  go_enter Try.func27, Try.ntmps27
  go_wp2_with fail
  refine HT.out.mono ?_
  rintro e w1 ⟨av, bv, nv, cv, rfl, hob, hbv, hb⟩
  have HE : Hid (OEnd (atOk p n L q) (atR (fun i => hasB (L.getD (3 * i + 1) []) q) p n L q) w (.returned (.tuple #[.slice av nv cv, .bool (atOk p n L q)])) w1) := ⟨av, bv, nv, cv, rfl, hob, by have := HB0.out.size; omega, HB0.out.trans (hb.mono HB0.out.size)⟩
  obtain ⟨g, hg⟩ : ∃ g, Hid (atOk p n L q = g) := ⟨_, rfl⟩
  have HE2 : Hid (OEnd (atOk p n L q) (atR (fun i => hasB (L.getD (3 * i + 1) []) q) p n L q) w (.returned (.tuple #[.slice av nv cv, .bool g])) w1) := by have := HE.out; rw [hg.out] at this; rw [hg.out]; exact this
  rw [hg.out]
  clear hob hb HT HE
  go_wp2_with fail
  go_ret2
  exact HE2.out

end Go.Proofs.Ytbobppcnmpiacaa
