/- The program's TakersOf and GiversOf, for every net and place. -/
import Derived.Test.YtecgiinhdigpoaaTm
namespace Go.Proofs.Ytecgiinhdigpoaa
open Go.RowKit
set_option maxRecDepth 10000

theorem triOkT {p : Int} {n i : Nat} {L : List (List Int)} (h : netOk p n L = true) (hi : i < n) : triOk p L i = true := by
  unfold netOk at h
  rw [Bool.and_eq_true] at h
  exact List.all_eq_true.mp h.2 i (by simpa using hi)

theorem tri_riseT {p : Int} {L : List (List Int)} {i : Nat} (h : triOk p L i = true) : riseB (L.getD (3 * i) []) 0 (p - 1) = true ∧ riseB (L.getD (3 * i + 1) []) 0 (p - 1) = true ∧ riseB (L.getD (3 * i + 2) []) 0 (p - 1) = true := by
  unfold triOk at h
  simp only [Bool.and_eq_true] at h
  exact ⟨h.1.1.2, h.1.2, h.2⟩

theorem mask16T {p : Int} {xs : List Int} (h : riseB xs 0 (p - 1) = true) (hp : 1 ≤ p ∧ p ≤ 16) : maskL xs < 2 ^ 16 := by
  refine maskL_lt _ fun x hx => ?_
  have := riseB_mem h x hx
  omega

theorem oend_no {f : Nat → Bool} {p : Int} {n : Nat} {L : List (List Int)} {q : Int} {w w' : World} (h : atOk p n L q = false) (hb : Below w.heap.size w w') : OEnd (atOk p n L q) (atR f p n L q) w (.returned (.tuple #[.slice none 0 0, .bool false])) w' := by
  refine ⟨none, w.heap.size, 0, 0, by rw [h], ⟨?_, .inl rfl⟩, Nat.le_refl _, hb⟩
  unfold atR; rw [h]; rfl

theorem oend_yes {f : Nat → Bool} {p : Int} {n : Nat} {L : List (List Int)} {q : Int} {w w' : World} {a : Option Addr} {b m c : Nat} (h : atOk p n L q = true) (hr : Ob w' a b m (numsL f n)) (hB : w.heap.size ≤ b) (hb : Below w.heap.size w w') : OEnd (atOk p n L q) (atR f p n L q) w (.returned (.tuple #[.slice a m c, .bool true])) w' := by
  refine ⟨a, b, m, c, by rw [h], ?_, hB, hb⟩
  unfold atR; rw [h]; exact hr

theorem lacksT_any (p q : Int) (a : Option Addr) (n c : Nat) (w : World) :
    Calls Try.prog 33 #[.agg #[.int .i64 p, .slice a n c], .int .i64 q] w fun e w' => e = .returned (.bool (!inB q 0 (p - 1))) ∧ Below w.heap.size w w' := by
  have HX : Hid (∀ b : Bool, (b = true ↔ q < 0 ∨ p ≤ q) → b = !inB q 0 (p - 1)) := by
    intro b hb
    unfold inB
    cases b
    · have : ¬ (q < 0 ∨ p ≤ q) := fun h => by simpa using hb.mpr h
      simp; omega
    · have := hb.mp rfl
      simp; omega
  by_cases h0 : q < 0
  · go_enter Try.func33, Try.ntmps33
    go_wp2_with fail
    go_ret
    exact ⟨ret_bool (HX.out true (by simp [h0])), below_al _ _⟩
  by_cases h1 : p ≤ q
  · go_enter Try.func33, Try.ntmps33
    go_wp2_with fail
    go_ret
    exact ⟨ret_bool (HX.out true (by simp [h1])), below_al _ _⟩
  · go_enter Try.func33, Try.ntmps33
    go_wp2_with fail
    go_ret
    exact ⟨ret_bool (HX.out false (by simp; omega)), below_al _ _⟩

set_option maxHeartbeats 400000 in
theorem takes_any (s0 s1 s2 k : Nat) (w : World) (hs : s0 < 2 ^ 16) (hk : k < 16) :
    Calls Try.prog 22 #[.agg #[.int .u16 (s0 : Int), .int .u16 (s1 : Int), .int .u16 (s2 : Int)], .int .i64 (k : Int)] w fun e w' => e = .returned (.bool (s0.testBit k)) ∧ Below w.heap.size w w' := by
  go_enter Try.func22, Try.ntmps22
  go_wp2_with fail
  refine (hasI_any s0 k _ hs hk).mono ?_
  rintro e w' ⟨rfl, rfl⟩
  obtain ⟨b, hb⟩ : ∃ b, Hid (s0.testBit k = b) := ⟨_, rfl⟩
  rw [hb.out]
  go_wp2_with fail
  go_ret
  exact ⟨by rw [hb.out]; rfl, below_al _ _⟩

set_option maxHeartbeats 400000 in
theorem takesCl_any (s0 s1 s2 k bj bq : Nat) (w : World) (hs : s0 < 2 ^ 16) (hk : k < 16) (hj : w.cell? ⟨bj, 0, none⟩ = some (.func (.func 22) #[] #[])) (hq : w.cell? ⟨bq, 0, none⟩ = some (.int .i64 (k : Int))) (hbj : bj < w.heap.size) (hbq : bq < w.heap.size) :
    Calls Try.prog 35 #[.agg #[.int .u16 (s0 : Int), .int .u16 (s1 : Int), .int .u16 (s2 : Int)], .pointer (some ⟨bj, 0, none⟩), .pointer (some ⟨bq, 0, none⟩)] w fun e w' => e = .returned (.bool (s0.testBit k)) ∧ Below w.heap.size w w' := by
  go_enter Try.func35, Try.ntmps35
  go_wp2_with fail
  refine (takes_any s0 s1 s2 k _ hs hk).mono ?_
  rintro e w1 ⟨rfl, hb1⟩
  have HB := hide ((below_al w (.cells #[.int .u16 (s0 : Int), .int .u16 (s1 : Int), .int .u16 (s2 : Int)] 49)).trans (hb1.mono (by simp)))
  obtain ⟨b, hb⟩ : ∃ b, Hid (s0.testBit k = b) := ⟨_, rfl⟩
  rw [hb.out]
  clear hb1
  go_wp2_with fail
  go_ret
  exact ⟨by rw [hb.out]; rfl, HB.out⟩

set_option maxHeartbeats 2000000 in
theorem takesAt_any (p q : Int) (a : Option Addr) (n c : Nat) (L : List (List Int)) (w : World) (h : Lists w a (3 * n) L) (hs : sizeN n L ≤ 1048576) :
    Calls Try.prog 21 #[.agg #[.int .i64 p, .slice a n c], .int .i64 q, .func (.func 22) #[] #[]] w fun e w' => OEnd (atOk p n L q) (atR (fun i => hasB (L.getD (3 * i) []) q) p n L q) w e w' := by
  have hAl := ((below_al w (.cells #[.int .i64 p, .slice a n c] 31)).alloc (by simp) (.cells #[.int .i64 q] 3)).alloc (by simp; omega) (.cells #[.func (.func 22) #[] #[]] 44)
  have P1 : (((w.alloc (.cells #[.int .i64 p, .slice a n c] 31)).alloc (.cells #[.int .i64 q] 3)).alloc (.cells #[.func (.func 22) #[] #[]] 44)).heap[w.heap.size + 1]? = some (.cells #[.int .i64 q] 3 (0, 0)) := by
    rw [heap_al_old _ _ _ (by simp)]
    have := heap_alloc_new (w.alloc (.cells #[.int .i64 p, .slice a n c] 31)) (.cells #[.int .i64 q] 3)
    simpa using this
  have P2 : (((w.alloc (.cells #[.int .i64 p, .slice a n c] 31)).alloc (.cells #[.int .i64 q] 3)).alloc (.cells #[.func (.func 22) #[] #[]] 44)).heap[w.heap.size + 1 + 1]? = some (.cells #[.func (.func 22) #[] #[]] 44 (0, 0)) := by
    have := heap_alloc_new ((w.alloc (.cells #[.int .i64 p, .slice a n c] 31)).alloc (.cells #[.int .i64 q] 3)) (.cells #[.func (.func 22) #[] #[]] 44)
    simpa using this
  have HNS := hide (netSteps_any p a n c L _ (h.below hAl) hs)
  have HB0 := hide hAl
  have HP := hide (And.intro P1 P2)
  clear h hAl P1 P2
  go_enter Try.func21, Try.ntmps21
  go_wp2_with fail
  refine HNS.out.mono ?_
  rintro e w2 ⟨p', a', m, c', rfl, hx, hb⟩
  have hA := below_al w2 (.cells #[.int .i64 p', .slice a' m c'] 61)
  have hbA := hb.trans (hA.mono hb.size)
  have HB1 := hide (HB0.out.trans (hbA.mono HB0.out.size))
  have HP1 := hide (And.intro (keep HP.out.1 hbA) (keep HP.out.2 hbA))
  have hq1 := cell_of_row _ (w.heap.size + 1) 0 _ _ _ (keep HP.out.1 hb)
  simp at hq1
  have hlq := row_lt (keep HP.out.1 hb)
  have hl2 := row_lt (keep HP.out.2 hb)
  have hz := HB0.out.size
  clear HNS HB0 HP
  by_cases hg : netOk p n L = true
  rotate_left
  · have hg' : netOk p n L = false := by simpa using hg
    have HN : Hid (OEnd (atOk p n L q) (atR (fun i => hasB (L.getD (3 * i) []) q) p n L q) w (.returned (.tuple #[.slice none 0 0, .bool false])) (w2.alloc (.cells #[.int .i64 p', .slice a' m c'] 61))) := oend_no (show atOk p n L q = false by unfold atOk; rw [hg']; rfl) HB1.out
    rw [hg']
    clear hg hg' hx hb hA hbA
    go_wp2_with fail
    go_ret2
    exact HN.out
  obtain ⟨e1, e2, e3, B, e4, hBs, hps⟩ := hx.out hg
  subst e1 e2 e3 e4
  rw [hg]
  have HG := hide hg
  have hn24 := netOkN' hg
  obtain ⟨hp1, hp2⟩ := netOkP' hg
  have HPS := hide (hps.grow hA)
  clear hg hx hb hA hbA hps
  have HV := hide (heap_alloc_new w2 (.cells #[.int .i64 p', .slice (some ⟨B, 0, none⟩) c' c'] 61))
  go_wp2_with fail
  refine (lacksT_any _ _ _ _ _ _).mono ?_
  rintro e w3 ⟨rfl, hb3⟩
  have HB2 := hide (HB1.out.trans (hb3.mono HB1.out.size))
  have HP2 := hide (And.intro (keep HP1.out.1 hb3) (keep HP1.out.2 hb3))
  have HPS2 := hide (HPS.out.grow hb3)
  obtain ⟨hv0, hv1⟩ := cells2 (keep HV.out hb3)
  have hq1 := cell_of_row _ (w.heap.size + 1) 0 _ _ _ HP2.out.1
  simp at hq1
  clear hb3 HB1 HP1 HPS HV
  by_cases g2 : inB q 0 (p' - 1) = true
  rotate_left
  · have g2' : inB q 0 (p' - 1) = false := by simpa using g2
    have HN : Hid (OEnd (atOk p' c' L q) (atR (fun i => hasB (L.getD (3 * i) []) q) p' c' L q) w (.returned (.tuple #[.slice none 0 0, .bool false])) w3) := oend_no (show atOk p' c' L q = false by unfold atOk; rw [g2']; simp) HB2.out
    rw [g2']
    clear g2 g2'
    go_wp2_with fail
    go_ret2
    exact HN.out
  rw [g2]
  have hqb : 0 ≤ q ∧ q ≤ p' - 1 := by simpa [inB] using g2
  obtain ⟨k, rfl⟩ : ∃ k : Nat, q = (k : Int) := ⟨q.toNat, by omega⟩
  have hk16 : k < 16 := by omega
  have hk0 : ¬ (k : Int) < 0 := by omega
  have hkp : ¬ p' ≤ (k : Int) := by omega
  have HOK := hide (show atOk p' c' L (k : Int) = true by unfold atOk; rw [HG.out, g2]; rfl)
  have HC := hide (numsAt_any (w.heap.size + 1 + 1) (w.heap.size + 1) (fun i => hasB (L.getD (3 * i) []) (k : Int)) p' B c' L w3 HPS2.out hn24 (fun W1 hW1 i hi => by
    have htri := tri_riseT (triOkT HG.out hi)
    have hm := mask16T htri.1 ⟨hp1, hp2⟩
    have hc := takesCl_any (maskL (L.getD (3 * i) [])) (maskL (L.getD (3 * i + 1) [])) (maskL (L.getD (3 * i + 2) [])) k (w.heap.size + 1 + 1) (w.heap.size + 1) W1 hm hk16 (cell_of_row W1 _ 0 _ _ _ (keep HP2.out.2 hW1)) (cell_of_row W1 _ 0 _ _ _ (keep HP2.out.1 hW1)) (row_lt (keep HP2.out.2 hW1)) (row_lt (keep HP2.out.1 hW1))
    rw [maskL_bit _ _ (fun z hz => (riseB_mem htri.1 z hz).1)] at hc
    rw [show hasB (L.getD (3 * i) []) (k : Int) = decide ((k : Int) ∈ L.getD (3 * i) []) by unfold hasB; simp]
    exact hc))
  clear g2 hqb
  go_wp2_with fail
  refine HC.out.mono ?_
  rintro e w4 ⟨v, mm, rfl, hown, hb⟩
  obtain ⟨av, bv, cv, hv, hbv, hob⟩ := own_ob hown
  subst hv
  have HY : Hid (OEnd (atOk p' c' L (k : Int)) (atR (fun i => hasB (L.getD (3 * i) []) (k : Int)) p' c' L (k : Int)) w (.returned (.tuple #[.slice av mm cv, .bool true])) w4) := oend_yes HOK.out hob (by have := HB2.out.size; omega) (HB2.out.trans (hb.mono HB2.out.size))
  clear hown hb hob HC
  go_wp2_with fail
  go_ret2
  exact HY.out

set_option maxHeartbeats 400000 in
theorem takesI_any (p q : Int) (a : Option Addr) (n c : Nat) (L : List (List Int)) (w : World) (h : Lists w a (3 * n) L) (hs : sizeN n L ≤ 1048576) :
    Calls Try.prog 8 #[.agg #[.int .i64 p, .slice a n c], .int .i64 q] w fun e w' => OEnd (atOk p n L q) (atR (fun i => hasB (L.getD (3 * i) []) q) p n L q) w e w' := by
  have hAl := below_al w (.cells #[.int .i64 p, .slice a n c] 31)
  have HT := hide (takesAt_any p q a n c L _ (h.below hAl) hs)
  have HB0 := hide hAl
  clear h hAl
  go_enter Try.func8, Try.ntmps8
  go_wp2_with fail
  refine HT.out.mono ?_
  rintro e w1 ⟨av, bv, nv, cv, rfl, hob, hbv, hb⟩
  have HE : Hid (OEnd (atOk p n L q) (atR (fun i => hasB (L.getD (3 * i) []) q) p n L q) w (.returned (.tuple #[.slice av nv cv, .bool (atOk p n L q)])) w1) := ⟨av, bv, nv, cv, rfl, hob, by have := HB0.out.size; omega, HB0.out.trans (hb.mono HB0.out.size)⟩
  obtain ⟨g, hg⟩ : ∃ g, Hid (atOk p n L q = g) := ⟨_, rfl⟩
  have HE2 : Hid (OEnd (atOk p n L q) (atR (fun i => hasB (L.getD (3 * i) []) q) p n L q) w (.returned (.tuple #[.slice av nv cv, .bool g])) w1) := by have := HE.out; rw [hg.out] at this; rw [hg.out]; exact this
  rw [hg.out]
  clear hob hb HT HE
  go_wp2_with fail
  go_ret2
  exact HE2.out

set_option maxHeartbeats 400000 in
theorem gives_any (s0 s1 s2 k : Nat) (w : World) (hs : s1 < 2 ^ 16) (hk : k < 16) :
    Calls Try.prog 26 #[.agg #[.int .u16 (s0 : Int), .int .u16 (s1 : Int), .int .u16 (s2 : Int)], .int .i64 (k : Int)] w fun e w' => e = .returned (.bool (s1.testBit k)) ∧ Below w.heap.size w w' := by
  go_enter Try.func26, Try.ntmps26
  go_wp2_with fail
  refine (hasI_any s1 k _ hs hk).mono ?_
  rintro e w' ⟨rfl, rfl⟩
  obtain ⟨b, hb⟩ : ∃ b, Hid (s1.testBit k = b) := ⟨_, rfl⟩
  rw [hb.out]
  go_wp2_with fail
  go_ret
  exact ⟨by rw [hb.out]; rfl, below_al _ _⟩

set_option maxHeartbeats 400000 in
theorem givesCl_any (s0 s1 s2 k bj bq : Nat) (w : World) (hs : s1 < 2 ^ 16) (hk : k < 16) (hj : w.cell? ⟨bj, 0, none⟩ = some (.func (.func 26) #[] #[])) (hq : w.cell? ⟨bq, 0, none⟩ = some (.int .i64 (k : Int))) (hbj : bj < w.heap.size) (hbq : bq < w.heap.size) :
    Calls Try.prog 35 #[.agg #[.int .u16 (s0 : Int), .int .u16 (s1 : Int), .int .u16 (s2 : Int)], .pointer (some ⟨bj, 0, none⟩), .pointer (some ⟨bq, 0, none⟩)] w fun e w' => e = .returned (.bool (s1.testBit k)) ∧ Below w.heap.size w w' := by
  go_enter Try.func35, Try.ntmps35
  go_wp2_with fail
  refine (gives_any s0 s1 s2 k _ hs hk).mono ?_
  rintro e w1 ⟨rfl, hb1⟩
  have HB := hide ((below_al w (.cells #[.int .u16 (s0 : Int), .int .u16 (s1 : Int), .int .u16 (s2 : Int)] 49)).trans (hb1.mono (by simp)))
  obtain ⟨b, hb⟩ : ∃ b, Hid (s1.testBit k = b) := ⟨_, rfl⟩
  rw [hb.out]
  clear hb1
  go_wp2_with fail
  go_ret
  exact ⟨by rw [hb.out]; rfl, HB.out⟩

set_option maxHeartbeats 2000000 in
theorem givesAt_any (p q : Int) (a : Option Addr) (n c : Nat) (L : List (List Int)) (w : World) (h : Lists w a (3 * n) L) (hs : sizeN n L ≤ 1048576) :
    Calls Try.prog 21 #[.agg #[.int .i64 p, .slice a n c], .int .i64 q, .func (.func 26) #[] #[]] w fun e w' => OEnd (atOk p n L q) (atR (fun i => hasB (L.getD (3 * i + 1) []) q) p n L q) w e w' := by
  have hAl := ((below_al w (.cells #[.int .i64 p, .slice a n c] 31)).alloc (by simp) (.cells #[.int .i64 q] 3)).alloc (by simp; omega) (.cells #[.func (.func 26) #[] #[]] 44)
  have P1 : (((w.alloc (.cells #[.int .i64 p, .slice a n c] 31)).alloc (.cells #[.int .i64 q] 3)).alloc (.cells #[.func (.func 26) #[] #[]] 44)).heap[w.heap.size + 1]? = some (.cells #[.int .i64 q] 3 (0, 0)) := by
    rw [heap_al_old _ _ _ (by simp)]
    have := heap_alloc_new (w.alloc (.cells #[.int .i64 p, .slice a n c] 31)) (.cells #[.int .i64 q] 3)
    simpa using this
  have P2 : (((w.alloc (.cells #[.int .i64 p, .slice a n c] 31)).alloc (.cells #[.int .i64 q] 3)).alloc (.cells #[.func (.func 26) #[] #[]] 44)).heap[w.heap.size + 1 + 1]? = some (.cells #[.func (.func 26) #[] #[]] 44 (0, 0)) := by
    have := heap_alloc_new ((w.alloc (.cells #[.int .i64 p, .slice a n c] 31)).alloc (.cells #[.int .i64 q] 3)) (.cells #[.func (.func 26) #[] #[]] 44)
    simpa using this
  have HNS := hide (netSteps_any p a n c L _ (h.below hAl) hs)
  have HB0 := hide hAl
  have HP := hide (And.intro P1 P2)
  clear h hAl P1 P2
  go_enter Try.func21, Try.ntmps21
  go_wp2_with fail
  refine HNS.out.mono ?_
  rintro e w2 ⟨p', a', m, c', rfl, hx, hb⟩
  have hA := below_al w2 (.cells #[.int .i64 p', .slice a' m c'] 61)
  have hbA := hb.trans (hA.mono hb.size)
  have HB1 := hide (HB0.out.trans (hbA.mono HB0.out.size))
  have HP1 := hide (And.intro (keep HP.out.1 hbA) (keep HP.out.2 hbA))
  have hq1 := cell_of_row _ (w.heap.size + 1) 0 _ _ _ (keep HP.out.1 hb)
  simp at hq1
  have hlq := row_lt (keep HP.out.1 hb)
  have hl2 := row_lt (keep HP.out.2 hb)
  have hz := HB0.out.size
  clear HNS HB0 HP
  by_cases hg : netOk p n L = true
  rotate_left
  · have hg' : netOk p n L = false := by simpa using hg
    have HN : Hid (OEnd (atOk p n L q) (atR (fun i => hasB (L.getD (3 * i + 1) []) q) p n L q) w (.returned (.tuple #[.slice none 0 0, .bool false])) (w2.alloc (.cells #[.int .i64 p', .slice a' m c'] 61))) := oend_no (show atOk p n L q = false by unfold atOk; rw [hg']; rfl) HB1.out
    rw [hg']
    clear hg hg' hx hb hA hbA
    go_wp2_with fail
    go_ret2
    exact HN.out
  obtain ⟨e1, e2, e3, B, e4, hBs, hps⟩ := hx.out hg
  subst e1 e2 e3 e4
  rw [hg]
  have HG := hide hg
  have hn24 := netOkN' hg
  obtain ⟨hp1, hp2⟩ := netOkP' hg
  have HPS := hide (hps.grow hA)
  clear hg hx hb hA hbA hps
  have HV := hide (heap_alloc_new w2 (.cells #[.int .i64 p', .slice (some ⟨B, 0, none⟩) c' c'] 61))
  go_wp2_with fail
  refine (lacksT_any _ _ _ _ _ _).mono ?_
  rintro e w3 ⟨rfl, hb3⟩
  have HB2 := hide (HB1.out.trans (hb3.mono HB1.out.size))
  have HP2 := hide (And.intro (keep HP1.out.1 hb3) (keep HP1.out.2 hb3))
  have HPS2 := hide (HPS.out.grow hb3)
  obtain ⟨hv0, hv1⟩ := cells2 (keep HV.out hb3)
  have hq1 := cell_of_row _ (w.heap.size + 1) 0 _ _ _ HP2.out.1
  simp at hq1
  clear hb3 HB1 HP1 HPS HV
  by_cases g2 : inB q 0 (p' - 1) = true
  rotate_left
  · have g2' : inB q 0 (p' - 1) = false := by simpa using g2
    have HN : Hid (OEnd (atOk p' c' L q) (atR (fun i => hasB (L.getD (3 * i + 1) []) q) p' c' L q) w (.returned (.tuple #[.slice none 0 0, .bool false])) w3) := oend_no (show atOk p' c' L q = false by unfold atOk; rw [g2']; simp) HB2.out
    rw [g2']
    clear g2 g2'
    go_wp2_with fail
    go_ret2
    exact HN.out
  rw [g2]
  have hqb : 0 ≤ q ∧ q ≤ p' - 1 := by simpa [inB] using g2
  obtain ⟨k, rfl⟩ : ∃ k : Nat, q = (k : Int) := ⟨q.toNat, by omega⟩
  have hk16 : k < 16 := by omega
  have hk0 : ¬ (k : Int) < 0 := by omega
  have hkp : ¬ p' ≤ (k : Int) := by omega
  have HOK := hide (show atOk p' c' L (k : Int) = true by unfold atOk; rw [HG.out, g2]; rfl)
  have HC := hide (numsAt_any (w.heap.size + 1 + 1) (w.heap.size + 1) (fun i => hasB (L.getD (3 * i + 1) []) (k : Int)) p' B c' L w3 HPS2.out hn24 (fun W1 hW1 i hi => by
    have htri := tri_riseT (triOkT HG.out hi)
    have hm := mask16T htri.2.1 ⟨hp1, hp2⟩
    have hc := givesCl_any (maskL (L.getD (3 * i) [])) (maskL (L.getD (3 * i + 1) [])) (maskL (L.getD (3 * i + 2) [])) k (w.heap.size + 1 + 1) (w.heap.size + 1) W1 hm hk16 (cell_of_row W1 _ 0 _ _ _ (keep HP2.out.2 hW1)) (cell_of_row W1 _ 0 _ _ _ (keep HP2.out.1 hW1)) (row_lt (keep HP2.out.2 hW1)) (row_lt (keep HP2.out.1 hW1))
    rw [maskL_bit _ _ (fun z hz => (riseB_mem htri.2.1 z hz).1)] at hc
    rw [show hasB (L.getD (3 * i + 1) []) (k : Int) = decide ((k : Int) ∈ L.getD (3 * i + 1) []) by unfold hasB; simp]
    exact hc))
  clear g2 hqb
  go_wp2_with fail
  refine HC.out.mono ?_
  rintro e w4 ⟨v, mm, rfl, hown, hb⟩
  obtain ⟨av, bv, cv, hv, hbv, hob⟩ := own_ob hown
  subst hv
  have HY : Hid (OEnd (atOk p' c' L (k : Int)) (atR (fun i => hasB (L.getD (3 * i + 1) []) (k : Int)) p' c' L (k : Int)) w (.returned (.tuple #[.slice av mm cv, .bool true])) w4) := oend_yes HOK.out hob (by have := HB2.out.size; omega) (HB2.out.trans (hb.mono HB2.out.size))
  clear hown hb hob HC
  go_wp2_with fail
  go_ret2
  exact HY.out

set_option maxHeartbeats 400000 in
theorem givesI_any (p q : Int) (a : Option Addr) (n c : Nat) (L : List (List Int)) (w : World) (h : Lists w a (3 * n) L) (hs : sizeN n L ≤ 1048576) :
    Calls Try.prog 15 #[.agg #[.int .i64 p, .slice a n c], .int .i64 q] w fun e w' => OEnd (atOk p n L q) (atR (fun i => hasB (L.getD (3 * i + 1) []) q) p n L q) w e w' := by
  have hAl := below_al w (.cells #[.int .i64 p, .slice a n c] 31)
  have HT := hide (givesAt_any p q a n c L _ (h.below hAl) hs)
  have HB0 := hide hAl
  clear h hAl
  go_enter Try.func15, Try.ntmps15
  go_wp2_with fail
  refine HT.out.mono ?_
  rintro e w1 ⟨av, bv, nv, cv, rfl, hob, hbv, hb⟩
  have HE : Hid (OEnd (atOk p n L q) (atR (fun i => hasB (L.getD (3 * i + 1) []) q) p n L q) w (.returned (.tuple #[.slice av nv cv, .bool (atOk p n L q)])) w1) := ⟨av, bv, nv, cv, rfl, hob, by have := HB0.out.size; omega, HB0.out.trans (hb.mono HB0.out.size)⟩
  obtain ⟨g, hg⟩ : ∃ g, Hid (atOk p n L q = g) := ⟨_, rfl⟩
  have HE2 : Hid (OEnd (atOk p n L q) (atR (fun i => hasB (L.getD (3 * i + 1) []) q) p n L q) w (.returned (.tuple #[.slice av nv cv, .bool g])) w1) := by have := HE.out; rw [hg.out] at this; rw [hg.out]; exact this
  rw [hg.out]
  clear hob hb HT HE
  go_wp2_with fail
  go_ret2
  exact HE2.out

end Go.Proofs.Ytecgiinhdigpoaa
