/- Contracts that the proof stands on, one behind the other. -/
import Derived.Test.YtdhnhpjcoeglmaaP10
/- The program's TakersOf and GiversOf, for every net and place. -/
namespace Go.Proofs.Ytdhnhpjcoeglmaa
open Go.RowKit
set_option maxRecDepth 10000

theorem triOkT {p : Int} {n i : Nat} {L : List (List Int)} (h : netOk p n L = true) (hi : i < n) : triOk p L i = true := by
  unfold netOk at h
  rw [Bool.and_eq_true] at h
  exact List.all_eq_true.mp h.2 i (by simpa using hi)

theorem tri_riseT {p : Int} {L : List (List Int)} {i : Nat} (h : triOk p L i = true) : riseB (L.getD (3 * i) []) 0 (p - 1) = true ∧ riseB (L.getD (3 * i + 1) []) 0 (p - 1) = true ∧ riseB (L.getD (3 * i + 2) []) 0 (p - 1) = true := by
  unfold triOk at h
  simp only [Bool.and_eq_true] at h
  exact ⟨h.1.1.2, h.1.2, h.2⟩

theorem mask16T {p : Int} {xs : List Int} (h : riseB xs 0 (p - 1) = true) (hp : 1 ≤ p ∧ p ≤ 16) : maskL xs < 2 ^ 16 := by
  refine maskL_lt _ fun x hx => ?_
  have := riseB_mem h x hx
  omega

theorem oend_no {f : Nat → Bool} {p : Int} {n : Nat} {L : List (List Int)} {q : Int} {w w' : World} (h : atOk p n L q = false) (hb : Below w.heap.size w w') : OEnd (atOk p n L q) (atR f p n L q) w (.returned (.tuple #[.slice none 0 0, .bool false])) w' := by
  refine ⟨none, w.heap.size, 0, 0, by rw [h], ⟨?_, .inl rfl⟩, Nat.le_refl _, hb⟩
  unfold atR; rw [h]; rfl

theorem oend_yes {f : Nat → Bool} {p : Int} {n : Nat} {L : List (List Int)} {q : Int} {w w' : World} {a : Option Addr} {b m c : Nat} (h : atOk p n L q = true) (hr : Ob w' a b m (numsL f n)) (hB : w.heap.size ≤ b) (hb : Below w.heap.size w w') : OEnd (atOk p n L q) (atR f p n L q) w (.returned (.tuple #[.slice a m c, .bool true])) w' := by
  refine ⟨a, b, m, c, by rw [h], ?_, hB, hb⟩
  unfold atR; rw [h]; exact hr

theorem lacksT_any (p q : Int) (a : Option Addr) (n c : Nat) (w : World) :
    Calls Try.prog 137 #[.agg #[.int .i64 p, .slice a n c], .int .i64 q] w fun e w' => e = .returned (.bool (!inB q 0 (p - 1))) ∧ Below w.heap.size w w' := by
  have HX : Hid (∀ b : Bool, (b = true ↔ q < 0 ∨ p ≤ q) → b = !inB q 0 (p - 1)) := by
    intro b hb
    unfold inB
    cases b
    · have : ¬ (q < 0 ∨ p ≤ q) := fun h => by simpa using hb.mpr h
      simp; omega
    · have := hb.mp rfl
      simp; omega
  by_cases h0 : q < 0
  · go_enter Try.func137, Try.ntmps137
    go_wp2_with fail
    go_ret
    exact ⟨ret_bool (HX.out true (by simp [h0])), below_al _ _⟩
  by_cases h1 : p ≤ q
  · go_enter Try.func137, Try.ntmps137
    go_wp2_with fail
    go_ret
    exact ⟨ret_bool (HX.out true (by simp [h1])), below_al _ _⟩
  · go_enter Try.func137, Try.ntmps137
    go_wp2_with fail
    go_ret
    exact ⟨ret_bool (HX.out false (by simp; omega)), below_al _ _⟩

set_option maxHeartbeats 400000 in
theorem takes_any (s0 s1 s2 k : Nat) (w : World) (hs : s0 < 2 ^ 16) (hk : k < 16) :
    Calls Try.prog 73 #[.agg #[.int .u16 (s0 : Int), .int .u16 (s1 : Int), .int .u16 (s2 : Int)], .int .i64 (k : Int)] w fun e w' => e = .returned (.bool (s0.testBit k)) ∧ Below w.heap.size w w' := by
  go_enter Try.func73, Try.ntmps73
  go_wp2_with fail
  refine (hasI_any s0 k _ hs hk).mono ?_
  rintro e w' ⟨rfl, rfl⟩
  obtain ⟨b, hb⟩ : ∃ b, Hid (s0.testBit k = b) := ⟨_, rfl⟩
  rw [hb.out]
  go_wp2_with fail
  go_ret
  exact ⟨by rw [hb.out]; rfl, below_al _ _⟩

set_option maxHeartbeats 400000 in
theorem takesCl_any (s0 s1 s2 k bj bq : Nat) (w : World) (hs : s0 < 2 ^ 16) (hk : k < 16) (hj : w.cell? ⟨bj, 0, none⟩ = some (.func (.func 73) #[] #[])) (hq : w.cell? ⟨bq, 0, none⟩ = some (.int .i64 (k : Int))) (hbj : bj < w.heap.size) (hbq : bq < w.heap.size) :
    Calls Try.prog 138 #[.agg #[.int .u16 (s0 : Int), .int .u16 (s1 : Int), .int .u16 (s2 : Int)], .pointer (some ⟨bj, 0, none⟩), .pointer (some ⟨bq, 0, none⟩)] w fun e w' => e = .returned (.bool (s0.testBit k)) ∧ Below w.heap.size w w' := by
  go_enter Try.func138, Try.ntmps138
  go_wp2_with fail
  refine (takes_any s0 s1 s2 k _ hs hk).mono ?_
  rintro e w1 ⟨rfl, hb1⟩
  have HB := hide ((below_al w (.cells #[.int .u16 (s0 : Int), .int .u16 (s1 : Int), .int .u16 (s2 : Int)] 88)).trans (hb1.mono (by simp)))
  obtain ⟨b, hb⟩ : ∃ b, Hid (s0.testBit k = b) := ⟨_, rfl⟩
  rw [hb.out]
  clear hb1
  go_wp2_with fail
  go_ret
  exact ⟨by rw [hb.out]; rfl, HB.out⟩

set_option maxHeartbeats 2000000 in
theorem takesAt_any (p q : Int) (a : Option Addr) (n c : Nat) (L : List (List Int)) (w : World) (h : Lists w a (3 * n) L) (hs : sizeN n L ≤ 1048576) :
    Calls Try.prog 72 #[.agg #[.int .i64 p, .slice a n c], .int .i64 q, .func (.func 73) #[] #[]] w fun e w' => OEnd (atOk p n L q) (atR (fun i => hasB (L.getD (3 * i) []) q) p n L q) w e w' := by
  have hAl := ((below_al w (.cells #[.int .i64 p, .slice a n c] 26)).alloc (by simp) (.cells #[.int .i64 q] 3)).alloc (by simp; omega) (.cells #[.func (.func 73) #[] #[]] 101)
  have P1 : (((w.alloc (.cells #[.int .i64 p, .slice a n c] 26)).alloc (.cells #[.int .i64 q] 3)).alloc (.cells #[.func (.func 73) #[] #[]] 101)).heap[w.heap.size + 1]? = some (.cells #[.int .i64 q] 3 (0, 0)) := by
    rw [heap_al_old _ _ _ (by simp)]
    have := heap_alloc_new (w.alloc (.cells #[.int .i64 p, .slice a n c] 26)) (.cells #[.int .i64 q] 3)
    simpa using this
  have P2 : (((w.alloc (.cells #[.int .i64 p, .slice a n c] 26)).alloc (.cells #[.int .i64 q] 3)).alloc (.cells #[.func (.func 73) #[] #[]] 101)).heap[w.heap.size + 1 + 1]? = some (.cells #[.func (.func 73) #[] #[]] 101 (0, 0)) := by
    have := heap_alloc_new ((w.alloc (.cells #[.int .i64 p, .slice a n c] 26)).alloc (.cells #[.int .i64 q] 3)) (.cells #[.func (.func 73) #[] #[]] 101)
    simpa using this
  have HNS := hide (netSteps_any p a n c L _ (h.below hAl) hs)
  have HB0 := hide hAl
  have HP := hide (And.intro P1 P2)
  clear h hAl P1 P2
  go_enter Try.func72, Try.ntmps72
  go_wp2_with fail
  refine HNS.out.mono ?_
  rintro e w2 ⟨p', a', m, c', rfl, hx, hb⟩
  have hA := below_al w2 (.cells #[.int .i64 p', .slice a' m c'] 82)
  have hbA := hb.trans (hA.mono hb.size)
  have HB1 := hide (HB0.out.trans (hbA.mono HB0.out.size))
  have HP1 := hide (And.intro (keep HP.out.1 hbA) (keep HP.out.2 hbA))
  have hq1 := cell_of_row _ (w.heap.size + 1) 0 _ _ _ (keep HP.out.1 hb)
  simp at hq1
  have hlq := row_lt (keep HP.out.1 hb)
  have hl2 := row_lt (keep HP.out.2 hb)
  have hz := HB0.out.size
  clear HNS HB0 HP
  by_cases hg : netOk p n L = true
  rotate_left
  · have hg' : netOk p n L = false := by simpa using hg
    have HN : Hid (OEnd (atOk p n L q) (atR (fun i => hasB (L.getD (3 * i) []) q) p n L q) w (.returned (.tuple #[.slice none 0 0, .bool false])) (w2.alloc (.cells #[.int .i64 p', .slice a' m c'] 82))) := oend_no (show atOk p n L q = false by unfold atOk; rw [hg']; rfl) HB1.out
    rw [hg']
    clear hg hg' hx hb hA hbA
    go_wp2_with fail
    go_ret2
    exact HN.out
  obtain ⟨e1, e2, e3, B, e4, hBs, hps⟩ := hx.out hg
  subst e1 e2 e3 e4
  rw [hg]
  have HG := hide hg
  have hn24 := netOkN' hg
  obtain ⟨hp1, hp2⟩ := netOkP' hg
  have HPS := hide (hps.grow hA)
  clear hg hx hb hA hbA hps
  have HV := hide (heap_alloc_new w2 (.cells #[.int .i64 p', .slice (some ⟨B, 0, none⟩) c' c'] 82))
  go_wp2_with fail
  refine (lacksT_any _ _ _ _ _ _).mono ?_
  rintro e w3 ⟨rfl, hb3⟩
  have HB2 := hide (HB1.out.trans (hb3.mono HB1.out.size))
  have HP2 := hide (And.intro (keep HP1.out.1 hb3) (keep HP1.out.2 hb3))
  have HPS2 := hide (HPS.out.grow hb3)
  obtain ⟨hv0, hv1⟩ := cells2 (keep HV.out hb3)
  have hq1 := cell_of_row _ (w.heap.size + 1) 0 _ _ _ HP2.out.1
  simp at hq1
  clear hb3 HB1 HP1 HPS HV
  by_cases g2 : inB q 0 (p' - 1) = true
  rotate_left
  · have g2' : inB q 0 (p' - 1) = false := by simpa using g2
    have HN : Hid (OEnd (atOk p' c' L q) (atR (fun i => hasB (L.getD (3 * i) []) q) p' c' L q) w (.returned (.tuple #[.slice none 0 0, .bool false])) w3) := oend_no (show atOk p' c' L q = false by unfold atOk; rw [g2']; simp) HB2.out
    rw [g2']
    clear g2 g2'
    go_wp2_with fail
    go_ret2
    exact HN.out
  rw [g2]
  have hqb : 0 ≤ q ∧ q ≤ p' - 1 := by simpa [inB] using g2
  obtain ⟨k, rfl⟩ : ∃ k : Nat, q = (k : Int) := ⟨q.toNat, by omega⟩
  have hk16 : k < 16 := by omega
  have hk0 : ¬ (k : Int) < 0 := by omega
  have hkp : ¬ p' ≤ (k : Int) := by omega
  have HOK := hide (show atOk p' c' L (k : Int) = true by unfold atOk; rw [HG.out, g2]; rfl)
  have HC := hide (numsAt_any (w.heap.size + 1 + 1) (w.heap.size + 1) (fun i => hasB (L.getD (3 * i) []) (k : Int)) p' B c' L w3 HPS2.out hn24 (fun W1 hW1 i hi => by
    have htri := tri_riseT (triOkT HG.out hi)
    have hm := mask16T htri.1 ⟨hp1, hp2⟩
    have hc := takesCl_any (maskL (L.getD (3 * i) [])) (maskL (L.getD (3 * i + 1) [])) (maskL (L.getD (3 * i + 2) [])) k (w.heap.size + 1 + 1) (w.heap.size + 1) W1 hm hk16 (cell_of_row W1 _ 0 _ _ _ (keep HP2.out.2 hW1)) (cell_of_row W1 _ 0 _ _ _ (keep HP2.out.1 hW1)) (row_lt (keep HP2.out.2 hW1)) (row_lt (keep HP2.out.1 hW1))
    rw [maskL_bit _ _ (fun z hz => (riseB_mem htri.1 z hz).1)] at hc
    rw [show hasB (L.getD (3 * i) []) (k : Int) = decide ((k : Int) ∈ L.getD (3 * i) []) by unfold hasB; simp]
    exact hc))
  clear g2 hqb
  go_wp2_with fail
  refine HC.out.mono ?_
  rintro e w4 ⟨v, mm, rfl, hown, hb⟩
  obtain ⟨av, bv, cv, hv, hbv, hob⟩ := own_ob hown
  subst hv
  have HY : Hid (OEnd (atOk p' c' L (k : Int)) (atR (fun i => hasB (L.getD (3 * i) []) (k : Int)) p' c' L (k : Int)) w (.returned (.tuple #[.slice av mm cv, .bool true])) w4) := oend_yes HOK.out hob (by have := HB2.out.size; omega) (HB2.out.trans (hb.mono HB2.out.size))
  clear hown hb hob HC
  go_wp2_with fail
  go_ret2
  exact HY.out

set_option maxHeartbeats 400000 in
theorem takesI_any (p q : Int) (a : Option Addr) (n c : Nat) (L : List (List Int)) (w : World) (h : Lists w a (3 * n) L) (hs : sizeN n L ≤ 1048576) :
    Calls Try.prog 17 #[.agg #[.int .i64 p, .slice a n c], .int .i64 q] w fun e w' => OEnd (atOk p n L q) (atR (fun i => hasB (L.getD (3 * i) []) q) p n L q) w e w' := by
  have hAl := below_al w (.cells #[.int .i64 p, .slice a n c] 26)
  have HT := hide (takesAt_any p q a n c L _ (h.below hAl) hs)
  have HB0 := hide hAl
  clear h hAl
  go_enter Try.func17, Try.ntmps17
  go_wp2_with fail
  refine HT.out.mono ?_
  rintro e w1 ⟨av, bv, nv, cv, rfl, hob, hbv, hb⟩
  have HE : Hid (OEnd (atOk p n L q) (atR (fun i => hasB (L.getD (3 * i) []) q) p n L q) w (.returned (.tuple #[.slice av nv cv, .bool (atOk p n L q)])) w1) := ⟨av, bv, nv, cv, rfl, hob, by have := HB0.out.size; omega, HB0.out.trans (hb.mono HB0.out.size)⟩
  obtain ⟨g, hg⟩ : ∃ g, Hid (atOk p n L q = g) := ⟨_, rfl⟩
  have HE2 : Hid (OEnd (atOk p n L q) (atR (fun i => hasB (L.getD (3 * i) []) q) p n L q) w (.returned (.tuple #[.slice av nv cv, .bool g])) w1) := by have := HE.out; rw [hg.out] at this; rw [hg.out]; exact this
  rw [hg.out]
  clear hob hb HT HE
  go_wp2_with fail
  go_ret2
  exact HE2.out

set_option maxHeartbeats 400000 in
theorem gives_any (s0 s1 s2 k : Nat) (w : World) (hs : s1 < 2 ^ 16) (hk : k < 16) :
    Calls Try.prog 76 #[.agg #[.int .u16 (s0 : Int), .int .u16 (s1 : Int), .int .u16 (s2 : Int)], .int .i64 (k : Int)] w fun e w' => e = .returned (.bool (s1.testBit k)) ∧ Below w.heap.size w w' := by
  go_enter Try.func76, Try.ntmps76
  go_wp2_with fail
  refine (hasI_any s1 k _ hs hk).mono ?_
  rintro e w' ⟨rfl, rfl⟩
  obtain ⟨b, hb⟩ : ∃ b, Hid (s1.testBit k = b) := ⟨_, rfl⟩
  rw [hb.out]
  go_wp2_with fail
  go_ret
  exact ⟨by rw [hb.out]; rfl, below_al _ _⟩

set_option maxHeartbeats 400000 in
theorem givesCl_any (s0 s1 s2 k bj bq : Nat) (w : World) (hs : s1 < 2 ^ 16) (hk : k < 16) (hj : w.cell? ⟨bj, 0, none⟩ = some (.func (.func 76) #[] #[])) (hq : w.cell? ⟨bq, 0, none⟩ = some (.int .i64 (k : Int))) (hbj : bj < w.heap.size) (hbq : bq < w.heap.size) :
    Calls Try.prog 138 #[.agg #[.int .u16 (s0 : Int), .int .u16 (s1 : Int), .int .u16 (s2 : Int)], .pointer (some ⟨bj, 0, none⟩), .pointer (some ⟨bq, 0, none⟩)] w fun e w' => e = .returned (.bool (s1.testBit k)) ∧ Below w.heap.size w w' := by
  go_enter Try.func138, Try.ntmps138
  go_wp2_with fail
  refine (gives_any s0 s1 s2 k _ hs hk).mono ?_
  rintro e w1 ⟨rfl, hb1⟩
  have HB := hide ((below_al w (.cells #[.int .u16 (s0 : Int), .int .u16 (s1 : Int), .int .u16 (s2 : Int)] 88)).trans (hb1.mono (by simp)))
  obtain ⟨b, hb⟩ : ∃ b, Hid (s1.testBit k = b) := ⟨_, rfl⟩
  rw [hb.out]
  clear hb1
  go_wp2_with fail
  go_ret
  exact ⟨by rw [hb.out]; rfl, HB.out⟩

set_option maxHeartbeats 2000000 in
theorem givesAt_any (p q : Int) (a : Option Addr) (n c : Nat) (L : List (List Int)) (w : World) (h : Lists w a (3 * n) L) (hs : sizeN n L ≤ 1048576) :
    Calls Try.prog 72 #[.agg #[.int .i64 p, .slice a n c], .int .i64 q, .func (.func 76) #[] #[]] w fun e w' => OEnd (atOk p n L q) (atR (fun i => hasB (L.getD (3 * i + 1) []) q) p n L q) w e w' := by
  have hAl := ((below_al w (.cells #[.int .i64 p, .slice a n c] 26)).alloc (by simp) (.cells #[.int .i64 q] 3)).alloc (by simp; omega) (.cells #[.func (.func 76) #[] #[]] 101)
  have P1 : (((w.alloc (.cells #[.int .i64 p, .slice a n c] 26)).alloc (.cells #[.int .i64 q] 3)).alloc (.cells #[.func (.func 76) #[] #[]] 101)).heap[w.heap.size + 1]? = some (.cells #[.int .i64 q] 3 (0, 0)) := by
    rw [heap_al_old _ _ _ (by simp)]
    have := heap_alloc_new (w.alloc (.cells #[.int .i64 p, .slice a n c] 26)) (.cells #[.int .i64 q] 3)
    simpa using this
  have P2 : (((w.alloc (.cells #[.int .i64 p, .slice a n c] 26)).alloc (.cells #[.int .i64 q] 3)).alloc (.cells #[.func (.func 76) #[] #[]] 101)).heap[w.heap.size + 1 + 1]? = some (.cells #[.func (.func 76) #[] #[]] 101 (0, 0)) := by
    have := heap_alloc_new ((w.alloc (.cells #[.int .i64 p, .slice a n c] 26)).alloc (.cells #[.int .i64 q] 3)) (.cells #[.func (.func 76) #[] #[]] 101)
    simpa using this
  have HNS := hide (netSteps_any p a n c L _ (h.below hAl) hs)
  have HB0 := hide hAl
  have HP := hide (And.intro P1 P2)
  clear h hAl P1 P2
  go_enter Try.func72, Try.ntmps72
  go_wp2_with fail
  refine HNS.out.mono ?_
  rintro e w2 ⟨p', a', m, c', rfl, hx, hb⟩
  have hA := below_al w2 (.cells #[.int .i64 p', .slice a' m c'] 82)
  have hbA := hb.trans (hA.mono hb.size)
  have HB1 := hide (HB0.out.trans (hbA.mono HB0.out.size))
  have HP1 := hide (And.intro (keep HP.out.1 hbA) (keep HP.out.2 hbA))
  have hq1 := cell_of_row _ (w.heap.size + 1) 0 _ _ _ (keep HP.out.1 hb)
  simp at hq1
  have hlq := row_lt (keep HP.out.1 hb)
  have hl2 := row_lt (keep HP.out.2 hb)
  have hz := HB0.out.size
  clear HNS HB0 HP
  by_cases hg : netOk p n L = true
  rotate_left
  · have hg' : netOk p n L = false := by simpa using hg
    have HN : Hid (OEnd (atOk p n L q) (atR (fun i => hasB (L.getD (3 * i + 1) []) q) p n L q) w (.returned (.tuple #[.slice none 0 0, .bool false])) (w2.alloc (.cells #[.int .i64 p', .slice a' m c'] 82))) := oend_no (show atOk p n L q = false by unfold atOk; rw [hg']; rfl) HB1.out
    rw [hg']
    clear hg hg' hx hb hA hbA
    go_wp2_with fail
    go_ret2
    exact HN.out
  obtain ⟨e1, e2, e3, B, e4, hBs, hps⟩ := hx.out hg
  subst e1 e2 e3 e4
  rw [hg]
  have HG := hide hg
  have hn24 := netOkN' hg
  obtain ⟨hp1, hp2⟩ := netOkP' hg
  have HPS := hide (hps.grow hA)
  clear hg hx hb hA hbA hps
  have HV := hide (heap_alloc_new w2 (.cells #[.int .i64 p', .slice (some ⟨B, 0, none⟩) c' c'] 82))
  go_wp2_with fail
  refine (lacksT_any _ _ _ _ _ _).mono ?_
  rintro e w3 ⟨rfl, hb3⟩
  have HB2 := hide (HB1.out.trans (hb3.mono HB1.out.size))
  have HP2 := hide (And.intro (keep HP1.out.1 hb3) (keep HP1.out.2 hb3))
  have HPS2 := hide (HPS.out.grow hb3)
  obtain ⟨hv0, hv1⟩ := cells2 (keep HV.out hb3)
  have hq1 := cell_of_row _ (w.heap.size + 1) 0 _ _ _ HP2.out.1
  simp at hq1
  clear hb3 HB1 HP1 HPS HV
  by_cases g2 : inB q 0 (p' - 1) = true
  rotate_left
  · have g2' : inB q 0 (p' - 1) = false := by simpa using g2
    have HN : Hid (OEnd (atOk p' c' L q) (atR (fun i => hasB (L.getD (3 * i + 1) []) q) p' c' L q) w (.returned (.tuple #[.slice none 0 0, .bool false])) w3) := oend_no (show atOk p' c' L q = false by unfold atOk; rw [g2']; simp) HB2.out
    rw [g2']
    clear g2 g2'
    go_wp2_with fail
    go_ret2
    exact HN.out
  rw [g2]
  have hqb : 0 ≤ q ∧ q ≤ p' - 1 := by simpa [inB] using g2
  obtain ⟨k, rfl⟩ : ∃ k : Nat, q = (k : Int) := ⟨q.toNat, by omega⟩
  have hk16 : k < 16 := by omega
  have hk0 : ¬ (k : Int) < 0 := by omega
  have hkp : ¬ p' ≤ (k : Int) := by omega
  have HOK := hide (show atOk p' c' L (k : Int) = true by unfold atOk; rw [HG.out, g2]; rfl)
  have HC := hide (numsAt_any (w.heap.size + 1 + 1) (w.heap.size + 1) (fun i => hasB (L.getD (3 * i + 1) []) (k : Int)) p' B c' L w3 HPS2.out hn24 (fun W1 hW1 i hi => by
    have htri := tri_riseT (triOkT HG.out hi)
    have hm := mask16T htri.2.1 ⟨hp1, hp2⟩
    have hc := givesCl_any (maskL (L.getD (3 * i) [])) (maskL (L.getD (3 * i + 1) [])) (maskL (L.getD (3 * i + 2) [])) k (w.heap.size + 1 + 1) (w.heap.size + 1) W1 hm hk16 (cell_of_row W1 _ 0 _ _ _ (keep HP2.out.2 hW1)) (cell_of_row W1 _ 0 _ _ _ (keep HP2.out.1 hW1)) (row_lt (keep HP2.out.2 hW1)) (row_lt (keep HP2.out.1 hW1))
    rw [maskL_bit _ _ (fun z hz => (riseB_mem htri.2.1 z hz).1)] at hc
    rw [show hasB (L.getD (3 * i + 1) []) (k : Int) = decide ((k : Int) ∈ L.getD (3 * i + 1) []) by unfold hasB; simp]
    exact hc))
  clear g2 hqb
  go_wp2_with fail
  refine HC.out.mono ?_
  rintro e w4 ⟨v, mm, rfl, hown, hb⟩
  obtain ⟨av, bv, cv, hv, hbv, hob⟩ := own_ob hown
  subst hv
  have HY : Hid (OEnd (atOk p' c' L (k : Int)) (atR (fun i => hasB (L.getD (3 * i + 1) []) (k : Int)) p' c' L (k : Int)) w (.returned (.tuple #[.slice av mm cv, .bool true])) w4) := oend_yes HOK.out hob (by have := HB2.out.size; omega) (HB2.out.trans (hb.mono HB2.out.size))
  clear hown hb hob HC
  go_wp2_with fail
  go_ret2
  exact HY.out

set_option maxHeartbeats 400000 in
theorem givesI_any (p q : Int) (a : Option Addr) (n c : Nat) (L : List (List Int)) (w : World) (h : Lists w a (3 * n) L) (hs : sizeN n L ≤ 1048576) :
    Calls Try.prog 19 #[.agg #[.int .i64 p, .slice a n c], .int .i64 q] w fun e w' => OEnd (atOk p n L q) (atR (fun i => hasB (L.getD (3 * i + 1) []) q) p n L q) w e w' := by
  have hAl := below_al w (.cells #[.int .i64 p, .slice a n c] 26)
  have HT := hide (givesAt_any p q a n c L _ (h.below hAl) hs)
  have HB0 := hide hAl
  clear h hAl
  go_enter Try.func19, Try.ntmps19
  go_wp2_with fail
  refine HT.out.mono ?_
  rintro e w1 ⟨av, bv, nv, cv, rfl, hob, hbv, hb⟩
  have HE : Hid (OEnd (atOk p n L q) (atR (fun i => hasB (L.getD (3 * i + 1) []) q) p n L q) w (.returned (.tuple #[.slice av nv cv, .bool (atOk p n L q)])) w1) := ⟨av, bv, nv, cv, rfl, hob, by have := HB0.out.size; omega, HB0.out.trans (hb.mono HB0.out.size)⟩
  obtain ⟨g, hg⟩ : ∃ g, Hid (atOk p n L q = g) := ⟨_, rfl⟩
  have HE2 : Hid (OEnd (atOk p n L q) (atR (fun i => hasB (L.getD (3 * i + 1) []) q) p n L q) w (.returned (.tuple #[.slice av nv cv, .bool g])) w1) := by have := HE.out; rw [hg.out] at this; rw [hg.out]; exact this
  rw [hg.out]
  clear hob hb HT HE
  go_wp2_with fail
  go_ret2
  exact HE2.out

end Go.Proofs.Ytdhnhpjcoeglmaa


/- numbersWhere with a bound method; steps of a region that draws its order. -/
namespace Go.Proofs.Ytdhnhpjcoeglmaa
open Go.RowKit

set_option maxHeartbeats 1000000 in
theorem numsEn_any (s : Nat) (Pd : Nat → Bool) (p : Int) (B n : Nat) (L : List (List Int)) (w : World) (h : PartS w B (3 * n) (3 * n) L) (hn : n ≤ 24)
    (hc : ∀ W, Below w.heap.size w W → ∀ k, k < n → Calls Try.prog 121 #[.int .u16 (s : Int), .agg #[.int .u16 (maskL (L.getD (3 * k) []) : Int), .int .u16 (maskL (L.getD (3 * k + 1) []) : Int), .int .u16 (maskL (L.getD (3 * k + 2) []) : Int)]] W fun e W' => e = .returned (.bool (Pd k)) ∧ Below W.heap.size W W') :
    Calls Try.prog 119 #[.agg #[.int .i64 p, .slice (some ⟨B, 0, none⟩) n n], .func (.func 121) #[.int .u16 (s : Int)] #[]] w fun e w' => NumsEnd Pd n w e w' := by
  have hAl := below_al w (.cells #[.int .i64 p, .slice (some ⟨B, 0, none⟩) n n] 82)
  have HC := hide hc
  have HP := hide h
  have HB0 := hide hAl
  obtain ⟨i0, hi, hz0, hz1, hz2⟩ := info_split Try.info3
  clear hc h hAl
  go_enter Try.func119, Try.ntmps119
  go_wp2_with fail
  obtain ⟨V, hV⟩ : ∃ V, Hid (w.alloc (.cells #[.int .i64 p, .slice (some ⟨B, 0, none⟩) n n] 82) = V) := ⟨_, rfl⟩
  rw [hV.out] at HB0 ⊢
  clear hV
  go_loopw [5, 11] (fun o i wr => ∃ k m : Nat, k ≤ n ∧ i = .int .i64 k ∧ Hid (m ≤ k) ∧ Hid (wr.ownsRow w.heap.size 3 1 o m ((numsL Pd k).map (Value.int .i64))) ∧ Hid (Below w.heap.size w wr)) (fun _ i _ => n - (intOf i).toNat)
  case atStart => exact ⟨0, 0, Nat.zero_le _, rfl, Nat.le_refl _, World.ownsRow_nil _ _ _ _, HB0⟩
  case round =>
    obtain ⟨k, m, hk, rfl, hmk, hown, hbw⟩ := hrel
    by_cases hlt : k < n
    rotate_left
    · have hk' : k = n := by omega
      subst hk'
      go_wp2_with fail
      go_ret
      exact ⟨_, m, rfl, hown.out, hbw.out⟩
    obtain ⟨hc0, hc1, hc2⟩ := (HP.out.grow hbw.out).at2 hlt
    have hA1 := fun C => below_al wr (.cells C 88)
    have HH := hide (fun C => HC.out (wr.alloc (.cells C 88)) (hbw.out.trans ((hA1 C).mono hbw.out.size)) k hlt)
    have HB1 := hide (fun C => hbw.out.trans ((hA1 C).mono hbw.out.size))
    have HO1 := hide (fun C => hown.out.alloc (.cells C 88))
    obtain ⟨s0, hs0⟩ : ∃ s, Hid (maskL (L.getD (3 * k) []) = s) := ⟨_, rfl⟩
    obtain ⟨s1, hs1⟩ : ∃ s, Hid (maskL (L.getD (3 * k + 1) []) = s) := ⟨_, rfl⟩
    obtain ⟨s2, hs2⟩ : ∃ s, Hid (maskL (L.getD (3 * k + 2) []) = s) := ⟨_, rfl⟩
    rw [hs0.out] at hc0 HH
    rw [hs1.out] at hc1 HH
    rw [hs2.out] at hc2 HH
    clear hown hA1
    by_cases hh : Pd k = true
    rotate_left
    · have hh' : Pd k = false := by simpa using hh
      have HN := hide (numsL_no hh')
      rw [hh'] at HH
      clear hh hh'
      go_wp2_with fail
      refine (HH.out _).mono ?_
      rintro e w' ⟨rfl, hb⟩
      have HB2 := hide ((HB1.out _).trans (hb.mono (HB1.out _).size))
      have HO2 := hide (own_grow (HO1.out _) hb)
      clear hb HH HB1 HO1 hc0 hc1 hc2
      go_wp2_with fail
      go_roundw
      case rel => exact ⟨k + 1, m, by omega, by go_num, Nat.le_succ_of_le hmk.out, by rw [HN.out]; exact HO2, HB2⟩
      case measure => simp [intOf]; omega
    have HN := hide (numsL_yes hh)
    rw [hh] at HH
    clear hh
    go_wp2_with fail
    refine (HH.out _).mono ?_
    rintro e W1 ⟨rfl, hb⟩
    have HB1 := hide ((HB1.out _).trans (hb.mono (HB1.out _).size))
    have HO1 := hide (own_grow (HO1.out _) hb)
    have hA2 := below_al W1 (.cells #[.int .i64 (k : Int)] 3)
    have HO2 := hide (HO1.out.alloc (.cells #[.int .i64 (k : Int)] 3))
    have HB2 := hide (HB1.out.trans (hA2.mono HB1.out.size))
    have HCE : Hid (∀ j u, ([.int .i64 (k : Int)] : List Value)[j]? = some u → (W1.alloc (.cells #[.int .i64 (k : Int)] 3)).cell? ((⟨W1.heap.size, 0, none⟩ : Addr).add j) = some u) := one_cell W1 _
    have H1c : Hid (∀ u ∈ ([.int .i64 (k : Int)] : List Value), u.oneCell' = true) := fun u hu => by simp at hu; subst hu; rfl
    have HX := hide (show m + 1 ≤ maxLen by have := hmk.out; unfold maxLen; omega)
    have HY := hide (show (m + 1) * 8 ≤ 140737488355328 by have := hmk.out; omega)
    have HZ := hide HB2.out.size
    clear hA2 hc0 hc1 hc2 HH hb
    go_wp2_with (refine wpList_append_own _ rfl (.tmp 19) (.tmp 21) 31 rfl w.heap.size 3 i0 (.int .i64 0) 1 8 Try.underlying31 hi hz0 hz1 hz2 rfl (by decide) u5 m _ rfl HO2.out ⟨W1.heap.size, 0, none⟩ 1 1 [.int .i64 (k : Int)] rfl rfl HCE.out H1c.out HX.out HY.out HZ.out ?_; intro v' W' r1 r2 r3)
    have HR1 : Hid (W'.ownsRow w.heap.size 3 1 v' (m + 1) ((numsL Pd (k + 1)).map (Value.int .i64))) := by
      show World.ownsRow _ _ _ _ _ _ _
      rw [HN.out, List.map_append]; exact r1
    have HB3 := hide (own_below HO2.out r2 HB2.out HB2.out.size (Nat.le_refl _))
    clear r1 r2 r3
    go_wp2_with fail
    go_roundw
    case rel => exact ⟨k + 1, m + 1, by omega, by go_num, Nat.succ_le_succ hmk.out, HR1, HB3⟩
    case measure => simp [intOf]; omega

theorem run_callg {P : Program} {o : Oper} {a : Act} {w : World} (f : FuncId) (fn : Func) (xs : Array Operand) (ts : Array TypeId) (hop : o.op = Op.call { callee := Callee.value (Operand.func f), args := xs, argTypes := ts })
    (hfn : P.funcs[f]? = some fn) (hnm : (fn.name == "runtime.NumGoroutine") = false) (hbd : fn.body.isNone = false) : (execOp a.eval o).run P w = .ok (.enter f (xs.map a.eval)) w := by
  have hnm' : ¬ fn.name = "runtime.NumGoroutine" := by simpa using hnm
  have hbd' : ¬ fn.body = none := by intro e; rw [e] at hbd; simp at hbd
  unfold execOp
  simp only [hop]
  simp [resolve, invoke, go_sem, Act.eval, callFunc, hfn, hnm', hbd']

theorem mapg1 (g : Operand → Value) (x : Operand) (v : Value) (h : g x = v) : (#[x] : Array Operand).map g = #[v] := by simp [h]
theorem mapg2 (g : Operand → Value) (x y : Operand) (v u : Value) (h : g x = v) (h2 : g y = u) : (#[x, y] : Array Operand).map g = #[v, u] := by simp [h, h2]

theorem cons_callg {P : Program} {md : Region.Mode} {ops : Array Oper} {Q : Exit → Act → World → Prop} {fuel : Nat} {listed : Array Bool} {a : Act} {w : World} {i : Nat} {o : Oper} {rs : List Nat} (ho : ops[i]? = some o)
    (hgd : o.guard = none) (d : Option Tmp) (hd : o.dst = d) (f : FuncId) (fn : Func) (xs : Array Operand) (ts : Array TypeId) (hop : o.op = Op.call { callee := Callee.value (Operand.func f), args := xs, argTypes := ts })
    (hfn : P.funcs[f]? = some fn) (hnm : (fn.name == "runtime.NumGoroutine") = false) (hbd : fn.body.isNone = false) (args : Array Value) (hargs : xs.map a.eval = args) (v : Value) (w' : World) (hc : Calls P f args w fun e w'' => e = .returned v ∧ w'' = w')
    (h : wpAny P md ops Q fuel (listed.setIfInBounds i true) (a.put d v) w')
    (hs : AllReady P md ops Q fuel listed a w rs) : AllReady P md ops Q fuel listed a w (i :: rs) := by
  refine AllReady.cons ho (fun K hK => ?_) hs
  rw [if_pos (by simp [Region.wanted, hgd])]
  unfold Oper.wp
  rw [run_callg f fn xs ts hop hfn hnm hbd, hargs, Oper.upon_enter]
  refine hc.mono fun e w'' hh => ?_
  obtain ⟨rfl, rfl⟩ := hh
  refine hK _ _ ?_
  rw [hd]
  exact h

theorem cons_callE {P : Program} {md : Region.Mode} {ops : Array Oper} {Q : Exit → Act → World → Prop} {fuel : Nat} {listed : Array Bool} {a : Act} {w : World} {i : Nat} {o : Oper} {rs : List Nat} (ho : ops[i]? = some o)
    (hgd : o.guard = none) (d : Option Tmp) (hd : o.dst = d) (f : FuncId) (fn : Func) (xs : Array Operand) (ts : Array TypeId) (hop : o.op = Op.call { callee := Callee.value (Operand.func f), args := xs, argTypes := ts })
    (hfn : P.funcs[f]? = some fn) (hnm : (fn.name == "runtime.NumGoroutine") = false) (hbd : fn.body.isNone = false) (args : Array Value) (hargs : xs.map a.eval = args) (R : Ending → World → Prop) (hc : Calls P f args w R)
    (h : ∀ e w', R e w' → ∃ v, e = .returned v ∧ wpAny P md ops Q fuel (listed.setIfInBounds i true) (a.put d v) w')
    (hs : AllReady P md ops Q fuel listed a w rs) : AllReady P md ops Q fuel listed a w (i :: rs) := by
  refine AllReady.cons ho (fun K hK => ?_) hs
  rw [if_pos (by simp [Region.wanted, hgd])]
  unfold Oper.wp
  rw [run_callg f fn xs ts hop hfn hnm hbd, hargs, Oper.upon_enter]
  refine hc.mono fun e w'' hh => ?_
  obtain ⟨v, rfl, hw⟩ := h e w'' hh
  refine hK _ _ ?_
  rw [hd]
  exact hw

theorem cons_make {P : Program} {md : Region.Mode} {ops : Array Oper} {Q : Exit → Act → World → Prop} {fuel : Nat} {listed : Array Bool} {a : Act} {w : World} {i : Nat} {o : Oper} {rs : List Nat} (ho : ops[i]? = some o)
    (hgd : o.guard = none) (d : Option Tmp) (hd : o.dst = d) (fn : Fn) (x : Operand) (hop : o.op = .makeFunc fn #[x] #[]) (v : Value) (hx : a.eval x = v)
    (h : wpAny P md ops Q fuel (listed.setIfInBounds i true) (a.put d (.func fn #[v] #[])) w)
    (hs : AllReady P md ops Q fuel listed a w rs) : AllReady P md ops Q fuel listed a w (i :: rs) := by
  refine AllReady.cons ho (fun K hK => ?_) hs
  rw [if_pos (by simp [Region.wanted, hgd])]
  unfold Oper.wp
  have hr : (execOp a.eval o).run P w = .ok (.value (.func fn #[v] #[])) w := by
    unfold execOp
    simp only [hop]
    rw [mapg1 _ _ _ hx, show Array.map a.eval #[] = #[] by simp]
    rfl
  rw [hr, Oper.upon_value]
  refine hK _ _ ?_
  rw [hd]
  exact h

theorem cons_assignV {P : Program} {md : Region.Mode} {ops : Array Oper} {Q : Exit → Act → World → Prop} {fuel : Nat} {listed : Array Bool} {a : Act} {w : World} {i : Nat} {o : Oper} {rs : List Nat} (ho : ops[i]? = some o)
    (hgd : o.guard = none) (d : Option Tmp) (hd : o.dst = d) (x : Operand) (hop : o.op = .assign x) (v : Value) (hx : a.eval x = v)
    (h : wpAny P md ops Q fuel (listed.setIfInBounds i true) (a.put d v) w)
    (hs : AllReady P md ops Q fuel listed a w rs) : AllReady P md ops Q fuel listed a w (i :: rs) :=
  cons_assign ho hgd d hd x hop (by rw [hx]; exact h) hs
end Go.Proofs.Ytdhnhpjcoeglmaa


/- The program's Enabled, for every net and mark in memory. -/
namespace Go.Proofs.Ytdhnhpjcoeglmaa
open Go.RowKit
set_option maxRecDepth 10000

def enOk (p : Int) (n : Nat) (L : List (List Int)) (ys : List Int) : Bool := netOk p n L && goodB p ys
def enR (p : Int) (n : Nat) (L : List (List Int)) (ys : List Int) : List Int := if enOk p n L ys then numsL (fun i => canB (L.getD (3 * i) []) ys) n else []

theorem enend_yes {p : Int} {n : Nat} {L : List (List Int)} {ys : List Int} {w w' : World} {a : Option Addr} {b m c : Nat} (h : enOk p n L ys = true) (hr : Ob w' a b m (numsL (fun i => canB (L.getD (3 * i) []) ys) n)) (hB : w.heap.size ≤ b) (hb : Below w.heap.size w w') : OEnd (enOk p n L ys) (enR p n L ys) w (.returned (.tuple #[.slice a m c, .bool true])) w' := by
  refine ⟨a, b, m, c, by rw [h], ?_, hB, hb⟩
  unfold enR; rw [h]; exact hr

theorem enend_no {p : Int} {n : Nat} {L : List (List Int)} {ys : List Int} {w w' : World} (h : (netOk p n L && goodB p ys) = false) (hb : Below w.heap.size w w') : OEnd (enOk p n L ys) (enR p n L ys) w (.returned (.tuple #[.slice none 0 0, .bool false])) w' := by
  have h' : enOk p n L ys = false := h
  refine ⟨none, w.heap.size, 0, 0, by rw [h'], ⟨?_, .inl rfl⟩, Nat.le_refl _, hb⟩
  unfold enR; rw [h']; rfl

set_option maxHeartbeats 2000000 in
theorem implEn_any (p : Int) (a am : Option Addr) (n c nm cm : Nat) (L : List (List Int)) (ys : List Int) (w : World) (h : Lists w a (3 * n) L) (rm : Row w am nm ys) (hs : sizeN n L ≤ 1048576) (hnm : nm ≤ 1048576) :
    Calls Try.prog 50 #[.agg #[.int .i64 p, .slice a n c], .slice am nm cm] w fun e w' => OEnd (enOk p n L ys) (enR p n L ys) w e w' := by
  have hAl := below_al w (.cells #[.int .i64 p, .slice a n c] 26)
  have HT := hide (netTok_any p a am n c nm cm L ys _ (h.below hAl) (rm.below hAl) hs hnm)
  have HLY := hide rm.1
  have HB0 := hide hAl
  clear h rm hAl
  go_enter Try.func50, Try.ntmps50
  go_wp2_with fail
  refine HT.out.mono ?_
  rintro e w1 ⟨p', a', m', c', l, rfl, hx, hb⟩
  have hz := HB0.out.size
  have HB1 := hide (HB0.out.trans (hb.mono HB0.out.size))
  have hz1 := HB1.out.size
  have hA1 := below_al w1 (.cells #[.int .i64 p', .slice a' m' c'] 82)
  have hA2 := below_al (w1.alloc (.cells #[.int .i64 p', .slice a' m' c'] 82)) (.cells #[.int .u8 0, .int .u8 0, .int .u8 0, .int .u8 0, .int .u8 0, .int .u8 0, .int .u8 0, .int .u8 0, .int .u8 0, .int .u8 0, .int .u8 0, .int .u8 0, .int .u8 0, .int .u8 0, .int .u8 0, .int .u8 0] 93)
  have hs1 : (w1.alloc (.cells #[.int .i64 p', .slice a' m' c'] 82)).heap.size = w1.heap.size + 1 := by simp
  have hg0 := heap_alloc_new (w1.alloc (.cells #[.int .i64 p', .slice a' m' c'] 82)) (.cells #[.int .u8 0, .int .u8 0, .int .u8 0, .int .u8 0, .int .u8 0, .int .u8 0, .int .u8 0, .int .u8 0, .int .u8 0, .int .u8 0, .int .u8 0, .int .u8 0, .int .u8 0, .int .u8 0, .int .u8 0, .int .u8 0] 93)
  rw [hs1] at hg0
  clear hb HT HB0
  by_cases g1 : (netOk p n L && goodB p ys) = true
  rotate_left
  · have g1' : (netOk p n L && goodB p ys) = false := by simpa using g1
    have HN := hide (fun W (hW : Below w.heap.size w W) => enend_no (w := w) g1' hW)
    rw [g1']
    have HBX := hide (below_setRow ((HB1.out.alloc HB1.out.size (.cells #[.int .i64 p', .slice a' m' c'] 82)).alloc (by simp; omega) (.cells #[.int .u8 0, .int .u8 0, .int .u8 0, .int .u8 0, .int .u8 0, .int .u8 0, .int .u8 0, .int .u8 0, .int .u8 0, .int .u8 0, .int .u8 0, .int .u8 0, .int .u8 0, .int .u8 0, .int .u8 0, .int .u8 0] 93)) (w1.heap.size + 1) (by omega) (packOf ys l))
    clear g1 g1' hx
    go_wp2_with (refine wpList_store_row rfl 93 _ _ rfl _ _ rfl rfl 93 _ hg0 (by rw [packOf_size]; exact Try.size93) (by rw [packOf_size]; rfl) (packOf_one _ _) ?_)
    go_ret2
    exact HN.out _ HBX.out
  have hgg := g1
  rw [Bool.and_eq_true] at hgg
  obtain ⟨e1, e2, e3, e4, B, e5, e6, e7⟩ := hx.out g1
  subst e1 e2 e3 e4 e5
  rw [g1]
  have hAA := hA1.trans (hA2.mono hA1.size)
  have HPS := hide ((e7.grow hAA).setRow (show B ≠ w1.heap.size + 1 by obtain ⟨C, q1, _⟩ := e7; have := (Array.getElem?_eq_some_iff.mp q1).1; omega) (packOf ys l))
  have hg1 := setRow_same hg0 (packOf ys l)
  have HBX := hide (below_setRow (HB1.out.trans (hAA.mono HB1.out.size)) (w1.heap.size + 1) (by omega) (packOf ys l))
  have Q7 := keepR (keep (heap_alloc_new w1 (.cells #[.int .i64 p', .slice (some ⟨B, 0, none⟩) c' c'] 82)) hA2) (show w1.heap.size ≠ w1.heap.size + 1 by omega) (packOf ys l)
  obtain ⟨hq0, hq1⟩ := cells2 Q7
  have HQ7 := hide Q7
  have HGP := hide hgg
  clear e6 e7 hx hAA hA1 hA2 g1 hgg Q7
  go_wp2_with (refine wpList_store_row rfl 93 _ _ rfl _ _ rfl rfl 93 _ hg0 (by rw [packOf_size]; exact Try.size93) (by rw [packOf_size]; rfl) (packOf_one _ _) ?_)
  obtain ⟨⟨hp1, hp2⟩, hlp, hyb⟩ := goodB_parts HGP.out.2
  have hfs : ∀ i, 0 ≤ fOf ys l i ∧ fOf ys l i ≤ 255 := by
    intro i; unfold fOf; split
    · have := hyb i; omega
    · omega
  have hn24 := netOkN' HGP.out.1
  have hnmp : (l : Int) = p' := by have := HLY.out; omega
  have HOK := hide (show enOk p' c' L ys = true by unfold enOk; rw [HGP.out.1, HGP.out.2]; rfl)
  obtain ⟨V, hV⟩ : ∃ V, Hid ((((w1.alloc (.cells #[.int .i64 p', .slice (some ⟨B, 0, none⟩) c' c'] 82)).alloc (.cells #[.int .u8 0, .int .u8 0, .int .u8 0, .int .u8 0, .int .u8 0, .int .u8 0, .int .u8 0, .int .u8 0, .int .u8 0, .int .u8 0, .int .u8 0, .int .u8 0, .int .u8 0, .int .u8 0, .int .u8 0, .int .u8 0] 93)).setRow (w1.heap.size + 1) (packOf ys l)) = V) := ⟨_, rfl⟩
  have Q7 := HQ7.out
  rw [hV.out] at HPS HBX Q7 hg1 ⊢
  have hA5 := below_al V.drew (.cells (packOf ys l) 93)
  have HBM := hide (HBX.out.trans (((show Below V.heap.size V V.drew from ⟨rfl, rfl, rfl, Nat.le_refl _, fun _ _ => rfl⟩).trans hA5).mono HBX.out.size))
  have Q7' := keep (v := V.drew) Q7 hA5
  have HMK := hide (markedI_any (fOf ys l) V.drew hfs)
  have HNW := hide (numsEn_any (maskL (posL (fOf ys l) 16)) (fun i => canB (L.getD (3 * i) []) ys) p' B c' L (V.drew.alloc (.cells (packOf ys l) 93)) ((show PartS V.drew B (3 * c') (3 * c') L from HPS.out).grow hA5) hn24 (fun W hW k hk => by
    have htri := tri_riseT (triOkT HGP.out.1 hk)
    have hc := enables_any (maskL (posL (fOf ys l) 16)) (maskL (L.getD (3 * k) [])) (maskL (L.getD (3 * k + 1) [])) (maskL (L.getD (3 * k + 2) [])) W (mask16T htri.1 ⟨hp1, hp2⟩)
    rw [can_sub ⟨hp1, hp2⟩ hnmp hyb htri.1] at hc
    refine hc.mono fun e w' hh => ⟨hh.1, by rw [hh.2]; exact below_al _ _⟩))
  clear hq0 hq1 hg0 hs1 hfs hyb hA5 HQ7 hV
  refine wp_region_any (by kernel_rfl) ?_
  refine wpAny_ready (rs := [0, 1]) (by kernel_rfl) (by simp) ?_
  refine cons_load_s rfl rfl (some 18) rfl 82 (.tmp 6) rfl w1.heap.size #[.int .i64 p', .slice (some ⟨B, 0, none⟩) c' c'] rfl 82 _ Try.underlying82 Q7 Try.size82 ?_ (cons_load rfl rfl (some 19) rfl 93 (.tmp 7) rfl (w1.heap.size + 1) (packOf ys l) rfl 93 _ _ Try.underlying93 hg1 (by rw [packOf_size]; exact Try.size93) ?_ AllReady.nil)
  · refine wpAny_ready (rs := [1]) (by kernel_rfl) (by simp) ?_
    refine cons_load rfl rfl (some 19) rfl 93 (.tmp 7) rfl (w1.heap.size + 1) (packOf ys l) rfl 93 _ _ Try.underlying93 hg1 (by rw [packOf_size]; exact Try.size93) ?_ AllReady.nil
    refine wpAny_ready (rs := [2]) (by kernel_rfl) (by simp) ?_
    refine cons_callg rfl rfl (some 20) rfl 120 _ _ _ rfl Try.func120 (by decide) rfl #[.agg (packOf ys l)] (mapg1 _ _ _ rfl) (.int .u16 (maskL (posL (fOf ys l) 16) : Int)) (V.drew.alloc (.cells (packOf ys l) 93)) HMK.out ?_ AllReady.nil
    refine wpAny_ready (rs := [3]) (by kernel_rfl) (by simp) ?_
    refine cons_make rfl rfl (some 21) rfl _ _ rfl (.int .u16 (maskL (posL (fOf ys l) 16) : Int)) rfl ?_ AllReady.nil
    refine wpAny_ready (rs := [4]) (by kernel_rfl) (by simp) ?_
    refine cons_callE rfl rfl (some 22) rfl 119 _ _ _ rfl Try.func119 (by decide) rfl #[.agg #[.int .i64 p', .slice (some ⟨B, 0, none⟩) c' c'], .func (.func 121) #[.int .u16 (maskL (posL (fOf ys l) 16) : Int)] #[]] (mapg2 _ _ _ _ _ rfl rfl) _ HNW.out ?_ AllReady.nil
    rintro e w3 ⟨vv, mm, rfl, hown, hb⟩
    obtain ⟨av, bv, cv, hv, hbv, hob⟩ := own_ob hown
    subst hv
    have HY : Hid (OEnd (enOk p' c' L ys) (enR p' c' L ys) w (.returned (.tuple #[.slice av mm cv, .bool true])) w3) := enend_yes HOK.out hob (by have := HBM.out.size; omega) (HBM.out.trans (hb.mono HBM.out.size))
    clear hown hb hob
    refine ⟨_, rfl, ?_⟩
    refine wpAny_ready (rs := [5]) (by kernel_rfl) (by simp) ?_
    refine cons_assignV rfl rfl (some 4) rfl (.tmp 22) rfl (.slice av mm cv) rfl ?_ AllReady.nil
    refine wpAny_ready (rs := [6]) (by kernel_rfl) (by simp) ?_
    refine cons_assignV rfl rfl (some 5) rfl (.const (.bool true)) rfl (.bool true) rfl ?_ AllReady.nil
    refine wpAny_done (by kernel_rfl) ?_ _
    go_wp2_with fail
    go_ret2
    simp only [Act.put, Array.getD_eq_getD_getElem?]
    simpa using HY.out
  · refine wpAny_ready (rs := [0, 2]) (by kernel_rfl) (by simp) ?_
    refine cons_load_s rfl rfl (some 18) rfl 82 (.tmp 6) rfl w1.heap.size #[.int .i64 p', .slice (some ⟨B, 0, none⟩) c' c'] rfl 82 _ Try.underlying82 Q7 Try.size82 ?_ (cons_callg rfl rfl (some 20) rfl 120 _ _ _ rfl Try.func120 (by decide) rfl #[.agg (packOf ys l)] (mapg1 _ _ _ rfl) (.int .u16 (maskL (posL (fOf ys l) 16) : Int)) (V.drew.alloc (.cells (packOf ys l) 93)) HMK.out ?_ AllReady.nil)
    · refine wpAny_ready (rs := [2]) (by kernel_rfl) (by simp) ?_
      refine cons_callg rfl rfl (some 20) rfl 120 _ _ _ rfl Try.func120 (by decide) rfl #[.agg (packOf ys l)] (mapg1 _ _ _ rfl) (.int .u16 (maskL (posL (fOf ys l) 16) : Int)) (V.drew.alloc (.cells (packOf ys l) 93)) HMK.out ?_ AllReady.nil
      refine wpAny_ready (rs := [3]) (by kernel_rfl) (by simp) ?_
      refine cons_make rfl rfl (some 21) rfl _ _ rfl (.int .u16 (maskL (posL (fOf ys l) 16) : Int)) rfl ?_ AllReady.nil
      refine wpAny_ready (rs := [4]) (by kernel_rfl) (by simp) ?_
      refine cons_callE rfl rfl (some 22) rfl 119 _ _ _ rfl Try.func119 (by decide) rfl #[.agg #[.int .i64 p', .slice (some ⟨B, 0, none⟩) c' c'], .func (.func 121) #[.int .u16 (maskL (posL (fOf ys l) 16) : Int)] #[]] (mapg2 _ _ _ _ _ rfl rfl) _ HNW.out ?_ AllReady.nil
      rintro e w3 ⟨vv, mm, rfl, hown, hb⟩
      obtain ⟨av, bv, cv, hv, hbv, hob⟩ := own_ob hown
      subst hv
      have HY : Hid (OEnd (enOk p' c' L ys) (enR p' c' L ys) w (.returned (.tuple #[.slice av mm cv, .bool true])) w3) := enend_yes HOK.out hob (by have := HBM.out.size; omega) (HBM.out.trans (hb.mono HBM.out.size))
      clear hown hb hob
      refine ⟨_, rfl, ?_⟩
      refine wpAny_ready (rs := [5]) (by kernel_rfl) (by simp) ?_
      refine cons_assignV rfl rfl (some 4) rfl (.tmp 22) rfl (.slice av mm cv) rfl ?_ AllReady.nil
      refine wpAny_ready (rs := [6]) (by kernel_rfl) (by simp) ?_
      refine cons_assignV rfl rfl (some 5) rfl (.const (.bool true)) rfl (.bool true) rfl ?_ AllReady.nil
      refine wpAny_done (by kernel_rfl) ?_ _
      go_wp2_with fail
      go_ret2
      simp only [Act.put, Array.getD_eq_getD_getElem?]
      simpa using HY.out
    · refine wpAny_ready (rs := [0, 3]) (by kernel_rfl) (by simp) ?_
      refine cons_load_s rfl rfl (some 18) rfl 82 (.tmp 6) rfl w1.heap.size #[.int .i64 p', .slice (some ⟨B, 0, none⟩) c' c'] rfl 82 _ Try.underlying82 Q7' Try.size82 ?_ (cons_make rfl rfl (some 21) rfl _ _ rfl (.int .u16 (maskL (posL (fOf ys l) 16) : Int)) rfl ?_ AllReady.nil)
      · refine wpAny_ready (rs := [3]) (by kernel_rfl) (by simp) ?_
        refine cons_make rfl rfl (some 21) rfl _ _ rfl (.int .u16 (maskL (posL (fOf ys l) 16) : Int)) rfl ?_ AllReady.nil
        refine wpAny_ready (rs := [4]) (by kernel_rfl) (by simp) ?_
        refine cons_callE rfl rfl (some 22) rfl 119 _ _ _ rfl Try.func119 (by decide) rfl #[.agg #[.int .i64 p', .slice (some ⟨B, 0, none⟩) c' c'], .func (.func 121) #[.int .u16 (maskL (posL (fOf ys l) 16) : Int)] #[]] (mapg2 _ _ _ _ _ rfl rfl) _ HNW.out ?_ AllReady.nil
        rintro e w3 ⟨vv, mm, rfl, hown, hb⟩
        obtain ⟨av, bv, cv, hv, hbv, hob⟩ := own_ob hown
        subst hv
        have HY : Hid (OEnd (enOk p' c' L ys) (enR p' c' L ys) w (.returned (.tuple #[.slice av mm cv, .bool true])) w3) := enend_yes HOK.out hob (by have := HBM.out.size; omega) (HBM.out.trans (hb.mono HBM.out.size))
        clear hown hb hob
        refine ⟨_, rfl, ?_⟩
        refine wpAny_ready (rs := [5]) (by kernel_rfl) (by simp) ?_
        refine cons_assignV rfl rfl (some 4) rfl (.tmp 22) rfl (.slice av mm cv) rfl ?_ AllReady.nil
        refine wpAny_ready (rs := [6]) (by kernel_rfl) (by simp) ?_
        refine cons_assignV rfl rfl (some 5) rfl (.const (.bool true)) rfl (.bool true) rfl ?_ AllReady.nil
        refine wpAny_done (by kernel_rfl) ?_ _
        go_wp2_with fail
        go_ret2
        simp only [Act.put, Array.getD_eq_getD_getElem?]
        simpa using HY.out
      · refine wpAny_ready (rs := [0]) (by kernel_rfl) (by simp) ?_
        refine cons_load_s rfl rfl (some 18) rfl 82 (.tmp 6) rfl w1.heap.size #[.int .i64 p', .slice (some ⟨B, 0, none⟩) c' c'] rfl 82 _ Try.underlying82 Q7' Try.size82 ?_ AllReady.nil
        refine wpAny_ready (rs := [4]) (by kernel_rfl) (by simp) ?_
        refine cons_callE rfl rfl (some 22) rfl 119 _ _ _ rfl Try.func119 (by decide) rfl #[.agg #[.int .i64 p', .slice (some ⟨B, 0, none⟩) c' c'], .func (.func 121) #[.int .u16 (maskL (posL (fOf ys l) 16) : Int)] #[]] (mapg2 _ _ _ _ _ rfl rfl) _ HNW.out ?_ AllReady.nil
        rintro e w3 ⟨vv, mm, rfl, hown, hb⟩
        obtain ⟨av, bv, cv, hv, hbv, hob⟩ := own_ob hown
        subst hv
        have HY : Hid (OEnd (enOk p' c' L ys) (enR p' c' L ys) w (.returned (.tuple #[.slice av mm cv, .bool true])) w3) := enend_yes HOK.out hob (by have := HBM.out.size; omega) (HBM.out.trans (hb.mono HBM.out.size))
        clear hown hb hob
        refine ⟨_, rfl, ?_⟩
        refine wpAny_ready (rs := [5]) (by kernel_rfl) (by simp) ?_
        refine cons_assignV rfl rfl (some 4) rfl (.tmp 22) rfl (.slice av mm cv) rfl ?_ AllReady.nil
        refine wpAny_ready (rs := [6]) (by kernel_rfl) (by simp) ?_
        refine cons_assignV rfl rfl (some 5) rfl (.const (.bool true)) rfl (.bool true) rfl ?_ AllReady.nil
        refine wpAny_done (by kernel_rfl) ?_ _
        go_wp2_with fail
        go_ret2
        simp only [Act.put, Array.getD_eq_getD_getElem?]
        simpa using HY.out
end Go.Proofs.Ytdhnhpjcoeglmaa


/- The specification's Enabled, for every net and mark in memory. -/
namespace Go.Proofs.Ytdhnhpjcoeglmaa
open Go.RowKit
set_option maxRecDepth 10000

set_option maxHeartbeats 1000000 in
theorem enabledS_any (p : Int) (a am : Option Addr) (n c nm cm : Nat) (L : List (List Int)) (ys : List Int) (w : World) (h : Lists w a (3 * n) L) (rm : Row w am nm ys) (hs : sizeN n L ≤ 1048576) (hn : n ≤ 24) (hin : ∀ k, k < n → ∀ x ∈ L.getD (3 * k) [], 0 ≤ x ∧ x < (nm : Int)) :
    Calls Try.prog 159 #[.agg #[.int .i64 p, .slice a n c], .slice am nm cm] w fun e w' => NumsEnd (fun i => canB (L.getD (3 * i) []) ys) n w e w' := by
  have hAl := below_al w (.cells #[.int .i64 p, .slice a n c] 26)
  have HL := hide h
  have RM := hide rm
  have HIN := hide hin
  have HB0 := hide hAl
  have hs' : n + sizeL L ≤ 1048576 := hs
  obtain ⟨i0, hi, hz0, hz1, hz2⟩ := info_split Try.info3
  clear h hAl rm hin
  go_enter Try.func159, Try.ntmps159
  go_wp2_with fail
  obtain ⟨V, hV⟩ : ∃ V, Hid (w.alloc (.cells #[.int .i64 p, .slice a n c] 26) = V) := ⟨_, rfl⟩
  rw [hV.out] at HB0 ⊢
  clear hV
  go_loopw [5, 11] (fun o i wr => ∃ k m : Nat, k ≤ n ∧ i = .int .i64 k ∧ Hid (m ≤ k) ∧ Hid (wr.ownsRow w.heap.size 3 1 o m ((numsL (fun i => canB (L.getD (3 * i) []) ys) k).map (Value.int .i64))) ∧ Hid (Below w.heap.size w wr)) (fun _ i _ => n - (intOf i).toNat)
  case atStart => exact ⟨0, 0, Nat.zero_le _, rfl, Nat.le_refl _, World.ownsRow_nil _ _ _ _, HB0⟩
  case round =>
    obtain ⟨k, m, hk, rfl, hmk, hown, hbw⟩ := hrel
    by_cases hlt : k < n
    rotate_left
    · have hk' : k = n := by omega
      subst hk'
      go_wp2_with fail
      go_ret
      exact ⟨_, m, rfl, hown.out, hbw.out⟩
    obtain ⟨b, off, a0, n0, c0, a1, n1, c1, a2, n2, c2, rfl, hb, hr, m0, m1, m2, r0, r1, r2⟩ := (HL.out.below hbw.out).tri hlt
    obtain ⟨hc0, hc1, hc2⟩ := rangeAt_cells3 hr
    have hl := len_le L (3 * k)
    have hA1 := below_al wr (.cells #[.slice a0 n0 c0, .slice a1 n1 c1, .slice a2 n2 c2] 78)
    have q0 : n0 ≤ 1048576 := by have := r0.1; omega
    have HH := hide (can_any a0 a1 a2 am n0 n1 n2 c0 c1 c2 nm cm _ ys _ (r0.below hA1) ((RM.out.below hbw.out).below hA1) q0 (HIN.out k hlt))
    have HB1 := hide (hbw.out.trans (hA1.mono hbw.out.size))
    have HO1 := hide (hown.out.alloc (.cells #[.slice a0 n0 c0, .slice a1 n1 c1, .slice a2 n2 c2] 78))
    clear hr r0 r1 r2 m0 m1 m2 hl hA1
    by_cases hh : canB (L.getD (3 * k) []) ys = true
    rotate_left
    · have hh' : canB (L.getD (3 * k) []) ys = false := by simpa using hh
      have HN := hide (numsL_no (f := fun i => canB (L.getD (3 * i) []) ys) hh')
      rw [hh'] at HH
      clear hh hh' hown
      go_wp2_with fail
      refine HH.out.mono ?_
      rintro e w' ⟨rfl, hb'⟩
      have HB2 := hide (HB1.out.trans (hb'.mono HB1.out.size))
      have HO2 := hide (own_grow (HO1.out) hb')
      clear hb' HH HB1 HO1 hc0 hc1 hc2
      go_wp2_with fail
      go_roundw
      case rel => exact ⟨k + 1, m, by omega, by go_num, Nat.le_succ_of_le hmk.out, by rw [HN.out]; exact HO2, HB2⟩
      case measure => simp [intOf]; omega
    have HN := hide (numsL_yes (f := fun i => canB (L.getD (3 * i) []) ys) hh)
    rw [hh] at HH
    clear hh hown
    go_wp2_with fail
    refine HH.out.mono ?_
    rintro e W1 ⟨rfl, hb'⟩
    have HB1 := hide (HB1.out.trans (hb'.mono HB1.out.size))
    have HO1 := hide (own_grow (HO1.out) hb')
    have hA2 := below_al W1 (.cells #[.int .i64 (k : Int)] 3)
    have HO2 := hide (HO1.out.alloc (.cells #[.int .i64 (k : Int)] 3))
    have HB2 := hide (HB1.out.trans (hA2.mono HB1.out.size))
    have HCE : Hid (∀ j u, ([.int .i64 (k : Int)] : List Value)[j]? = some u → (W1.alloc (.cells #[.int .i64 (k : Int)] 3)).cell? ((⟨W1.heap.size, 0, none⟩ : Addr).add j) = some u) := one_cell W1 _
    have H1c : Hid (∀ u ∈ ([.int .i64 (k : Int)] : List Value), u.oneCell' = true) := fun u hu => by simp at hu; subst hu; rfl
    have HX := hide (show m + 1 ≤ maxLen by have := hmk.out; unfold maxLen; omega)
    have HY := hide (show (m + 1) * 8 ≤ 140737488355328 by have := hmk.out; omega)
    have HZ := hide HB2.out.size
    clear hA2 hc0 hc1 hc2 HH hb'
    go_wp2_with (refine wpList_append_own _ rfl (.tmp 19) (.tmp 21) 31 rfl w.heap.size 3 i0 (.int .i64 0) 1 8 Try.underlying31 hi hz0 hz1 hz2 rfl (by decide) u5 m _ rfl HO2.out ⟨W1.heap.size, 0, none⟩ 1 1 [.int .i64 (k : Int)] rfl rfl HCE.out H1c.out HX.out HY.out HZ.out ?_; intro v' W' r1 r2 r3)
    have HR1 : Hid (W'.ownsRow w.heap.size 3 1 v' (m + 1) ((numsL (fun i => canB (L.getD (3 * i) []) ys) (k + 1)).map (Value.int .i64))) := by
      show World.ownsRow _ _ _ _ _ _ _
      rw [HN.out, List.map_append]; exact r1
    have HB3 := hide (own_below HO2.out r2 HB2.out HB2.out.size (Nat.le_refl _))
    clear r1 r2 r3
    go_wp2_with fail
    go_roundw
    case rel => exact ⟨k + 1, m + 1, by omega, by go_num, Nat.succ_le_succ hmk.out, HR1, HB3⟩
    case measure => simp [intOf]; omega

set_option maxHeartbeats 1000000 in
theorem enabledSp_any (p : Int) (a am : Option Addr) (n c nm cm : Nat) (L : List (List Int)) (ys : List Int) (w : World) (h : Lists w a (3 * n) L) (rm : Row w am nm ys) (hs : sizeN n L ≤ 1048576) (hnm : nm ≤ 1048576) :
    Calls Try.prog 165 #[.agg #[.int .i64 p, .slice a n c], .slice am nm cm] w fun e w' => WEnd (enOk p n L ys) (enR p n L ys) w e w' := by
  have hAl := below_al w (.cells #[.int .i64 p, .slice a n c] 26)
  have PAR := hide (heap_alloc_new w (.cells #[.int .i64 p, .slice a n c] 26))
  have HG := hide (marked_any p a am n c nm cm L ys _ (h.below hAl) (rm.below hAl) hs hnm)
  have HL := hide h
  have RM := hide rm
  have HB0 := hide hAl
  clear h rm hAl
  go_enter Try.func165, Try.ntmps165
  go_wp2_with fail
  refine HG.out.mono ?_
  rintro e w1 ⟨rfl, hb⟩
  have HB1 := hide (HB0.out.trans (hb.mono HB0.out.size))
  have PAR1 := hide (keep PAR.out hb)
  obtain ⟨hc0, hc1⟩ := cells2 PAR1.out
  clear HG HB0 PAR hb
  by_cases g1 : (netOk p n L && goodB p ys) = true
  rotate_left
  · have g1' : (netOk p n L && goodB p ys) = false := by simpa using g1
    have g1'' : enOk p n L ys = false := g1'
    have HN : Hid (WEnd (enOk p n L ys) (enR p n L ys) w (.returned (.tuple #[.slice none 0 0, .bool false])) w1) :=
      ⟨none, 0, 0, by rw [g1''], ⟨by unfold enR; rw [g1'']; rfl, .inl rfl⟩, HB1.out⟩
    rw [g1']
    clear g1 g1' g1''
    go_wp2_with fail
    go_ret2
    exact HN.out
  have hgg := g1
  rw [Bool.and_eq_true] at hgg
  have HOK : Hid (enOk p n L ys = true) := g1
  rw [g1]
  have hn24 := netOkN' hgg.1
  obtain ⟨hp, hyl, _⟩ := goodB_parts hgg.2
  have HIN : Hid (∀ k, k < n → ∀ x ∈ L.getD (3 * k) [], 0 ≤ x ∧ x < (nm : Int)) := fun k hk x hx => by
    have htri := tri_riseT (triOkT hgg.1 hk)
    have := riseB_mem htri.1 x hx
    have := RM.out.1
    omega
  clear g1 hgg
  go_wp2_with fail
  refine (enabledS_any _ _ _ _ _ _ _ L ys _ (HL.out.below HB1.out) (RM.out.below HB1.out) hs hn24 HIN.out).mono ?_
  rintro e w2 ⟨v, m, rfl, hown, hb⟩
  obtain ⟨av, cv, hv, hrow⟩ := own_row hown
  subst hv
  have HY : Hid (WEnd (enOk p n L ys) (enR p n L ys) w (.returned (.tuple #[.slice av m cv, .bool true])) w2) :=
    ⟨av, m, cv, by rw [HOK.out], by unfold enR; rw [HOK.out]; exact hrow, HB1.out.trans (hb.mono HB1.out.size)⟩
  clear hown hb hrow
  go_wp2_with fail
  go_ret2
  exact HY.out
end Go.Proofs.Ytdhnhpjcoeglmaa
