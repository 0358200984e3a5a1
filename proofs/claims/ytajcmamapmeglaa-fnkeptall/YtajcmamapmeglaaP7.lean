/- Contracts that the proof stands on, one behind the other. -/
import Derived.Test.YtajcmamapmeglaaP6
import Derived.Deep.RegionHeld3
/- follows, isSiphon and isTrap of the program. -/
namespace Go.Proofs.Ytajcmamapmeglaa
open Go.RowKit
set_option maxRecDepth 10000

/-- How the search for a step that slips ends. -/
def SlEnd (b : Bool) (st n : Nat) (L : List (List Int)) (w : World) (e : Ending) (w' : World) : Prop := ∃ z : Int, e = .returned (.int .i64 z) ∧ Hid (decide (0 ≤ z) = slips b st n L) ∧ Below w.heap.size w w'

set_option maxHeartbeats 1000000 in
theorem indexFS_any (B n bn bs bf st : Nat) (L : List (List Int)) (w : World) (h : PartS w B (3 * n) (3 * n) L) (hn : n ≤ 24) (hst : st < 2 ^ 16) (hm : ∀ i, maskL (L.getD i []) < 2 ^ 16)
    (hbn : w.heap[bn]? = some (.cells #[.func (.func 135) #[] #[]] 136 (0, 0))) (hbs : w.heap[bs]? = some (.cells #[.int .u16 (st : Int)] 63 (0, 0))) (hbf : w.heap[bf]? = some (.cells #[.func (.func 136) #[] #[]] 136 (0, 0))) :
    Calls Try.prog 115 #[.slice (some ⟨B, 0, none⟩) n n, .func (.func 151) #[] #[.pointer (some ⟨bn, 0, none⟩), .pointer (some ⟨bs, 0, none⟩), .pointer (some ⟨bf, 0, none⟩)]] w fun e w' => SlEnd true st n L w e w' := by
  have HP := hide h
  have HBN := hide hbn
  have HBS := hide hbs
  have HBF := hide hbf
  clear h hbn hbs hbf
  go_enter Try.func115, Try.ntmps115
  go_wp2_with fail
  go_loopw [8] (fun i wr => ∃ k : Nat, k ≤ n ∧ i = .int .i64 k ∧ Hid (slips true st k L = false) ∧ Hid (Below w.heap.size w wr)) (fun i _ => n - (intOf i).toNat)
  case atStart => exact ⟨0, Nat.zero_le _, rfl, rfl, Below.refl _ _⟩
  case round =>
    obtain ⟨k, hk, rfl, hu, hbw⟩ := hrel
    by_cases hlt : k < n
    rotate_left
    · have hk' : k = n := by omega
      subst hk'
      have HE : Hid (SlEnd true st k L w (.returned (.int .i64 (-1))) wr) := ⟨-1, rfl, by rw [hu.out]; rfl, hbw.out⟩
      go_wp2_with fail
      go_ret
      exact HE.out
    obtain ⟨hc0, hc1, hc2⟩ := (HP.out.grow hbw.out).at3 hlt
    have HH := hide (slip1S_any (maskL (L.getD (3 * k) [])) (maskL (L.getD (3 * k + 1) [])) (maskL (L.getD (3 * k + 2) [])) st bn bs bf wr (hm _) (hm _) hst (keep HBN.out hbw.out) (keep HBS.out hbw.out) (keep HBF.out hbw.out))
    have HHE : Hid (slipB true (maskL (L.getD (3 * k) [])) (maskL (L.getD (3 * k + 1) [])) st = slipAt true st k L) := rfl
    rw [HHE.out] at HH
    cases hh : slipAt true st k L
    · have HU := hide (slips_step hu.out hh)
      rw [hh] at HH
      clear hh hu HHE
      clear hm
      generalize maskL (L.getD (3 * k) []) = s0 at *
      generalize maskL (L.getD (3 * k + 1) []) = s1 at *
      generalize maskL (L.getD (3 * k + 2) []) = s2 at *
      go_wp2_with fail
      refine HH.out.mono ?_
      rintro e w1 ⟨rfl, hb⟩
      have HB := hide (hbw.out.trans (hb.mono hbw.out.size))
      clear hb HH hc0 hc1 hc2
      go_wp2_with fail
      go_roundw
      case rel => exact ⟨k + 1, by omega, by go_num, HU, HB⟩
      case measure => simp [intOf]; omega
    · have HY := hide (slips_yes hlt hh)
      rw [hh] at HH
      clear hh hu HHE
      clear hm
      generalize maskL (L.getD (3 * k) []) = s0 at *
      generalize maskL (L.getD (3 * k + 1) []) = s1 at *
      generalize maskL (L.getD (3 * k + 2) []) = s2 at *
      go_wp2_with fail
      refine HH.out.mono ?_
      rintro e w1 ⟨rfl, hb⟩
      have HE : Hid (SlEnd true st n L w (.returned (.int .i64 (k : Int))) w1) := ⟨k, rfl, by rw [HY.out]; simp [Hid], hbw.out.trans (hb.mono hbw.out.size)⟩
      clear hb HH hc0 hc1 hc2 HY
      go_wp2_with fail
      go_ret
      exact HE.out

set_option maxHeartbeats 400000 in
theorem containsFS_any (B n bn bs bf st : Nat) (L : List (List Int)) (w : World) (h : PartS w B (3 * n) (3 * n) L) (hn : n ≤ 24) (hst : st < 2 ^ 16) (hm : ∀ i, maskL (L.getD i []) < 2 ^ 16)
    (hbn : w.heap[bn]? = some (.cells #[.func (.func 135) #[] #[]] 136 (0, 0))) (hbs : w.heap[bs]? = some (.cells #[.int .u16 (st : Int)] 63 (0, 0))) (hbf : w.heap[bf]? = some (.cells #[.func (.func 136) #[] #[]] 136 (0, 0))) :
    Calls Try.prog 55 #[.slice (some ⟨B, 0, none⟩) n n, .func (.func 151) #[] #[.pointer (some ⟨bn, 0, none⟩), .pointer (some ⟨bs, 0, none⟩), .pointer (some ⟨bf, 0, none⟩)]] w fun e w' => e = .returned (.bool (slips true st n L)) ∧ Below w.heap.size w w' := by
  have HI := hide (indexFS_any B n bn bs bf st L w h hn hst hm hbn hbs hbf)
  clear h hm hbn hbs hbf
  go_enter Try.func55, Try.ntmps55
  go_wp2_with fail
  refine HI.out.mono ?_
  rintro e w1 ⟨z, rfl, hz, hb⟩
  have HB := hide hb
  clear hb HI
  go_wp2_with fail
  go_ret
  exact ⟨ret_bool hz.out, HB.out⟩

set_option maxHeartbeats 1000000 in
theorem followsS_any (p : Int) (B n st : Nat) (L : List (List Int)) (w : World) (h : PartS w B (3 * n) (3 * n) L) (hn : n ≤ 24) (hst : st < 2 ^ 16) (hm : ∀ i, maskL (L.getD i []) < 2 ^ 16) :
    Calls Try.prog 134 #[.agg #[.int .i64 p, .slice (some ⟨B, 0, none⟩) n n], .int .u16 (st : Int), .func (.func 135) #[] #[], .func (.func 136) #[] #[]] w fun e w' => e = .returned (.bool (!slips true st n L)) ∧ Below w.heap.size w w' := by
  have hA0 := below_al w (.cells #[.int .i64 p, .slice (some ⟨B, 0, none⟩) n n] 59)
  have hv0 := heap_alloc_new w (.cells #[.int .i64 p, .slice (some ⟨B, 0, none⟩) n n] 59)
  obtain ⟨w1, hw1⟩ : ∃ x, w.alloc (.cells #[.int .i64 p, .slice (some ⟨B, 0, none⟩) n n] 59) = x := ⟨_, rfl⟩
  rw [hw1] at hA0 hv0
  have hz1 : w1.heap.size = w.heap.size + 1 := by rw [← hw1]; simp
  have hA1 := below_al w1 (.cells #[.int .u16 (st : Int)] 63)
  have hv1 := heap_alloc_new w1 (.cells #[.int .u16 (st : Int)] 63)
  obtain ⟨w2, hw2⟩ : ∃ x, w1.alloc (.cells #[.int .u16 (st : Int)] 63) = x := ⟨_, rfl⟩
  rw [hw2] at hA1 hv1
  have hz2 : w2.heap.size = w.heap.size + 2 := by rw [← hw2]; simp; omega
  have hA2 := below_al w2 (.cells #[.func (.func 135) #[] #[]] 136)
  have hv2 := heap_alloc_new w2 (.cells #[.func (.func 135) #[] #[]] 136)
  obtain ⟨w3, hw3⟩ : ∃ x, w2.alloc (.cells #[.func (.func 135) #[] #[]] 136) = x := ⟨_, rfl⟩
  rw [hw3] at hA2 hv2
  have hz3 : w3.heap.size = w.heap.size + 3 := by rw [← hw3]; simp; omega
  have hA3 := below_al w3 (.cells #[.func (.func 136) #[] #[]] 136)
  have hv3 := heap_alloc_new w3 (.cells #[.func (.func 136) #[] #[]] 136)
  obtain ⟨w4, hw4⟩ : ∃ x, w3.alloc (.cells #[.func (.func 136) #[] #[]] 136) = x := ⟨_, rfl⟩
  rw [hw4] at hA3 hv3
  have hb01 := hA0.trans (hA1.mono hA0.size)
  have hb02 := hb01.trans (hA2.mono hb01.size)
  have HB := hide (hb02.trans (hA3.mono hb02.size))
  have HV0 := hide (keep (keep (keep hv0 hA1) hA2) hA3)
  have HC := hide (containsFS_any B n w2.heap.size w1.heap.size w3.heap.size st L w4 (h.grow HB.out) hn hst hm (keep hv2 hA3) (keep (keep hv1 hA2) hA3) hv3)
  obtain ⟨hc0, hc1⟩ := cells2 HV0.out
  have hlt := row_lt HV0.out
  have hmf : ∀ (fn : Fn) (first cap : Array Value) (w : World), (Instr.makeFunc fn first cap).run Try.prog w = .ok (.func fn first cap) w := fun _ _ _ _ => rfl
  clear hA0 hA1 hA2 hA3 hv0 hv1 hv2 hv3 hb01 hb02 h hm HV0 hz1 hz2 hz3
  go_enter Try.func134, Try.ntmps134
  go_wp2_with fail
  refine HC.out.mono ?_
  rintro e w5 ⟨rfl, hb⟩
  have HB5 := hide (HB.out.trans (hb.mono HB.out.size))
  obtain ⟨r, hr⟩ : ∃ r, Hid (slips true st n L = r) := ⟨_, rfl⟩
  rw [hr.out]
  clear hb HC HB hc0 hc1
  go_wp2_with fail
  go_ret
  exact ⟨ret_bool (by rw [hr.out]), HB5.out⟩

set_option maxHeartbeats 1000000 in
theorem isSiphonP_any (p : Int) (B n st : Nat) (L : List (List Int)) (w : World) (h : PartS w B (3 * n) (3 * n) L) (hn : n ≤ 24) (hst : st < 2 ^ 16) (hm : ∀ i, maskL (L.getD i []) < 2 ^ 16) :
    Calls Try.prog 88 #[.agg #[.int .i64 p, .slice (some ⟨B, 0, none⟩) n n], .int .u16 (st : Int)] w fun e w' => e = .returned (.bool (!slips true st n L)) ∧ Below w.heap.size w w' := by
  have hA := below_al w (.cells #[.int .i64 p, .slice (some ⟨B, 0, none⟩) n n] 59)
  have HB := hide hA
  have HC := hide (followsS_any p B n st L _ (h.grow hA) hn hst hm)
  clear h hA hm
  go_enter Try.func88, Try.ntmps88
  go_wp2_with fail
  refine HC.out.mono ?_
  rintro e w5 ⟨rfl, hb⟩
  have HB5 := hide (HB.out.trans (hb.mono HB.out.size))
  obtain ⟨r, hr⟩ : ∃ r, Hid (slips true st n L = r) := ⟨_, rfl⟩
  rw [hr.out]
  clear hb HC HB
  go_wp2_with fail
  go_ret
  exact ⟨ret_bool (by rw [hr.out]), HB5.out⟩


set_option maxHeartbeats 1000000 in
theorem indexFT_any (B n bn bs bf st : Nat) (L : List (List Int)) (w : World) (h : PartS w B (3 * n) (3 * n) L) (hn : n ≤ 24) (hst : st < 2 ^ 16) (hm : ∀ i, maskL (L.getD i []) < 2 ^ 16)
    (hbn : w.heap[bn]? = some (.cells #[.func (.func 136) #[] #[]] 136 (0, 0))) (hbs : w.heap[bs]? = some (.cells #[.int .u16 (st : Int)] 63 (0, 0))) (hbf : w.heap[bf]? = some (.cells #[.func (.func 135) #[] #[]] 136 (0, 0))) :
    Calls Try.prog 115 #[.slice (some ⟨B, 0, none⟩) n n, .func (.func 151) #[] #[.pointer (some ⟨bn, 0, none⟩), .pointer (some ⟨bs, 0, none⟩), .pointer (some ⟨bf, 0, none⟩)]] w fun e w' => SlEnd false st n L w e w' := by
  have HP := hide h
  have HBN := hide hbn
  have HBS := hide hbs
  have HBF := hide hbf
  clear h hbn hbs hbf
  go_enter Try.func115, Try.ntmps115
  go_wp2_with fail
  go_loopw [8] (fun i wr => ∃ k : Nat, k ≤ n ∧ i = .int .i64 k ∧ Hid (slips false st k L = false) ∧ Hid (Below w.heap.size w wr)) (fun i _ => n - (intOf i).toNat)
  case atStart => exact ⟨0, Nat.zero_le _, rfl, rfl, Below.refl _ _⟩
  case round =>
    obtain ⟨k, hk, rfl, hu, hbw⟩ := hrel
    by_cases hlt : k < n
    rotate_left
    · have hk' : k = n := by omega
      subst hk'
      have HE : Hid (SlEnd false st k L w (.returned (.int .i64 (-1))) wr) := ⟨-1, rfl, by rw [hu.out]; rfl, hbw.out⟩
      go_wp2_with fail
      go_ret
      exact HE.out
    obtain ⟨hc0, hc1, hc2⟩ := (HP.out.grow hbw.out).at3 hlt
    have HH := hide (slip1T_any (maskL (L.getD (3 * k) [])) (maskL (L.getD (3 * k + 1) [])) (maskL (L.getD (3 * k + 2) [])) st bn bs bf wr (hm _) (hm _) hst (keep HBN.out hbw.out) (keep HBS.out hbw.out) (keep HBF.out hbw.out))
    have HHE : Hid (slipB false (maskL (L.getD (3 * k) [])) (maskL (L.getD (3 * k + 1) [])) st = slipAt false st k L) := rfl
    rw [HHE.out] at HH
    cases hh : slipAt false st k L
    · have HU := hide (slips_step hu.out hh)
      rw [hh] at HH
      clear hh hu HHE
      clear hm
      generalize maskL (L.getD (3 * k) []) = s0 at *
      generalize maskL (L.getD (3 * k + 1) []) = s1 at *
      generalize maskL (L.getD (3 * k + 2) []) = s2 at *
      go_wp2_with fail
      refine HH.out.mono ?_
      rintro e w1 ⟨rfl, hb⟩
      have HB := hide (hbw.out.trans (hb.mono hbw.out.size))
      clear hb HH hc0 hc1 hc2
      go_wp2_with fail
      go_roundw
      case rel => exact ⟨k + 1, by omega, by go_num, HU, HB⟩
      case measure => simp [intOf]; omega
    · have HY := hide (slips_yes hlt hh)
      rw [hh] at HH
      clear hh hu HHE
      clear hm
      generalize maskL (L.getD (3 * k) []) = s0 at *
      generalize maskL (L.getD (3 * k + 1) []) = s1 at *
      generalize maskL (L.getD (3 * k + 2) []) = s2 at *
      go_wp2_with fail
      refine HH.out.mono ?_
      rintro e w1 ⟨rfl, hb⟩
      have HE : Hid (SlEnd false st n L w (.returned (.int .i64 (k : Int))) w1) := ⟨k, rfl, by rw [HY.out]; simp [Hid], hbw.out.trans (hb.mono hbw.out.size)⟩
      clear hb HH hc0 hc1 hc2 HY
      go_wp2_with fail
      go_ret
      exact HE.out

set_option maxHeartbeats 400000 in
theorem containsFT_any (B n bn bs bf st : Nat) (L : List (List Int)) (w : World) (h : PartS w B (3 * n) (3 * n) L) (hn : n ≤ 24) (hst : st < 2 ^ 16) (hm : ∀ i, maskL (L.getD i []) < 2 ^ 16)
    (hbn : w.heap[bn]? = some (.cells #[.func (.func 136) #[] #[]] 136 (0, 0))) (hbs : w.heap[bs]? = some (.cells #[.int .u16 (st : Int)] 63 (0, 0))) (hbf : w.heap[bf]? = some (.cells #[.func (.func 135) #[] #[]] 136 (0, 0))) :
    Calls Try.prog 55 #[.slice (some ⟨B, 0, none⟩) n n, .func (.func 151) #[] #[.pointer (some ⟨bn, 0, none⟩), .pointer (some ⟨bs, 0, none⟩), .pointer (some ⟨bf, 0, none⟩)]] w fun e w' => e = .returned (.bool (slips false st n L)) ∧ Below w.heap.size w w' := by
  have HI := hide (indexFT_any B n bn bs bf st L w h hn hst hm hbn hbs hbf)
  clear h hm hbn hbs hbf
  go_enter Try.func55, Try.ntmps55
  go_wp2_with fail
  refine HI.out.mono ?_
  rintro e w1 ⟨z, rfl, hz, hb⟩
  have HB := hide hb
  clear hb HI
  go_wp2_with fail
  go_ret
  exact ⟨ret_bool hz.out, HB.out⟩

set_option maxHeartbeats 1000000 in
theorem followsT_any (p : Int) (B n st : Nat) (L : List (List Int)) (w : World) (h : PartS w B (3 * n) (3 * n) L) (hn : n ≤ 24) (hst : st < 2 ^ 16) (hm : ∀ i, maskL (L.getD i []) < 2 ^ 16) :
    Calls Try.prog 134 #[.agg #[.int .i64 p, .slice (some ⟨B, 0, none⟩) n n], .int .u16 (st : Int), .func (.func 136) #[] #[], .func (.func 135) #[] #[]] w fun e w' => e = .returned (.bool (!slips false st n L)) ∧ Below w.heap.size w w' := by
  have hA0 := below_al w (.cells #[.int .i64 p, .slice (some ⟨B, 0, none⟩) n n] 59)
  have hv0 := heap_alloc_new w (.cells #[.int .i64 p, .slice (some ⟨B, 0, none⟩) n n] 59)
  obtain ⟨w1, hw1⟩ : ∃ x, w.alloc (.cells #[.int .i64 p, .slice (some ⟨B, 0, none⟩) n n] 59) = x := ⟨_, rfl⟩
  rw [hw1] at hA0 hv0
  have hz1 : w1.heap.size = w.heap.size + 1 := by rw [← hw1]; simp
  have hA1 := below_al w1 (.cells #[.int .u16 (st : Int)] 63)
  have hv1 := heap_alloc_new w1 (.cells #[.int .u16 (st : Int)] 63)
  obtain ⟨w2, hw2⟩ : ∃ x, w1.alloc (.cells #[.int .u16 (st : Int)] 63) = x := ⟨_, rfl⟩
  rw [hw2] at hA1 hv1
  have hz2 : w2.heap.size = w.heap.size + 2 := by rw [← hw2]; simp; omega
  have hA2 := below_al w2 (.cells #[.func (.func 136) #[] #[]] 136)
  have hv2 := heap_alloc_new w2 (.cells #[.func (.func 136) #[] #[]] 136)
  obtain ⟨w3, hw3⟩ : ∃ x, w2.alloc (.cells #[.func (.func 136) #[] #[]] 136) = x := ⟨_, rfl⟩
  rw [hw3] at hA2 hv2
  have hz3 : w3.heap.size = w.heap.size + 3 := by rw [← hw3]; simp; omega
  have hA3 := below_al w3 (.cells #[.func (.func 135) #[] #[]] 136)
  have hv3 := heap_alloc_new w3 (.cells #[.func (.func 135) #[] #[]] 136)
  obtain ⟨w4, hw4⟩ : ∃ x, w3.alloc (.cells #[.func (.func 135) #[] #[]] 136) = x := ⟨_, rfl⟩
  rw [hw4] at hA3 hv3
  have hb01 := hA0.trans (hA1.mono hA0.size)
  have hb02 := hb01.trans (hA2.mono hb01.size)
  have HB := hide (hb02.trans (hA3.mono hb02.size))
  have HV0 := hide (keep (keep (keep hv0 hA1) hA2) hA3)
  have HC := hide (containsFT_any B n w2.heap.size w1.heap.size w3.heap.size st L w4 (h.grow HB.out) hn hst hm (keep hv2 hA3) (keep (keep hv1 hA2) hA3) hv3)
  obtain ⟨hc0, hc1⟩ := cells2 HV0.out
  have hlt := row_lt HV0.out
  have hmf : ∀ (fn : Fn) (first cap : Array Value) (w : World), (Instr.makeFunc fn first cap).run Try.prog w = .ok (.func fn first cap) w := fun _ _ _ _ => rfl
  clear hA0 hA1 hA2 hA3 hv0 hv1 hv2 hv3 hb01 hb02 h hm HV0 hz1 hz2 hz3
  go_enter Try.func134, Try.ntmps134
  go_wp2_with fail
  refine HC.out.mono ?_
  rintro e w5 ⟨rfl, hb⟩
  have HB5 := hide (HB.out.trans (hb.mono HB.out.size))
  obtain ⟨r, hr⟩ : ∃ r, Hid (slips false st n L = r) := ⟨_, rfl⟩
  rw [hr.out]
  clear hb HC HB hc0 hc1
  go_wp2_with fail
  go_ret
  exact ⟨ret_bool (by rw [hr.out]), HB5.out⟩

set_option maxHeartbeats 1000000 in
theorem isTrapP_any (p : Int) (B n st : Nat) (L : List (List Int)) (w : World) (h : PartS w B (3 * n) (3 * n) L) (hn : n ≤ 24) (hst : st < 2 ^ 16) (hm : ∀ i, maskL (L.getD i []) < 2 ^ 16) :
    Calls Try.prog 91 #[.agg #[.int .i64 p, .slice (some ⟨B, 0, none⟩) n n], .int .u16 (st : Int)] w fun e w' => e = .returned (.bool (!slips false st n L)) ∧ Below w.heap.size w w' := by
  have hA := below_al w (.cells #[.int .i64 p, .slice (some ⟨B, 0, none⟩) n n] 59)
  have HB := hide hA
  have HC := hide (followsT_any p B n st L _ (h.grow hA) hn hst hm)
  clear h hA hm
  go_enter Try.func91, Try.ntmps91
  go_wp2_with fail
  refine HC.out.mono ?_
  rintro e w5 ⟨rfl, hb⟩
  have HB5 := hide (HB.out.trans (hb.mono HB.out.size))
  obtain ⟨r, hr⟩ : ∃ r, Hid (slips false st n L = r) := ⟨_, rfl⟩
  rw [hr.out]
  clear hb HC HB
  go_wp2_with fail
  go_ret
  exact ⟨ret_bool (by rw [hr.out]), HB5.out⟩

end Go.Proofs.Ytajcmamapmeglaa


/- smallSetsOf of the program; IsKept of the program. -/
namespace Go.Proofs.Ytajcmamapmeglaa
open Go.RowKit
set_option maxRecDepth 10000

def siOk (p : Int) (n : Nat) (L : List (List Int)) : Bool := plainB p n L && decide (p ≤ 10)
def siN (p : Int) (n : Nat) (L : List (List Int)) : List Nat := if siOk p n L then smallN (fun s => invB (rowB s p.toNat) n L) (2 ^ p.toNat - 1) else []

theorem smallN_congr {f g : Nat → Bool} {k : Nat} (h : ∀ s, f s = g s) : smallN f k = smallN g k := by
  have : f = g := funext h
  rw [this]

theorem siN_yes {P n : Nat} {L : List (List Int)} (h : siOk (P : Int) n L = true) : siN (P : Int) n L = smallN (fun s => !kpM s n L) (2 ^ P - 1) := by
  unfold siN
  rw [if_pos h, Int.toNat_natCast]
  unfold siOk plainB at h
  simp only [Bool.and_eq_true, decide_eq_true_eq] at h
  exact smallN_congr fun s => (kpM_eq (by omega) h.1.1).symm

theorem siN_no {p : Int} {n : Nat} {L : List (List Int)} (h : siOk p n L = false) : siN p n L = [] := by unfold siN; rw [h]; rfl

theorem si_parts {p : Int} {n : Nat} {L : List (List Int)} (h : siOk p n L = true) : netOk p n L = true ∧ 1 ≤ p ∧ p ≤ 10 := by
  unfold siOk plainB at h
  simp only [Bool.and_eq_true, decide_eq_true_eq] at h
  have h1 := h.1.1
  refine ⟨h1, ?_, h.2⟩
  unfold netOk at h1; simp [inB] at h1; omega

theorem shl_powP {P : Nat} (h : P ≤ 10) : 2 ^ P ≤ 1024 := by
  have : 2 ^ P ≤ 2 ^ 10 := Nat.pow_le_pow_right (by decide) h
  simpa using this

theorem siN_mem {p : Int} {n : Nat} {L : List (List Int)} {s : Nat} (h : s ∈ siN p n L) : 1 ≤ s ∧ s < 1024 ∧ s < 2 ^ p.toNat := by
  by_cases h1 : siOk p n L = true
  · unfold siN at h
    rw [if_pos h1] at h
    have h2 := smallN_mem h
    have h3 := si_parts h1
    have h4 : 2 ^ p.toNat ≤ 1024 := shl_powP (by omega)
    omega
  · rw [siN_no (by simpa using h1)] at h; simp at h

theorem siN_len (p : Int) (n : Nat) (L : List (List Int)) : (siN p n L).length ≤ 1024 := by
  by_cases h1 : siOk p n L = true
  · unfold siN
    rw [if_pos h1]
    have h2 := smallN_len (fun s => invB (rowB s p.toNat) n L) (2 ^ p.toNat - 1)
    have h3 := si_parts h1
    have h4 : 2 ^ p.toNat ≤ 1024 := shl_powP (by omega)
    omega
  · rw [siN_no (by simpa using h1)]; simp

theorem keepB2 {W W' : World} {a1 a2 : Addr} {v1 v2 : Value} (hb : Below W.heap.size W W') (h : W.cell? a1 = some v1 ∧ W.cell? a2 = some v2) : W'.cell? a1 = some v1 ∧ W'.cell? a2 = some v2 :=
  ⟨(hb.cell (World.block_lt_of_cell? _ _ h.1)).trans h.1, (hb.cell (World.block_lt_of_cell? _ _ h.2)).trans h.2⟩

theorem keepS2K {W : World} {b z : Nat} {u0 u1 v0 v1 : Value} (hz : z ≠ b) (h : W.cell? ⟨z, 0, none⟩ = some v0 ∧ W.cell? ⟨z, 1, none⟩ = some v1) : ((W.setCell ⟨b, 0, none⟩ u0).setCell ⟨b, 1, none⟩ u1).cell? ⟨z, 0, none⟩ = some v0 ∧ ((W.setCell ⟨b, 0, none⟩ u0).setCell ⟨b, 1, none⟩ u1).cell? ⟨z, 1, none⟩ = some v1 := by
  have far : ∀ x, ((W.setCell ⟨b, 0, none⟩ u0).setCell ⟨b, 1, none⟩ u1).cell? ⟨z, x, none⟩ = W.cell? ⟨z, x, none⟩ := fun x => by
    rw [World.cell?_setCell_far _ _ _ _ (fun e => hz e.symm), World.cell?_setCell_far _ _ _ _ (fun e => hz e.symm)]
  exact ⟨(far _).trans h.1, (far _).trans h.2⟩

/-- The sets that smallSetsOf tells. -/
def soN (f : Nat → Bool) (p : Int) (n : Nat) (L : List (List Int)) : List Nat := if siOk p n L then smallN f (2 ^ p.toNat - 1) else []

theorem soN_yes {f : Nat → Bool} {P n : Nat} {L : List (List Int)} (h : siOk (P : Int) n L = true) : soN f (P : Int) n L = smallN f (2 ^ P - 1) := by unfold soN; rw [if_pos h, Int.toNat_natCast]
theorem soN_no {f : Nat → Bool} {p : Int} {n : Nat} {L : List (List Int)} (h : siOk p n L = false) : soN f p n L = [] := by unfold soN; rw [h]; rfl

/-- How smallSetsOf ends. -/
def SiEnd (f : Nat → Bool) (p : Int) (n : Nat) (L : List (List Int)) (w : World) (e : Ending) (w' : World) : Prop :=
  ∃ v m p' a' m' c', e = .returned (.tuple #[v, .agg #[.int .i64 p', .slice a' m' c'], .bool (siOk p n L)]) ∧ w'.ownsRow w.heap.size 63 1 v m (encS (soN f p n L)) ∧ Hid (siOk p n L = true → p' = p ∧ m' = n ∧ c' = n ∧ ∃ B, a' = some ⟨B, 0, none⟩ ∧ w.heap.size ≤ B ∧ PartS w' B (3 * n) (3 * n) L) ∧ Below w.heap.size w w'

theorem siEnd_no {f : Nat → Bool} {p p' : Int} {n m' c' : Nat} {a' : Option Addr} {L : List (List Int)} {w w' : World} (h : siOk p n L = false) (hb : Below w.heap.size w w') : SiEnd f p n L w (.returned (.tuple #[.slice none 0 0, .agg #[.int .i64 p', .slice a' m' c'], .bool false])) w' :=
  ⟨_, 0, p', a', m', c', by rw [h], by rw [soN_no h]; exact World.ownsRow_nil _ _ _ _, fun e => by rw [h] at e; simp at e, hb⟩

set_option maxHeartbeats 4000000 in
theorem smallSetsOf_any (F : FuncId) (f : Nat → Bool) (p : Int) (a : Option Addr) (n c : Nat) (L : List (List Int)) (w : World) (h : Lists w a (3 * n) L) (hs : sizeN n L ≤ 1048576) (hF : Enters F)
    (hf : siOk p n L = true → ∀ B W, Below w.heap.size w W → PartS W B (3 * n) (3 * n) L → TellsOf F f (.agg #[.int .i64 p, .slice (some ⟨B, 0, none⟩) n n]) W) :
    Calls Try.prog 79 #[.agg #[.int .i64 p, .slice a n c], .func (.func F) #[] #[]] w fun e w' => SiEnd f p n L w e w' := by
  have HA := hide (below_two w (.cells #[.int .i64 p, .slice a n c] 26) (.cells #[.int .i64 0, .slice none 0 0] 59))
  have HT := hide (stepsNR_any p a n c L ((w.alloc (.cells #[.int .i64 p, .slice a n c] 26)).alloc (.cells #[.int .i64 0, .slice none 0 0] 59)) (h.below HA.out) hs)
  have HR0 : Hid (((w.alloc (.cells #[.int .i64 p, .slice a n c] 26)).alloc (.cells #[.int .i64 0, .slice none 0 0] 59)).heap[w.heap.size + 1]? = some (.cells #[.int .i64 0, .slice none 0 0] 59 (0, 0))) := by
    have := heap_alloc_new (w.alloc (.cells #[.int .i64 p, .slice a n c] 26)) (.cells #[.int .i64 0, .slice none 0 0] 59)
    rw [show (w.alloc (.cells #[.int .i64 p, .slice a n c] 26)).heap.size = w.heap.size + 1 by simp] at this
    exact this
  have hLl := h.1
  clear h
  by_cases hg : plainB p n L = true
  rotate_left
  · have hg' : plainB p n L = false := by simpa using hg
    have HF : Hid (siOk p n L = false) := by show _ = _; unfold siOk; rw [hg']; rfl
    rw [show (netOk p n L && !resB n L) = false from hg'] at HT
    clear hg hg'
    go_enter Try.func79, Try.ntmps79
    go_wp2_with fail
    refine HT.out.mono ?_
    rintro e w2 ⟨p', a', m, c', rfl, hx, hb⟩
    have HB2 := hide (HA.out.trans (hb.mono HA.out.size))
    have hR := (hb.block (w.heap.size + 1) (by simp)).trans HR0.out
    have hr0 : w2.cell? ⟨w.heap.size + 1, 0, none⟩ = some (.int .i64 0) := cell_of_row w2 _ 0 _ _ _ hR
    have hr1 : w2.cell? ⟨w.heap.size + 1, 1, none⟩ = some (.slice none 0 0) := cell_of_row w2 _ 1 _ _ _ hR
    have hf0 : w2.frozen? ⟨w.heap.size + 1, 0, none⟩ = false := frozen_of_row w2 _ 0 _ _ hR
    have hf1 : w2.frozen? ⟨w.heap.size + 1, 1, none⟩ = false := frozen_of_row w2 _ 1 _ _ hR
    have hlr : w.heap.size + 1 < w2.heap.size := (Array.getElem?_eq_some_iff.mp hR).1
    clear hb HT hx HA HR0 hR
    go_wp2_with fail
    refine bodyPost_ret (v := .tuple #[.slice none 0 0, .agg #[.int .i64 0, .slice none 0 0], .bool false]) (by simp [results, Try.results79, go_sem, hr0, hr1, hlr]) rfl ?_
    exact siEnd_no HF.out (((HB2.out.setCell (by simp) _).setCell (by simp) _).alloc (by have := HB2.out.size; simp [World.setCell]; omega) _)
  have HG := hide hg
  rw [show (netOk p n L && !resB n L) = true from hg] at HT
  have hgn : netOk p n L = true := by unfold plainB at hg; simp only [Bool.and_eq_true] at hg; exact hg.1
  have hn24 : n ≤ 24 := netN hgn
  have HM := hide (net_masks hgn hLl)
  have hp1 : 1 ≤ p ∧ p ≤ 16 := by unfold netOk at hgn; simp [inB] at hgn; omega
  clear hg hgn
  go_enter Try.func79, Try.ntmps79
  go_wp2_with fail
  refine HT.out.mono ?_
  rintro e w2 ⟨p', a', m, c', rfl, hx, hb⟩
  obtain ⟨e1, e2, e3, B, rfl, hBs, hps⟩ := hx.out rfl
  subst e1 e2 e3
  have hA := below_al w2 (.cells #[.int .i64 p', .slice (some ⟨B, 0, none⟩) c' c'] 59)
  have HB2 := hide (HA.out.trans (hb.mono HA.out.size))
  have hR := (hA.block _ (Array.getElem?_eq_some_iff.mp ((hb.block (w.heap.size + 1) (by simp)).trans HR0.out)).1).trans ((hb.block (w.heap.size + 1) (by simp)).trans HR0.out)
  have HR := hide hR
  have HB3 := hide (HB2.out.trans (hA.mono HB2.out.size))
  have HPS := hide (hps.grow hA)
  have hv0 : (w2.alloc (.cells #[.int .i64 p', .slice (some ⟨B, 0, none⟩) c' c'] 59)).cell? ⟨w2.heap.size, 0, none⟩ = some (.int .i64 p') := by simp
  have hv1 : (w2.alloc (.cells #[.int .i64 p', .slice (some ⟨B, 0, none⟩) c' c'] 59)).cell? ⟨w2.heap.size, 1, none⟩ = some (.slice (some ⟨B, 0, none⟩) c' c') := by simp
  have hvl : w2.heap.size < (w2.alloc (.cells #[.int .i64 p', .slice (some ⟨B, 0, none⟩) c' c'] 59)).heap.size := by simp
  have hzz : w.heap.size + 1 < w2.heap.size := by have := hb.size; simp at this; omega
  by_cases h10 : p' ≤ 10
  rotate_left
  · have hd : (10 : Int) < p' := by omega
    have HF : Hid (siOk p' c' L = false) := by show _ = _; unfold siOk; simp [h10]
    have hR2 := (hb.block (w.heap.size + 1) (by simp)).trans HR0.out
    have hr0 : w2.cell? ⟨w.heap.size + 1, 0, none⟩ = some (.int .i64 0) := cell_of_row w2 _ 0 _ _ _ hR2
    have hr1 : w2.cell? ⟨w.heap.size + 1, 1, none⟩ = some (.slice none 0 0) := cell_of_row w2 _ 1 _ _ _ hR2
    have hf0 : w2.frozen? ⟨w.heap.size + 1, 0, none⟩ = false := frozen_of_row w2 _ 0 _ _ hR2
    have hf1 : w2.frozen? ⟨w.heap.size + 1, 1, none⟩ = false := frozen_of_row w2 _ 1 _ _ hR2
    clear hb HT hx hBs hps hA HR0 HA hR HR h10 hv0 hv1 hR2 HB3 HPS hvl
    go_wp2_with fail
    refine bodyPost_ret (v := .tuple #[.slice none 0 0, .agg #[.int .i64 0, .slice none 0 0], .bool false]) (by simp [results, Try.results79, go_sem, hr0, hr1, hzz]) rfl ?_
    exact siEnd_no HF.out (((HB2.out.setCell (by simp) _).setCell (by simp) _).alloc (by have := HB2.out.size; simp [World.setCell]; omega) _)
  have hd : ¬ (10 : Int) < p' := by omega
  have HOK : Hid (siOk p' c' L = true) := by show _ = _; unfold siOk; rw [HG.out]; simp [h10]
  have hB2 : w.heap.size + 2 ≤ B := by simp at hBs; omega
  obtain ⟨P, rfl⟩ : ∃ P : Nat, p' = (P : Int) := ⟨p'.toNat, by omega⟩
  clear hb HT hx hBs hps hA HR0 HA HB2 hR
  go_wp2_with fail
  generalize w2.alloc (.cells #[.int .i64 (P : Int), .slice (some ⟨B, 0, none⟩) c' c'] 59) = w3 at *
  generalize w2.heap.size = z at *
  clear w2
  have HPD := hide (HPS.out.grow (Below.refl _ w3).drew)
  have hzne : z ≠ w.heap.size + 1 := by omega
  have HF := hide (hf HOK.out B w3.drew HB3.out.drew HPD.out)
  go_region_held3 (fun W => W.cell? ⟨z, 0, none⟩ = some (.int .i64 (P : Int)) ∧ W.cell? ⟨z, 1, none⟩ = some (.slice (some ⟨B, 0, none⟩) c' c')) (first | (refine ⟨?_, ?_⟩ <;> simp only [World.cell?_drew] <;> assumption) | (apply keepB2; assumption; assumption) | (apply keepS2K; assumption; assumption))
    (first | (go_at_call 127; refine (smallSets_any F f P c' c' _ _ (by omega) (by omega) hF HF.out).mono ?_; rintro e w4 ⟨v, m, rfl, ho, hb4⟩; have hR4 := (hb4.block _ (Array.getElem?_eq_some_iff.mp HR.out).1).trans HR.out; have hr0 : w4.cell? ⟨w.heap.size + 1, 0, none⟩ = some (.int .i64 0) := cell_of_row w4 _ 0 _ _ _ hR4; have hr1 : w4.cell? ⟨w.heap.size + 1, 1, none⟩ = some (.slice none 0 0) := cell_of_row w4 _ 1 _ _ _ hR4; have hf0 : w4.frozen? ⟨w.heap.size + 1, 0, none⟩ = false := frozen_of_row w4 _ 0 _ _ hR4; have hf1 : w4.frozen? ⟨w.heap.size + 1, 1, none⟩ = false := frozen_of_row w4 _ 1 _ _ hR4; have HR4 := hide hR4; clear hR4))
  have HB5 := hide ((HB3.out.drew.trans (hb4.mono (by have := HB3.out.size; exact this))))
  have hb3s : w.heap.size ≤ w3.heap.size := HB3.out.size
  have hl3 := (Array.getElem?_eq_some_iff.mp HR.out).1
  have HPE := hide (((HPD.out.grow hb4).set_other (show B ≠ w.heap.size + 1 by omega) 0 (.int .i64 (P : Int))).set_other (show B ≠ w.heap.size + 1 by omega) 1 (.slice (some ⟨B, 0, none⟩) c' c'))
  have HE : Hid (SiEnd f (P : Int) c' L w (.returned (.tuple #[v, .agg #[.int .i64 (P : Int), .slice (some ⟨B, 0, none⟩) c' c'], .bool true])) ((w4.setCell ⟨w.heap.size + 1, 0, none⟩ (.int .i64 (P : Int))).setCell ⟨w.heap.size + 1, 1, none⟩ (.slice (some ⟨B, 0, none⟩) c' c'))) := by
    refine ⟨v, m, (P : Int), some ⟨B, 0, none⟩, c', c', by rw [HOK.out], ?_, fun _ => ⟨rfl, rfl, rfl, B, rfl, by omega, HPE.out⟩, (HB5.out.setCell (by simp) _).setCell (by simp) _⟩
    rw [soN_yes HOK.out]
    refine ⟨ho.1, ?_⟩
    rcases ho.2 with h0 | ⟨g, cap, cur, e, h1, h2, h3⟩
    · exact .inl h0
    · refine .inr ⟨g, cap, cur, e, by have : w3.drew.heap.size = w3.heap.size := rfl; omega, ?_, h3⟩
      have hg : g ≠ w.heap.size + 1 := by have : w3.drew.heap.size = w3.heap.size := rfl; omega
      rw [heap_setCell_other _ _ _ _ (show g ≠ w.heap.size + 1 from hg), heap_setCell_other _ _ _ _ (show g ≠ w.heap.size + 1 from hg)]
      exact h2
  clear ho hb4 HR4 HB5 HB3 HPS HPD HR hb3s hl3 HOK HG HM HF HPE hf
  go_wp2_with fail
  refine bodyPost_ret (v := .tuple #[v, .agg #[.int .i64 (P : Int), .slice (some ⟨B, 0, none⟩) c' c'], .bool true]) (by simp [results, Try.results79, go_sem, hr0, hr1]) rfl ?_
  exact HE.out

/-- smallSetsOf with keeps, as both ask it. -/
theorem smallInvI_any (p : Int) (a : Option Addr) (n c : Nat) (L : List (List Int)) (w : World) (h : Lists w a (3 * n) L) (hs : sizeN n L ≤ 1048576) :
    Calls Try.prog 79 #[.agg #[.int .i64 p, .slice a n c], .func (.func 80) #[] #[]] w fun e w' => SiEnd (fun s => !kpM s n L) p n L w e w' := by
  refine smallSetsOf_any _ _ p a n c L w h hs (by show _ = _; kernel_rfl) fun hok B W hW hP W' hW' s hs' => ?_
  obtain ⟨hg, hp1, hp2⟩ := si_parts hok
  have hn := netN hg
  have hm := net_masks hg h.1
  exact keeps_any p B n s L W' (hP.grow hW') hn hs' hm

theorem soN_si {p : Int} {n : Nat} {L : List (List Int)} : soN (fun s => !kpM s n L) p n L = siN p n L := by
  by_cases h : siOk p n L = true
  · obtain ⟨hg, hp1, hp2⟩ := si_parts h
    obtain ⟨P, rfl⟩ : ∃ P : Nat, p = (P : Int) := ⟨p.toNat, by omega⟩
    rw [soN_yes h, siN_yes h]
  · rw [soN_no (by simpa using h), siN_no (by simpa using h)]

def unionN (l : List Nat) : Nat := l.foldl (fun u s => u ||| s) 0

theorem unionN_take {l : List Nat} {k s : Nat} (h : l[k]? = some s) : unionN (l.take (k + 1)) = unionN (l.take k) ||| s := by
  unfold unionN
  rw [List.take_add_one, h]; simp [List.foldl_append]

theorem unionN_lt {l : List Nat} {j : Nat} (h : ∀ s ∈ l, s < 2 ^ j) : unionN l < 2 ^ j := by
  have key : ∀ (l : List Nat) (u : Nat), u < 2 ^ j → (∀ s ∈ l, s < 2 ^ j) → l.foldl (fun u s => u ||| s) u < 2 ^ j := by
    intro l
    induction l with
    | nil => intro u hu _; exact hu
    | cons x r ih => intro u hu hh; exact ih _ (Nat.or_lt_two_pow hu (hh x (by simp))) (fun s hs => hh s (by simp [hs]))
  exact key l 0 Nat.one_le_two_pow h

theorem unionN_bit {l : List Nat} {i : Nat} : (unionN l).testBit i = l.any fun s => s.testBit i := by
  have key : ∀ (l : List Nat) (u : Nat), (l.foldl (fun u s => u ||| s) u).testBit i = (u.testBit i || l.any fun s => s.testBit i) := by
    intro l
    induction l with
    | nil => intro u; simp
    | cons x r ih => intro u; simp only [List.foldl_cons, List.any_cons]; rw [ih, Nat.testBit_or, Bool.or_assoc]
  unfold unionN
  rw [key l 0]; simp

def ikR (p : Int) (n : Nat) (L : List (List Int)) : Bool := siOk p n L && decide (unionN (siN p n L) = 2 ^ p.toNat - 1)

def IkpEnd (p : Int) (n : Nat) (L : List (List Int)) (w : World) (e : Ending) (w' : World) : Prop :=
  e = .returned (.tuple #[.bool (ikR p n L), .bool (siOk p n L)]) ∧ Below w.heap.size w w'

set_option maxHeartbeats 4000000 in
theorem isKeptI_any (p : Int) (a : Option Addr) (n c : Nat) (L : List (List Int)) (w : World) (h : Lists w a (3 * n) L) (hs : sizeN n L ≤ 1048576) :
    Calls Try.prog 26 #[.agg #[.int .i64 p, .slice a n c]] w fun e w' => IkpEnd p n L w e w' := by
  have hAl := below_al w (.cells #[.int .i64 p, .slice a n c] 26)
  have HT := hide (smallInvI_any p a n c L _ (h.below hAl) hs)
  have HB0 := hide hAl
  clear h hAl
  go_enter Try.func26, Try.ntmps26
  go_wp2_with fail
  refine HT.out.mono ?_
  rintro e w1 ⟨v, m, p', a', m', c', rfl, hown, hpe, hb⟩
  rw [soN_si] at hown
  have HB1 := hide (HB0.out.trans (hb.mono HB0.out.size))
  have hA1 := below_al w1 (.cells #[.int .i64 p', .slice a' m' c'] 59)
  have HB2 := hide (HB1.out.trans (hA1.mono HB1.out.size))
  have HO2 := hide (own_growK hown hA1)
  have HV := hide (heap_alloc_new w1 (.cells #[.int .i64 p', .slice a' m' c'] 59))
  by_cases g1 : siOk p n L = true
  rotate_left
  · have g1' : siOk p n L = false := by simpa using g1
    have HN : Hid (IkpEnd p n L w (.returned (.tuple #[.bool false, .bool false])) (w1.alloc (.cells #[.int .i64 p', .slice a' m' c'] 59))) := ⟨ret_2 (by unfold ikR; rw [g1']; rfl) g1'.symm, HB2.out⟩
    rw [g1']
    clear g1 g1' hpe HT hb hA1 hown HO2 HV
    go_wp2_with fail
    go_ret2
    exact HN.out
  obtain rfl := (hpe.out g1).1
  obtain ⟨hg, hp1, hp2⟩ := si_parts g1
  obtain ⟨P, rfl⟩ : ∃ P : Nat, p' = (P : Int) := ⟨p'.toNat, by omega⟩
  have HG1 := hide g1
  rw [g1]
  obtain ⟨l, hl⟩ : ∃ l, Hid (siN (P : Int) n L = l) := ⟨_, rfl⟩
  have HIK : Hid (ikR (P : Int) n L = decide (unionN l = 2 ^ P - 1)) := by show _ = _; unfold ikR; rw [g1, hl.out]; simp
  have HLT : Hid (∀ s ∈ l, s < 2 ^ 10) := fun s hs => by rw [← hl.out] at hs; exact (siN_mem hs).2.1
  rw [hl.out] at HO2
  have hlm : l.length = m := by have := HO2.out.1; rw [encS_len] at this; omega
  have hm : m ≤ 1024 := by rw [← hlm, ← hl.out]; exact siN_len _ _ _
  obtain ⟨av, cv, rfl⟩ := own_slice HO2.out
  clear g1 hpe hb hown hA1 hg HT HB1 HB0 hl
  go_wp2_with fail
  generalize w1.alloc (.cells #[.int .i64 (P : Int), .slice a' m' c'] 59) = w2 at *
  generalize w1.heap.size = z at *
  clear w1
  go_loop [7, 20] (fun u i => ∃ k : Nat, k ≤ m ∧ i = .int .i64 k ∧ u = .int .u16 ((unionN (l.take k) : Nat) : Int)) (fun _ i => m - (intOf i).toNat)
  case atStart => exact ⟨0, Nat.zero_le _, rfl, rfl⟩
  case round =>
    obtain ⟨k, hk, rfl, rfl⟩ := hrel
    by_cases hkm : k < m
    rotate_left
    · have hk' : m = k := by omega
      subst hk'
      rw [List.take_of_length_le (by omega)]
      obtain ⟨hc0, hc1⟩ := cells2 HV.out
      have hlt := row_lt HV.out
      obtain ⟨u, hu⟩ : ∃ u, Hid (unionN l = u) := ⟨_, rfl⟩
      rw [hu.out] at HIK ⊢
      have HA := hide (allK_any P a' m' c' w2 (by omega) (by omega))
      obtain ⟨t, ht⟩ : ∃ t : Nat, Hid ((2 : Nat) ^ P - 1 = t) := ⟨_, rfl⟩
      rw [ht.out] at HIK HA
      have HEQ : Hid (((u : Int) == (t : Int)) = decide (u = t)) := by show _ = _; by_cases e : u = t <;> simp [e]; omega
      clear HO2 HLT hu ht HV
      go_wp2_with fail
      refine HA.out.mono ?_
      rintro e w3 ⟨rfl, hb⟩
      have HB3 := hide (HB2.out.trans (hb.mono HB2.out.size))
      clear hb HA hc0 hc1 hlt
      go_wp2_with fail
      go_ret2
      exact ⟨ret_2 (by rw [HIK.out]; exact HEQ.out) HG1.out.symm, HB3.out⟩
    obtain ⟨g, c2, ev, hgl, hcg, hlk⟩ := setSet_at HO2.out hkm
    injection ev with e1 _ e3
    subst e1 e3
    have HU := hide (unionN_take hlk)
    have hul : unionN (l.take k) < 2 ^ 10 := unionN_lt fun s hs => HLT.out s (List.mem_of_mem_take hs)
    have hsl := HLT.out _ (List.mem_of_getElem? hlk)
    obtain ⟨s, hs⟩ : ∃ s, Hid (l.getD k 0 = s) := ⟨_, rfl⟩
    rw [hs.out] at hcg HU hsl
    have HOR := or_u16 (unionN (l.take k)) s (by omega) (by omega)
    rw [← HU.out] at HOR
    obtain ⟨u2, hu2⟩ : ∃ u, Hid (unionN (l.take (k + 1)) = u) := ⟨_, rfl⟩
    rw [hu2.out] at HOR
    generalize unionN (l.take k) = u1 at *
    clear hlk hs HU hul hsl HIK HO2 HLT HV HB2
    go_wp2_with fail
    go_round
    case rel => exact ⟨k + 1, by omega, by go_num, by rw [hu2.out]⟩
    case measure => simp [intOf]; omega
end Go.Proofs.Ytajcmamapmeglaa


/- netAndSet, IsSiphon and IsTrap of the program. -/
namespace Go.Proofs.Ytajcmamapmeglaa
open Go.RowKit
set_option maxRecDepth 10000

/-- The net and the set are as the chapter asks. -/
def ssOk (p : Int) (n : Nat) (L : List (List Int)) (xs : List Int) : Bool := plainB p n L && riseB xs 0 (p - 1)

theorem ss_parts {p : Int} {n : Nat} {L : List (List Int)} {xs : List Int} (h : ssOk p n L xs = true) : netOk p n L = true ∧ 1 ≤ p ∧ p ≤ 16 ∧ riseB xs 0 (p - 1) = true := by
  unfold ssOk plainB at h
  simp only [Bool.and_eq_true] at h
  have h1 := h.1.1
  refine ⟨h1, ?_, ?_, h.2⟩ <;> (unfold netOk at h1; simp [inB] at h1; omega)

theorem rise_lt {p : Int} {xs : List Int} (h : riseB xs 0 (p - 1) = true) (hp : p ≤ 16) : maskL xs < 2 ^ 16 :=
  maskL_lt _ fun y hy => by have := riseB_mem h y hy; omega

/-- How placesOf ends, whatever the places. -/
def PoEnd (w : World) (e : Ending) (w' : World) : Prop := (∃ z b, e = .returned (.tuple #[.int .u16 z, .bool b])) ∧ w' = w

set_option maxHeartbeats 1000000 in
theorem placesOf_weak (p : Int) (a : Option Addr) (n ca : Nat) (xs : List Int) (w : World) (ha : Row w a n xs) (hn : n ≤ 1048576) (hp : p ≤ 9223372036854775807) :
    Calls Try.prog 133 #[.int .i64 p, .slice a n ca] w fun e w' => PoEnd w e w' := by
  have HE : Hid (∀ z b, PoEnd w (.returned (.tuple #[.int .u16 z, .bool b])) w) := fun z b => ⟨⟨z, b, rfl⟩, rfl⟩
  go_enter Try.func133, Try.ntmps133
  go_wp2_with fail
  go_loop [6, 7, 12] (fun s l i => ∃ (k : Nat) (z y : Int), k ≤ n ∧ i = .int .i64 k ∧ s = .int .u16 z ∧ l = .int .i64 y ∧ 0 ≤ y) (fun _ _ i => n - (intOf i).toNat)
  case atStart => exact ⟨0, 0, 0, Nat.zero_le _, rfl, rfl, rfl, by omega⟩
  case round =>
    obtain ⟨k, z, y, hk, rfl, rfl, rfl, hy⟩ := hrel
    by_cases hlt : k < n
    · obtain ⟨b1, o1, x, rfl, hl1, hc1, H1⟩ := ha.at hlt
      by_cases h1 : x < y
      · clear ha H1
        go_wp2_with fail
        go_ret2
        exact HE.out _ _
      by_cases h2 : p ≤ x
      · clear ha H1
        go_wp2_with fail
        go_ret2
        exact HE.out _ _
      have h3 : 0 ≤ x := by omega
      have h4 : x < 9223372036854775807 := by omega
      clear ha H1
      go_wp2_with fail
      go_round
      case rel => exact ⟨k + 1, _, x + 1, by omega, by go_num, rfl, by go_num, by omega⟩
      case measure => simp [intOf]; omega
    · clear ha
      go_wp2_with fail
      go_ret2
      exact HE.out _ _

/-- How netAndSet ends. -/
def NsEnd (p : Int) (n : Nat) (L : List (List Int)) (xs : List Int) (w : World) (e : Ending) (w' : World) : Prop :=
  ∃ p' a' n' c' s, e = .returned (.tuple #[.agg #[.int .i64 p', .slice a' n' c'], .int .u16 ((s : Nat) : Int), .bool (ssOk p n L xs)]) ∧
    Hid (ssOk p n L xs = true → p' = p ∧ n' = n ∧ c' = n ∧ s = maskL xs ∧ ∃ B, a' = some ⟨B, 0, none⟩ ∧ w.heap.size ≤ B ∧ PartS w' B (3 * n) (3 * n) L) ∧
    Hid (ssOk p n L xs = false → p' = 0 ∧ a' = none ∧ n' = 0 ∧ c' = 0 ∧ s = 0) ∧ Below w.heap.size w w'

theorem nsEnd_no {p : Int} {n : Nat} {L : List (List Int)} {xs : List Int} {w w' : World} (h : ssOk p n L xs = false) (hb : Below w.heap.size w w') : NsEnd p n L xs w (.returned (.tuple #[.agg #[.int .i64 0, .slice none 0 0], .int .u16 0, .bool false])) w' :=
  ⟨0, none, 0, 0, 0, by rw [h]; rfl, fun e => by rw [h] at e; simp at e, fun _ => ⟨rfl, rfl, rfl, rfl, rfl⟩, hb⟩

set_option maxHeartbeats 4000000 in
theorem netAndSet_any (p : Int) (a ax : Option Addr) (n c nx cx : Nat) (L : List (List Int)) (xs : List Int) (w : World) (h : Lists w a (3 * n) L) (rx : Row w ax nx xs) (hs : sizeN n L ≤ 1048576) (hx : nx ≤ 1048576) (hpm : p ≤ 9223372036854775807) :
    Calls Try.prog 87 #[.agg #[.int .i64 p, .slice a n c], .slice ax nx cx] w fun e w' => NsEnd p n L xs w e w' := by
  have HA := hide (below_two w (.cells #[.int .i64 p, .slice a n c] 26) (.cells #[.int .i64 0, .slice none 0 0] 59))
  have HT := hide (stepsNR_any p a n c L ((w.alloc (.cells #[.int .i64 p, .slice a n c] 26)).alloc (.cells #[.int .i64 0, .slice none 0 0] 59)) (h.below HA.out) hs)
  have HRX := hide (rx.below HA.out)
  have HR0 : Hid (((w.alloc (.cells #[.int .i64 p, .slice a n c] 26)).alloc (.cells #[.int .i64 0, .slice none 0 0] 59)).heap[w.heap.size + 1]? = some (.cells #[.int .i64 0, .slice none 0 0] 59 (0, 0))) := by
    have := heap_alloc_new (w.alloc (.cells #[.int .i64 p, .slice a n c] 26)) (.cells #[.int .i64 0, .slice none 0 0] 59)
    rw [show (w.alloc (.cells #[.int .i64 p, .slice a n c] 26)).heap.size = w.heap.size + 1 by simp] at this
    exact this
  have HN0 : Hid (((w.alloc (.cells #[.int .i64 p, .slice a n c] 26)).alloc (.cells #[.int .i64 0, .slice none 0 0] 59)).heap[w.heap.size]? = some (.cells #[.int .i64 p, .slice a n c] 26 (0, 0))) := keep (heap_alloc_new w (.cells #[.int .i64 p, .slice a n c] 26)) (below_al _ _)
  have hwz : ((w.alloc (.cells #[.int .i64 p, .slice a n c] 26)).alloc (.cells #[.int .i64 0, .slice none 0 0] 59)).heap.size = w.heap.size + 2 := by simp
  have hLl := h.1
  clear h rx
  go_enter Try.func87, Try.ntmps87
  go_wp2_with fail
  refine HT.out.mono ?_
  rintro e w2 ⟨p', a', m, c', rfl, hxx, hb⟩
  have HXX := hide hxx.out
  have HB2 := hide (HA.out.trans (hb.mono HA.out.size))
  have hR := (hb.block (w.heap.size + 1) (by omega)).trans HR0.out
  have hN := (hb.block (w.heap.size) (by omega)).trans HN0.out
  have HRX2 := hide (HRX.out.below (hb.mono (Nat.le_refl _)))
  have hsz := hb.size
  clear HT hxx hb HR0 HN0 HRX HA
  generalize (w.alloc (.cells #[.int .i64 p, .slice a n c] 26)).alloc (.cells #[.int .i64 0, .slice none 0 0] 59) = w1 at *
  obtain ⟨bd, hbd⟩ : ∃ bd, Hid ((netOk p n L && !resB n L) = bd) := ⟨_, rfl⟩
  rw [hbd.out] at HXX ⊢
  have hA := below_al w2 (.cells #[.int .i64 p', .slice a' m c'] 59)
  have HB3 := hide (HB2.out.trans (hA.mono HB2.out.size))
  have HR3 := hide (keep hR hA)
  have HV := hide (heap_alloc_new w2 (.cells #[.int .i64 p', .slice a' m c'] 59))
  have HRX3 := hide (HRX2.out.below hA)
  obtain ⟨hc0, hc1⟩ := cells2 (keep hN hA)
  have hlt := row_lt (keep hN hA)
  have HGR := hA
  obtain ⟨w3, hw3⟩ : ∃ x, w2.alloc (.cells #[.int .i64 p', .slice a' m c'] 59) = x := ⟨_, rfl⟩
  rw [hw3] at HB3 HR3 HV HRX3 hc0 hc1 hlt HGR
  clear HRX2 HB2 hR hN hA
  have HPW := hide (placesOf_weak p ax nx cx xs w3 HRX3.out hx hpm)
  cases bd
  case false =>
    have HF : Hid (ssOk p n L xs = false) := by show _ = _; unfold ssOk plainB; rw [hbd.out]; rfl
    obtain ⟨hr0, hr1⟩ := cells2 HR3.out
    have hf0 : w3.frozen? ⟨w.heap.size + 1, 0, none⟩ = false := frozen_of_row w3 _ 0 _ _ HR3.out
    have hf1 : w3.frozen? ⟨w.heap.size + 1, 1, none⟩ = false := frozen_of_row w3 _ 1 _ _ HR3.out
    have hlr := row_lt HR3.out
    clear HV HRX3 HXX HGR hbd
    go_wp2_with fail
    refine HPW.out.mono ?_
    rintro e w4 ⟨⟨z, b, rfl⟩, rfl⟩
    clear HPW
    go_wp2_with fail
    refine bodyPost_ret (v := .tuple #[.agg #[.int .i64 0, .slice none 0 0], .int .u16 0, .bool false]) (by simp [results, Try.results87, go_sem, hr0, hr1]) rfl ?_
    exact nsEnd_no HF.out ((HB3.out.setCell (by simp) _).setCell (by simp) _)
  obtain ⟨e1, e2, e3, B, rfl, hBs, hps⟩ := HXX.out rfl
  subst e1 e2 e3
  have hbd' : plainB p' c' L = true := hbd.out
  have hgn : netOk p' c' L = true := by unfold plainB at hbd'; simp only [Bool.and_eq_true] at hbd'; exact hbd'.1
  have hin : inB p' 1 16 = true := by unfold netOk at hgn; simp only [Bool.and_eq_true] at hgn; exact hgn.1.1
  have HPA := hide (placesOf_any p' ax nx cx xs w3 HRX3.out hx hin)
  have hp16 : p' ≤ 16 := by simp [inB] at hin; omega
  clear HPW
  cases hri : riseB xs 0 (p' - 1)
  · have HF : Hid (ssOk p' c' L xs = false) := by show _ = _; unfold ssOk; rw [hri]; simp
    obtain ⟨hr0, hr1⟩ := cells2 HR3.out
    have hf0 : w3.frozen? ⟨w.heap.size + 1, 0, none⟩ = false := frozen_of_row w3 _ 0 _ _ HR3.out
    have hf1 : w3.frozen? ⟨w.heap.size + 1, 1, none⟩ = false := frozen_of_row w3 _ 1 _ _ HR3.out
    have hlr := row_lt HR3.out
    rw [hri] at HPA
    clear HV HRX3 HXX HGR hbd hbd' hri hgn hin
    go_wp2_with fail
    refine HPA.out.mono ?_
    rintro e w4 ⟨rfl, rfl⟩
    clear HPA
    go_wp2_with fail
    refine bodyPost_ret (v := .tuple #[.agg #[.int .i64 0, .slice none 0 0], .int .u16 0, .bool false]) (by simp [results, Try.results87, go_sem, hr0, hr1]) rfl ?_
    exact nsEnd_no HF.out ((HB3.out.setCell (by simp) _).setCell (by simp) _)
  have HOK : Hid (ssOk p' c' L xs = true) := by show _ = _; unfold ssOk; rw [hbd', hri]; rfl
  have HST : Hid (setOf p' xs = maskL xs) := by show _ = _; unfold setOf; rw [hri]; rfl
  obtain ⟨hr0, hr1⟩ := cells2 HR3.out
  have hf0 : w3.frozen? ⟨w.heap.size + 1, 0, none⟩ = false := frozen_of_row w3 _ 0 _ _ HR3.out
  have hf1 : w3.frozen? ⟨w.heap.size + 1, 1, none⟩ = false := frozen_of_row w3 _ 1 _ _ HR3.out
  have hlr := row_lt HR3.out
  obtain ⟨hv0, hv1⟩ := cells2 HV.out
  have hlv := row_lt HV.out
  have hB2 : w.heap.size + 2 ≤ B := by omega
  have HPE := hide (((hps.grow HGR).set_other (show B ≠ w.heap.size + 1 by omega) 0 (.int .i64 p')).set_other (show B ≠ w.heap.size + 1 by omega) 1 (.slice (some ⟨B, 0, none⟩) c' c'))
  have hne : w.heap.size + 1 ≠ w2.heap.size := by omega
  rw [hri, HST.out] at HPA
  have HE : Hid (NsEnd p' c' L xs w (.returned (.tuple #[.agg #[.int .i64 p', .slice (some ⟨B, 0, none⟩) c' c'], .int .u16 ((maskL xs : Nat) : Int), .bool true])) ((w3.setCell ⟨w.heap.size + 1, 0, none⟩ (.int .i64 p')).setCell ⟨w.heap.size + 1, 1, none⟩ (.slice (some ⟨B, 0, none⟩) c' c'))) := by
    refine ⟨p', some ⟨B, 0, none⟩, c', c', maskL xs, by rw [HOK.out], fun _ => ⟨rfl, rfl, rfl, rfl, B, rfl, by omega, ?_⟩, fun e => by rw [HOK.out] at e; simp at e, (HB3.out.setCell (by simp) _).setCell (by simp) _⟩
    exact HPE.out
  clear HRX3 HXX hbd hbd' hri hgn hin hps HGR HPE HST HOK HB3
  go_wp2_with fail
  refine HPA.out.mono ?_
  rintro e w4 ⟨rfl, rfl⟩
  clear HPA
  generalize maskL xs = sx at *
  go_wp2_with fail
  refine bodyPost_ret (v := .tuple #[.agg #[.int .i64 p', .slice (some ⟨B, 0, none⟩) c' c'], .int .u16 (sx : Int), .bool true]) (by simp [results, Try.results87, go_sem, hr0, hr1]) rfl ?_
  exact HE.out

/-- How IsSiphon and IsTrap end. -/
def IssEnd (b : Bool) (p : Int) (n : Nat) (L : List (List Int)) (xs : List Int) (w : World) (e : Ending) (w' : World) : Prop :=
  e = .returned (.tuple #[.bool (ssOk p n L xs && !slips b (maskL xs) n L), .bool (ssOk p n L xs)]) ∧ Below w.heap.size w w'

set_option maxHeartbeats 1000000 in
theorem isSiphonI_any (p : Int) (a ax : Option Addr) (n c nx cx : Nat) (L : List (List Int)) (xs : List Int) (w : World) (h : Lists w a (3 * n) L) (rx : Row w ax nx xs) (hs : sizeN n L ≤ 1048576) (hx : nx ≤ 1048576) (hpm : p ≤ 9223372036854775807) :
    Calls Try.prog 32 #[.agg #[.int .i64 p, .slice a n c], .slice ax nx cx] w fun e w' => IssEnd true p n L xs w e w' := by
  have hAl := below_al w (.cells #[.int .i64 p, .slice a n c] 26)
  have HT := hide (netAndSet_any p a ax n c nx cx L xs _ (h.below hAl) (rx.below hAl) hs hx hpm)
  have HB0 := hide hAl
  have HLl := hide h.1
  clear h rx hAl
  go_enter Try.func32, Try.ntmps32
  go_wp2_with fail
  refine HT.out.mono ?_
  rintro e w1 ⟨p', a', m, c', s, rfl, hyes, hno, hb⟩
  have HB1 := hide (HB0.out.trans (hb.mono HB0.out.size))
  have hA1 := below_al w1 (.cells #[.int .i64 p', .slice a' m c'] 59)
  have HB2 := hide (HB1.out.trans (hA1.mono HB1.out.size))
  obtain ⟨hc0, hc1⟩ := cells2 (heap_alloc_new w1 (.cells #[.int .i64 p', .slice a' m c'] 59))
  have hlt := row_lt (heap_alloc_new w1 (.cells #[.int .i64 p', .slice a' m c'] 59))
  cases hok : ssOk p n L xs
  · have HE : Hid (IssEnd true p n L xs w (.returned (.tuple #[.bool false, .bool false])) (w1.alloc (.cells #[.int .i64 p', .slice a' m c'] 59))) := ⟨by rw [hok]; rfl, HB2.out⟩
    clear HT hyes hno hb hok HB1 HB0 hA1
    go_wp2_with fail
    go_ret2
    exact HE.out
  obtain ⟨e1, e2, e3, e4, B, rfl, hBs, hps⟩ := hyes.out hok
  subst e1 e2 e3 e4
  obtain ⟨hgn, hp1, hp2, hri⟩ := ss_parts hok
  have hst := rise_lt hri hp2
  have HQ := hide (isSiphonP_any p' B c' (maskL xs) L _ (hps.grow hA1) (netN hgn) hst (net_masks hgn HLl.out))
  have HE : Hid (∀ W, Below w.heap.size w W → IssEnd true p' c' L xs w (.returned (.tuple #[.bool (!slips true (maskL xs) c' L), .bool true])) W) := fun W hW => ⟨by rw [hok]; rfl, hW⟩
  generalize slips true (maskL xs) c' L = r at *
  generalize maskL xs = sx at *
  clear HT hyes hno hb hok HB1 HB0 hA1 hps hgn hri
  go_wp2_with fail
  refine HQ.out.mono ?_
  rintro e w2 ⟨rfl, hb⟩
  have HB3 := hide (HB2.out.trans (hb.mono HB2.out.size))
  clear hb HQ hc0 hc1 HB2 hlt
  go_wp2_with fail
  go_ret2
  exact HE.out _ HB3.out

set_option maxHeartbeats 1000000 in
theorem isTrapI_any (p : Int) (a ax : Option Addr) (n c nx cx : Nat) (L : List (List Int)) (xs : List Int) (w : World) (h : Lists w a (3 * n) L) (rx : Row w ax nx xs) (hs : sizeN n L ≤ 1048576) (hx : nx ≤ 1048576) (hpm : p ≤ 9223372036854775807) :
    Calls Try.prog 34 #[.agg #[.int .i64 p, .slice a n c], .slice ax nx cx] w fun e w' => IssEnd false p n L xs w e w' := by
  have hAl := below_al w (.cells #[.int .i64 p, .slice a n c] 26)
  have HT := hide (netAndSet_any p a ax n c nx cx L xs _ (h.below hAl) (rx.below hAl) hs hx hpm)
  have HB0 := hide hAl
  have HLl := hide h.1
  clear h rx hAl
  go_enter Try.func34, Try.ntmps34
  go_wp2_with fail
  refine HT.out.mono ?_
  rintro e w1 ⟨p', a', m, c', s, rfl, hyes, hno, hb⟩
  have HB1 := hide (HB0.out.trans (hb.mono HB0.out.size))
  have hA1 := below_al w1 (.cells #[.int .i64 p', .slice a' m c'] 59)
  have HB2 := hide (HB1.out.trans (hA1.mono HB1.out.size))
  obtain ⟨hc0, hc1⟩ := cells2 (heap_alloc_new w1 (.cells #[.int .i64 p', .slice a' m c'] 59))
  have hlt := row_lt (heap_alloc_new w1 (.cells #[.int .i64 p', .slice a' m c'] 59))
  cases hok : ssOk p n L xs
  · have HE : Hid (IssEnd false p n L xs w (.returned (.tuple #[.bool false, .bool false])) (w1.alloc (.cells #[.int .i64 p', .slice a' m c'] 59))) := ⟨by rw [hok]; rfl, HB2.out⟩
    clear HT hyes hno hb hok HB1 HB0 hA1
    go_wp2_with fail
    go_ret2
    exact HE.out
  obtain ⟨e1, e2, e3, e4, B, rfl, hBs, hps⟩ := hyes.out hok
  subst e1 e2 e3 e4
  obtain ⟨hgn, hp1, hp2, hri⟩ := ss_parts hok
  have hst := rise_lt hri hp2
  have HQ := hide (isTrapP_any p' B c' (maskL xs) L _ (hps.grow hA1) (netN hgn) hst (net_masks hgn HLl.out))
  have HE : Hid (∀ W, Below w.heap.size w W → IssEnd false p' c' L xs w (.returned (.tuple #[.bool (!slips false (maskL xs) c' L), .bool true])) W) := fun W hW => ⟨by rw [hok]; rfl, hW⟩
  generalize slips false (maskL xs) c' L = r at *
  generalize maskL xs = sx at *
  clear HT hyes hno hb hok HB1 HB0 hA1 hps hgn hri
  go_wp2_with fail
  refine HQ.out.mono ?_
  rintro e w2 ⟨rfl, hb⟩
  have HB3 := hide (HB2.out.trans (hb.mono HB2.out.size))
  clear hb HQ hc0 hc1 HB2 hlt
  go_wp2_with fail
  go_ret2
  exact HE.out _ HB3.out

end Go.Proofs.Ytajcmamapmeglaa


/- Whether a net is of free choice: both IsFreeChoices, for every net in memory. -/
namespace Go.Proofs.Ytajcmamapmeglaa
open Go.RowKit

/-- Two transitions that have a place to take from in common, and not all. -/
def clashB (L : List (List Int)) (i j : Nat) : Bool := meetB (L.getD (3 * i) []) (L.getD (3 * j) []) && !sameB (L.getD (3 * i) []) (L.getD (3 * j) [])

def freeB (n : Nat) (L : List (List Int)) : Bool := (List.range n).all fun i => (List.range n).all fun j => !clashB L i j

theorem netOk_n {p : Int} {n : Nat} {L : List (List Int)} (h : netOk p n L = true) : n ≤ 24 := by
  unfold netOk at h; simp at h; exact h.1.2

theorem freeB_no {n i j : Nat} {L : List (List Int)} (hi : i < n) (hj : j < n) (h : clashB L i j = true) : freeB n L = false := by
  unfold freeB
  rw [List.all_eq_false]
  refine ⟨i, by simpa using hi, ?_⟩
  simp only [Bool.not_eq_true]
  rw [List.all_eq_false]
  exact ⟨j, by simpa using hj, by simp [h]⟩

theorem ret_two {a b c d : Bool} (h : a = b) (hb : c = d) : Ending.returned (.tuple #[.bool a, .bool c]) = .returned (.tuple #[.bool b, .bool d]) := by rw [h, hb]

end Go.Proofs.Ytajcmamapmeglaa


/- Whether a net is of free choice, by the program. -/
namespace Go.Proofs.Ytajcmamapmeglaa
open Go.RowKit

theorem rise_ext {xs ys : List Int} {lo hi : Int} (hx : riseB xs lo hi = true) (hy : riseB ys lo hi = true) (h : ∀ z, z ∈ xs ↔ z ∈ ys) : xs = ys := by
  induction xs generalizing ys lo with
  | nil =>
    cases ys with
    | nil => rfl
    | cons y r => have := (h y).mpr (by simp); simp at this
  | cons x r ih =>
    cases ys with
    | nil => have := (h x).mp (by simp); simp at this
    | cons y s =>
      simp [riseB] at hx hy
      have hxm := riseB_mem hx.2
      have hym := riseB_mem hy.2
      have e : x = y := by
        have h1 := (h x).mp (by simp)
        have h2 := (h y).mpr (by simp)
        rcases List.mem_cons.mp h1 with e | h1
        · exact e
        · rcases List.mem_cons.mp h2 with e | h2
          · exact e.symm
          · have := hym x h1; have := hxm y h2; omega
      subst e
      congr 1
      refine ih hx.2 hy.2 fun z => ?_
      have hz := h z
      simp only [List.mem_cons] at hz
      constructor
      · intro hm
        rcases hz.mp (.inr hm) with e | hm'
        · have := hxm z hm; omega
        · exact hm'
      · intro hm
        rcases hz.mpr (.inr hm) with e | hm'
        · have := hym z hm; omega
        · exact hm'

theorem same_mask {p : Int} {xs ys : List Int} (hx : riseB xs 0 (p - 1) = true) (hy : riseB ys 0 (p - 1) = true) : sameB xs ys = decide (maskL xs = maskL ys) := by
  have nx := fun z hz => (riseB_mem hx z hz).1
  have ny := fun z hz => (riseB_mem hy z hz).1
  unfold sameB
  congr 1
  apply propext
  constructor
  · intro e; rw [e]
  · intro e
    refine rise_ext hx hy fun z => ?_
    constructor
    · intro hz
      have h0 := nx z hz
      have := maskL_bit xs z.toNat nx
      rw [e, maskL_bit ys z.toNat ny, Int.toNat_of_nonneg h0] at this
      simpa [hz] using this
    · intro hz
      have h0 := ny z hz
      have := maskL_bit ys z.toNat ny
      rw [← e, maskL_bit xs z.toNat nx, Int.toNat_of_nonneg h0] at this
      simpa [hz] using this

theorem meet_mask {p : Int} {xs ys : List Int} (hx : riseB xs 0 (p - 1) = true) (hy : riseB ys 0 (p - 1) = true) : meetB xs ys = !decide (maskL xs &&& maskL ys = 0) := by
  have nx := fun z hz => (riseB_mem hx z hz).1
  have ny := fun z hz => (riseB_mem hy z hz).1
  by_cases h : maskL xs &&& maskL ys = 0
  · simp only [h, decide_true, Bool.not_true]
    unfold meetB
    rw [List.any_eq_false]
    intro z hz
    have h0 := nx z hz
    have hb : (maskL xs &&& maskL ys).testBit z.toNat = false := by rw [h]; exact Nat.zero_testBit _
    rw [Nat.testBit_and, maskL_bit xs _ nx, maskL_bit ys _ ny, Int.toNat_of_nonneg h0] at hb
    unfold hasB
    simpa [hz] using hb
  · simp only [h, decide_false, Bool.not_false]
    obtain ⟨i, hi⟩ := Nat.exists_testBit_of_ne_zero h
    rw [Nat.testBit_and, maskL_bit xs _ nx, maskL_bit ys _ ny] at hi
    simp at hi
    unfold meetB
    rw [List.any_eq_true]
    exact ⟨i, hi.1, by unfold hasB; simpa using hi.2⟩

/-- Whether one step leaves another one its choice. -/
def besideB (s t : Nat) : Bool := decide (s = t) || decide (s &&& t = 0)

theorem clash_beside {p : Int} {L : List (List Int)} {i j : Nat} (hi : triOk p L i = true) (hj : triOk p L j = true) : clashB L i j = !besideB (maskL (L.getD (3 * i) [])) (maskL (L.getD (3 * j) [])) := by
  have h1 : riseB (L.getD (3 * i) []) 0 (p - 1) = true := by unfold triOk at hi; simp only [Bool.and_eq_true] at hi; exact hi.1.1.2
  have h2 : riseB (L.getD (3 * j) []) 0 (p - 1) = true := by unfold triOk at hj; simp only [Bool.and_eq_true] at hj; exact hj.1.1.2
  unfold clashB besideB
  rw [same_mask h1 h2, meet_mask h1 h2]
  cases decide (maskL (L.getD (3 * i) []) = maskL (L.getD (3 * j) [])) <;> cases decide (maskL (L.getD (3 * i) []) &&& maskL (L.getD (3 * j) []) = 0) <;> rfl

theorem beside_comm (s t : Nat) : besideB s t = besideB t s := by
  unfold besideB
  rw [Nat.and_comm, show decide (s = t) = decide (t = s) from by congr 1; exact propext eq_comm]

theorem triOk_of {p : Int} {n i : Nat} {L : List (List Int)} (h : netOk p n L = true) (hi : i < n) : triOk p L i = true := by
  unfold netOk at h
  rw [Bool.and_eq_true] at h
  exact List.all_eq_true.mp h.2 i (by simpa using hi)

theorem netOk_p {p : Int} {n : Nat} {L : List (List Int)} (h : netOk p n L = true) : 1 ≤ p ∧ p ≤ 16 := by
  unfold netOk at h; simp [inB] at h; omega

theorem mask16 {p : Int} {L : List (List Int)} {i : Nat} (h : triOk p L i = true) (hp : 1 ≤ p ∧ p ≤ 16) : maskL (L.getD (3 * i) []) < 2 ^ 16 := by
  refine maskL_lt _ fun x hx => ?_
  have h1 : riseB (L.getD (3 * i) []) 0 (p - 1) = true := by unfold triOk at h; simp only [Bool.and_eq_true] at h; exact h.1.1.2
  have := riseB_mem h1 x hx
  omega

/-- Half of the pairs are enough. -/
theorem free_half {p : Int} {n : Nat} {L : List (List Int)} (h : netOk p n L = true) (hh : (List.range n).all (fun i => (List.range i).all fun j => !clashB L i j) = true) : freeB n L = true := by
  unfold freeB
  rw [List.all_eq_true] at hh ⊢
  intro i hi
  rw [List.all_eq_true]
  intro j hj
  have hi' : i < n := by simpa using hi
  have hj' : j < n := by simpa using hj
  rcases Nat.lt_trichotomy i j with hij | hij | hij
  · have := hh j hj
    rw [List.all_eq_true] at this
    have := this i (by simpa using hij)
    rw [clash_beside (triOk_of h hj') (triOk_of h hi')] at this
    rw [clash_beside (triOk_of h hi') (triOk_of h hj'), beside_comm]; exact this
  · subst hij
    unfold clashB; rw [sameB_self]; simp
  · have := hh i hi
    rw [List.all_eq_true] at this
    exact this j (by simpa using hij)

theorem PartS.at {w : World} {B n k : Nat} {L : List (List Int)} (h : PartS w B (3 * n) (3 * n) L) (hk : k < n) :
    w.cell? ⟨B, k * 3, none⟩ = some (.int .u16 (maskL (L.getD (3 * k) []) : Int)) ∧ w.cell? ⟨B, k * 3 + 1, none⟩ = some (.int .u16 (maskL (L.getD (3 * k + 1) []) : Int)) ∧ w.cell? ⟨B, k * 3 + 2, none⟩ = some (.int .u16 (maskL (L.getD (3 * k + 2) []) : Int)) := by
  obtain ⟨C, h1, h2, h3⟩ := h
  refine ⟨?_, ?_, ?_⟩
  · rw [cell_of_row w B _ C _ _ h1, Nat.mul_comm]; exact h3 _ (by omega)
  · rw [cell_of_row w B _ C _ _ h1, Nat.mul_comm]; exact h3 _ (by omega)
  · rw [cell_of_row w B _ C _ _ h1, Nat.mul_comm]; exact h3 _ (by omega)

end Go.Proofs.Ytajcmamapmeglaa
