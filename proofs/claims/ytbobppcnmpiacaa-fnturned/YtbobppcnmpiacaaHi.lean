/- HasResets of the program: slices.ContainsFunc over its steps. -/
import Derived.Test.YtbobppcnmpiacaaHr
namespace Go.Proofs.Ytbobppcnmpiacaa
open Go.RowKit

theorem PartS.at3 {w : World} {B n k : Nat} {L : List (List Int)} (h : PartS w B (3 * n) (3 * n) L) (hk : k < n) :
    w.cell? ⟨B, k * 3, none⟩ = some (.int .u16 (maskL (L.getD (3 * k) []) : Int)) ∧ w.cell? ⟨B, k * 3 + 1, none⟩ = some (.int .u16 (maskL (L.getD (3 * k + 1) []) : Int)) ∧ w.cell? ⟨B, k * 3 + 2, none⟩ = some (.int .u16 (maskL (L.getD (3 * k + 2) []) : Int)) := by
  obtain ⟨C, h1, h2, h3⟩ := h
  refine ⟨?_, ?_, ?_⟩
  · rw [cell_of_row w B _ C _ _ h1, Nat.mul_comm]; exact h3 _ (by omega)
  · rw [cell_of_row w B _ C _ _ h1, Nat.mul_comm]; exact h3 _ (by omega)
  · rw [cell_of_row w B _ C _ _ h1, Nat.mul_comm]; exact h3 _ (by omega)

set_option maxHeartbeats 400000 in
theorem empties_any (s0 s1 s2 : Nat) (w : World) :
    Calls Try.prog 59 #[.agg #[.int .u16 (s0 : Int), .int .u16 (s1 : Int), .int .u16 (s2 : Int)]] w fun e w' => e = .returned (.bool (!decide (s2 = 0))) ∧ Below w.heap.size w w' := by
  by_cases h : s2 = 0
  · subst h
    go_enter Try.func59, Try.ntmps59
    go_wp2_with fail
    go_ret
    exact ⟨rfl, below_al _ _⟩
  · have hd : ((s2 : Int) != 0) = true := by simp; omega
    have HB := hide (show (!decide (s2 = 0)) = true by simp [h])
    clear h
    go_enter Try.func59, Try.ntmps59
    go_wp2_with fail
    go_ret
    exact ⟨ret_bool HB.out.symm, below_al _ _⟩

def resM (n : Nat) (L : List (List Int)) : Bool := (List.range n).any fun i => !decide (maskL (L.getD (3 * i + 2) []) = 0)

theorem resM_yes {n k : Nat} {L : List (List Int)} (hk : k < n) (h : (!decide (maskL (L.getD (3 * k + 2) []) = 0)) = true) : resM n L = true := by
  unfold resM
  rw [List.any_eq_true]
  exact ⟨k, by simpa using hk, h⟩

theorem resM_step {k : Nat} {L : List (List Int)} (h : resM k L = false) (he : (!decide (maskL (L.getD (3 * k + 2) []) = 0)) = false) : resM (k + 1) L = false := by
  unfold resM at *
  rw [List.range_succ, List.any_append, h]
  simp only [List.any_cons, List.any_nil, Bool.or_false, he]

/-- Where the first one is that empties a place, or -1. -/
def IdxEnd (n : Nat) (L : List (List Int)) (w : World) (e : Ending) (w' : World) : Prop := ∃ z : Int, e = .returned (.int .i64 z) ∧ Hid (decide (0 ≤ z) = resM n L) ∧ Below w.heap.size w w'

set_option maxHeartbeats 1000000 in
theorem index_any (B n : Nat) (L : List (List Int)) (w : World) (h : PartS w B (3 * n) (3 * n) L) (hn : n ≤ 24) :
    Calls Try.prog 79 #[.slice (some ⟨B, 0, none⟩) n n, .func (.func 59) #[] #[]] w fun e w' => IdxEnd n L w e w' := by
  have HP := hide h
  clear h
  go_enter Try.func79, Try.ntmps79
  go_wp2_with fail
  go_loopw [8] (fun i wr => ∃ k : Nat, k ≤ n ∧ i = .int .i64 k ∧ Hid (resM k L = false) ∧ Hid (Below w.heap.size w wr)) (fun i _ => n - (intOf i).toNat)
  case atStart => exact ⟨0, Nat.zero_le _, rfl, rfl, Below.refl _ _⟩
  case round =>
    obtain ⟨k, hk, rfl, hu, hbw⟩ := hrel
    by_cases hlt : k < n
    rotate_left
    · have hk' : k = n := by omega
      subst hk'
      have HE : Hid (IdxEnd k L w (.returned (.int .i64 (-1))) wr) := ⟨-1, rfl, by rw [hu.out]; rfl, hbw.out⟩
      go_wp2_with fail
      go_ret
      exact HE.out
    obtain ⟨hc0, hc1, hc2⟩ := (HP.out.grow hbw.out).at3 hlt
    have HH := hide (empties_any (maskL (L.getD (3 * k) [])) (maskL (L.getD (3 * k + 1) [])) (maskL (L.getD (3 * k + 2) [])) wr)
    cases hh : !decide (maskL (L.getD (3 * k + 2) []) = 0)
    · have HU := hide (resM_step hu.out hh)
      rw [hh] at HH
      clear hh hu
      generalize maskL (L.getD (3 * k) []) = s0 at *
      generalize maskL (L.getD (3 * k + 1) []) = s1 at *
      generalize maskL (L.getD (3 * k + 2) []) = s2 at *
      go_wp2_with fail
      refine HH.out.mono ?_
      rintro e w1 ⟨rfl, hb⟩
      have HB := hide (hbw.out.trans (hb.mono hbw.out.size))
      clear hb HH hc0 hc1 hc2
      go_wp2_with fail
      go_roundw
      case rel => exact ⟨k + 1, by omega, by go_num, HU, HB⟩
      case measure => simp [intOf]; omega
    · have HY := hide (resM_yes hlt hh)
      rw [hh] at HH
      clear hh hu
      generalize maskL (L.getD (3 * k) []) = s0 at *
      generalize maskL (L.getD (3 * k + 1) []) = s1 at *
      generalize maskL (L.getD (3 * k + 2) []) = s2 at *
      go_wp2_with fail
      refine HH.out.mono ?_
      rintro e w1 ⟨rfl, hb⟩
      have HE : Hid (IdxEnd n L w (.returned (.int .i64 (k : Int))) w1) := ⟨k, rfl, by rw [HY.out]; simp [Hid], hbw.out.trans (hb.mono hbw.out.size)⟩
      clear hb HH hc0 hc1 hc2
      go_wp2_with fail
      go_ret
      exact HE.out

set_option maxHeartbeats 400000 in
theorem contains_any (B n : Nat) (L : List (List Int)) (w : World) (h : PartS w B (3 * n) (3 * n) L) (hn : n ≤ 24) :
    Calls Try.prog 58 #[.slice (some ⟨B, 0, none⟩) n n, .func (.func 59) #[] #[]] w fun e w' => e = .returned (.bool (resM n L)) ∧ Below w.heap.size w w' := by
  have HI := hide (index_any B n L w h hn)
  clear h
  go_enter Try.func58, Try.ntmps58
  go_wp2_with fail
  refine HI.out.mono ?_
  rintro e w1 ⟨z, rfl, hz, hb⟩
  have HB := hide hb
  clear hb HI
  go_wp2_with fail
  go_ret
  exact ⟨ret_bool hz.out, HB.out⟩

theorem res_eq {p : Int} {n : Nat} {L : List (List Int)} (h : netOk p n L = true) : resM n L = resB n L := by
  have key : ∀ i, i < n → (!decide (maskL (L.getD (3 * i + 2) []) = 0)) = !(L.getD (3 * i + 2) []).isEmpty := by
    intro i hi
    unfold netOk at h
    rw [Bool.and_eq_true] at h
    have ht := List.all_eq_true.mp h.2 i (by simpa using hi)
    unfold triOk at ht
    simp only [Bool.and_eq_true] at ht
    have hz := maskL_zero (fun x hx => (riseB_mem ht.2 x hx).1)
    by_cases e : L.getD (3 * i + 2) [] = []
    · rw [e]; rfl
    · have : ¬ maskL (L.getD (3 * i + 2) []) = 0 := fun q => e (hz.mp q)
      rw [decide_eq_false this]
      cases hq : L.getD (3 * i + 2) []
      · exact absurd hq e
      · rfl
  unfold resM resB
  rw [Bool.eq_iff_iff, List.any_eq_true, List.any_eq_true]
  constructor
  · rintro ⟨i, hi, hh⟩; exact ⟨i, hi, by rw [← key i (by simpa using hi)]; exact hh⟩
  · rintro ⟨i, hi, hh⟩; exact ⟨i, hi, by rw [key i (by simpa using hi)]; exact hh⟩

set_option maxHeartbeats 1000000 in
theorem hasResI_any (p : Int) (a : Option Addr) (n c : Nat) (L : List (List Int)) (w : World) (h : Lists w a (3 * n) L) (hs : sizeN n L ≤ 1048576) :
    Calls Try.prog 31 #[.agg #[.int .i64 p, .slice a n c]] w fun e w' => e = .returned (.tuple #[.bool (netOk p n L && resB n L), .bool (netOk p n L)]) ∧ Below w.heap.size w w' := by
  have HT := hide (netSteps_any p a n c L (w.alloc (.cells #[.int .i64 p, .slice a n c] 26)) (h.below (below_al _ _)) hs)
  clear h
  by_cases hg : netOk p n L = true
  rotate_left
  · have hg' : netOk p n L = false := by simpa using hg
    rw [hg'] at HT ⊢
    clear hg hg'
    go_enter Try.func31, Try.ntmps31
    go_wp2_with fail
    refine HT.out.mono ?_
    rintro e w2 ⟨p', a', m, c', rfl, hx, hb⟩
    have HB := hide ((below_al w (.cells #[.int .i64 p, .slice a n c] 26)).trans (hb.mono (by simp)))
    clear hb HT hx
    go_wp2_with fail
    go_ret2
    exact ⟨rfl, HB.out.alloc HB.out.size _⟩
  have HR := hide (res_eq hg)
  have hn24 := netN hg
  rw [hg] at HT ⊢
  clear hg
  go_enter Try.func31, Try.ntmps31
  go_wp2_with fail
  refine HT.out.mono ?_
  rintro e w2 ⟨p', a', m, c', rfl, hx, hb⟩
  obtain ⟨e1, e2, e3, B, rfl, hBs, hps⟩ := hx.out rfl
  subst e1 e2 e3
  have HB := hide (((below_al w (.cells #[.int .i64 p', .slice a c' c] 26)).trans (hb.mono (by simp))))
  have hA := below_al w2 (.cells #[.int .i64 p', .slice (some ⟨B, 0, none⟩) c' c'] 66)
  have HC := hide (contains_any B c' L _ (hps.grow hA) hn24)
  have HB1 := hide (HB.out.trans (hA.mono HB.out.size))
  clear hb HT hx hBs hps hA HB
  go_wp2_with fail
  refine HC.out.mono ?_
  rintro e w3 ⟨rfl, hb⟩
  have HB2 := hide (HB1.out.trans (hb.mono HB1.out.size))
  rw [HR.out]
  obtain ⟨r, hr⟩ : ∃ r, Hid (resB c' L = r) := ⟨_, rfl⟩
  rw [hr.out]
  clear hb HC HB1
  go_wp2_with fail
  go_ret2
  exact ⟨ret_2 (by rw [hr.out]; rfl) rfl, HB2.out⟩
end Go.Proofs.Ytbobppcnmpiacaa
