/- Contracts that the proof stands on, one behind the other. -/
import Derived.Test.YtdhnhpjcoeglmaaP2
import Derived.Deep.RegionHeld3
import Derived.Deep.AppendLies
import Derived.Deep.RegionLaw
import Derived.OwnWalk
/- HasResets of the program: slices.ContainsFunc over its steps. -/
namespace Go.Proofs.Ytdhnhpjcoeglmaa
open Go.RowKit

theorem PartS.at3 {w : World} {B n k : Nat} {L : List (List Int)} (h : PartS w B (3 * n) (3 * n) L) (hk : k < n) :
    w.cell? ⟨B, k * 3, none⟩ = some (.int .u16 (maskL (L.getD (3 * k) []) : Int)) ∧ w.cell? ⟨B, k * 3 + 1, none⟩ = some (.int .u16 (maskL (L.getD (3 * k + 1) []) : Int)) ∧ w.cell? ⟨B, k * 3 + 2, none⟩ = some (.int .u16 (maskL (L.getD (3 * k + 2) []) : Int)) := by
  obtain ⟨C, h1, h2, h3⟩ := h
  refine ⟨?_, ?_, ?_⟩
  · rw [cell_of_row w B _ C _ _ h1, Nat.mul_comm]; exact h3 _ (by omega)
  · rw [cell_of_row w B _ C _ _ h1, Nat.mul_comm]; exact h3 _ (by omega)
  · rw [cell_of_row w B _ C _ _ h1, Nat.mul_comm]; exact h3 _ (by omega)

set_option maxHeartbeats 400000 in
theorem empties_any (s0 s1 s2 : Nat) (w : World) :
    Calls Try.prog 83 #[.agg #[.int .u16 (s0 : Int), .int .u16 (s1 : Int), .int .u16 (s2 : Int)]] w fun e w' => e = .returned (.bool (!decide (s2 = 0))) ∧ Below w.heap.size w w' := by
  by_cases h : s2 = 0
  · subst h
    go_enter Try.func83, Try.ntmps83
    go_wp2_with fail
    go_ret
    exact ⟨rfl, below_al _ _⟩
  · have hd : ((s2 : Int) != 0) = true := by simp; omega
    have HB := hide (show (!decide (s2 = 0)) = true by simp [h])
    clear h
    go_enter Try.func83, Try.ntmps83
    go_wp2_with fail
    go_ret
    exact ⟨ret_bool HB.out.symm, below_al _ _⟩

def resM (n : Nat) (L : List (List Int)) : Bool := (List.range n).any fun i => !decide (maskL (L.getD (3 * i + 2) []) = 0)

theorem resM_yes {n k : Nat} {L : List (List Int)} (hk : k < n) (h : (!decide (maskL (L.getD (3 * k + 2) []) = 0)) = true) : resM n L = true := by
  unfold resM
  rw [List.any_eq_true]
  exact ⟨k, by simpa using hk, h⟩

theorem resM_step {k : Nat} {L : List (List Int)} (h : resM k L = false) (he : (!decide (maskL (L.getD (3 * k + 2) []) = 0)) = false) : resM (k + 1) L = false := by
  unfold resM at *
  rw [List.range_succ, List.any_append, h]
  simp only [List.any_cons, List.any_nil, Bool.or_false, he]

/-- Where the first one is that empties a place, or -1. -/
def IdxEnd (n : Nat) (L : List (List Int)) (w : World) (e : Ending) (w' : World) : Prop := ∃ z : Int, e = .returned (.int .i64 z) ∧ Hid (decide (0 ≤ z) = resM n L) ∧ Below w.heap.size w w'

set_option maxHeartbeats 1000000 in
theorem index_any (B n : Nat) (L : List (List Int)) (w : World) (h : PartS w B (3 * n) (3 * n) L) (hn : n ≤ 24) :
    Calls Try.prog 142 #[.slice (some ⟨B, 0, none⟩) n n, .func (.func 83) #[] #[]] w fun e w' => IdxEnd n L w e w' := by
  have HP := hide h
  clear h
  go_enter Try.func142, Try.ntmps142
  go_wp2_with fail
  go_loopw [8] (fun i wr => ∃ k : Nat, k ≤ n ∧ i = .int .i64 k ∧ Hid (resM k L = false) ∧ Hid (Below w.heap.size w wr)) (fun i _ => n - (intOf i).toNat)
  case atStart => exact ⟨0, Nat.zero_le _, rfl, rfl, Below.refl _ _⟩
  case round =>
    obtain ⟨k, hk, rfl, hu, hbw⟩ := hrel
    by_cases hlt : k < n
    rotate_left
    · have hk' : k = n := by omega
      subst hk'
      have HE : Hid (IdxEnd k L w (.returned (.int .i64 (-1))) wr) := ⟨-1, rfl, by rw [hu.out]; rfl, hbw.out⟩
      go_wp2_with fail
      go_ret
      exact HE.out
    obtain ⟨hc0, hc1, hc2⟩ := (HP.out.grow hbw.out).at3 hlt
    have HH := hide (empties_any (maskL (L.getD (3 * k) [])) (maskL (L.getD (3 * k + 1) [])) (maskL (L.getD (3 * k + 2) [])) wr)
    cases hh : !decide (maskL (L.getD (3 * k + 2) []) = 0)
    · have HU := hide (resM_step hu.out hh)
      rw [hh] at HH
      clear hh hu
      generalize maskL (L.getD (3 * k) []) = s0 at *
      generalize maskL (L.getD (3 * k + 1) []) = s1 at *
      generalize maskL (L.getD (3 * k + 2) []) = s2 at *
      go_wp2_with fail
      refine HH.out.mono ?_
      rintro e w1 ⟨rfl, hb⟩
      have HB := hide (hbw.out.trans (hb.mono hbw.out.size))
      clear hb HH hc0 hc1 hc2
      go_wp2_with fail
      go_roundw
      case rel => exact ⟨k + 1, by omega, by go_num, HU, HB⟩
      case measure => simp [intOf]; omega
    · have HY := hide (resM_yes hlt hh)
      rw [hh] at HH
      clear hh hu
      generalize maskL (L.getD (3 * k) []) = s0 at *
      generalize maskL (L.getD (3 * k + 1) []) = s1 at *
      generalize maskL (L.getD (3 * k + 2) []) = s2 at *
      go_wp2_with fail
      refine HH.out.mono ?_
      rintro e w1 ⟨rfl, hb⟩
      have HE : Hid (IdxEnd n L w (.returned (.int .i64 (k : Int))) w1) := ⟨k, rfl, by rw [HY.out]; simp [Hid], hbw.out.trans (hb.mono hbw.out.size)⟩
      clear hb HH hc0 hc1 hc2
      go_wp2_with fail
      go_ret
      exact HE.out

set_option maxHeartbeats 400000 in
theorem contains_any (B n : Nat) (L : List (List Int)) (w : World) (h : PartS w B (3 * n) (3 * n) L) (hn : n ≤ 24) :
    Calls Try.prog 82 #[.slice (some ⟨B, 0, none⟩) n n, .func (.func 83) #[] #[]] w fun e w' => e = .returned (.bool (resM n L)) ∧ Below w.heap.size w w' := by
  have HI := hide (index_any B n L w h hn)
  clear h
  go_enter Try.func82, Try.ntmps82
  go_wp2_with fail
  refine HI.out.mono ?_
  rintro e w1 ⟨z, rfl, hz, hb⟩
  have HB := hide hb
  clear hb HI
  go_wp2_with fail
  go_ret
  exact ⟨ret_bool hz.out, HB.out⟩

theorem res_eq {p : Int} {n : Nat} {L : List (List Int)} (h : netOk p n L = true) : resM n L = resB n L := by
  have key : ∀ i, i < n → (!decide (maskL (L.getD (3 * i + 2) []) = 0)) = !(L.getD (3 * i + 2) []).isEmpty := by
    intro i hi
    unfold netOk at h
    rw [Bool.and_eq_true] at h
    have ht := List.all_eq_true.mp h.2 i (by simpa using hi)
    unfold triOk at ht
    simp only [Bool.and_eq_true] at ht
    have hz := maskL_zero (fun x hx => (riseB_mem ht.2 x hx).1)
    by_cases e : L.getD (3 * i + 2) [] = []
    · rw [e]; rfl
    · have : ¬ maskL (L.getD (3 * i + 2) []) = 0 := fun q => e (hz.mp q)
      rw [decide_eq_false this]
      cases hq : L.getD (3 * i + 2) []
      · exact absurd hq e
      · rfl
  unfold resM resB
  rw [Bool.eq_iff_iff, List.any_eq_true, List.any_eq_true]
  constructor
  · rintro ⟨i, hi, hh⟩; exact ⟨i, hi, by rw [← key i (by simpa using hi)]; exact hh⟩
  · rintro ⟨i, hi, hh⟩; exact ⟨i, hi, by rw [key i (by simpa using hi)]; exact hh⟩

set_option maxHeartbeats 1000000 in
theorem hasResI_any (p : Int) (a : Option Addr) (n c : Nat) (L : List (List Int)) (w : World) (h : Lists w a (3 * n) L) (hs : sizeN n L ≤ 1048576) :
    Calls Try.prog 23 #[.agg #[.int .i64 p, .slice a n c]] w fun e w' => e = .returned (.tuple #[.bool (netOk p n L && resB n L), .bool (netOk p n L)]) ∧ Below w.heap.size w w' := by
  have HT := hide (netSteps_any p a n c L (w.alloc (.cells #[.int .i64 p, .slice a n c] 26)) (h.below (below_al _ _)) hs)
  clear h
  by_cases hg : netOk p n L = true
  rotate_left
  · have hg' : netOk p n L = false := by simpa using hg
    rw [hg'] at HT ⊢
    clear hg hg'
    go_enter Try.func23, Try.ntmps23
    go_wp2_with fail
    refine HT.out.mono ?_
    rintro e w2 ⟨p', a', m, c', rfl, hx, hb⟩
    have HB := hide ((below_al w (.cells #[.int .i64 p, .slice a n c] 26)).trans (hb.mono (by simp)))
    clear hb HT hx
    go_wp2_with fail
    go_ret2
    exact ⟨rfl, HB.out.alloc HB.out.size _⟩
  have HR := hide (res_eq hg)
  have hn24 := netN hg
  rw [hg] at HT ⊢
  clear hg
  go_enter Try.func23, Try.ntmps23
  go_wp2_with fail
  refine HT.out.mono ?_
  rintro e w2 ⟨p', a', m, c', rfl, hx, hb⟩
  obtain ⟨e1, e2, e3, B, rfl, hBs, hps⟩ := hx.out rfl
  subst e1 e2 e3
  have HB := hide (((below_al w (.cells #[.int .i64 p', .slice a c' c] 26)).trans (hb.mono (by simp))))
  have hA := below_al w2 (.cells #[.int .i64 p', .slice (some ⟨B, 0, none⟩) c' c'] 82)
  have HC := hide (contains_any B c' L _ (hps.grow hA) hn24)
  have HB1 := hide (HB.out.trans (hA.mono HB.out.size))
  clear hb HT hx hBs hps hA HB
  go_wp2_with fail
  refine HC.out.mono ?_
  rintro e w3 ⟨rfl, hb⟩
  have HB2 := hide (HB1.out.trans (hb.mono HB1.out.size))
  rw [HR.out]
  obtain ⟨r, hr⟩ : ∃ r, Hid (resB c' L = r) := ⟨_, rfl⟩
  rw [hr.out]
  clear hb HC HB1
  go_wp2_with fail
  go_ret2
  exact ⟨ret_2 (by rw [hr.out]; rfl) rfl, HB2.out⟩
end Go.Proofs.Ytdhnhpjcoeglmaa


/- What the program's TurnNet keeps in mind while it fills the turned net. -/
namespace Go.Proofs.Ytdhnhpjcoeglmaa
open Go.RowKit

/-- The lists of the turned net, as far as k transitions. -/
def turnF (L : List (List Int)) (k j : Nat) : List Int :=
  if j < 3 * k then (if j % 3 = 0 then L.getD (j + 1) [] else if j % 3 = 1 then L.getD (j - 1) [] else []) else []

theorem turnF_old {L : List (List Int)} {k j : Nat} (h : j < 3 * k) : turnF L (k + 1) j = turnF L k j := by
  unfold turnF; rw [if_pos h, if_pos (by omega)]
theorem turnF_far {L : List (List Int)} {k j : Nat} (h : 3 * k ≤ j) : turnF L k j = [] := by
  unfold turnF; rw [if_neg (by omega)]
theorem turnF_0 (L : List (List Int)) (k : Nat) : turnF L (k + 1) (3 * k) = L.getD (3 * k + 1) [] := by
  unfold turnF; rw [if_pos (by omega), if_pos (by omega)]
theorem turnF_1 (L : List (List Int)) (k : Nat) : turnF L (k + 1) (3 * k + 1) = L.getD (3 * k) [] := by
  unfold turnF; rw [if_pos (by omega), if_neg (by omega), if_pos (by omega)]; rfl
theorem turnF_2 (L : List (List Int)) (k : Nat) : turnF L (k + 1) (3 * k + 2) = [] := by
  unfold turnF; rw [if_pos (by omega), if_neg (by omega), if_neg (by omega)]

theorem PartG.room {w : World} {B lo hi hi' n : Nat} {T : TypeId} {M : Nat → List Int} (h : PartG w B lo hi n T M) (hh : hi ≤ hi') : PartG w B lo hi' n T M := by
  obtain ⟨C, A, f, cap, h1, h2, h3, h4⟩ := h
  refine ⟨C, A, f, cap, h1, h2, fun j hj => ?_, h4⟩
  obtain ⟨e1, e2, e3⟩ := h3 j hj
  exact ⟨e1, e2, fun hm => ⟨(e3 hm).1, by have := (e3 hm).2.1; omega, (e3 hm).2.2⟩⟩

theorem Ob.set_far {w : World} {a : Option Addr} {b n : Nat} {xs : List Int} (h : Ob w a b n xs) {B o : Nat} {v0 v1 v2 : Value} (hb : xs ≠ [] → b ≠ B) : Ob (w.setCells B o [v0, v1, v2]) a b n xs := by
  rcases h with ⟨h1, h0 | ⟨e, cur, q1, q2, q3⟩⟩
  · exact ⟨h1, .inl h0⟩
  · by_cases hx : xs = []
    · subst hx; exact ⟨h1, .inl (by rw [← h1]; rfl)⟩
    · exact ⟨h1, .inr ⟨e, cur, (heap_set3_other _ _ _ _ _ _ _ (hb hx)).trans q1, q2, q3⟩⟩

theorem PartG.put3 {w : World} {B lo hi mid hi' n k b1 b2 m1 m2 c1 c2 : Nat} {T : TypeId} {L : List (List Int)} {a1 a2 : Option Addr} {X1 X2 : List Int} (h : PartG w B lo hi (3 * n) T (turnF L k)) (hk : k < n)
    (o1 : Ob w a1 b1 m1 X1) (o2 : Ob w a2 b2 m2 X2) (e1 : X1 = L.getD (3 * k + 1) []) (e2 : X2 = L.getD (3 * k) []) (hlo : lo ≤ hi) (hB : B < hi) (g1 : hi ≤ b1) (g1' : X1 ≠ [] → b1 < mid) (g2 : mid ≤ b2) (g2' : X2 ≠ [] → b2 < hi') (hm : hi ≤ mid) (hm' : mid ≤ hi') :
    PartG (w.setCells B (k * 3) [.slice a1 m1 c1, .slice a2 m2 c2, .slice none 0 0]) B lo hi' (3 * n) T (turnF L (k + 1)) := by
  obtain ⟨C, A, f, cap, h1, h2, h3, h4⟩ := h
  have hl1 := o1.1
  have hl2 := o2.1
  refine ⟨_, fun j => if j = 3 * k then a1 else if j = 3 * k + 1 then a2 else if j = 3 * k + 2 then none else A j, fun j => if j = 3 * k then b1 else if j = 3 * k + 1 then b2 else f j, fun j => if j = 3 * k then c1 else if j = 3 * k + 1 then c2 else if j = 3 * k + 2 then 0 else cap j, heap_set3_same h1 _ _ _, by simp [h2], fun j hj => ?_, fun i j hij hj hi0 hj0 => ?_⟩
  · by_cases j0 : j = 3 * k
    · subst j0
      simp only [if_true]
      rw [turnF_0, ← e1, hl1]
      refine ⟨?_, o1.set_far (fun _ => by omega), fun hx => ⟨by omega, by have := g1' hx; omega, by omega⟩⟩
      rw [Array.getElem?_setIfInBounds_ne (by omega), Array.getElem?_setIfInBounds_ne (by omega), Array.getElem?_setIfInBounds, if_pos (by omega), if_pos (by omega)]
    · by_cases j1 : j = 3 * k + 1
      · subst j1
        simp only [if_neg j0, if_true]
        rw [turnF_1, ← e2, hl2]
        refine ⟨?_, o2.set_far (fun _ => by omega), fun hx => ⟨by omega, by have := g2' hx; omega, by omega⟩⟩
        rw [Array.getElem?_setIfInBounds_ne (by omega), Array.getElem?_setIfInBounds, if_pos (by omega), if_pos (by simp; omega)]
      · by_cases j2 : j = 3 * k + 2
        · subst j2
          simp only [if_neg j0, if_neg j1, if_true]
          rw [turnF_2]
          refine ⟨?_, ⟨rfl, .inl rfl⟩, fun hx => absurd rfl hx⟩
          rw [Array.getElem?_setIfInBounds, if_pos (by omega), if_pos (by simp; omega)]
          rfl
        · simp only [if_neg j0, if_neg j1, if_neg j2]
          obtain ⟨q1, q2, q3⟩ := h3 j hj
          have hold : turnF L (k + 1) j = turnF L k j := by
            by_cases hlt : j < 3 * k
            · exact turnF_old hlt
            · rw [turnF_far (by omega), turnF_far (by omega)]
          rw [hold]
          refine ⟨?_, q2.set_far (fun hx => (q3 hx).2.2), fun hx => ⟨(q3 hx).1, by have := (q3 hx).2.1; omega, (q3 hx).2.2⟩⟩
          rw [Array.getElem?_setIfInBounds_ne (by omega), Array.getElem?_setIfInBounds_ne (by omega), Array.getElem?_setIfInBounds_ne (by omega)]
          exact q1
  · have jlt : j < 3 * k + 2 := by
      by_cases hc : j < 3 * k + 2
      · exact hc
      · exfalso
        by_cases j2 : j = 3 * k + 2
        · subst j2; exact hj0 (turnF_2 L k)
        · exact hj0 (turnF_far (by omega))
    by_cases j0 : j = 3 * k
    · subst j0
      simp only [if_neg (show i ≠ 3 * k by omega), if_neg (show i ≠ 3 * k + 1 by omega), if_true]
      rw [turnF_old hij] at hi0
      have := (h3 i (by omega)).2.2 hi0
      omega
    · by_cases j1 : j = 3 * k + 1
      · subst j1
        simp only [if_neg j0, if_true]
        by_cases i0 : i = 3 * k
        · subst i0
          simp only [if_true]
          rw [turnF_0, ← e1] at hi0
          have := g1' hi0
          omega
        · simp only [if_neg i0, if_neg (show i ≠ 3 * k + 1 by omega)]
          rw [turnF_old (by omega)] at hi0
          have := (h3 i (by omega)).2.2 hi0
          omega
      · simp only [if_neg j0, if_neg j1, if_neg (show i ≠ 3 * k by omega), if_neg (show i ≠ 3 * k + 1 by omega)]
        rw [turnF_old (by omega)] at hi0 hj0
        exact h4 i j hij hj hi0 hj0

theorem madeNil3 (n j : Nat) (h : j < 3 * n) : (madeCells #[.slice none 0 0, .slice none 0 0, .slice none 0 0] (n * 3))[j]? = some (.slice none 0 0) := by
  have hj : j < n * 3 := by omega
  simp only [madeCells, Array.getElem?_map, Array.getElem?_range, hj, if_true]
  have h3 : j % 3 = 0 ∨ j % 3 = 1 ∨ j % 3 = 2 := by omega
  rcases h3 with e | e | e <;> simp [e]

/-- The world in which the loop stands: the variable, the net that is being filled. -/
structure TuInv (w3 wr : World) (V M : Nat) (p : Int) (n k : Nat) (L : List (List Int)) : Prop where
  var : wr.heap[V]? = some (.cells #[.int .i64 p, .slice (some ⟨M, 0, none⟩) n n] 26 (0, 0))
  part : PartG wr M w3.heap.size wr.heap.size (3 * n) 78 (turnF L k)
  bel : Below w3.heap.size w3 wr
  ne : V ≠ M
  hV : w3.heap.size ≤ V
  hM : w3.heap.size ≤ M

theorem TuInv.grow {w3 wr v : World} {V M : Nat} {p : Int} {n k : Nat} {L : List (List Int)} (h : TuInv w3 wr V M p n k L) (hb : Below wr.heap.size wr v) : TuInv w3 v V M p n k L :=
  ⟨(hb.block _ (Array.getElem?_eq_some_iff.mp h.var).1).trans h.var, (h.part.grow hb).room hb.size, h.bel.trans (hb.mono h.bel.size), h.ne, h.hV, h.hM⟩

theorem TuInv.ltM {w3 wr : World} {V M : Nat} {p : Int} {n k : Nat} {L : List (List Int)} (h : TuInv w3 wr V M p n k L) : M < wr.heap.size := by
  obtain ⟨C, A, f, cap, h1, _⟩ := h.part
  exact (Array.getElem?_eq_some_iff.mp h1).1

theorem TuInv.there {w3 wr : World} {V M : Nat} {p : Int} {n k : Nat} {L : List (List Int)} (h : TuInv w3 wr V M p n k L) {i : Nat} (hi : i < n) :
    ∃ u0 u1 u2, wr.cell? ⟨M, i * 3, none⟩ = some u0 ∧ wr.cell? ⟨M, i * 3 + 1, none⟩ = some u1 ∧ wr.cell? ⟨M, i * 3 + 2, none⟩ = some u2 ∧ wr.frozen? ⟨M, i * 3, none⟩ = false ∧ wr.frozen? ⟨M, i * 3 + 1, none⟩ = false ∧ wr.frozen? ⟨M, i * 3 + 2, none⟩ = false := by
  obtain ⟨C, A, f, cap, h1, h2, _⟩ := h.part
  refine ⟨C[i * 3]'(by omega), C[i * 3 + 1]'(by omega), C[i * 3 + 2]'(by omega), ?_, ?_, ?_, frozen_of_row _ _ _ C _ h1, frozen_of_row _ _ _ C _ h1, frozen_of_row _ _ _ C _ h1⟩
  · rw [cell_of_row _ M _ C _ _ h1, Array.getElem?_eq_getElem (by omega)]
  · rw [cell_of_row _ M _ C _ _ h1, Array.getElem?_eq_getElem (by omega)]
  · rw [cell_of_row _ M _ C _ _ h1, Array.getElem?_eq_getElem (by omega)]

theorem TuInv.step {w3 wr v1 v2 : World} {V M : Nat} {p : Int} {n k : Nat} {L : List (List Int)} (h : TuInv w3 wr V M p n k L) (hk : k < n) {a1 a2 : Option Addr} {b1 b2 m1 m2 c1 c2 : Nat} {X1 X2 : List Int}
    (hb1 : Below wr.heap.size wr v1) (g1 : wr.heap.size ≤ b1) (o1 : Ob v1 a1 b1 m1 X1) (hb2 : Below v1.heap.size v1 v2) (g2 : v1.heap.size ≤ b2) (o2 : Ob v2 a2 b2 m2 X2) (e1 : X1 = L.getD (3 * k + 1) []) (e2 : X2 = L.getD (3 * k) []) :
    TuInv w3 (v2.setCells M (k * 3) [.slice a1 m1 c1, .slice a2 m2 c2, .slice none 0 0]) V M p n (k + 1) L := by
  have hg := (h.grow hb1).grow hb2
  have hlt : ∀ {w : World} {a : Option Addr} {b m : Nat} {X : List Int}, Ob w a b m X → X ≠ [] → b < w.heap.size := by
    intro w a b m X ho hx
    rcases ho with ⟨q, h0 | ⟨_, cur, hh, _⟩⟩
    · exact absurd (List.length_eq_zero_iff.mp (q.trans h0)) hx
    · exact (Array.getElem?_eq_some_iff.mp hh).1
  refine ⟨(heap_set3_other _ _ _ _ _ _ _ h.ne).trans hg.var, ?_, below_set3 hg.bel h.hM _ _ _ _, h.ne, h.hV, h.hM⟩
  rw [size_set3]
  exact ((h.part.grow hb1).grow hb2).put3 hk (o1.grow hb2) o2 e1 e2 h.bel.size h.ltM g1 (hlt o1) g2 (hlt o2) hb1.size hb2.size
end Go.Proofs.Ytdhnhpjcoeglmaa


/- l1Own: a list's own copy. -/
namespace Go.Proofs.Ytdhnhpjcoeglmaa
open Go.RowKit

theorem Row.cells2 {w : World} {b off n : Nat} {xs : List Int} (h : Row w (some ⟨b, off, none⟩) n xs) : ∀ j u, (xs.map (Value.int .i64))[j]? = some u → w.cell? ((⟨b, off, none⟩ : Addr).add j) = some u := by
  intro j u hu
  rw [Addr.add_mid]
  simp only [List.getElem?_map, Option.map_eq_some_iff] at hu
  obtain ⟨x, hx, rfl⟩ := hu
  have hj := (List.getElem?_eq_some_iff.mp hx).1
  have hl := h.1
  obtain ⟨b1, o1, y, he, _, hc, H⟩ := h.at (show j < n by omega)
  simp only [Option.some.injEq, Addr.mk.injEq] at he
  obtain ⟨rfl, rfl, _⟩ := he
  rw [hc]
  have := H.out
  rw [hx] at this
  simp at this
  rw [this]

set_option maxHeartbeats 400000 in
theorem own2_any (b off n ca : Nat) (xs : List Int) (w : World) (ha : Row w (some ⟨b, off, none⟩) n xs) (hn : n ≤ 1048576) :
    Calls Try.prog 67 #[.slice (some ⟨b, off, none⟩) n ca] w fun e w' => ∃ a g c, e = .returned (.slice a n c) ∧ w.heap.size ≤ g ∧ Ob w' a g n xs ∧ Below w.heap.size w w' := by
  obtain ⟨i0, hi, hz0, hz1, hz2⟩ := info_split2 Try.info3
  have HA := hide ha
  have HL := hide ha.1
  clear ha
  have HW := hide (HA.out.alloc (.cells #[] 3))
  have HO : Hid ((w.alloc (.cells #[] 3)).ownsRow w.heap.size 3 1 (.slice (some ⟨w.heap.size, 0, none⟩) 0 0) 0 []) :=
    ⟨rfl, .inr ⟨w.heap.size, 0, #[], rfl, Nat.le_refl _, heap_alloc_new _ _, Nat.le_refl _, Nat.zero_le _, rfl, rfl⟩⟩
  have HN := hide (show (xs.map (Value.int .i64)).length = n * 1 by rw [List.length_map, Nat.mul_one]; exact HL.out)
  have H1 := hide (show ∀ u ∈ xs.map (Value.int .i64), u.oneCell' = true by intro u hu; simp at hu; obtain ⟨x, _, rfl⟩ := hu; rfl)
  have HX := hide (show 0 + n ≤ maxLen by unfold maxLen; omega)
  have HY := hide (show (0 + n) * 8 ≤ 140737488355328 by omega)
  have HZ := hide (show w.heap.size ≤ (w.alloc (.cells #[] 3)).heap.size by simp)
  go_enter Try.func67, Try.ntmps67
  go_wp2_with (refine wpList_append_own _ rfl (.tmp 3) (.tmp 4) 31 rfl w.heap.size 3 i0 (.int .i64 0) 1 8 Try.underlying31 hi hz0 hz1 hz2 rfl (by decide) (.slice (some ⟨w.heap.size, 0, none⟩) 0 0) 0 [] rfl HO.out ⟨b, off, none⟩ n ca (xs.map (Value.int .i64)) rfl HN.out HW.out.cells2 H1.out HX.out HY.out HZ.out ?_; intro v' W' r1 r2 r3)
  go_ret
  rw [Nat.zero_add, List.nil_append] at r1
  obtain ⟨a, g, c, rfl, hg, hout⟩ := own_ob2 r1
  exact ⟨a, g, c, rfl, hg, hout, (below_al w _).grown r2 (by simp) (fun k hk => by simp [Value.ownBlock] at hk; omega)⟩
end Go.Proofs.Ytdhnhpjcoeglmaa


/- TurnNet of the program. -/
namespace Go.Proofs.Ytdhnhpjcoeglmaa
open Go.RowKit

def turnL (n : Nat) (L : List (List Int)) : List (List Int) := (List.range (3 * n)).map (turnF L n)

theorem turnL_get (n : Nat) (L : List (List Int)) : (fun j => (turnL n L).getD j []) = turnF L n := by
  funext j
  unfold turnL
  by_cases h : j < 3 * n
  · simp [List.getD_eq_getElem?_getD, h]
  · rw [turnF_far (by omega)]
    simp [List.getD_eq_getElem?_getD, h]

theorem riseB_len {xs : List Int} {lo hi : Int} (h : riseB xs lo hi = true) : xs ≠ [] → (xs.length : Int) ≤ hi + 1 - lo := by
  induction xs generalizing lo with
  | nil => intro hx; exact absurd rfl hx
  | cons x r ih =>
    intro _
    simp [riseB] at h
    by_cases hr : r = []
    · subst hr; simp; omega
    · have := ih h.2 hr
      simp; omega

theorem turnL_len (n : Nat) (L : List (List Int)) : (turnL n L).length = 3 * n := by simp [turnL]

theorem getLen16 {p : Int} {n : Nat} {L : List (List Int)} (h : netOk p n L = true) (j : Nat) (hj : j < 3 * n) : (L.getD j []).length ≤ 16 := by
  unfold netOk at h
  simp only [Bool.and_eq_true] at h
  have hp : p ≤ 16 := by have := h.1.1; unfold inB at this; simp at this; omega
  have ht := List.all_eq_true.mp h.2 (j / 3) (by simp; omega)
  unfold triOk at ht
  simp only [Bool.and_eq_true] at ht
  have key : ∀ xs, riseB xs 0 (p - 1) = true → xs.length ≤ 16 := by
    intro xs hx
    by_cases he : xs = []
    · subst he; simp
    · have := riseB_len hx he; omega
  have h3 : j = 3 * (j / 3) ∨ j = 3 * (j / 3) + 1 ∨ j = 3 * (j / 3) + 2 := by omega
  rcases h3 with e | e | e
  · rw [e]; exact key _ ht.1.1.2
  · rw [e]; exact key _ ht.1.2
  · rw [e]; exact key _ ht.2

theorem sum16 (l : List Nat) (h : ∀ x ∈ l, x ≤ 16) : l.sum ≤ 16 * l.length := by
  induction l with
  | nil => simp
  | cons x r ih =>
    have h1 := h x (by simp)
    have h2 := ih fun y hy => h y (by simp [hy])
    simp only [List.sum_cons, List.length_cons]; omega

theorem turnL_size {p : Int} {n : Nat} {L : List (List Int)} (h : netOk p n L = true) : sizeN n (turnL n L) ≤ 1048576 := by
  have hn := netN h
  have : sizeL (turnL n L) ≤ 16 * (3 * n) := by
    unfold sizeL
    have := sum16 ((turnL n L).map List.length) (by
      intro x hx
      simp only [turnL, List.map_map, List.mem_map, List.mem_range, Function.comp] at hx
      obtain ⟨j, hj, rfl⟩ := hx
      unfold turnF
      rw [if_pos hj]
      by_cases e0 : j % 3 = 0
      · rw [if_pos e0]; exact getLen16 h _ (by omega)
      · rw [if_neg e0]
        by_cases e1 : j % 3 = 1
        · rw [if_pos e1]; exact getLen16 h _ (by omega)
        · rw [if_neg e1]; simp)
    simpa [turnL_len] using this
  unfold sizeN; omega

def turnOk (p : Int) (n : Nat) (L : List (List Int)) : Bool := netOk p n L && !resB n L && netOk p n (turnL n L)

/-- How TurnNet ends. -/
def TuEnd (g : Bool) (p : Int) (n : Nat) (L : List (List Int)) (w : World) (e : Ending) (w' : World) : Prop :=
  ∃ (a : Option Addr) (B lo hi c : Nat), e = .returned (.tuple #[.agg #[.int .i64 (if g then p else 0), .slice a (if g then n else 0) c], .bool g]) ∧ (g = true → NetG w' a B lo hi n (turnF L n)) ∧ w.heap.size ≤ B ∧ w.heap.size ≤ lo ∧ hi ≤ w'.heap.size ∧ Below w.heap.size w w'

theorem tuEnd_no {p : Int} {n : Nat} {L : List (List Int)} {w w' : World} (hb : Below w.heap.size w w') : TuEnd false p n L w (.returned (.tuple #[.agg #[.int .i64 0, .slice none 0 0], .bool false])) w' :=
  ⟨none, w.heap.size, w.heap.size, 0, 0, rfl, fun h => by simp at h, Nat.le_refl _, Nat.le_refl _, Nat.zero_le _, hb⟩

/-- Cells that a later world still has. -/
theorem keep3 {W W' : World} {a1 a2 a3 : Addr} {v1 v2 v3 : Value} (hb : Below W.heap.size W W') (h : W.cell? a1 = some v1 ∧ W.cell? a2 = some v2 ∧ W.cell? a3 = some v3) : W'.cell? a1 = some v1 ∧ W'.cell? a2 = some v2 ∧ W'.cell? a3 = some v3 :=
  ⟨(hb.cell (World.block_lt_of_cell? _ _ h.1)).trans h.1, (hb.cell (World.block_lt_of_cell? _ _ h.2.1)).trans h.2.1, (hb.cell (World.block_lt_of_cell? _ _ h.2.2)).trans h.2.2⟩

theorem keep3_set {W : World} {M o0 o1 o2 b1 b2 b3 x1 x2 x3 : Nat} {v1 v2 v3 u0 u1 u2 : Value} (h1 : b1 ≠ M) (h2 : b2 ≠ M) (h3 : b3 ≠ M) (h : W.cell? ⟨b1, x1, none⟩ = some v1 ∧ W.cell? ⟨b2, x2, none⟩ = some v2 ∧ W.cell? ⟨b3, x3, none⟩ = some v3) :
    (((W.setCell ⟨M, o0, none⟩ u0).setCell ⟨M, o1, none⟩ u1).setCell ⟨M, o2, none⟩ u2).cell? ⟨b1, x1, none⟩ = some v1 ∧ (((W.setCell ⟨M, o0, none⟩ u0).setCell ⟨M, o1, none⟩ u1).setCell ⟨M, o2, none⟩ u2).cell? ⟨b2, x2, none⟩ = some v2 ∧ (((W.setCell ⟨M, o0, none⟩ u0).setCell ⟨M, o1, none⟩ u1).setCell ⟨M, o2, none⟩ u2).cell? ⟨b3, x3, none⟩ = some v3 := by
  have far : ∀ (b x : Nat), b ≠ M → (((W.setCell ⟨M, o0, none⟩ u0).setCell ⟨M, o1, none⟩ u1).setCell ⟨M, o2, none⟩ u2).cell? ⟨b, x, none⟩ = W.cell? ⟨b, x, none⟩ := fun b x hb => by
    rw [World.cell?_setCell_far _ _ _ _ (fun e => hb e.symm), World.cell?_setCell_far _ _ _ _ (fun e => hb e.symm), World.cell?_setCell_far _ _ _ _ (fun e => hb e.symm)]
  exact ⟨(far _ _ h1).trans h.1, (far _ _ h2).trans h.2.1, (far _ _ h3).trans h.2.2⟩

theorem PartG.high {w w' : World} {B lo hi n D : Nat} {T : TypeId} {M : Nat → List Int} (h : PartG w B lo hi n T M) (hh : ∀ k, D ≤ k → w'.heap[k]? = w.heap[k]?) (hB : D ≤ B) (hlo : D ≤ lo) : PartG w' B lo hi n T M := by
  obtain ⟨C, A, f, cap, h1, h2, h3, h4⟩ := h
  refine ⟨C, A, f, cap, (hh B hB).trans h1, h2, fun j hj => ?_, h4⟩
  obtain ⟨e1, e2, e3⟩ := h3 j hj
  refine ⟨e1, ?_, e3⟩
  by_cases he : M j = []
  · rw [he]; exact ⟨rfl, .inl rfl⟩
  · rcases e2 with ⟨q, h0 | ⟨e, cur, q1, q2, q3⟩⟩
    · exact ⟨q, .inl h0⟩
    · exact ⟨q, .inr ⟨e, cur, (hh _ (by have := (e3 he).1; omega)).trans q1, q2, q3⟩⟩

theorem high_set2 (w : World) (D b o0 o1 : Nat) (v0 v1 : Value) (h : b < D) : ∀ k, D ≤ k → ((w.setCell ⟨b, o0, none⟩ v0).setCell ⟨b, o1, none⟩ v1).heap[k]? = w.heap[k]? := fun k hk => by
  rw [Below.heap_setCell _ _ _ _ (show k ≠ b by omega), Below.heap_setCell _ _ _ _ (show k ≠ b by omega)]

theorem turnOk_net {p : Int} {n : Nat} {L : List (List Int)} (h : netOk p n L = false) : turnOk p n L = false := by unfold turnOk; rw [h]; rfl
theorem turnOk_res {p : Int} {n : Nat} {L : List (List Int)} (h : resB n L = true) : turnOk p n L = false := by unfold turnOk; rw [h]; simp
theorem turnOk_last {p : Int} {n : Nat} {L : List (List Int)} (h : netOk p n L = true) (h2 : resB n L = false) : turnOk p n L = netOk p n (turnL n L) := by unfold turnOk; rw [h, h2]; rfl

theorem tuEnd_yes {p : Int} {n : Nat} {L : List (List Int)} {w w' : World} {a : Option Addr} {B lo hi c : Nat} (hg : NetG w' a B lo hi n (turnF L n)) (hB : w.heap.size ≤ B) (hlo : w.heap.size ≤ lo) (hhi : hi ≤ w'.heap.size) (hb : Below w.heap.size w w') : TuEnd true p n L w (.returned (.tuple #[.agg #[.int .i64 p, .slice a n c], .bool true])) w' :=
  ⟨a, B, lo, hi, c, rfl, fun _ => hg, hB, hlo, hhi, hb⟩

theorem turn_sets {p : Int} {n k : Nat} {L : List (List Int)} (h : netOk p n L = true) (hk : k < n) {s0 s1 : Nat} (e0 : maskL (L.getD (3 * k) []) = s0) (e1 : maskL (L.getD (3 * k + 1) []) = s1) :
    s0 < 2 ^ 16 ∧ s1 < 2 ^ 16 ∧ nums2 s0.testBit 16 = L.getD (3 * k) [] ∧ nums2 s1.testBit 16 = L.getD (3 * k + 1) [] := by
  unfold netOk at h
  simp only [Bool.and_eq_true] at h
  have hp : p ≤ 16 := by have := h.1.1; unfold inB at this; simp at this; omega
  have ht := List.all_eq_true.mp h.2 k (by simpa using hk)
  unfold triOk at ht
  simp only [Bool.and_eq_true] at ht
  have key : ∀ xs, riseB xs 0 (p - 1) = true → maskL xs < 2 ^ 16 := fun xs hx => maskL_lt _ fun x hm => by have := riseB_mem hx x hm; omega
  subst e0 e1
  exact ⟨key _ ht.1.1.2, key _ ht.1.2, nums2_mask hp ht.1.1.2, nums2_mask hp ht.1.2⟩

theorem partG_made {W : World} {M lo hi n : Nat} {T : TypeId} (L : List (List Int)) (h : W.heap[M]? = some (.cells (madeCells #[.slice none 0 0, .slice none 0 0, .slice none 0 0] (n * 3)) T (0, 0))) : PartG W M lo hi (3 * n) T (turnF L 0) := by
  refine ⟨madeCells #[.slice none 0 0, .slice none 0 0, .slice none 0 0] (n * 3), fun _ => none, fun _ => 0, fun _ => 0, h, by rw [size_madeCells]; omega, fun j hj => ?_, fun i j _ _ hx => ?_⟩
  · rw [turnF_far (by omega)]
    exact ⟨madeNil3 n j hj, ⟨rfl, .inl rfl⟩, fun hx => absurd rfl hx⟩
  · rw [turnF_far (by omega)] at hx; exact absurd rfl hx

/-- The world behind the region that makes the two blocks. -/
theorem TuInv.first1 (w3 : World) (p : Int) (n : Nat) (L : List (List Int)) : TuInv w3 ((w3.alloc (.cells (madeCells #[.slice none 0 0, .slice none 0 0, .slice none 0 0] (n * 3)) 78)).alloc (.cells #[.int .i64 p, .slice (some ⟨w3.heap.size, 0, none⟩) n n] 26)).drew (w3.heap.size + 1) w3.heap.size p n 0 L := by
  refine ⟨?_, partG_made L ?_, ?_, by omega, by omega, by omega⟩
  · have := heap_alloc_new (w3.alloc (.cells (madeCells #[.slice none 0 0, .slice none 0 0, .slice none 0 0] (n * 3)) 78)) (.cells #[.int .i64 p, .slice (some ⟨w3.heap.size, 0, none⟩) n n] 26)
    rw [show (w3.alloc (.cells (madeCells #[.slice none 0 0, .slice none 0 0, .slice none 0 0] (n * 3)) 78)).heap.size = w3.heap.size + 1 by simp] at this
    exact this
  · show ((w3.alloc _).alloc _).heap[w3.heap.size]? = _
    rw [heap_al_old _ _ _ (by simp)]; exact heap_alloc_new _ _
  · exact (below_two w3 _ _).drew

theorem TuInv.first2 (w3 : World) (p : Int) (n : Nat) (L : List (List Int)) : TuInv w3 ((w3.alloc (.cells #[.int .i64 p, .slice (some ⟨w3.heap.size + 1, 0, none⟩) n n] 26)).alloc (.cells (madeCells #[.slice none 0 0, .slice none 0 0, .slice none 0 0] (n * 3)) 78)).drew w3.heap.size (w3.heap.size + 1) p n 0 L := by
  refine ⟨?_, partG_made L ?_, ?_, by omega, by omega, by omega⟩
  · show ((w3.alloc _).alloc _).heap[w3.heap.size]? = _
    rw [heap_al_old _ _ _ (by simp)]; exact heap_alloc_new _ _
  · have := heap_alloc_new (w3.alloc (.cells #[.int .i64 p, .slice (some ⟨w3.heap.size + 1, 0, none⟩) n n] 26)) (.cells (madeCells #[.slice none 0 0, .slice none 0 0, .slice none 0 0] (n * 3)) 78)
    rw [show (w3.alloc (.cells #[.int .i64 p, .slice (some ⟨w3.heap.size + 1, 0, none⟩) n n] 26)).heap.size = w3.heap.size + 1 by simp] at this
    exact this
  · exact (below_two w3 _ _).drew
end Go.Proofs.Ytdhnhpjcoeglmaa


/- What the specification's TurnNet keeps in mind while it appends to the turned net. -/
namespace Go.Proofs.Ytdhnhpjcoeglmaa
open Go.RowKit

theorem Ob.moved {w w' : World} {a : Option Addr} {b n : Nat} {xs : List Int} (h : Ob w a b n xs) (hh : xs ≠ [] → w'.heap[b]? = w.heap[b]?) : Ob w' a b n xs := by
  rcases h with ⟨h1, h0 | ⟨e, cur, q1, q2, q3⟩⟩
  · exact ⟨h1, .inl h0⟩
  · by_cases hx : xs = []
    · subst hx; exact ⟨h1, .inl (by rw [← h1]; rfl)⟩
    · exact ⟨h1, .inr ⟨e, cur, (hh hx).trans q1, q2, q3⟩⟩

theorem Ob.lt {w : World} {a : Option Addr} {b m : Nat} {X : List Int} (ho : Ob w a b m X) (hx : X ≠ []) : b < w.heap.size := by
  rcases ho with ⟨q, h0 | ⟨_, cur, hh, _⟩⟩
  · exact absurd (List.length_eq_zero_iff.mp (q.trans h0)) hx
  · exact (Array.getElem?_eq_some_iff.mp hh).1

structure SpInv (w3 wr : World) (V : Nat) (p : Int) (k : Nat) (L : List (List Int)) (v : Value) (cells : List Value) : Prop where
  var : wr.heap[V]? = some (.cells #[.int .i64 p, v] 26 (0, 0))
  hV : w3.heap.size = V
  bel : Below w3.heap.size w3 wr
  own : wr.ownsRow (V + 1) 78 3 v k cells
  tris : ∃ (A : Nat → Option Addr) (f cap : Nat → Nat), ∀ j, j < 3 * k → cells[j]? = some (.slice (A j) (turnF L k j).length (cap j)) ∧ Ob wr (A j) (f j) (turnF L k j).length (turnF L k j) ∧ (turnF L k j ≠ [] → f j < wr.heap.size ∧ V < f j ∧ v.ownBlock ≠ some (f j))

theorem SpInv.lt {w3 wr : World} {V : Nat} {p : Int} {k : Nat} {L : List (List Int)} {v : Value} {cells : List Value} (h : SpInv w3 wr V p k L v cells) : V < wr.heap.size := (Array.getElem?_eq_some_iff.mp h.var).1

theorem SpInv.grow {w3 wr w' : World} {V : Nat} {p : Int} {k : Nat} {L : List (List Int)} {v : Value} {cells : List Value} (h : SpInv w3 wr V p k L v cells) (hb : Below wr.heap.size wr w') : SpInv w3 w' V p k L v cells := by
  obtain ⟨A, f, cap, ht⟩ := h.tris
  refine ⟨(hb.block V h.lt).trans h.var, h.hV, h.bel.trans (hb.mono h.bel.size), ?_, A, f, cap, fun j hj => ?_⟩
  · refine ⟨h.own.1, ?_⟩
    rcases h.own.2 with hn | ⟨g, cp, cur, e, hg, hh, r⟩
    · exact .inl hn
    · exact .inr ⟨g, cp, cur, e, hg, (hb.block g (Array.getElem?_eq_some_iff.mp hh).1).trans hh, r⟩
  · obtain ⟨q1, q2, q3⟩ := ht j hj
    exact ⟨q1, q2.grow hb, fun hx => ⟨by have := (q3 hx).1; have := hb.size; omega, (q3 hx).2⟩⟩

theorem SpInv.step {w3 wr v1 v2 v3 W : World} {V : Nat} {p : Int} {k : Nat} {L : List (List Int)} {v : Value} {cells : List Value} (h : SpInv w3 wr V p k L v cells) {a1 a2 : Option Addr} {b1 b2 m1 m2 c1 c2 g cp : Nat} {X1 X2 : List Int}
    (hb1 : Below wr.heap.size wr v1) (g1 : wr.heap.size ≤ b1) (o1 : Ob v1 a1 b1 m1 X1) (hb2 : Below v1.heap.size v1 v2) (g2 : v1.heap.size ≤ b2) (o2 : Ob v2 a2 b2 m2 X2) (hb3 : Below v2.heap.size v2 v3)
    (e1 : X1 = L.getD (3 * k + 1) []) (e2 : X2 = L.getD (3 * k) [])
    (hown : W.ownsRow (V + 1) 78 3 (.slice (some ⟨g, 0, none⟩) (k + 1) cp) (k + 1) (cells ++ [.slice a1 m1 c1, .slice a2 m2 c2, .slice none 0 0])) (hgr : v3.grownBy W v.ownBlock) (hl : v.ownBlock = some g ∨ g = v3.heap.size) :
    SpInv w3 (W.setCell ⟨V, 1, none⟩ (.slice (some ⟨g, 0, none⟩) (k + 1) cp)) V p (k + 1) L (.slice (some ⟨g, 0, none⟩) (k + 1) cp) (cells ++ [.slice a1 m1 c1, .slice a2 m2 c2, .slice none 0 0]) := by
  have hV := h.lt
  have s1 := hb1.size
  have s2 := hb2.size
  have s3 := hb3.size
  have hg3 := ((h.grow hb1).grow hb2).grow hb3
  have hob : ∀ q, v.ownBlock = some q → V + 1 ≤ q ∧ q < wr.heap.size := h.own.lt
  have hVo : some V ≠ v.ownBlock := fun e => by have := hob V e.symm; omega
  have hWV : W.heap[V]? = some (.cells #[.int .i64 p, v] 26 (0, 0)) := (hgr.block V hg3.lt hVo).trans hg3.var
  have hset : ∀ q, q ≠ V → (W.setCell ⟨V, 1, none⟩ (.slice (some ⟨g, 0, none⟩) (k + 1) cp)).heap[q]? = W.heap[q]? := fun q hq => Below.heap_setCell _ _ _ _ hq
  have hcl : cells.length = 3 * k := by have := h.own.1; omega
  have hWs : (W.setCell ⟨V, 1, none⟩ (.slice (some ⟨g, 0, none⟩) (k + 1) cp)).heap.size = W.heap.size := by simp [World.setCell]
  have hgs := hgr.size
  obtain ⟨A, f, cap, ht⟩ := h.tris
  refine ⟨?_, h.hV, ?_, ?_, fun j => if j = 3 * k then a1 else if j = 3 * k + 1 then a2 else if j = 3 * k + 2 then none else A j, fun j => if j = 3 * k then b1 else if j = 3 * k + 1 then b2 else f j, fun j => if j = 3 * k then c1 else if j = 3 * k + 1 then c2 else if j = 3 * k + 2 then 0 else cap j, fun j hj => ?_⟩
  · rw [heap_setCell_same _ _ _ _ _ _ hWV]; rfl
  · refine Below.setCell (p := ⟨V, 1, none⟩) ?_ (by have := h.hV; show _ ≤ V; omega) _
    refine hg3.bel.grown hgr hg3.bel.size fun q hq => ?_
    have := hob q hq; have := h.hV; omega
  · refine ⟨hown.1, ?_⟩
    rcases hown.2 with hn | ⟨g', cp', cur, e, hg, hh, r⟩
    · exact .inl hn
    · exact .inr ⟨g', cp', cur, e, hg, (hset g' (by omega)).trans hh, r⟩
  · have hnew : ∀ {b : Nat}, wr.heap.size ≤ b → b < v3.heap.size → some b ≠ v.ownBlock ∧ b ≠ g := by
      intro b hb hb'
      refine ⟨fun e => by have := hob b e.symm; omega, fun e => ?_⟩
      rcases hl with hl | hl
      · have := hob g hl; omega
      · omega
    by_cases j0 : j = 3 * k
    · subst j0
      simp only [if_true]
      rw [turnF_0, ← e1, o1.1]
      refine ⟨by rw [List.getElem?_append_right (by omega), hcl]; simp, ?_, fun hx => ?_⟩
      · refine ((o1.grow hb2).grow hb3).moved fun hx => ?_
        have hlt := o1.lt hx
        obtain ⟨n1, n2⟩ := hnew g1 (show b1 < v3.heap.size by omega)
        rw [hset b1 (by omega)]
        exact hgr.block b1 (by omega) n1
      · have hlt := o1.lt hx
        obtain ⟨n1, n2⟩ := hnew g1 (show b1 < v3.heap.size by omega)
        exact ⟨by omega, by omega, fun e => n2 (by simpa [Value.ownBlock] using e.symm)⟩
    · by_cases j1 : j = 3 * k + 1
      · subst j1
        simp only [if_neg j0, if_true]
        rw [turnF_1, ← e2, o2.1]
        refine ⟨by rw [List.getElem?_append_right (by omega), hcl]; simp [show 3 * k + 1 - 3 * k = 1 by omega], ?_, fun hx => ?_⟩
        · refine (o2.grow hb3).moved fun hx => ?_
          have hlt := o2.lt hx
          obtain ⟨n1, n2⟩ := hnew (show wr.heap.size ≤ b2 by omega) (show b2 < v3.heap.size by omega)
          rw [hset b2 (by omega)]
          exact hgr.block b2 (by omega) n1
        · have hlt := o2.lt hx
          obtain ⟨n1, n2⟩ := hnew (show wr.heap.size ≤ b2 by omega) (show b2 < v3.heap.size by omega)
          exact ⟨by omega, by omega, fun e => n2 (by simpa [Value.ownBlock] using e.symm)⟩
      · by_cases j2 : j = 3 * k + 2
        · subst j2
          simp only [if_neg j0, if_neg j1, if_true]
          rw [turnF_2]
          exact ⟨by rw [List.getElem?_append_right (by omega), hcl]; simp [show 3 * k + 2 - 3 * k = 2 by omega], ⟨rfl, .inl rfl⟩, fun hx => absurd rfl hx⟩
        · simp only [if_neg j0, if_neg j1, if_neg j2]
          have hlt : j < 3 * k := by omega
          obtain ⟨q1, q2, q3⟩ := ht j hlt
          rw [turnF_old hlt]
          refine ⟨by rw [List.getElem?_append_left (by omega)]; exact q1, ?_, fun hx => ?_⟩
          · refine (((q2.grow hb1).grow hb2).grow hb3).moved fun hx => ?_
            obtain ⟨r1, r2, r3⟩ := q3 hx
            rw [hset (f j) (by omega)]
            exact hgr.block (f j) (by omega) (fun e => r3 e.symm)
          · obtain ⟨r1, r2, r3⟩ := q3 hx
            refine ⟨by omega, r2, fun e => ?_⟩
            have e' : g = f j := by simpa [Value.ownBlock] using e
            rcases hl with hl | hl
            · rw [e'] at hl; exact r3 hl
            · omega

/-- At the end: a net that can be read. -/
theorem SpInv.lists_low {w3 wr w' : World} {V : Nat} {p : Int} {n : Nat} {L : List (List Int)} {v : Value} {cells : List Value} (h : SpInv w3 wr V p n L v cells) (hs : sizeN n (turnL n L) ≤ 1048576) (hk : ∀ q, V ≤ q → w'.heap[q]? = wr.heap[q]?) : ∃ a c, v = .slice a n c ∧ Lists w' a (3 * n) (turnL n L) := by
  obtain ⟨A, f, cap, ht⟩ := h.tris
  have hcl : cells.length = 3 * n := by have := h.own.1; omega
  rcases h.own.2 with ⟨e, h0⟩ | ⟨g, cp, cur, e, hg, hh, _, _, hsz, htk⟩
  · subst h0
    exact ⟨none, 0, e, turnL_len 0 L, .inl rfl⟩
  · have hh' := (hk g (by omega)).trans hh
    refine ⟨_, cp, e, turnL_len n L, .inr ⟨g, 0, rfl, (Array.getElem?_eq_some_iff.mp hh').1, fun j hj => ?_⟩⟩
    obtain ⟨q1, q2, q3⟩ := ht j hj
    have hget : (turnL n L).getD j [] = turnF L n j := congrFun (turnL_get n L) j
    have hlen := len_le (turnL n L) j
    refine ⟨A j, (turnF L n j).length, cap j, ?_, ?_, by rw [hget]; exact (q2.moved fun hx => hk _ (by have := (q3 hx).2.1; omega)).row⟩
    · rw [cell_of_row w' g (0 + j) cur _ _ hh', Nat.zero_add]
      have e2 : (cur.toList.take (n * 3))[j]? = cells[j]? := by rw [htk]
      rw [List.getElem?_take_of_lt (by omega), Array.getElem?_toList] at e2
      rw [e2, q1]
    · rw [hget] at hlen
      unfold sizeN at hs; unfold maxLen; omega

theorem SpInv.lists {w3 wr : World} {V : Nat} {p : Int} {n : Nat} {L : List (List Int)} {v : Value} {cells : List Value} (h : SpInv w3 wr V p n L v cells) (hs : sizeN n (turnL n L) ≤ 1048576) : ∃ a c, v = .slice a n c ∧ Lists wr a (3 * n) (turnL n L) := h.lists_low hs fun _ _ => rfl
end Go.Proofs.Ytdhnhpjcoeglmaa


/- The specification's small functions on lists: l1Has, l2Meet and l1Same. -/
namespace Go.Proofs.Ytdhnhpjcoeglmaa
open Go.RowKit

def hasB (xs : List Int) (x : Int) : Bool := xs.contains x

theorem hasB_take {xs : List Int} {k : Nat} {x y : Int} (h : hasB (xs.take k) y = false) (hx : xs[k]? = some x) (hne : ¬ x = y) : hasB (xs.take (k + 1)) y = false := by
  unfold hasB at *
  rw [List.take_add_one, hx]
  simp at h ⊢
  exact ⟨h, fun e => hne e.symm⟩

theorem hasB_yes {xs : List Int} {k : Nat} {x : Int} (hx : xs[k]? = some x) : hasB xs x = true := by
  unfold hasB
  simpa using List.mem_of_getElem? hx

set_option maxHeartbeats 400000 in
theorem has_any (a : Option Addr) (n ca : Nat) (xs : List Int) (y : Int) (w : World) (ha : Row w a n xs) (hn : n ≤ 1048576) :
    Calls Try.prog 139 #[.slice a n ca, .int .i64 y] w fun e w' => e = .returned (.bool (hasB xs y)) ∧ w' = w := by
  go_enter Try.func139, Try.ntmps139
  go_wp2_with fail
  go_loop [9] (fun i => ∃ k : Nat, k ≤ n ∧ i = .int .i64 k ∧ Hid (hasB (xs.take k) y = false)) (fun i => n - (intOf i).toNat)
  case atStart => exact ⟨0, Nat.zero_le _, rfl, rfl⟩
  case round =>
    obtain ⟨k, hk, rfl, hu⟩ := hrel
    by_cases hlt : k < n
    · obtain ⟨b1, o1, x, rfl, hl1, hc1, H1⟩ := ha.at hlt
      clear ha
      by_cases he : x = y
      · subst he
        have HY := hide (hasB_yes H1.out)
        have hd : (x == x) = true := by simp
        clear H1 hu
        go_wp2_with fail
        go_ret
        exact ⟨ret_bool HY.out.symm, rfl⟩
      · have HU := hide (hasB_take hu.out H1.out he)
        have hd : (x == y) = false := by simp [he]
        clear H1 hu he
        go_wp2_with fail
        go_round
        case rel => exact ⟨k + 1, by omega, by go_num, HU⟩
        case measure => simp [intOf]; omega
    · have hk' : k = n := by omega
      subst hk'
      have HA : Hid (hasB xs y = false) := by have := hu.out; rwa [List.take_of_length_le (by have := ha.1; omega)] at this
      go_wp2_with fail
      go_ret
      exact ⟨ret_bool HA.out.symm, rfl⟩

def meetB (xs ys : List Int) : Bool := xs.any (hasB ys)

theorem meetB_take {xs ys : List Int} {k : Nat} {x : Int} (h : meetB (xs.take k) ys = false) (hx : xs[k]? = some x) (hne : hasB ys x = false) : meetB (xs.take (k + 1)) ys = false := by
  unfold meetB at *
  rw [List.take_add_one, hx, List.any_append, h]
  simp [hne]

theorem meetB_yes {xs ys : List Int} {k : Nat} {x : Int} (hx : xs[k]? = some x) (hy : hasB ys x = true) : meetB xs ys = true := by
  unfold meetB
  rw [List.any_eq_true]
  exact ⟨x, List.mem_of_getElem? hx, hy⟩

set_option maxHeartbeats 400000 in
theorem meet_any (a b : Option Addr) (n m ca cb : Nat) (xs ys : List Int) (w : World) (ha : Row w a n xs) (hb : Row w b m ys) (hn : n ≤ 1048576) (hm : m ≤ 1048576) :
    Calls Try.prog 80 #[.slice a n ca, .slice b m cb] w fun e w' => e = .returned (.bool (meetB xs ys)) ∧ w' = w := by
  have HH := hide (fun y => has_any b m cb ys y w hb hm)
  clear hb
  go_enter Try.func80, Try.ntmps80
  go_wp2_with fail
  go_loop [9] (fun i => ∃ k : Nat, k ≤ n ∧ i = .int .i64 k ∧ Hid (meetB (xs.take k) ys = false)) (fun i => n - (intOf i).toNat)
  case atStart => exact ⟨0, Nat.zero_le _, rfl, rfl⟩
  case round =>
    obtain ⟨k, hk, rfl, hu⟩ := hrel
    by_cases hlt : k < n
    · obtain ⟨b1, o1, x, rfl, hl1, hc1, H1⟩ := ha.at hlt
      clear ha
      by_cases he : hasB ys x = true
      · have HY := hide (meetB_yes H1.out he)
        clear H1 hu
        go_wp2_with (go_at_call 139; refine (HH.out _).mono ?_; rintro e w' ⟨rfl, rfl⟩)
        go_ret
        exact ⟨ret_bool HY.out.symm, rfl⟩
      · have he' : hasB ys x = false := by simpa using he
        have HU := hide (meetB_take hu.out H1.out he')
        clear H1 hu he
        go_wp2_with (go_at_call 139; refine (HH.out _).mono ?_; rintro e w' ⟨rfl, rfl⟩)
        go_round
        case rel => exact ⟨k + 1, by omega, by go_num, HU⟩
        case measure => simp [intOf]; omega
    · have hk' : k = n := by omega
      subst hk'
      have HA : Hid (meetB xs ys = false) := by have := hu.out; rwa [List.take_of_length_le (by have := ha.1; omega)] at this
      go_wp2_with fail
      go_ret
      exact ⟨ret_bool HA.out.symm, rfl⟩

set_option maxHeartbeats 400000 in
theorem same_any (a b : Option Addr) (n m ca cb : Nat) (xs ys : List Int) (w : World) (ha : Row w a n xs) (hb : Row w b m ys) (hn : n ≤ 1048576) :
    Calls Try.prog 81 #[.slice a n ca, .slice b m cb] w fun e w' => e = .returned (.bool (sameB xs ys)) ∧ ∃ q, w' = w.drewN q := by
  by_cases hnm : n = m
  · subst hnm
    have hne : ((n : Int) != (n : Int)) = false := by simp
    go_enter Try.func81, Try.ntmps81
    go_wp2
    clear hne
    go_loopw [13] (fun i wr => ∃ k : Nat, k ≤ n ∧ i = .int .i64 k ∧ Upto xs ys k ∧ ∃ q, wr = w.drewN q) (fun i _ => n - (intOf i).toNat)
    case atStart => exact ⟨0, Nat.zero_le _, rfl, rfl, 0, rfl⟩
    case round =>
      obtain ⟨k, hk, rfl, hu, q, rfl⟩ := hrel
      by_cases hlt : k < n
      · obtain ⟨b1, o1, x, rfl, hl1, hc1, H1⟩ := ha.at hlt
        obtain ⟨b2, o2, y, rfl, hl2, hc2, H2⟩ := hb.at hlt
        have hi1 : ((k : Int)) < ((n : Int)) := by omega
        clear ha hb
        by_cases he : x = y
        · subst he
          have HU := hu.step H1 H2
          clear hu H1 H2
          go_wp2
          go_quiet (fail)
          go_wp2
          go_roundw
          case rel => exact ⟨k + 1, by omega, by go_num, HU, _, rfl⟩
          case measure => simp [intOf]; omega
        · have HS := sameB_ne H1 H2 he
          have hd : (x != y) = true := by simp [he]
          clear hu H1 H2 he
          go_wp2
          go_quiet (fail)
          go_wp2
          go_ret
          exact ⟨ret_bool HS.symm, _, drewN_two w _ _⟩
      · have hx := ha.1
        have hy := hb.1
        have HS := hu.done (by omega) (by omega)
        go_wp2
        go_ret
        exact ⟨ret_bool HS.symm, _, rfl⟩
  · have hx := ha.1
    have hy := hb.1
    have HS := sameB_len (show xs.length ≠ ys.length by omega)
    have hne : ((n : Int) != (m : Int)) = true := by simp; omega
    clear ha hb hx hy
    go_enter Try.func81, Try.ntmps81
    go_wp2
    go_ret
    exact ⟨ret_bool HS.symm, 0, rfl⟩
end Go.Proofs.Ytdhnhpjcoeglmaa


/- l1Own: a list's own copy; l2Can, l2Fire and the specification's Fire, for every net and mark in memory. -/
namespace Go.Proofs.Ytdhnhpjcoeglmaa
open Go.RowKit

/-- A slice of n numbers from the head of the block g, in which there may be more room. -/
def OutR (w : World) (g n : Nat) (ys : List Int) : Prop :=
  ys.length = n ∧ ∃ cur, w.heap[g]? = some (.cells cur 3 (0, 0)) ∧ n ≤ cur.size ∧ ∀ i, i < n → cur[i]? = some (.int .i64 (ys.getD i 0))

theorem OutR.row {w : World} {g n : Nat} {ys : List Int} (h : OutR w g n ys) : Row w (some ⟨g, 0, none⟩) n ys := by
  obtain ⟨hl, cur, h1, h2, h3⟩ := h
  refine ⟨hl, .inr ⟨g, 0, rfl, (Array.getElem?_eq_some_iff.mp h1).1, fun i hi => ?_⟩⟩
  rw [cell_of_row w g (0 + i) _ _ _ h1, Nat.zero_add]
  exact h3 i hi

theorem OutR.grow {w w' : World} {g n : Nat} {ys : List Int} (h : OutR w g n ys) (hb : Below w.heap.size w w') : OutR w' g n ys := by
  obtain ⟨hl, cur, h1, h2, h3⟩ := h
  exact ⟨hl, cur, (hb.block g (Array.getElem?_eq_some_iff.mp h1).1).trans h1, h2, h3⟩

theorem OutR.set {w : World} {g n : Nat} {ys : List Int} (h : OutR w g n ys) (k : Nat) (hk : k < n) (x : Int) : OutR (w.setCell ⟨g, k, none⟩ (.int .i64 x)) g n (ys.set k x) := by
  obtain ⟨hl, cur, h1, h2, h3⟩ := h
  refine ⟨by simpa using hl, _, heap_setCell_same w g k cur _ _ h1, by simpa using h2, fun i hi => ?_⟩
  rw [Array.getElem?_setIfInBounds]
  by_cases e : k = i
  · subst e
    rw [if_pos rfl, if_pos (by omega)]
    simp [List.getD_eq_getElem?_getD, show k < ys.length by omega]
  · rw [if_neg e, h3 i hi]
    simp [List.getD_eq_getElem?_getD, e]

theorem outR_of_own {B : Nat} {w : World} {v : Value} {n : Nat} {l : List Int} (hown : w.ownsRow B 3 1 v n (l.map (Value.int .i64))) (hv : v ≠ .slice none 0 0) : ∃ g c, v = .slice (some ⟨g, 0, none⟩) n c ∧ B ≤ g ∧ n ≤ c ∧ OutR w g n l := by
  have hl : l.length = n := by have := hown.1; simpa using this
  rcases hown.2 with ⟨rfl, rfl⟩ | ⟨g, cap, cur, rfl, hb, hh, hnc, _, hsz, ht⟩
  · exact absurd rfl hv
  · refine ⟨g, cap, rfl, hb, hnc, hl, cur, hh, by omega, fun i hi => ?_⟩
    have e : (cur.toList.take (n * 1))[i]? = (l.map (Value.int .i64))[i]? := by rw [ht]
    rw [List.getElem?_take_of_lt (by omega), Array.getElem?_toList] at e
    rw [e]
    simp [List.getElem?_eq_getElem (show i < l.length by omega)]

theorem info_split {P : Program} {e : TypeId} {z : Value} {size bytes : Nat} (h : (P.info? e).map (fun i => (i.zero, i.size, i.bytes)) = some (some z, size, bytes)) : ∃ i, P.info? e = some i ∧ i.zero = some z ∧ i.size = size ∧ i.bytes = bytes := by
  obtain ⟨i, hi, hzz⟩ := Option.map_eq_some_iff.1 h
  simp only [Prod.mk.injEq] at hzz
  exact ⟨i, hi, hzz.1, hzz.2.1, hzz.2.2⟩

theorem Row.cells {w : World} {b off n : Nat} {xs : List Int} (h : Row w (some ⟨b, off, none⟩) n xs) : ∀ j u, (xs.map (Value.int .i64))[j]? = some u → w.cell? ((⟨b, off, none⟩ : Addr).add j) = some u := by
  intro j u hu
  rw [Addr.add_mid]
  simp only [List.getElem?_map, Option.map_eq_some_iff] at hu
  obtain ⟨x, hx, rfl⟩ := hu
  have hj := (List.getElem?_eq_some_iff.mp hx).1
  have hl := h.1
  obtain ⟨b1, o1, y, he, _, hc, H⟩ := h.at (show j < n by omega)
  simp only [Option.some.injEq, Addr.mk.injEq] at he
  obtain ⟨rfl, rfl, _⟩ := he
  rw [hc]
  have := H.out
  rw [hx] at this
  simp at this
  rw [this]

set_option maxHeartbeats 400000 in
theorem own_any (b off n ca : Nat) (xs : List Int) (w : World) (ha : Row w (some ⟨b, off, none⟩) n xs) (hn : n ≤ 1048576) :
    Calls Try.prog 67 #[.slice (some ⟨b, off, none⟩) n ca] w fun e w' => ∃ g c, e = .returned (.slice (some ⟨g, 0, none⟩) n c) ∧ w.heap.size ≤ g ∧ n ≤ c ∧ OutR w' g n xs ∧ Below w.heap.size w w' := by
  obtain ⟨i0, hi, hz0, hz1, hz2⟩ := info_split Try.info3
  have HA := hide ha
  have HL := hide ha.1
  clear ha
  have HW := hide (HA.out.alloc (.cells #[] 3))
  have HO : Hid ((w.alloc (.cells #[] 3)).ownsRow w.heap.size 3 1 (.slice (some ⟨w.heap.size, 0, none⟩) 0 0) 0 []) :=
    ⟨rfl, .inr ⟨w.heap.size, 0, #[], rfl, Nat.le_refl _, heap_alloc_new _ _, Nat.le_refl _, Nat.zero_le _, rfl, rfl⟩⟩
  have HN := hide (show (xs.map (Value.int .i64)).length = n * 1 by rw [List.length_map, Nat.mul_one]; exact HL.out)
  have H1 := hide (show ∀ u ∈ xs.map (Value.int .i64), u.oneCell' = true by intro u hu; simp at hu; obtain ⟨x, _, rfl⟩ := hu; rfl)
  have HX := hide (show 0 + n ≤ maxLen by unfold maxLen; omega)
  have HY := hide (show (0 + n) * 8 ≤ 140737488355328 by omega)
  have HZ := hide (show w.heap.size ≤ (w.alloc (.cells #[] 3)).heap.size by simp)
  go_enter Try.func67, Try.ntmps67
  go_wp2_with (refine wpList_append_own _ rfl (.tmp 3) (.tmp 4) 31 rfl w.heap.size 3 i0 (.int .i64 0) 1 8 Try.underlying31 hi hz0 hz1 hz2 rfl (by decide) (.slice (some ⟨w.heap.size, 0, none⟩) 0 0) 0 [] rfl HO.out ⟨b, off, none⟩ n ca (xs.map (Value.int .i64)) rfl HN.out HW.out.cells H1.out HX.out HY.out HZ.out ?_; intro v' W' r1 r2 r3)
  go_ret
  rw [Nat.zero_add, List.nil_append] at r1
  obtain ⟨g, c, rfl, hg, hc, hout⟩ := outR_of_own r1 (fun e => by have := (r3.mp e).1; simp at this)
  exact ⟨g, c, rfl, hg, hc, hout, (below_al w _).grown r2 (by simp) (fun k hk => by simp [Value.ownBlock] at hk; omega)⟩

def canB (x0 ys : List Int) : Bool := x0.all fun p => !decide (ys.getD p.toNat 0 = 0)

theorem canB_take {xs ys : List Int} {k : Nat} {x : Int} (h : canB (xs.take k) ys = true) (hx : xs[k]? = some x) (hne : ¬ ys.getD x.toNat 0 = 0) : canB (xs.take (k + 1)) ys = true := by
  unfold canB at *
  rw [List.take_add_one, hx, List.all_append, h]
  simpa [List.getD_eq_getElem?_getD] using hne

theorem canB_no {xs ys : List Int} {k : Nat} {x : Int} (hx : xs[k]? = some x) (he : ys.getD x.toNat 0 = 0) : canB xs ys = false := by
  unfold canB
  rw [List.all_eq_false]
  exact ⟨x, List.mem_of_getElem? hx, by simpa [List.getD_eq_getElem?_getD] using he⟩

set_option maxHeartbeats 400000 in
theorem can_any (a0 a1 a2 am : Option Addr) (n0 n1 n2 c0 c1 c2 nm cm : Nat) (x0 ys : List Int) (w : World) (r0 : Row w a0 n0 x0) (rm : Row w am nm ys) (h0 : n0 ≤ 1048576) (hin : ∀ x ∈ x0, 0 ≤ x ∧ x < nm) :
    Calls Try.prog 180 #[.agg #[.slice a0 n0 c0, .slice a1 n1 c1, .slice a2 n2 c2], .slice am nm cm] w fun e w' => e = .returned (.bool (canB x0 ys)) ∧ Below w.heap.size w w' := by
  have hAl := below_al w (.cells #[.slice a0 n0 c0, .slice a1 n1 c1, .slice a2 n2 c2] 78)
  have R0 := hide (r0.below hAl)
  have RM := hide (rm.below hAl)
  have HIN := hide hin
  have HB := hide hAl
  clear r0 rm hAl hin
  go_enter Try.func180, Try.ntmps180
  go_wp2_with fail
  generalize w.alloc (.cells #[.slice a0 n0 c0, .slice a1 n1 c1, .slice a2 n2 c2] 78) = v at *
  go_loop [10] (fun i => ∃ k : Nat, k ≤ n0 ∧ i = .int .i64 k ∧ Hid (canB (x0.take k) ys = true)) (fun i => n0 - (intOf i).toNat)
  case atStart => exact ⟨0, Nat.zero_le _, rfl, rfl⟩
  case round =>
    obtain ⟨k, hk, rfl, hu⟩ := hrel
    by_cases hlt : k < n0
    rotate_left
    · have hk' : k = n0 := by omega
      subst hk'
      have HA : Hid (canB x0 ys = true) := by have := hu.out; rwa [List.take_of_length_le (by have := R0.out.1; omega)] at this
      go_wp2_with fail
      go_ret
      exact ⟨ret_bool HA.out.symm, HB.out⟩
    obtain ⟨b1, o1, x, rfl, hl1, hc1, H1⟩ := R0.out.at hlt
    obtain ⟨hx0, hx1⟩ := HIN.out x (List.mem_of_getElem? H1.out)
    obtain ⟨j, rfl⟩ : ∃ j : Nat, x = (j : Int) := ⟨x.toNat, by omega⟩
    obtain ⟨b2, o2, y, rfl, hl2, hc2, H2⟩ := RM.out.at (show j < nm by omega)
    have hy : ys.getD (j : Int).toNat 0 = y := by rw [Int.toNat_natCast, List.getD_eq_getElem?_getD, H2.out]; rfl
    by_cases he : y = 0
    · have HN := hide (canB_no H1.out (hy.trans he))
      subst he
      clear hy hu H1 H2
      go_wp2_with fail
      go_ret
      exact ⟨ret_bool HN.out.symm, HB.out⟩
    · have HU := hide (canB_take hu.out H1.out (by rw [hy]; exact he))
      clear hy hu H1 H2
      go_wp2_with fail
      go_round
      case rel => exact ⟨k + 1, by omega, by go_num, HU⟩
      case measure => simp [intOf]; omega
end Go.Proofs.Ytdhnhpjcoeglmaa
