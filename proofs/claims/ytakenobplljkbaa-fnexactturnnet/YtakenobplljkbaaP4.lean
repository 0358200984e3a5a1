/- Contracts that the proof stands on, one behind the other. -/
import Derived.Test.YtakenobplljkbaaP3
import Derived.Deep.RegionHeld3
/- HasResets of the program: slices.ContainsFunc over its steps. -/
namespace Go.Proofs.Ytakenobplljkbaa
open Go.RowKit

theorem PartS.at3 {w : World} {B n k : Nat} {L : List (List Int)} (h : PartS w B (3 * n) (3 * n) L) (hk : k < n) :
    w.cell? ⟨B, k * 3, none⟩ = some (.int .u16 (maskL (L.getD (3 * k) []) : Int)) ∧ w.cell? ⟨B, k * 3 + 1, none⟩ = some (.int .u16 (maskL (L.getD (3 * k + 1) []) : Int)) ∧ w.cell? ⟨B, k * 3 + 2, none⟩ = some (.int .u16 (maskL (L.getD (3 * k + 2) []) : Int)) := by
  obtain ⟨C, h1, h2, h3⟩ := h
  refine ⟨?_, ?_, ?_⟩
  · rw [cell_of_row w B _ C _ _ h1, Nat.mul_comm]; exact h3 _ (by omega)
  · rw [cell_of_row w B _ C _ _ h1, Nat.mul_comm]; exact h3 _ (by omega)
  · rw [cell_of_row w B _ C _ _ h1, Nat.mul_comm]; exact h3 _ (by omega)

set_option maxHeartbeats 400000 in
theorem empties_any (s0 s1 s2 : Nat) (w : World) :
    Calls Try.prog 65 #[.agg #[.int .u16 (s0 : Int), .int .u16 (s1 : Int), .int .u16 (s2 : Int)]] w fun e w' => e = .returned (.bool (!decide (s2 = 0))) ∧ Below w.heap.size w w' := by
  by_cases h : s2 = 0
  · subst h
    go_enter Try.func65, Try.ntmps65
    go_wp2_with fail
    go_ret
    exact ⟨rfl, below_al _ _⟩
  · have hd : ((s2 : Int) != 0) = true := by simp; omega
    have HB := hide (show (!decide (s2 = 0)) = true by simp [h])
    clear h
    go_enter Try.func65, Try.ntmps65
    go_wp2_with fail
    go_ret
    exact ⟨ret_bool HB.out.symm, below_al _ _⟩

def resM (n : Nat) (L : List (List Int)) : Bool := (List.range n).any fun i => !decide (maskL (L.getD (3 * i + 2) []) = 0)

theorem resM_yes {n k : Nat} {L : List (List Int)} (hk : k < n) (h : (!decide (maskL (L.getD (3 * k + 2) []) = 0)) = true) : resM n L = true := by
  unfold resM
  rw [List.any_eq_true]
  exact ⟨k, by simpa using hk, h⟩

theorem resM_step {k : Nat} {L : List (List Int)} (h : resM k L = false) (he : (!decide (maskL (L.getD (3 * k + 2) []) = 0)) = false) : resM (k + 1) L = false := by
  unfold resM at *
  rw [List.range_succ, List.any_append, h]
  simp only [List.any_cons, List.any_nil, Bool.or_false, he]

/-- Where the first one is that empties a place, or -1. -/
def IdxEnd (n : Nat) (L : List (List Int)) (w : World) (e : Ending) (w' : World) : Prop := ∃ z : Int, e = .returned (.int .i64 z) ∧ Hid (decide (0 ≤ z) = resM n L) ∧ Below w.heap.size w w'

set_option maxHeartbeats 1000000 in
theorem index_any (B n : Nat) (L : List (List Int)) (w : World) (h : PartS w B (3 * n) (3 * n) L) (hn : n ≤ 24) :
    Calls Try.prog 74 #[.slice (some ⟨B, 0, none⟩) n n, .func (.func 65) #[] #[]] w fun e w' => IdxEnd n L w e w' := by
  have HP := hide h
  clear h
  go_enter Try.func74, Try.ntmps74
  go_wp2_with fail
  go_loopw [8] (fun i wr => ∃ k : Nat, k ≤ n ∧ i = .int .i64 k ∧ Hid (resM k L = false) ∧ Hid (Below w.heap.size w wr)) (fun i _ => n - (intOf i).toNat)
  case atStart => exact ⟨0, Nat.zero_le _, rfl, rfl, Below.refl _ _⟩
  case round =>
    obtain ⟨k, hk, rfl, hu, hbw⟩ := hrel
    by_cases hlt : k < n
    rotate_left
    · have hk' : k = n := by omega
      subst hk'
      have HE : Hid (IdxEnd k L w (.returned (.int .i64 (-1))) wr) := ⟨-1, rfl, by rw [hu.out]; rfl, hbw.out⟩
      go_wp2_with fail
      go_ret
      exact HE.out
    obtain ⟨hc0, hc1, hc2⟩ := (HP.out.grow hbw.out).at3 hlt
    have HH := hide (empties_any (maskL (L.getD (3 * k) [])) (maskL (L.getD (3 * k + 1) [])) (maskL (L.getD (3 * k + 2) [])) wr)
    cases hh : !decide (maskL (L.getD (3 * k + 2) []) = 0)
    · have HU := hide (resM_step hu.out hh)
      rw [hh] at HH
      clear hh hu
      generalize maskL (L.getD (3 * k) []) = s0 at *
      generalize maskL (L.getD (3 * k + 1) []) = s1 at *
      generalize maskL (L.getD (3 * k + 2) []) = s2 at *
      go_wp2_with fail
      refine HH.out.mono ?_
      rintro e w1 ⟨rfl, hb⟩
      have HB := hide (hbw.out.trans (hb.mono hbw.out.size))
      clear hb HH hc0 hc1 hc2
      go_wp2_with fail
      go_roundw
      case rel => exact ⟨k + 1, by omega, by go_num, HU, HB⟩
      case measure => simp [intOf]; omega
    · have HY := hide (resM_yes hlt hh)
      rw [hh] at HH
      clear hh hu
      generalize maskL (L.getD (3 * k) []) = s0 at *
      generalize maskL (L.getD (3 * k + 1) []) = s1 at *
      generalize maskL (L.getD (3 * k + 2) []) = s2 at *
      go_wp2_with fail
      refine HH.out.mono ?_
      rintro e w1 ⟨rfl, hb⟩
      have HE : Hid (IdxEnd n L w (.returned (.int .i64 (k : Int))) w1) := ⟨k, rfl, by rw [HY.out]; simp [Hid], hbw.out.trans (hb.mono hbw.out.size)⟩
      clear hb HH hc0 hc1 hc2
      go_wp2_with fail
      go_ret
      exact HE.out

set_option maxHeartbeats 400000 in
theorem contains_any (B n : Nat) (L : List (List Int)) (w : World) (h : PartS w B (3 * n) (3 * n) L) (hn : n ≤ 24) :
    Calls Try.prog 54 #[.slice (some ⟨B, 0, none⟩) n n, .func (.func 65) #[] #[]] w fun e w' => e = .returned (.bool (resM n L)) ∧ Below w.heap.size w w' := by
  have HI := hide (index_any B n L w h hn)
  clear h
  go_enter Try.func54, Try.ntmps54
  go_wp2_with fail
  refine HI.out.mono ?_
  rintro e w1 ⟨z, rfl, hz, hb⟩
  have HB := hide hb
  clear hb HI
  go_wp2_with fail
  go_ret
  exact ⟨ret_bool hz.out, HB.out⟩

theorem res_eq {p : Int} {n : Nat} {L : List (List Int)} (h : netOk p n L = true) : resM n L = resB n L := by
  have key : ∀ i, i < n → (!decide (maskL (L.getD (3 * i + 2) []) = 0)) = !(L.getD (3 * i + 2) []).isEmpty := by
    intro i hi
    unfold netOk at h
    rw [Bool.and_eq_true] at h
    have ht := List.all_eq_true.mp h.2 i (by simpa using hi)
    unfold triOk at ht
    simp only [Bool.and_eq_true] at ht
    have hz := maskL_zero (fun x hx => (riseB_mem ht.2 x hx).1)
    by_cases e : L.getD (3 * i + 2) [] = []
    · rw [e]; rfl
    · have : ¬ maskL (L.getD (3 * i + 2) []) = 0 := fun q => e (hz.mp q)
      rw [decide_eq_false this]
      cases hq : L.getD (3 * i + 2) []
      · exact absurd hq e
      · rfl
  unfold resM resB
  rw [Bool.eq_iff_iff, List.any_eq_true, List.any_eq_true]
  constructor
  · rintro ⟨i, hi, hh⟩; exact ⟨i, hi, by rw [← key i (by simpa using hi)]; exact hh⟩
  · rintro ⟨i, hi, hh⟩; exact ⟨i, hi, by rw [key i (by simpa using hi)]; exact hh⟩

end Go.Proofs.Ytakenobplljkbaa


/- What the program's TurnNet keeps in mind while it fills the turned net. -/
namespace Go.Proofs.Ytakenobplljkbaa
open Go.RowKit

/-- The lists of the turned net, as far as k transitions. -/
def turnF (L : List (List Int)) (k j : Nat) : List Int :=
  if j < 3 * k then (if j % 3 = 0 then L.getD (j + 1) [] else if j % 3 = 1 then L.getD (j - 1) [] else []) else []

theorem turnF_old {L : List (List Int)} {k j : Nat} (h : j < 3 * k) : turnF L (k + 1) j = turnF L k j := by
  unfold turnF; rw [if_pos h, if_pos (by omega)]
theorem turnF_far {L : List (List Int)} {k j : Nat} (h : 3 * k ≤ j) : turnF L k j = [] := by
  unfold turnF; rw [if_neg (by omega)]
theorem turnF_0 (L : List (List Int)) (k : Nat) : turnF L (k + 1) (3 * k) = L.getD (3 * k + 1) [] := by
  unfold turnF; rw [if_pos (by omega), if_pos (by omega)]
theorem turnF_1 (L : List (List Int)) (k : Nat) : turnF L (k + 1) (3 * k + 1) = L.getD (3 * k) [] := by
  unfold turnF; rw [if_pos (by omega), if_neg (by omega), if_pos (by omega)]; rfl
theorem turnF_2 (L : List (List Int)) (k : Nat) : turnF L (k + 1) (3 * k + 2) = [] := by
  unfold turnF; rw [if_pos (by omega), if_neg (by omega), if_neg (by omega)]

theorem PartG.room {w : World} {B lo hi hi' n : Nat} {T : TypeId} {M : Nat → List Int} (h : PartG w B lo hi n T M) (hh : hi ≤ hi') : PartG w B lo hi' n T M := by
  obtain ⟨C, A, f, cap, h1, h2, h3, h4⟩ := h
  refine ⟨C, A, f, cap, h1, h2, fun j hj => ?_, h4⟩
  obtain ⟨e1, e2, e3⟩ := h3 j hj
  exact ⟨e1, e2, fun hm => ⟨(e3 hm).1, by have := (e3 hm).2.1; omega, (e3 hm).2.2⟩⟩

theorem Ob.set_far {w : World} {a : Option Addr} {b n : Nat} {xs : List Int} (h : Ob w a b n xs) {B o : Nat} {v0 v1 v2 : Value} (hb : xs ≠ [] → b ≠ B) : Ob (w.setCells B o [v0, v1, v2]) a b n xs := by
  rcases h with ⟨h1, h0 | ⟨e, cur, q1, q2, q3⟩⟩
  · exact ⟨h1, .inl h0⟩
  · by_cases hx : xs = []
    · subst hx; exact ⟨h1, .inl (by rw [← h1]; rfl)⟩
    · exact ⟨h1, .inr ⟨e, cur, (heap_set3_other _ _ _ _ _ _ _ (hb hx)).trans q1, q2, q3⟩⟩

theorem PartG.put3 {w : World} {B lo hi mid hi' n k b1 b2 m1 m2 c1 c2 : Nat} {T : TypeId} {L : List (List Int)} {a1 a2 : Option Addr} {X1 X2 : List Int} (h : PartG w B lo hi (3 * n) T (turnF L k)) (hk : k < n)
    (o1 : Ob w a1 b1 m1 X1) (o2 : Ob w a2 b2 m2 X2) (e1 : X1 = L.getD (3 * k + 1) []) (e2 : X2 = L.getD (3 * k) []) (hlo : lo ≤ hi) (hB : B < hi) (g1 : hi ≤ b1) (g1' : X1 ≠ [] → b1 < mid) (g2 : mid ≤ b2) (g2' : X2 ≠ [] → b2 < hi') (hm : hi ≤ mid) (hm' : mid ≤ hi') :
    PartG (w.setCells B (k * 3) [.slice a1 m1 c1, .slice a2 m2 c2, .slice none 0 0]) B lo hi' (3 * n) T (turnF L (k + 1)) := by
  obtain ⟨C, A, f, cap, h1, h2, h3, h4⟩ := h
  have hl1 := o1.1
  have hl2 := o2.1
  refine ⟨_, fun j => if j = 3 * k then a1 else if j = 3 * k + 1 then a2 else if j = 3 * k + 2 then none else A j, fun j => if j = 3 * k then b1 else if j = 3 * k + 1 then b2 else f j, fun j => if j = 3 * k then c1 else if j = 3 * k + 1 then c2 else if j = 3 * k + 2 then 0 else cap j, heap_set3_same h1 _ _ _, by simp [h2], fun j hj => ?_, fun i j hij hj hi0 hj0 => ?_⟩
  · by_cases j0 : j = 3 * k
    · subst j0
      simp only [if_true]
      rw [turnF_0, ← e1, hl1]
      refine ⟨?_, o1.set_far (fun _ => by omega), fun hx => ⟨by omega, by have := g1' hx; omega, by omega⟩⟩
      rw [Array.getElem?_setIfInBounds_ne (by omega), Array.getElem?_setIfInBounds_ne (by omega), Array.getElem?_setIfInBounds, if_pos (by omega), if_pos (by omega)]
    · by_cases j1 : j = 3 * k + 1
      · subst j1
        simp only [if_neg j0, if_true]
        rw [turnF_1, ← e2, hl2]
        refine ⟨?_, o2.set_far (fun _ => by omega), fun hx => ⟨by omega, by have := g2' hx; omega, by omega⟩⟩
        rw [Array.getElem?_setIfInBounds_ne (by omega), Array.getElem?_setIfInBounds, if_pos (by omega), if_pos (by simp; omega)]
      · by_cases j2 : j = 3 * k + 2
        · subst j2
          simp only [if_neg j0, if_neg j1, if_true]
          rw [turnF_2]
          refine ⟨?_, ⟨rfl, .inl rfl⟩, fun hx => absurd rfl hx⟩
          rw [Array.getElem?_setIfInBounds, if_pos (by omega), if_pos (by simp; omega)]
          rfl
        · simp only [if_neg j0, if_neg j1, if_neg j2]
          obtain ⟨q1, q2, q3⟩ := h3 j hj
          have hold : turnF L (k + 1) j = turnF L k j := by
            by_cases hlt : j < 3 * k
            · exact turnF_old hlt
            · rw [turnF_far (by omega), turnF_far (by omega)]
          rw [hold]
          refine ⟨?_, q2.set_far (fun hx => (q3 hx).2.2), fun hx => ⟨(q3 hx).1, by have := (q3 hx).2.1; omega, (q3 hx).2.2⟩⟩
          rw [Array.getElem?_setIfInBounds_ne (by omega), Array.getElem?_setIfInBounds_ne (by omega), Array.getElem?_setIfInBounds_ne (by omega)]
          exact q1
  · have jlt : j < 3 * k + 2 := by
      by_cases hc : j < 3 * k + 2
      · exact hc
      · exfalso
        by_cases j2 : j = 3 * k + 2
        · subst j2; exact hj0 (turnF_2 L k)
        · exact hj0 (turnF_far (by omega))
    by_cases j0 : j = 3 * k
    · subst j0
      simp only [if_neg (show i ≠ 3 * k by omega), if_neg (show i ≠ 3 * k + 1 by omega), if_true]
      rw [turnF_old hij] at hi0
      have := (h3 i (by omega)).2.2 hi0
      omega
    · by_cases j1 : j = 3 * k + 1
      · subst j1
        simp only [if_neg j0, if_true]
        by_cases i0 : i = 3 * k
        · subst i0
          simp only [if_true]
          rw [turnF_0, ← e1] at hi0
          have := g1' hi0
          omega
        · simp only [if_neg i0, if_neg (show i ≠ 3 * k + 1 by omega)]
          rw [turnF_old (by omega)] at hi0
          have := (h3 i (by omega)).2.2 hi0
          omega
      · simp only [if_neg j0, if_neg j1, if_neg (show i ≠ 3 * k by omega), if_neg (show i ≠ 3 * k + 1 by omega)]
        rw [turnF_old (by omega)] at hi0 hj0
        exact h4 i j hij hj hi0 hj0

theorem madeNil3 (n j : Nat) (h : j < 3 * n) : (madeCells #[.slice none 0 0, .slice none 0 0, .slice none 0 0] (n * 3))[j]? = some (.slice none 0 0) := by
  have hj : j < n * 3 := by omega
  simp only [madeCells, Array.getElem?_map, Array.getElem?_range, hj, if_true]
  have h3 : j % 3 = 0 ∨ j % 3 = 1 ∨ j % 3 = 2 := by omega
  rcases h3 with e | e | e <;> simp [e]

/-- The world in which the loop stands: the variable, the net that is being filled. -/
structure TuInv (w3 wr : World) (V M : Nat) (p : Int) (n k : Nat) (L : List (List Int)) : Prop where
  var : wr.heap[V]? = some (.cells #[.int .i64 p, .slice (some ⟨M, 0, none⟩) n n] 28 (0, 0))
  part : PartG wr M w3.heap.size wr.heap.size (3 * n) 50 (turnF L k)
  bel : Below w3.heap.size w3 wr
  ne : V ≠ M
  hV : w3.heap.size ≤ V
  hM : w3.heap.size ≤ M

theorem TuInv.grow {w3 wr v : World} {V M : Nat} {p : Int} {n k : Nat} {L : List (List Int)} (h : TuInv w3 wr V M p n k L) (hb : Below wr.heap.size wr v) : TuInv w3 v V M p n k L :=
  ⟨(hb.block _ (Array.getElem?_eq_some_iff.mp h.var).1).trans h.var, (h.part.grow hb).room hb.size, h.bel.trans (hb.mono h.bel.size), h.ne, h.hV, h.hM⟩

theorem TuInv.ltM {w3 wr : World} {V M : Nat} {p : Int} {n k : Nat} {L : List (List Int)} (h : TuInv w3 wr V M p n k L) : M < wr.heap.size := by
  obtain ⟨C, A, f, cap, h1, _⟩ := h.part
  exact (Array.getElem?_eq_some_iff.mp h1).1

theorem TuInv.there {w3 wr : World} {V M : Nat} {p : Int} {n k : Nat} {L : List (List Int)} (h : TuInv w3 wr V M p n k L) {i : Nat} (hi : i < n) :
    ∃ u0 u1 u2, wr.cell? ⟨M, i * 3, none⟩ = some u0 ∧ wr.cell? ⟨M, i * 3 + 1, none⟩ = some u1 ∧ wr.cell? ⟨M, i * 3 + 2, none⟩ = some u2 ∧ wr.frozen? ⟨M, i * 3, none⟩ = false ∧ wr.frozen? ⟨M, i * 3 + 1, none⟩ = false ∧ wr.frozen? ⟨M, i * 3 + 2, none⟩ = false := by
  obtain ⟨C, A, f, cap, h1, h2, _⟩ := h.part
  refine ⟨C[i * 3]'(by omega), C[i * 3 + 1]'(by omega), C[i * 3 + 2]'(by omega), ?_, ?_, ?_, frozen_of_row _ _ _ C _ h1, frozen_of_row _ _ _ C _ h1, frozen_of_row _ _ _ C _ h1⟩
  · rw [cell_of_row _ M _ C _ _ h1, Array.getElem?_eq_getElem (by omega)]
  · rw [cell_of_row _ M _ C _ _ h1, Array.getElem?_eq_getElem (by omega)]
  · rw [cell_of_row _ M _ C _ _ h1, Array.getElem?_eq_getElem (by omega)]

theorem TuInv.step {w3 wr v1 v2 : World} {V M : Nat} {p : Int} {n k : Nat} {L : List (List Int)} (h : TuInv w3 wr V M p n k L) (hk : k < n) {a1 a2 : Option Addr} {b1 b2 m1 m2 c1 c2 : Nat} {X1 X2 : List Int}
    (hb1 : Below wr.heap.size wr v1) (g1 : wr.heap.size ≤ b1) (o1 : Ob v1 a1 b1 m1 X1) (hb2 : Below v1.heap.size v1 v2) (g2 : v1.heap.size ≤ b2) (o2 : Ob v2 a2 b2 m2 X2) (e1 : X1 = L.getD (3 * k + 1) []) (e2 : X2 = L.getD (3 * k) []) :
    TuInv w3 (v2.setCells M (k * 3) [.slice a1 m1 c1, .slice a2 m2 c2, .slice none 0 0]) V M p n (k + 1) L := by
  have hg := (h.grow hb1).grow hb2
  have hlt : ∀ {w : World} {a : Option Addr} {b m : Nat} {X : List Int}, Ob w a b m X → X ≠ [] → b < w.heap.size := by
    intro w a b m X ho hx
    rcases ho with ⟨q, h0 | ⟨_, cur, hh, _⟩⟩
    · exact absurd (List.length_eq_zero_iff.mp (q.trans h0)) hx
    · exact (Array.getElem?_eq_some_iff.mp hh).1
  refine ⟨(heap_set3_other _ _ _ _ _ _ _ h.ne).trans hg.var, ?_, below_set3 hg.bel h.hM _ _ _ _, h.ne, h.hV, h.hM⟩
  rw [size_set3]
  exact ((h.part.grow hb1).grow hb2).put3 hk (o1.grow hb2) o2 e1 e2 h.bel.size h.ltM g1 (hlt o1) g2 (hlt o2) hb1.size hb2.size
end Go.Proofs.Ytakenobplljkbaa


/- TurnNet of the program. -/
namespace Go.Proofs.Ytakenobplljkbaa
open Go.RowKit

def turnL (n : Nat) (L : List (List Int)) : List (List Int) := (List.range (3 * n)).map (turnF L n)

theorem turnL_get (n : Nat) (L : List (List Int)) : (fun j => (turnL n L).getD j []) = turnF L n := by
  funext j
  unfold turnL
  by_cases h : j < 3 * n
  · simp [List.getD_eq_getElem?_getD, h]
  · rw [turnF_far (by omega)]
    simp [List.getD_eq_getElem?_getD, h]

theorem riseB_len {xs : List Int} {lo hi : Int} (h : riseB xs lo hi = true) : xs ≠ [] → (xs.length : Int) ≤ hi + 1 - lo := by
  induction xs generalizing lo with
  | nil => intro hx; exact absurd rfl hx
  | cons x r ih =>
    intro _
    simp [riseB] at h
    by_cases hr : r = []
    · subst hr; simp; omega
    · have := ih h.2 hr
      simp; omega

theorem turnL_len (n : Nat) (L : List (List Int)) : (turnL n L).length = 3 * n := by simp [turnL]

theorem getLen16 {p : Int} {n : Nat} {L : List (List Int)} (h : netOk p n L = true) (j : Nat) (hj : j < 3 * n) : (L.getD j []).length ≤ 16 := by
  unfold netOk at h
  simp only [Bool.and_eq_true] at h
  have hp : p ≤ 16 := by have := h.1.1; unfold inB at this; simp at this; omega
  have ht := List.all_eq_true.mp h.2 (j / 3) (by simp; omega)
  unfold triOk at ht
  simp only [Bool.and_eq_true] at ht
  have key : ∀ xs, riseB xs 0 (p - 1) = true → xs.length ≤ 16 := by
    intro xs hx
    by_cases he : xs = []
    · subst he; simp
    · have := riseB_len hx he; omega
  have h3 : j = 3 * (j / 3) ∨ j = 3 * (j / 3) + 1 ∨ j = 3 * (j / 3) + 2 := by omega
  rcases h3 with e | e | e
  · rw [e]; exact key _ ht.1.1.2
  · rw [e]; exact key _ ht.1.2
  · rw [e]; exact key _ ht.2

theorem sum16 (l : List Nat) (h : ∀ x ∈ l, x ≤ 16) : l.sum ≤ 16 * l.length := by
  induction l with
  | nil => simp
  | cons x r ih =>
    have h1 := h x (by simp)
    have h2 := ih fun y hy => h y (by simp [hy])
    simp only [List.sum_cons, List.length_cons]; omega

theorem turnL_size {p : Int} {n : Nat} {L : List (List Int)} (h : netOk p n L = true) : sizeN n (turnL n L) ≤ 1048576 := by
  have hn := netN h
  have : sizeL (turnL n L) ≤ 16 * (3 * n) := by
    unfold sizeL
    have := sum16 ((turnL n L).map List.length) (by
      intro x hx
      simp only [turnL, List.map_map, List.mem_map, List.mem_range, Function.comp] at hx
      obtain ⟨j, hj, rfl⟩ := hx
      unfold turnF
      rw [if_pos hj]
      by_cases e0 : j % 3 = 0
      · rw [if_pos e0]; exact getLen16 h _ (by omega)
      · rw [if_neg e0]
        by_cases e1 : j % 3 = 1
        · rw [if_pos e1]; exact getLen16 h _ (by omega)
        · rw [if_neg e1]; simp)
    simpa [turnL_len] using this
  unfold sizeN; omega

def turnOk (p : Int) (n : Nat) (L : List (List Int)) : Bool := netOk p n L && !resB n L && netOk p n (turnL n L)

/-- How TurnNet ends. -/
def TuEnd (g : Bool) (p : Int) (n : Nat) (L : List (List Int)) (w : World) (e : Ending) (w' : World) : Prop :=
  ∃ (a : Option Addr) (B lo hi c : Nat), e = .returned (.tuple #[.agg #[.int .i64 (if g then p else 0), .slice a (if g then n else 0) c], .bool g]) ∧ (g = true → NetG w' a B lo hi n (turnF L n)) ∧ w.heap.size ≤ B ∧ w.heap.size ≤ lo ∧ hi ≤ w'.heap.size ∧ Below w.heap.size w w'

theorem tuEnd_no {p : Int} {n : Nat} {L : List (List Int)} {w w' : World} (hb : Below w.heap.size w w') : TuEnd false p n L w (.returned (.tuple #[.agg #[.int .i64 0, .slice none 0 0], .bool false])) w' :=
  ⟨none, w.heap.size, w.heap.size, 0, 0, rfl, fun h => by simp at h, Nat.le_refl _, Nat.le_refl _, Nat.zero_le _, hb⟩

/-- Cells that a later world still has. -/
theorem keep3 {W W' : World} {a1 a2 a3 : Addr} {v1 v2 v3 : Value} (hb : Below W.heap.size W W') (h : W.cell? a1 = some v1 ∧ W.cell? a2 = some v2 ∧ W.cell? a3 = some v3) : W'.cell? a1 = some v1 ∧ W'.cell? a2 = some v2 ∧ W'.cell? a3 = some v3 :=
  ⟨(hb.cell (World.block_lt_of_cell? _ _ h.1)).trans h.1, (hb.cell (World.block_lt_of_cell? _ _ h.2.1)).trans h.2.1, (hb.cell (World.block_lt_of_cell? _ _ h.2.2)).trans h.2.2⟩

theorem keep3_set {W : World} {M o0 o1 o2 b1 b2 b3 x1 x2 x3 : Nat} {v1 v2 v3 u0 u1 u2 : Value} (h1 : b1 ≠ M) (h2 : b2 ≠ M) (h3 : b3 ≠ M) (h : W.cell? ⟨b1, x1, none⟩ = some v1 ∧ W.cell? ⟨b2, x2, none⟩ = some v2 ∧ W.cell? ⟨b3, x3, none⟩ = some v3) :
    (((W.setCell ⟨M, o0, none⟩ u0).setCell ⟨M, o1, none⟩ u1).setCell ⟨M, o2, none⟩ u2).cell? ⟨b1, x1, none⟩ = some v1 ∧ (((W.setCell ⟨M, o0, none⟩ u0).setCell ⟨M, o1, none⟩ u1).setCell ⟨M, o2, none⟩ u2).cell? ⟨b2, x2, none⟩ = some v2 ∧ (((W.setCell ⟨M, o0, none⟩ u0).setCell ⟨M, o1, none⟩ u1).setCell ⟨M, o2, none⟩ u2).cell? ⟨b3, x3, none⟩ = some v3 := by
  have far : ∀ (b x : Nat), b ≠ M → (((W.setCell ⟨M, o0, none⟩ u0).setCell ⟨M, o1, none⟩ u1).setCell ⟨M, o2, none⟩ u2).cell? ⟨b, x, none⟩ = W.cell? ⟨b, x, none⟩ := fun b x hb => by
    rw [World.cell?_setCell_far _ _ _ _ (fun e => hb e.symm), World.cell?_setCell_far _ _ _ _ (fun e => hb e.symm), World.cell?_setCell_far _ _ _ _ (fun e => hb e.symm)]
  exact ⟨(far _ _ h1).trans h.1, (far _ _ h2).trans h.2.1, (far _ _ h3).trans h.2.2⟩

theorem PartG.high {w w' : World} {B lo hi n D : Nat} {T : TypeId} {M : Nat → List Int} (h : PartG w B lo hi n T M) (hh : ∀ k, D ≤ k → w'.heap[k]? = w.heap[k]?) (hB : D ≤ B) (hlo : D ≤ lo) : PartG w' B lo hi n T M := by
  obtain ⟨C, A, f, cap, h1, h2, h3, h4⟩ := h
  refine ⟨C, A, f, cap, (hh B hB).trans h1, h2, fun j hj => ?_, h4⟩
  obtain ⟨e1, e2, e3⟩ := h3 j hj
  refine ⟨e1, ?_, e3⟩
  by_cases he : M j = []
  · rw [he]; exact ⟨rfl, .inl rfl⟩
  · rcases e2 with ⟨q, h0 | ⟨e, cur, q1, q2, q3⟩⟩
    · exact ⟨q, .inl h0⟩
    · exact ⟨q, .inr ⟨e, cur, (hh _ (by have := (e3 he).1; omega)).trans q1, q2, q3⟩⟩

theorem high_set2 (w : World) (D b o0 o1 : Nat) (v0 v1 : Value) (h : b < D) : ∀ k, D ≤ k → ((w.setCell ⟨b, o0, none⟩ v0).setCell ⟨b, o1, none⟩ v1).heap[k]? = w.heap[k]? := fun k hk => by
  rw [Below.heap_setCell _ _ _ _ (show k ≠ b by omega), Below.heap_setCell _ _ _ _ (show k ≠ b by omega)]

theorem turnOk_net {p : Int} {n : Nat} {L : List (List Int)} (h : netOk p n L = false) : turnOk p n L = false := by unfold turnOk; rw [h]; rfl
theorem turnOk_res {p : Int} {n : Nat} {L : List (List Int)} (h : resB n L = true) : turnOk p n L = false := by unfold turnOk; rw [h]; simp
theorem turnOk_last {p : Int} {n : Nat} {L : List (List Int)} (h : netOk p n L = true) (h2 : resB n L = false) : turnOk p n L = netOk p n (turnL n L) := by unfold turnOk; rw [h, h2]; rfl

theorem tuEnd_yes {p : Int} {n : Nat} {L : List (List Int)} {w w' : World} {a : Option Addr} {B lo hi c : Nat} (hg : NetG w' a B lo hi n (turnF L n)) (hB : w.heap.size ≤ B) (hlo : w.heap.size ≤ lo) (hhi : hi ≤ w'.heap.size) (hb : Below w.heap.size w w') : TuEnd true p n L w (.returned (.tuple #[.agg #[.int .i64 p, .slice a n c], .bool true])) w' :=
  ⟨a, B, lo, hi, c, rfl, fun _ => hg, hB, hlo, hhi, hb⟩

theorem turn_sets {p : Int} {n k : Nat} {L : List (List Int)} (h : netOk p n L = true) (hk : k < n) {s0 s1 : Nat} (e0 : maskL (L.getD (3 * k) []) = s0) (e1 : maskL (L.getD (3 * k + 1) []) = s1) :
    s0 < 2 ^ 16 ∧ s1 < 2 ^ 16 ∧ nums2 s0.testBit 16 = L.getD (3 * k) [] ∧ nums2 s1.testBit 16 = L.getD (3 * k + 1) [] := by
  unfold netOk at h
  simp only [Bool.and_eq_true] at h
  have hp : p ≤ 16 := by have := h.1.1; unfold inB at this; simp at this; omega
  have ht := List.all_eq_true.mp h.2 k (by simpa using hk)
  unfold triOk at ht
  simp only [Bool.and_eq_true] at ht
  have key : ∀ xs, riseB xs 0 (p - 1) = true → maskL xs < 2 ^ 16 := fun xs hx => maskL_lt _ fun x hm => by have := riseB_mem hx x hm; omega
  subst e0 e1
  exact ⟨key _ ht.1.1.2, key _ ht.1.2, nums2_mask hp ht.1.1.2, nums2_mask hp ht.1.2⟩

theorem partG_made {W : World} {M lo hi n : Nat} {T : TypeId} (L : List (List Int)) (h : W.heap[M]? = some (.cells (madeCells #[.slice none 0 0, .slice none 0 0, .slice none 0 0] (n * 3)) T (0, 0))) : PartG W M lo hi (3 * n) T (turnF L 0) := by
  refine ⟨madeCells #[.slice none 0 0, .slice none 0 0, .slice none 0 0] (n * 3), fun _ => none, fun _ => 0, fun _ => 0, h, by rw [size_madeCells]; omega, fun j hj => ?_, fun i j _ _ hx => ?_⟩
  · rw [turnF_far (by omega)]
    exact ⟨madeNil3 n j hj, ⟨rfl, .inl rfl⟩, fun hx => absurd rfl hx⟩
  · rw [turnF_far (by omega)] at hx; exact absurd rfl hx

/-- The world behind the region that makes the two blocks. -/
theorem TuInv.first1 (w3 : World) (p : Int) (n : Nat) (L : List (List Int)) : TuInv w3 ((w3.alloc (.cells (madeCells #[.slice none 0 0, .slice none 0 0, .slice none 0 0] (n * 3)) 50)).alloc (.cells #[.int .i64 p, .slice (some ⟨w3.heap.size, 0, none⟩) n n] 28)).drew (w3.heap.size + 1) w3.heap.size p n 0 L := by
  refine ⟨?_, partG_made L ?_, ?_, by omega, by omega, by omega⟩
  · have := heap_alloc_new (w3.alloc (.cells (madeCells #[.slice none 0 0, .slice none 0 0, .slice none 0 0] (n * 3)) 50)) (.cells #[.int .i64 p, .slice (some ⟨w3.heap.size, 0, none⟩) n n] 28)
    rw [show (w3.alloc (.cells (madeCells #[.slice none 0 0, .slice none 0 0, .slice none 0 0] (n * 3)) 50)).heap.size = w3.heap.size + 1 by simp] at this
    exact this
  · show ((w3.alloc _).alloc _).heap[w3.heap.size]? = _
    rw [heap_al_old _ _ _ (by simp)]; exact heap_alloc_new _ _
  · exact (below_two w3 _ _).drew

theorem TuInv.first2 (w3 : World) (p : Int) (n : Nat) (L : List (List Int)) : TuInv w3 ((w3.alloc (.cells #[.int .i64 p, .slice (some ⟨w3.heap.size + 1, 0, none⟩) n n] 28)).alloc (.cells (madeCells #[.slice none 0 0, .slice none 0 0, .slice none 0 0] (n * 3)) 50)).drew w3.heap.size (w3.heap.size + 1) p n 0 L := by
  refine ⟨?_, partG_made L ?_, ?_, by omega, by omega, by omega⟩
  · show ((w3.alloc _).alloc _).heap[w3.heap.size]? = _
    rw [heap_al_old _ _ _ (by simp)]; exact heap_alloc_new _ _
  · have := heap_alloc_new (w3.alloc (.cells #[.int .i64 p, .slice (some ⟨w3.heap.size + 1, 0, none⟩) n n] 28)) (.cells (madeCells #[.slice none 0 0, .slice none 0 0, .slice none 0 0] (n * 3)) 50)
    rw [show (w3.alloc (.cells #[.int .i64 p, .slice (some ⟨w3.heap.size + 1, 0, none⟩) n n] 28)).heap.size = w3.heap.size + 1 by simp] at this
    exact this
  · exact (below_two w3 _ _).drew
end Go.Proofs.Ytakenobplljkbaa


/- stepsWithoutResets of the program: it takes a good net without Resets. -/
namespace Go.Proofs.Ytakenobplljkbaa
open Go.RowKit

set_option maxHeartbeats 1000000 in
theorem stepsNR_any (p : Int) (a : Option Addr) (n c : Nat) (L : List (List Int)) (w : World) (h : Lists w a (3 * n) L) (hs : sizeN n L ≤ 1048576) :
    Calls Try.prog 35 #[.agg #[.int .i64 p, .slice a n c]] w fun e w' => NetEnd (netOk p n L && !resB n L) p n L w e w' := by
  have HA := hide (below_two w (.cells #[.int .i64 p, .slice a n c] 28) (.cells #[.int .i64 0, .slice none 0 0] 54))
  have HT := hide (netSteps_any p a n c L ((w.alloc (.cells #[.int .i64 p, .slice a n c] 28)).alloc (.cells #[.int .i64 0, .slice none 0 0] 54)) (h.below HA.out) hs)
  have HR0 : Hid (((w.alloc (.cells #[.int .i64 p, .slice a n c] 28)).alloc (.cells #[.int .i64 0, .slice none 0 0] 54)).heap[w.heap.size + 1]? = some (.cells #[.int .i64 0, .slice none 0 0] 54 (0, 0))) := by
    have := heap_alloc_new (w.alloc (.cells #[.int .i64 p, .slice a n c] 28)) (.cells #[.int .i64 0, .slice none 0 0] 54)
    rw [show (w.alloc (.cells #[.int .i64 p, .slice a n c] 28)).heap.size = w.heap.size + 1 by simp] at this
    exact this
  clear h
  by_cases hg : netOk p n L = true
  rotate_left
  · have hg' : netOk p n L = false := by simpa using hg
    have HF : Hid ((netOk p n L && !resB n L) = false) := by show _ = _; rw [hg']; rfl
    rw [hg'] at HT
    rw [HF.out]
    clear hg hg' HF
    go_enter Try.func35, Try.ntmps35
    go_wp2_with fail
    refine HT.out.mono ?_
    rintro e w2 ⟨p', a', m, c', rfl, hx, hb⟩
    have HB2 := hide (HA.out.trans (hb.mono HA.out.size))
    have hR := (hb.block (w.heap.size + 1) (by simp)).trans HR0.out
    have hr0 : w2.cell? ⟨w.heap.size + 1, 0, none⟩ = some (.int .i64 0) := cell_of_row w2 _ 0 _ _ _ hR
    have hr1 : w2.cell? ⟨w.heap.size + 1, 1, none⟩ = some (.slice none 0 0) := cell_of_row w2 _ 1 _ _ _ hR
    have hf0 : w2.frozen? ⟨w.heap.size + 1, 0, none⟩ = false := frozen_of_row w2 _ 0 _ _ hR
    have hf1 : w2.frozen? ⟨w.heap.size + 1, 1, none⟩ = false := frozen_of_row w2 _ 1 _ _ hR
    have hlr : w.heap.size + 1 < w2.heap.size := (Array.getElem?_eq_some_iff.mp hR).1
    clear hb HT hx HA HR0 hR
    go_wp2_with fail
    refine bodyPost_ret (v := .tuple #[.agg #[.int .i64 0, .slice none 0 0], .bool false]) (by simp [results, Try.results35, go_sem, hr0, hr1, hlr]) rfl ?_
    exact ⟨_, _, _, _, rfl, by intro e; simp at e, (((HB2.out.setCell (by simp) _).setCell (by simp) _).alloc (by have := HB2.out.size; simp [World.setCell]; omega) _)⟩
  have HR := hide (res_eq hg)
  have HG := hide hg
  have hn24 := netN hg
  rw [hg] at HT
  clear hg
  go_enter Try.func35, Try.ntmps35
  go_wp2_with fail
  refine HT.out.mono ?_
  rintro e w2 ⟨p', a', m, c', rfl, hx, hb⟩
  obtain ⟨e1, e2, e3, B, rfl, hBs, hps⟩ := hx.out rfl
  subst e1 e2 e3
  have hA := below_al w2 (.cells #[.int .i64 p', .slice (some ⟨B, 0, none⟩) c' c'] 54)
  have HC := hide (contains_any B c' L _ (hps.grow hA) hn24)
  have HB2 := hide (HA.out.trans (hb.mono HA.out.size))
  have HR2 := hide ((hb.block (w.heap.size + 1) (by simp)).trans HR0.out)
  have hBs' : w.heap.size ≤ B := by have := HA.out.size; omega
  go_wp2_with fail
  refine HC.out.mono ?_
  rintro e w3 ⟨rfl, hb3⟩
  have HB3 := hide (HB2.out.trans ((hA.trans (hb3.mono hA.size)).mono HB2.out.size))
  have HPS := hide ((hps.grow hA).grow hb3)
  have hvl : w2.heap.size < w3.heap.size := by have := hb3.size; simp at this; omega
  have hv0 : w3.cell? ⟨w2.heap.size, 0, none⟩ = some (.int .i64 p') := by rw [hb3.cell (by simp)]; simp
  have hv1 : w3.cell? ⟨w2.heap.size, 1, none⟩ = some (.slice (some ⟨B, 0, none⟩) c' c') := by rw [hb3.cell (by simp)]; simp
  have hR := ((hA.trans (hb3.mono hA.size)).block (w.heap.size + 1) (Array.getElem?_eq_some_iff.mp HR2.out).1).trans HR2.out
  have hB1 : B ≠ w.heap.size + 1 := by have := HA.out.size; simp at hBs; omega
  have hr0 : w3.cell? ⟨w.heap.size + 1, 0, none⟩ = some (.int .i64 0) := cell_of_row w3 _ 0 _ _ _ hR
  have hr1 : w3.cell? ⟨w.heap.size + 1, 1, none⟩ = some (.slice none 0 0) := cell_of_row w3 _ 1 _ _ _ hR
  have hf0 : w3.frozen? ⟨w.heap.size + 1, 0, none⟩ = false := frozen_of_row w3 _ 0 _ _ hR
  have hf1 : w3.frozen? ⟨w.heap.size + 1, 1, none⟩ = false := frozen_of_row w3 _ 1 _ _ hR
  have hlr : w.heap.size + 1 < w3.heap.size := (Array.getElem?_eq_some_iff.mp hR).1
  clear HT hb hx hps hA HC hb3 hBs HR0 HR2 HA HB2 hR
  generalize w2.heap.size = z2 at *
  clear w2
  by_cases hrm : resM c' L = true
  · have HF : Hid ((netOk p' c' L && !resB c' L) = false) := by show _ = _; rw [← HR.out, hrm, HG.out]; rfl
    rw [hrm]
    clear hrm hv0 hv1
    go_wp2_with fail
    refine bodyPost_ret (v := .tuple #[.agg #[.int .i64 0, .slice none 0 0], .bool false]) (by simp [results, Try.results35, go_sem, hr0, hr1]) rfl ?_
    show NetEnd _ _ _ _ _ _ _
    rw [HF.out]
    exact ⟨_, _, _, _, rfl, by intro e; simp at e, ((HB3.out.setCell (by simp) _).setCell (by simp) _)⟩
  have hrm' : resM c' L = false := by simpa using hrm
  have HF : Hid ((netOk p' c' L && !resB c' L) = true) := by show _ = _; rw [← HR.out, hrm', HG.out]; rfl
  rw [hrm']
  clear hrm hrm'
  go_wp2_with fail
  refine bodyPost_ret (v := .tuple #[.agg #[.int .i64 p', .slice (some ⟨B, 0, none⟩) c' c'], .bool true]) (by simp [results, Try.results35, go_sem, hr0, hr1]) rfl ?_
  show NetEnd _ _ _ _ _ _ _
  rw [HF.out]
  exact ⟨_, _, _, _, rfl, fun _ => ⟨rfl, rfl, rfl, B, rfl, hBs', (HPS.out.set_other (by omega) _ _).set_other (by omega) _ _⟩, (HB3.out.setCell (by simp) _).setCell (by simp) _⟩
end Go.Proofs.Ytakenobplljkbaa


/- TurnNet of the program: the walk. -/
namespace Go.Proofs.Ytakenobplljkbaa
open Go.RowKit

set_option maxHeartbeats 4000000 in
theorem turnI_any (p : Int) (a : Option Addr) (n c : Nat) (L : List (List Int)) (w : World) (h : Lists w a (3 * n) L) (hs : sizeN n L ≤ 1048576) :
    Calls Try.prog 12 #[.agg #[.int .i64 p, .slice a n c]] w fun e w' => TuEnd (turnOk p n L) p n L w e w' := by
  have HT := hide (stepsNR_any p a n c L ((w.alloc (.cells #[.int .i64 p, .slice a n c] 28)).alloc (.cells #[.int .i64 0, .slice none 0 0] 28)) (h.below (below_two _ _ _)) hs)
  have HA := hide (below_two w (.cells #[.int .i64 p, .slice a n c] 28) (.cells #[.int .i64 0, .slice none 0 0] 28))
  have HR0 : Hid (((w.alloc (.cells #[.int .i64 p, .slice a n c] 28)).alloc (.cells #[.int .i64 0, .slice none 0 0] 28)).heap[w.heap.size + 1]? = some (.cells #[.int .i64 0, .slice none 0 0] 28 (0, 0))) := by
    have := heap_alloc_new (w.alloc (.cells #[.int .i64 p, .slice a n c] 28)) (.cells #[.int .i64 0, .slice none 0 0] 28)
    rw [show (w.alloc (.cells #[.int .i64 p, .slice a n c] 28)).heap.size = w.heap.size + 1 by simp] at this
    exact this
  clear h
  by_cases hg : (netOk p n L && !resB n L) = true
  rotate_left
  · have hg' : (netOk p n L && !resB n L) = false := by simpa using hg
    rw [show turnOk p n L = false by
      cases h1 : netOk p n L
      · exact turnOk_net h1
      · rw [h1] at hg'; exact turnOk_res (by simpa using hg')]
    rw [hg'] at HT
    clear hg hg'
    go_enter Try.func12, Try.ntmps12
    go_wp2_with fail
    refine HT.out.mono ?_
    rintro e w2 ⟨p', a', m, c', rfl, hx, hb⟩
    have HB2 := hide (HA.out.trans (hb.mono HA.out.size))
    have hR := (hb.block (w.heap.size + 1) (by simp)).trans HR0.out
    have hr0 : w2.cell? ⟨w.heap.size + 1, 0, none⟩ = some (.int .i64 0) := cell_of_row w2 _ 0 _ _ _ hR
    have hr1 : w2.cell? ⟨w.heap.size + 1, 1, none⟩ = some (.slice none 0 0) := cell_of_row w2 _ 1 _ _ _ hR
    have hf0 : w2.frozen? ⟨w.heap.size + 1, 0, none⟩ = false := frozen_of_row w2 _ 0 _ _ hR
    have hf1 : w2.frozen? ⟨w.heap.size + 1, 1, none⟩ = false := frozen_of_row w2 _ 1 _ _ hR
    have hlr : w.heap.size + 1 < w2.heap.size := (Array.getElem?_eq_some_iff.mp hR).1
    clear hb HT hx HA HR0 hR
    go_wp2_with fail
    refine bodyPost_ret (v := .tuple #[.agg #[.int .i64 0, .slice none 0 0], .bool false]) (by simp [results, Try.results12, go_sem, hr0, hr1, hlr]) rfl ?_
    exact tuEnd_no (((HB2.out.setCell (by simp) _).setCell (by simp) _).alloc (by have := HB2.out.size; simp [World.setCell]; omega) _)
  have hgn : netOk p n L = true := by simp only [Bool.and_eq_true] at hg; exact hg.1
  have hgr : resB n L = false := by simp only [Bool.and_eq_true] at hg; simpa using hg.2
  have HG := hide hgn
  have hn24 := netN hgn
  have HSZ := hide (turnL_size hgn)
  rw [hg] at HT
  clear hg
  have hmk := run_make_many (P := Try.prog) 26 50 _ 3 72 Try.underlying26 Try.info50 .i64 .i64 n (by omega) (by omega)
  simp only [Value.cells] at hmk
  go_enter Try.func12, Try.ntmps12
  go_wp2_with fail
  refine HT.out.mono ?_
  rintro e w2 ⟨p', a', m, c', rfl, hx, hb⟩
  obtain ⟨e1, e2, e3, B, rfl, hBs, hps⟩ := hx.out rfl
  subst e1 e2 e3
  have HRB := hide hgr
  have hA := below_al w2 (.cells #[.int .i64 p', .slice (some ⟨B, 0, none⟩) c' c'] 54)
  have HB2 := hide (HA.out.trans (hb.mono HA.out.size))
  have HR2 := hide ((hb.block (w.heap.size + 1) (by simp)).trans HR0.out)
  have HB3 := hide (HB2.out.trans (hA.mono HB2.out.size))
  have HPS := hide (hps.grow hA)
  have hvl : w2.heap.size < (w2.alloc (.cells #[.int .i64 p', .slice (some ⟨B, 0, none⟩) c' c'] 54)).heap.size := by simp
  have hv0 : (w2.alloc (.cells #[.int .i64 p', .slice (some ⟨B, 0, none⟩) c' c'] 54)).cell? ⟨w2.heap.size, 0, none⟩ = some (.int .i64 p') := by simp
  have hv1 : (w2.alloc (.cells #[.int .i64 p', .slice (some ⟨B, 0, none⟩) c' c'] 54)).cell? ⟨w2.heap.size, 1, none⟩ = some (.slice (some ⟨B, 0, none⟩) c' c') := by simp
  have HRW := hide ((hA.block (w.heap.size + 1) (Array.getElem?_eq_some_iff.mp HR2.out).1).trans HR2.out)
  have HRS := hide ((Array.getElem?_eq_some_iff.mp HRW.out).1)
  clear HT hb hx hps hBs HR0 HR2 HA HB2 hgn hgr hA
  go_wp2_with fail
  generalize w2.alloc (.cells #[.int .i64 p', .slice (some ⟨B, 0, none⟩) c' c'] 54) = w3 at *
  generalize w2.heap.size = z2 at *
  clear w2
  go_region
  all_goals go_wp2_with fail
  · have HI := hide (TuInv.first1 w3 p' c' L)
    generalize ((w3.alloc (.cells (madeCells #[.slice none 0 0, .slice none 0 0, .slice none 0 0] (c' * 3)) 50)).alloc (.cells #[.int .i64 p', .slice (some ⟨w3.heap.size, 0, none⟩) c' c'] 28)).drew = W at HI ⊢
    generalize w3.heap.size + 1 = V at HI ⊢
    generalize w3.heap.size = M at HI ⊢
    clear hv0 hv1 hmk hvl
    go_loopw [27] (fun i wr => ∃ k : Nat, k ≤ c' ∧ i = .int .i64 k ∧ Hid (TuInv w3 wr V M p' c' k L)) (fun i _ => c' - (intOf i).toNat)
    case atStart => exact ⟨0, Nat.zero_le _, rfl, HI⟩
    case round =>
      obtain ⟨k, hk, rfl, hin⟩ := hrel
      clear HI
      by_cases hlt : k < c'
      rotate_left
      · have hk' : k = c' := by omega
        subst hk'
        have hVr := hin.out.var
        have hV0 : wr.cell? ⟨V, 0, none⟩ = some (.int .i64 p') := cell_of_row wr V 0 _ _ _ hVr
        have hV1 : wr.cell? ⟨V, 1, none⟩ = some (.slice (some ⟨M, 0, none⟩) k k) := cell_of_row wr V 1 _ _ _ hVr
        have HNG := hide (show NetG wr (some ⟨M, 0, none⟩) M w3.heap.size wr.heap.size k (turnF L k) from .inr ⟨rfl, hin.out.part⟩)
        have HGN := hide (goodNetI_any p' (some ⟨M, 0, none⟩) k k (turnL k L) wr (NetG.lists (B := M) (lo := w3.heap.size) (hi := wr.heap.size) (by rw [turnL_get]; exact HNG.out) (turnL_len k L) HSZ.out) HSZ.out)
        have hlV := (Array.getElem?_eq_some_iff.mp hVr).1
        clear hVr
        go_wp2_with fail
        refine HGN.out.mono ?_
        rintro e w4 ⟨rfl, hb4⟩
        have h40 : w4.cell? ⟨V, 0, none⟩ = some (.int .i64 p') := (hb4.cell hlV).trans hV0
        have h41 : w4.cell? ⟨V, 1, none⟩ = some (.slice (some ⟨M, 0, none⟩) k k) := (hb4.cell hlV).trans hV1
        have HB4 := hide (hin.out.bel.trans (hb4.mono hin.out.bel.size))
        have hR4 := (HB4.out.block (w.heap.size + 1) HRS.out).trans HRW.out
        have hr0 : w4.cell? ⟨w.heap.size + 1, 0, none⟩ = some (.int .i64 0) := cell_of_row w4 _ 0 _ _ _ hR4
        have hr1 : w4.cell? ⟨w.heap.size + 1, 1, none⟩ = some (.slice none 0 0) := cell_of_row w4 _ 1 _ _ _ hR4
        have hf0 : w4.frozen? ⟨w.heap.size + 1, 0, none⟩ = false := frozen_of_row w4 _ 0 _ _ hR4
        have hf1 : w4.frozen? ⟨w.heap.size + 1, 1, none⟩ = false := frozen_of_row w4 _ 1 _ _ hR4
        have HBF := hide (HB3.out.trans (HB4.out.mono HB3.out.size))
        have HTO := hide (turnOk_last HG.out HRB.out)
        have HNG4 := hide (show PartG w4 M w3.heap.size wr.heap.size (3 * k) 50 (turnF L k) from hin.out.part.grow hb4)
        have HMV := hide hin.out.hM
        have H4S := hide hb4.size
        clear hV0 hV1 HGN HNG hR4 hin hb4
        cases hgt : netOk p' k (turnL k L)
        · rw [hgt] at HTO
          go_wp2_with fail
          refine bodyPost_ret (v := .tuple #[.agg #[.int .i64 0, .slice none 0 0], .bool false]) (by simp [results, Try.results12, go_sem, hr0, hr1]) rfl ?_
          rw [HTO.out]
          exact tuEnd_no ((HBF.out.setCell (by simp) _).setCell (by simp) _)
        · rw [hgt] at HTO
          go_wp2_with fail
          refine bodyPost_ret (v := .tuple #[.agg #[.int .i64 p', .slice (some ⟨M, 0, none⟩) k k], .bool true]) (by simp [results, Try.results12, go_sem, hr0, hr1]) rfl ?_
          rw [HTO.out]
          exact tuEnd_yes (B := M) (lo := w3.heap.size) (hi := wr.heap.size) (.inr ⟨rfl, HNG4.out.high (high_set2 w4 w3.heap.size (w.heap.size + 1) 0 1 _ _ HRS.out) HMV.out (Nat.le_refl _)⟩) (Nat.le_trans HB3.out.size HMV.out) HB3.out.size (by have := H4S.out; simpa [World.setCell] using this) ((HBF.out.setCell (by simp) _).setCell (by simp) _)
      obtain ⟨hc0, hc1, hc2⟩ := (HPS.out.grow hin.out.bel).at3 hlt
      obtain ⟨s0, hs0⟩ : ∃ s, Hid (maskL (L.getD (3 * k) []) = s) := ⟨_, rfl⟩
      obtain ⟨s1, hs1⟩ : ∃ s, Hid (maskL (L.getD (3 * k + 1) []) = s) := ⟨_, rfl⟩
      obtain ⟨s2, hs2⟩ : ∃ s, Hid (maskL (L.getD (3 * k + 2) []) = s) := ⟨_, rfl⟩
      rw [hs0.out] at hc0
      rw [hs1.out] at hc1
      rw [hs2.out] at hc2
      have hA1 := below_al wr (.cells #[.int .u16 (s0 : Int), .int .u16 (s1 : Int), .int .u16 (s2 : Int)] 60)
      have HI1 := hide (hin.out.grow hA1)
      have hSM : wr.heap.size ≠ M := by have := hin.out.ltM; omega
      have hVM := hin.out.ne
      have HC := hide (show (wr.alloc (.cells #[.int .u16 (s0 : Int), .int .u16 (s1 : Int), .int .u16 (s2 : Int)] 60)).cell? ⟨wr.heap.size, 0, none⟩ = some (.int .u16 s0) ∧ (wr.alloc (.cells #[.int .u16 (s0 : Int), .int .u16 (s1 : Int), .int .u16 (s2 : Int)] 60)).cell? ⟨wr.heap.size, 1, none⟩ = some (.int .u16 s1) by simp)
      have HSM := hide (turn_sets HG.out hlt hs0.out hs1.out)
      clear hin hA1
      go_wp2_with fail
      clear hc0 hc1 hc2
      generalize wr.alloc (.cells #[.int .u16 (s0 : Int), .int .u16 (s1 : Int), .int .u16 (s2 : Int)] 60) = W0 at HI1 HC ⊢
      generalize wr.heap.size = sB at HC hSM ⊢
      have hVc : W0.cell? ⟨V, 1, none⟩ = some (.slice (some ⟨M, 0, none⟩) c' c') := cell_of_row W0 V 1 _ _ _ HI1.out.var
      obtain ⟨hS0, hS1⟩ := HC.out
      have hk0 : (0 : Int) ≤ (k : Int) := by omega
      have hk1 : (k : Int) < (c' : Int) := by omega
      have HI2 := hide (HI1.out.grow (Below.refl _ W0).drew)
      clear HC HI1
      go_region_held3 (fun W => W.cell? ⟨V, 1, none⟩ = some (.slice (some ⟨M, 0, none⟩) c' c') ∧ W.cell? ⟨sB, 0, none⟩ = some (.int .u16 s0) ∧ W.cell? ⟨sB, 1, none⟩ = some (.int .u16 s1)) (first | (refine ⟨?_, ?_, ?_⟩ <;> simp only [World.cell?_drew] <;> assumption) | (apply keep3_set; assumption; assumption; assumption; assumption) | (apply keep3; assumption; assumption))
        (first
          | (go_at_call_of 36 (Value.int .u16 (s1 : Int)); refine (setList_any s1 _ HSM.out.2.1).mono ?_; rintro e v1 ⟨a1, b1, m1, c1, rfl, hg1, ho1, hbl1⟩)
          | (go_at_call_of 36 (Value.int .u16 (s0 : Int)); refine (setList_any s0 _ HSM.out.1).mono ?_; rintro e v2 ⟨a2, b2, m2, c2, rfl, hg2, ho2, hbl2⟩; obtain ⟨u0, u1, u2, hu0, hu1, hu2, hf0, hf1, hf2⟩ := ((HI2.out.grow hbl1).grow hbl2).there hlt))
      have HI3 := hide (HI2.out.step (c1 := c1) (c2 := c2) hlt hbl1 hg1 ho1 hbl2 hg2 ho2 HSM.out.2.2.2 HSM.out.2.2.1)
      clear hu0 hu1 hu2 hf0 hf1 hf2 hbl1 hg1 ho1 hbl2 hg2 ho2 HSM
      go_wp2_with fail
      go_roundw
      case rel => exact ⟨k + 1, by omega, by go_num, HI3⟩
      case measure => simp [intOf]; omega
  · have HI := hide (TuInv.first2 w3 p' c' L)
    generalize ((w3.alloc (.cells #[.int .i64 p', .slice (some ⟨w3.heap.size + 1, 0, none⟩) c' c'] 28)).alloc (.cells (madeCells #[.slice none 0 0, .slice none 0 0, .slice none 0 0] (c' * 3)) 50)).drew = W at HI ⊢
    generalize w3.heap.size + 1 = M at HI ⊢
    generalize w3.heap.size = V at HI ⊢
    clear hv0 hv1 hmk hvl
    go_loopw [27] (fun i wr => ∃ k : Nat, k ≤ c' ∧ i = .int .i64 k ∧ Hid (TuInv w3 wr V M p' c' k L)) (fun i _ => c' - (intOf i).toNat)
    case atStart => exact ⟨0, Nat.zero_le _, rfl, HI⟩
    case round =>
      obtain ⟨k, hk, rfl, hin⟩ := hrel
      clear HI
      by_cases hlt : k < c'
      rotate_left
      · have hk' : k = c' := by omega
        subst hk'
        have hVr := hin.out.var
        have hV0 : wr.cell? ⟨V, 0, none⟩ = some (.int .i64 p') := cell_of_row wr V 0 _ _ _ hVr
        have hV1 : wr.cell? ⟨V, 1, none⟩ = some (.slice (some ⟨M, 0, none⟩) k k) := cell_of_row wr V 1 _ _ _ hVr
        have HNG := hide (show NetG wr (some ⟨M, 0, none⟩) M w3.heap.size wr.heap.size k (turnF L k) from .inr ⟨rfl, hin.out.part⟩)
        have HGN := hide (goodNetI_any p' (some ⟨M, 0, none⟩) k k (turnL k L) wr (NetG.lists (B := M) (lo := w3.heap.size) (hi := wr.heap.size) (by rw [turnL_get]; exact HNG.out) (turnL_len k L) HSZ.out) HSZ.out)
        have hlV := (Array.getElem?_eq_some_iff.mp hVr).1
        clear hVr
        go_wp2_with fail
        refine HGN.out.mono ?_
        rintro e w4 ⟨rfl, hb4⟩
        have h40 : w4.cell? ⟨V, 0, none⟩ = some (.int .i64 p') := (hb4.cell hlV).trans hV0
        have h41 : w4.cell? ⟨V, 1, none⟩ = some (.slice (some ⟨M, 0, none⟩) k k) := (hb4.cell hlV).trans hV1
        have HB4 := hide (hin.out.bel.trans (hb4.mono hin.out.bel.size))
        have hR4 := (HB4.out.block (w.heap.size + 1) HRS.out).trans HRW.out
        have hr0 : w4.cell? ⟨w.heap.size + 1, 0, none⟩ = some (.int .i64 0) := cell_of_row w4 _ 0 _ _ _ hR4
        have hr1 : w4.cell? ⟨w.heap.size + 1, 1, none⟩ = some (.slice none 0 0) := cell_of_row w4 _ 1 _ _ _ hR4
        have hf0 : w4.frozen? ⟨w.heap.size + 1, 0, none⟩ = false := frozen_of_row w4 _ 0 _ _ hR4
        have hf1 : w4.frozen? ⟨w.heap.size + 1, 1, none⟩ = false := frozen_of_row w4 _ 1 _ _ hR4
        have HBF := hide (HB3.out.trans (HB4.out.mono HB3.out.size))
        have HTO := hide (turnOk_last HG.out HRB.out)
        have HNG4 := hide (show PartG w4 M w3.heap.size wr.heap.size (3 * k) 50 (turnF L k) from hin.out.part.grow hb4)
        have HMV := hide hin.out.hM
        have H4S := hide hb4.size
        clear hV0 hV1 HGN HNG hR4 hin hb4
        cases hgt : netOk p' k (turnL k L)
        · rw [hgt] at HTO
          go_wp2_with fail
          refine bodyPost_ret (v := .tuple #[.agg #[.int .i64 0, .slice none 0 0], .bool false]) (by simp [results, Try.results12, go_sem, hr0, hr1]) rfl ?_
          rw [HTO.out]
          exact tuEnd_no ((HBF.out.setCell (by simp) _).setCell (by simp) _)
        · rw [hgt] at HTO
          go_wp2_with fail
          refine bodyPost_ret (v := .tuple #[.agg #[.int .i64 p', .slice (some ⟨M, 0, none⟩) k k], .bool true]) (by simp [results, Try.results12, go_sem, hr0, hr1]) rfl ?_
          rw [HTO.out]
          exact tuEnd_yes (B := M) (lo := w3.heap.size) (hi := wr.heap.size) (.inr ⟨rfl, HNG4.out.high (high_set2 w4 w3.heap.size (w.heap.size + 1) 0 1 _ _ HRS.out) HMV.out (Nat.le_refl _)⟩) (Nat.le_trans HB3.out.size HMV.out) HB3.out.size (by have := H4S.out; simpa [World.setCell] using this) ((HBF.out.setCell (by simp) _).setCell (by simp) _)
      obtain ⟨hc0, hc1, hc2⟩ := (HPS.out.grow hin.out.bel).at3 hlt
      obtain ⟨s0, hs0⟩ : ∃ s, Hid (maskL (L.getD (3 * k) []) = s) := ⟨_, rfl⟩
      obtain ⟨s1, hs1⟩ : ∃ s, Hid (maskL (L.getD (3 * k + 1) []) = s) := ⟨_, rfl⟩
      obtain ⟨s2, hs2⟩ : ∃ s, Hid (maskL (L.getD (3 * k + 2) []) = s) := ⟨_, rfl⟩
      rw [hs0.out] at hc0
      rw [hs1.out] at hc1
      rw [hs2.out] at hc2
      have hA1 := below_al wr (.cells #[.int .u16 (s0 : Int), .int .u16 (s1 : Int), .int .u16 (s2 : Int)] 60)
      have HI1 := hide (hin.out.grow hA1)
      have hSM : wr.heap.size ≠ M := by have := hin.out.ltM; omega
      have hVM := hin.out.ne
      have HC := hide (show (wr.alloc (.cells #[.int .u16 (s0 : Int), .int .u16 (s1 : Int), .int .u16 (s2 : Int)] 60)).cell? ⟨wr.heap.size, 0, none⟩ = some (.int .u16 s0) ∧ (wr.alloc (.cells #[.int .u16 (s0 : Int), .int .u16 (s1 : Int), .int .u16 (s2 : Int)] 60)).cell? ⟨wr.heap.size, 1, none⟩ = some (.int .u16 s1) by simp)
      have HSM := hide (turn_sets HG.out hlt hs0.out hs1.out)
      clear hin hA1
      go_wp2_with fail
      clear hc0 hc1 hc2
      generalize wr.alloc (.cells #[.int .u16 (s0 : Int), .int .u16 (s1 : Int), .int .u16 (s2 : Int)] 60) = W0 at HI1 HC ⊢
      generalize wr.heap.size = sB at HC hSM ⊢
      have hVc : W0.cell? ⟨V, 1, none⟩ = some (.slice (some ⟨M, 0, none⟩) c' c') := cell_of_row W0 V 1 _ _ _ HI1.out.var
      obtain ⟨hS0, hS1⟩ := HC.out
      have hk0 : (0 : Int) ≤ (k : Int) := by omega
      have hk1 : (k : Int) < (c' : Int) := by omega
      have HI2 := hide (HI1.out.grow (Below.refl _ W0).drew)
      clear HC HI1
      go_region_held3 (fun W => W.cell? ⟨V, 1, none⟩ = some (.slice (some ⟨M, 0, none⟩) c' c') ∧ W.cell? ⟨sB, 0, none⟩ = some (.int .u16 s0) ∧ W.cell? ⟨sB, 1, none⟩ = some (.int .u16 s1)) (first | (refine ⟨?_, ?_, ?_⟩ <;> simp only [World.cell?_drew] <;> assumption) | (apply keep3_set; assumption; assumption; assumption; assumption) | (apply keep3; assumption; assumption))
        (first
          | (go_at_call_of 36 (Value.int .u16 (s1 : Int)); refine (setList_any s1 _ HSM.out.2.1).mono ?_; rintro e v1 ⟨a1, b1, m1, c1, rfl, hg1, ho1, hbl1⟩)
          | (go_at_call_of 36 (Value.int .u16 (s0 : Int)); refine (setList_any s0 _ HSM.out.1).mono ?_; rintro e v2 ⟨a2, b2, m2, c2, rfl, hg2, ho2, hbl2⟩; obtain ⟨u0, u1, u2, hu0, hu1, hu2, hf0, hf1, hf2⟩ := ((HI2.out.grow hbl1).grow hbl2).there hlt))
      have HI3 := hide (HI2.out.step (c1 := c1) (c2 := c2) hlt hbl1 hg1 ho1 hbl2 hg2 ho2 HSM.out.2.2.2 HSM.out.2.2.1)
      clear hu0 hu1 hu2 hf0 hf1 hf2 hbl1 hg1 ho1 hbl2 hg2 ho2 HSM
      go_wp2_with fail
      go_roundw
      case rel => exact ⟨k + 1, by omega, by go_num, HI3⟩
      case measure => simp [intOf]; omega
end Go.Proofs.Ytakenobplljkbaa


/- l1Own: a list's own copy. -/
namespace Go.Proofs.Ytakenobplljkbaa
open Go.RowKit

theorem Row.cells2 {w : World} {b off n : Nat} {xs : List Int} (h : Row w (some ⟨b, off, none⟩) n xs) : ∀ j u, (xs.map (Value.int .i64))[j]? = some u → w.cell? ((⟨b, off, none⟩ : Addr).add j) = some u := by
  intro j u hu
  rw [Addr.add_mid]
  simp only [List.getElem?_map, Option.map_eq_some_iff] at hu
  obtain ⟨x, hx, rfl⟩ := hu
  have hj := (List.getElem?_eq_some_iff.mp hx).1
  have hl := h.1
  obtain ⟨b1, o1, y, he, _, hc, H⟩ := h.at (show j < n by omega)
  simp only [Option.some.injEq, Addr.mk.injEq] at he
  obtain ⟨rfl, rfl, _⟩ := he
  rw [hc]
  have := H.out
  rw [hx] at this
  simp at this
  rw [this]

set_option maxHeartbeats 400000 in
theorem own2_any (b off n ca : Nat) (xs : List Int) (w : World) (ha : Row w (some ⟨b, off, none⟩) n xs) (hn : n ≤ 1048576) :
    Calls Try.prog 33 #[.slice (some ⟨b, off, none⟩) n ca] w fun e w' => ∃ a g c, e = .returned (.slice a n c) ∧ w.heap.size ≤ g ∧ Ob w' a g n xs ∧ Below w.heap.size w w' := by
  obtain ⟨i0, hi, hz0, hz1, hz2⟩ := info_split2 Try.info3
  have HA := hide ha
  have HL := hide ha.1
  clear ha
  have HW := hide (HA.out.alloc (.cells #[] 3))
  have HO : Hid ((w.alloc (.cells #[] 3)).ownsRow w.heap.size 3 1 (.slice (some ⟨w.heap.size, 0, none⟩) 0 0) 0 []) :=
    ⟨rfl, .inr ⟨w.heap.size, 0, #[], rfl, Nat.le_refl _, heap_alloc_new _ _, Nat.le_refl _, Nat.zero_le _, rfl, rfl⟩⟩
  have HN := hide (show (xs.map (Value.int .i64)).length = n * 1 by rw [List.length_map, Nat.mul_one]; exact HL.out)
  have H1 := hide (show ∀ u ∈ xs.map (Value.int .i64), u.oneCell' = true by intro u hu; simp at hu; obtain ⟨x, _, rfl⟩ := hu; rfl)
  have HX := hide (show 0 + n ≤ maxLen by unfold maxLen; omega)
  have HY := hide (show (0 + n) * 8 ≤ 140737488355328 by omega)
  have HZ := hide (show w.heap.size ≤ (w.alloc (.cells #[] 3)).heap.size by simp)
  go_enter Try.func33, Try.ntmps33
  go_wp2_with (refine wpList_append_own _ rfl (.tmp 3) (.tmp 4) 35 rfl w.heap.size 3 i0 (.int .i64 0) 1 8 Try.underlying35 hi hz0 hz1 hz2 rfl (by decide) (.slice (some ⟨w.heap.size, 0, none⟩) 0 0) 0 [] rfl HO.out ⟨b, off, none⟩ n ca (xs.map (Value.int .i64)) rfl HN.out HW.out.cells2 H1.out HX.out HY.out HZ.out ?_; intro v' W' r1 r2 r3)
  go_ret
  rw [Nat.zero_add, List.nil_append] at r1
  obtain ⟨a, g, c, rfl, hg, hout⟩ := own_ob2 r1
  exact ⟨a, g, c, rfl, hg, hout, (below_al w _).grown r2 (by simp) (fun k hk => by simp [Value.ownBlock] at hk; omega)⟩
end Go.Proofs.Ytakenobplljkbaa
