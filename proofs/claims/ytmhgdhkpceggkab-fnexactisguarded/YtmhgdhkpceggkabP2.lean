/- Contracts that the proof stands on, one behind the other. -/
import Derived.Test.YtmhgdhkpceggkabP1
import Derived.WalkKit
import Derived.ProofKit
import Derived.OpenShut
import Derived.ChangeOld
import Derived.Below
/- When a net is good, as the specification reckons it: l1Rising and the specification's GoodNet, for every net in memory. -/
namespace Go.Proofs.Ytmhgdhkpceggkab
open Go.RowKit

/-- Numbers that rise, from lo to hi. -/
def riseB : List Int → Int → Int → Bool
  | [], _, _ => true
  | x :: xs, lo, hi => decide (lo ≤ x) && decide (x ≤ hi) && riseB xs (x + 1) hi

/-- As many as the first k rise; then the least that may follow. -/
theorem riseB_append (xs ys : List Int) (lo hi : Int) : riseB (xs ++ ys) lo hi = (riseB xs lo hi && riseB ys (xs.getLast?.elim lo (· + 1)) hi) := by
  induction xs generalizing lo with
  | nil => simp [riseB]
  | cons x r ih =>
    simp only [List.cons_append, riseB, ih]
    have : (x :: r).getLast?.elim lo (· + 1) = r.getLast?.elim (x + 1) (· + 1) := by
      cases r with
      | nil => rfl
      | cons y r' =>
        obtain ⟨z, hz⟩ : ∃ z, (y :: r').getLast? = some z := ⟨_, List.getLast?_eq_some_getLast (by simp)⟩
        rw [List.getLast?_cons_cons, hz]; rfl
    rw [this]
    simp [Bool.and_assoc]

/-- What the first k numbers ask of the next. -/
def nextLo (xs : List Int) (k : Nat) (lo : Int) : Int := if k = 0 then lo else xs.getD (k - 1) 0 + 1

theorem nextLo_take (xs : List Int) (k : Nat) (lo : Int) (hk : k ≤ xs.length) : (xs.take k).getLast?.elim lo (· + 1) = nextLo xs k lo := by
  unfold nextLo
  by_cases h : k = 0
  · subst h; simp
  · rw [if_neg h, List.getLast?_take]
    simp [h, List.getElem?_eq_getElem (show k - 1 < xs.length by omega)]

theorem riseB_step {xs : List Int} {k : Nat} {x lo hi : Int} (h : riseB (xs.take k) lo hi = true) (hx : xs[k]? = some x) : riseB (xs.take (k + 1)) lo hi = (decide (nextLo xs k lo ≤ x) && decide (x ≤ hi)) := by
  have hk : k < xs.length := (List.getElem?_eq_some_iff.mp hx).1
  rw [List.take_add_one, hx, riseB_append, h, nextLo_take xs k lo (by omega)]
  simp [riseB]

theorem riseB_no {xs : List Int} {k : Nat} {lo hi : Int} (h : riseB (xs.take k) lo hi = false) : riseB xs lo hi = false := by
  conv => lhs; rw [← List.take_append_drop k xs]
  rw [riseB_append, h]; rfl

theorem riseB_take {xs : List Int} {k : Nat} {lo hi : Int} (h : riseB xs lo hi = true) : riseB (xs.take k) lo hi = true := by
  cases hq : riseB (xs.take k) lo hi with
  | true => rfl
  | false => rw [riseB_no hq] at h; exact h

/-- What is next is no less than lo, where the first ones rise. -/
theorem nextLo_ge {xs : List Int} {k : Nat} {lo hi : Int} (h : riseB (xs.take k) lo hi = true) (hk : k ≤ xs.length) : lo ≤ nextLo xs k lo := by
  induction k with
  | zero => simp [nextLo]
  | succ k ih =>
    have hk' : k < xs.length := by omega
    have h0 : riseB (xs.take k) lo hi = true := by
      have := riseB_take (k := k) h
      rwa [List.take_take, Nat.min_eq_left (by omega)] at this
    rw [riseB_step h0 (List.getElem?_eq_getElem hk')] at h
    simp at h
    have := ih h0 (by omega)
    simp only [nextLo, Nat.add_one_ne_zero, if_false, Nat.add_sub_cancel]
    rw [List.getD_eq_getElem?_getD, List.getElem?_eq_getElem hk']
    simp; omega

theorem riseB_done {xs : List Int} {n : Nat} {lo hi : Int} (h : riseB (xs.take n) lo hi = true) (hl : xs.length = n) : riseB xs lo hi = true := by
  rwa [List.take_of_length_le (by omega)] at h

set_option maxHeartbeats 1000000 in
theorem rising_any (a : Option Addr) (n ca : Nat) (xs : List Int) (lo hi : Int) (w : World) (ha : Row w a n xs) (hn : n ≤ 1048576) :
    Calls Try.prog 59 #[.slice a n ca, .int .i64 lo, .int .i64 hi] w fun e w' => e = .returned (.bool (riseB xs lo hi)) ∧ w' = w := by
  go_enter Try.func59, Try.ntmps59
  go_wp2_with fail
  go_loop [11] (fun i => ∃ k : Nat, k ≤ n ∧ i = .int .i64 k ∧ Hid (riseB (xs.take k) lo hi = true)) (fun i => n - (intOf i).toNat)
  case atStart => exact ⟨0, Nat.zero_le _, rfl, rfl⟩
  case round =>
    obtain ⟨k, hk, rfl, hu⟩ := hrel
    by_cases hlt : k < n
    · obtain ⟨b1, o1, x, rfl, hl1, hc1, H1⟩ := ha.at hlt
      have HS := hide (riseB_step hu.out H1.out)
      have HGE := hide (nextLo_ge hu.out (show k ≤ xs.length by have := ha.1; omega))
      by_cases hi' : inB x lo hi = true
      · have HI : Hid (lo ≤ x ∧ x ≤ hi) := by simpa [inB, Hid] using hi'
        by_cases h0 : k = 0
        · subst h0
          have HU : Hid (riseB (xs.take (0 + 1)) lo hi = true) := by
            show riseB (xs.take (0 + 1)) lo hi = true
            rw [HS.out]; simp [nextLo, HI.out.1, HI.out.2]
          rw [Nat.add_zero] at hc1
          clear ha hu HS HGE H1
          go_wp2_with (go_at_call 67; refine (in_any _ _ _ _).mono ?_; rintro e w' ⟨rfl, rfl⟩)
          go_round
          case rel => exact ⟨0 + 1, by omega, by go_num, HU⟩
          case measure => simp [intOf]; omega
        · obtain ⟨j, rfl⟩ : ∃ j, k = j + 1 := ⟨k - 1, by omega⟩
          obtain ⟨b2, o2, y, he, hl2, hc2, H2⟩ := ha.at (show j < n by omega)
          simp only [Option.some.injEq, Addr.mk.injEq] at he
          obtain ⟨rfl, rfl, _⟩ := he
          have hnx : nextLo xs (j + 1) lo = y + 1 := by
            simp only [nextLo, Nat.add_one_ne_zero, if_false, Nat.add_sub_cancel]
            rw [List.getD_eq_getElem?_getD, H2.out]; rfl
          have hz : (0 : Int) < ((j + 1 : Nat) : Int) := by omega
          have hj : ((j + 1 : Nat) : Int) - 1 = ((j : Nat) : Int) := by omega
          have hjn : ((j : Nat) : Int) < (n : Int) := by omega
          by_cases hyx : y < x
          · have HU : Hid (riseB (xs.take (j + 1 + 1)) lo hi = true) := by
              show riseB (xs.take (j + 1 + 1)) lo hi = true
              rw [HS.out, hnx]; have := HI.out; simp; omega
            clear ha hu HS HGE H1 H2 hnx
            go_wp2_with (go_at_call 67; refine (in_any _ _ _ _).mono ?_; rintro e w' ⟨rfl, rfl⟩)
            go_round
            case rel => exact ⟨j + 1 + 1, by omega, by go_num, HU⟩
            case measure => simp [intOf]; omega
          · have HN : Hid (riseB xs lo hi = false) := by
              refine riseB_no (k := j + 1 + 1) ?_
              rw [HS.out, hnx]; simp; omega
            clear ha hu HS HGE H1 H2 hnx
            go_wp2_with (go_at_call 67; refine (in_any _ _ _ _).mono ?_; rintro e w' ⟨rfl, rfl⟩)
            go_ret
            exact ⟨ret_bool HN.out.symm, rfl⟩
      · have hi'' : inB x lo hi = false := by simpa using hi'
        have HN : Hid (riseB xs lo hi = false) := by
          refine riseB_no (k := k + 1) ?_
          rw [HS.out]
          have h1 := HGE.out
          simp [inB] at hi'
          simp; intro h2; omega
        clear ha hu HS HGE H1 hi'
        go_wp2_with (go_at_call 67; refine (in_any _ _ _ _).mono ?_; rintro e w' ⟨rfl, rfl⟩)
        go_ret
        exact ⟨ret_bool HN.out.symm, rfl⟩
    · have hk' : k = n := by omega
      subst hk'
      have HA := hide (riseB_done hu.out ha.1)
      go_wp2_with fail
      go_ret
      exact ⟨ret_bool HA.out.symm, rfl⟩
end Go.Proofs.Ytmhgdhkpceggkab


/- When a net is good, by the specification: GoodNet for every net in memory. -/
namespace Go.Proofs.Ytmhgdhkpceggkab
open Go.RowKit

def triOk (p : Int) (L : List (List Int)) (i : Nat) : Bool :=
  !(L.getD (3 * i) []).isEmpty && riseB (L.getD (3 * i) []) 0 (p - 1) && riseB (L.getD (3 * i + 1) []) 0 (p - 1) && riseB (L.getD (3 * i + 2) []) 0 (p - 1)

def netOk (p : Int) (n : Nat) (L : List (List Int)) : Bool := inB p 1 16 && decide (n ≤ 24) && (List.range n).all (triOk p L)

theorem triOk_no0 {p : Int} {L : List (List Int)} {i : Nat} (h : L.getD (3 * i) [] = []) : triOk p L i = false := by unfold triOk; rw [h]; rfl
theorem triOk_no1 {p : Int} {L : List (List Int)} {i : Nat} {x : List Int} (h : L.getD (3 * i) [] = x) (hr : riseB x 0 (p - 1) = false) : triOk p L i = false := by unfold triOk; rw [h, hr]; simp
theorem triOk_no2 {p : Int} {L : List (List Int)} {i : Nat} {x : List Int} (h : L.getD (3 * i + 1) [] = x) (hr : riseB x 0 (p - 1) = false) : triOk p L i = false := by unfold triOk; rw [h, hr]; simp
theorem triOk_no3 {p : Int} {L : List (List Int)} {i : Nat} {x : List Int} (h : L.getD (3 * i + 2) [] = x) (hr : riseB x 0 (p - 1) = false) : triOk p L i = false := by unfold triOk; rw [h, hr]; simp
theorem triOk_yes {p : Int} {L : List (List Int)} {i : Nat} {x y z : List Int} (h : L.getD (3 * i) [] = x) (h1 : L.getD (3 * i + 1) [] = y) (h2 : L.getD (3 * i + 2) [] = z) (hx : x ≠ []) (hr : riseB x 0 (p - 1) = true) (hr1 : riseB y 0 (p - 1) = true) (hr2 : riseB z 0 (p - 1) = true) : triOk p L i = true := by
  unfold triOk; rw [h, h1, h2, hr, hr1, hr2]; cases x <;> simp_all

theorem netOk_no {p : Int} {n i : Nat} {L : List (List Int)} (hi : i < n) (h : triOk p L i = false) : netOk p n L = false := by
  unfold netOk
  have : (List.range n).all (triOk p L) = false := by rw [List.all_eq_false]; exact ⟨i, by simpa using hi, by simp [h]⟩
  rw [this]; simp

theorem netOk_yes {p : Int} {n : Nat} {L : List (List Int)} (hp : inB p 1 16 = true) (hn : n ≤ 24) (h : (List.range n).all (triOk p L) = true) : netOk p n L = true := by
  unfold netOk; rw [hp, h]; simpa using hn

theorem all_range_succ {f : Nat → Bool} {k : Nat} (h : (List.range k).all f = true) (hk : f k = true) : (List.range (k + 1)).all f = true := by
  rw [List.range_succ, List.all_append, h]; simp [hk]

set_option maxHeartbeats 2000000 in
theorem goodNetS_any (p : Int) (a : Option Addr) (n c : Nat) (L : List (List Int)) (w : World) (h : Lists w a (3 * n) L) (hs : sizeN n L ≤ 1048576) :
    Calls Try.prog 37 #[.agg #[.int .i64 p, .slice a n c]] w fun e w' => e = .returned (.bool (netOk p n L)) ∧ Below w.heap.size w w' := by
  have HL := hide (h.below (below_al w (.cells #[.int .i64 p, .slice a n c] 31)))
  clear h
  by_cases hp : inB p 1 16 = true
  · by_cases hn : n ≤ 24
    · have hp1 : 1 ≤ p ∧ p ≤ 16 := by simpa [inB] using hp
      obtain ⟨hp2, hp3⟩ := hp1
      go_enter Try.func37, Try.ntmps37
      go_wp2_with (go_at_call 49; refine (places_any _ _).mono ?_; rintro e w' ⟨rfl, rfl⟩)
      have HW := hide (below_al w (.cells #[.int .i64 p, .slice a n c] 31))
      have HC0 := hide (cell_of_row (w.alloc (.cells #[.int .i64 p, .slice a n c] 31)) w.heap.size 0 _ _ _ (heap_alloc_new _ _))
      have hsz : w.heap.size < (w.alloc (.cells #[.int .i64 p, .slice a n c] 31)).heap.size := by simp
      generalize w.alloc (.cells #[.int .i64 p, .slice a n c] 31) = w1 at *
      go_loopw [18] (fun i wr => ∃ k : Nat, k ≤ n ∧ i = .int .i64 k ∧ Hid ((List.range k).all (triOk p L) = true) ∧ Hid (Below w1.heap.size w1 wr)) (fun i _ => n - (intOf i).toNat)
      case atStart => exact ⟨0, Nat.zero_le _, rfl, rfl, Below.refl _ _⟩
      case round =>
        obtain ⟨k, hk, rfl, hu, hbw⟩ := hrel
        by_cases hlt : k < n
        · obtain ⟨b, off, a0, n0, c0, a1, n1, c1, a2, n2, c2, rfl, hb, hr, m0, m1, m2, r0, r1, r2⟩ := (HL.out.below hbw.out).tri hlt
          obtain ⟨hc0, hc1, hc2⟩ := rangeAt_cells3 hr
          have hl0 := len_le L (3 * k)
          have hl1 := len_le L (3 * k + 1)
          have hl2 := len_le L (3 * k + 2)
          have hs' : n + sizeL L ≤ 1048576 := hs
          obtain ⟨x0, hx0⟩ : ∃ x, Hid (L.getD (3 * k) [] = x) := ⟨_, rfl⟩
          obtain ⟨x1, hx1⟩ : ∃ x, Hid (L.getD (3 * k + 1) [] = x) := ⟨_, rfl⟩
          obtain ⟨x2, hx2⟩ : ∃ x, Hid (L.getD (3 * k + 2) [] = x) := ⟨_, rfl⟩
          rw [hx0.out] at r0 hl0
          rw [hx1.out] at r1 hl1
          rw [hx2.out] at r2 hl2
          have q0 : n0 ≤ 1048576 := by have := r0.1; omega
          have q1 : n1 ≤ 1048576 := by have := r1.1; omega
          have q2 : n2 ≤ 1048576 := by have := r2.1; omega
          have hcp : wr.cell? ⟨w.heap.size, 0, none⟩ = some (.int .i64 p) := (hbw.out.cell (p := ⟨w.heap.size, 0, none⟩) hsz).trans HC0.out
          have hpw : w.heap.size < wr.heap.size := by have := hbw.out.size; omega
          have HB := hide (HW.out.trans ((hbw.out.trans ((below_al wr (.cells #[.slice a0 n0 c0, .slice a1 n1 c1, .slice a2 n2 c2] 77)).mono hbw.out.size)).mono (by omega)))
          have HB' := hide (hbw.out.trans ((below_al wr (.cells #[.slice a0 n0 c0, .slice a1 n1 c1, .slice a2 n2 c2] 77)).mono hbw.out.size))
          have R0 := hide (r0.alloc (.cells #[.slice a0 n0 c0, .slice a1 n1 c1, .slice a2 n2 c2] 77))
          have R1 := hide (r1.alloc (.cells #[.slice a0 n0 c0, .slice a1 n1 c1, .slice a2 n2 c2] 77))
          have R2 := hide (r2.alloc (.cells #[.slice a0 n0 c0, .slice a1 n1 c1, .slice a2 n2 c2] 77))
          clear hr r0 r1 r2 hl0 hl1 hl2 hs' m0 m1 m2 hs hn
          by_cases hz : n0 = 0
          · subst hz
            have HN : Hid (netOk p n L = false) := netOk_no hlt (triOk_no0 (hx0.out.trans (List.length_eq_zero_iff.mp R0.out.1)))
            clear R0 R1 R2 hx0 hx1 hx2 hu HB'
            go_wp2_with fail
            go_ret
            exact ⟨ret_bool HN.out.symm, HB.out⟩
          have hz' : (n0 : Int) ≠ 0 := by omega
          by_cases g0 : riseB x0 0 (p - 1) = true
          rotate_left
          · have g0' : riseB x0 0 (p - 1) = false := by simpa using g0
            have HN : Hid (netOk p n L = false) := netOk_no hlt (triOk_no1 hx0.out g0')
            clear R1 R2 hx0 hx1 hx2 hu HB' g0
            go_wp2_with fail
            refine (rising_any _ _ _ x0 _ _ _ R0.out q0).mono ?_
            rintro e w' ⟨rfl, rfl⟩
            go_wp2_with fail
            go_ret
            exact ⟨ret_bool HN.out.symm, HB.out⟩
          by_cases g1 : riseB x1 0 (p - 1) = true
          rotate_left
          · have g1' : riseB x1 0 (p - 1) = false := by simpa using g1
            have HN : Hid (netOk p n L = false) := netOk_no hlt (triOk_no2 hx1.out g1')
            clear R2 hx0 hx1 hx2 hu HB' g1
            go_wp2_with fail
            refine (rising_any _ _ _ x0 _ _ _ R0.out q0).mono ?_
            rintro e w' ⟨rfl, rfl⟩
            go_wp2_with fail
            refine (rising_any _ _ _ x1 _ _ _ R1.out q1).mono ?_
            rintro e w' ⟨rfl, rfl⟩
            go_wp2_with fail
            go_ret
            exact ⟨ret_bool HN.out.symm, HB.out⟩
          by_cases g2 : riseB x2 0 (p - 1) = true
          rotate_left
          · have g2' : riseB x2 0 (p - 1) = false := by simpa using g2
            have HN : Hid (netOk p n L = false) := netOk_no hlt (triOk_no3 hx2.out g2')
            clear hx0 hx1 hx2 hu HB' g2
            go_wp2_with fail
            refine (rising_any _ _ _ x0 _ _ _ R0.out q0).mono ?_
            rintro e w' ⟨rfl, rfl⟩
            go_wp2_with fail
            refine (rising_any _ _ _ x1 _ _ _ R1.out q1).mono ?_
            rintro e w' ⟨rfl, rfl⟩
            go_wp2_with fail
            refine (rising_any _ _ _ x2 _ _ _ R2.out q2).mono ?_
            rintro e w' ⟨rfl, rfl⟩
            go_wp2_with fail
            go_ret
            exact ⟨ret_bool HN.out.symm, HB.out⟩
          have HU : Hid ((List.range (k + 1)).all (triOk p L) = true) := all_range_succ hu.out (triOk_yes hx0.out hx1.out hx2.out (fun e => hz (by rw [← R0.out.1, e]; rfl)) g0 g1 g2)
          clear hx0 hx1 hx2 hu HB
          go_wp2_with fail
          refine (rising_any _ _ _ x0 _ _ _ R0.out q0).mono ?_
          rintro e w' ⟨rfl, rfl⟩
          go_wp2_with fail
          refine (rising_any _ _ _ x1 _ _ _ R1.out q1).mono ?_
          rintro e w' ⟨rfl, rfl⟩
          go_wp2_with fail
          refine (rising_any _ _ _ x2 _ _ _ R2.out q2).mono ?_
          rintro e w' ⟨rfl, rfl⟩
          go_wp2_with fail
          go_roundw
          case rel => exact ⟨k + 1, by omega, by go_num, HU, HB'⟩
          case measure => simp [intOf]; omega
        · have hk' : k = n := by omega
          subst hk'
          have HN : Hid (netOk p k L = true) := netOk_yes hp hn hu.out
          have HB := hide (HW.out.trans (hbw.out.mono (by omega)))
          go_wp2_with fail
          go_ret
          exact ⟨ret_bool HN.out.symm, HB.out⟩
    · have HN : Hid (netOk p n L = false) := by show netOk p n L = false; unfold netOk; simp [hn]
      have hn' : (24 : Int) < (n : Int) := by omega
      go_enter Try.func37, Try.ntmps37
      go_wp2_with (go_at_call 49; refine (places_any _ _).mono ?_; rintro e w' ⟨rfl, rfl⟩)
      go_ret
      exact ⟨ret_bool HN.out.symm, below_al _ _⟩
  · have hp' : inB p 1 16 = false := by simpa using hp
    have HN : Hid (netOk p n L = false) := by show netOk p n L = false; unfold netOk; simp [hp']
    clear hp
    go_enter Try.func37, Try.ntmps37
    go_wp2_with (go_at_call 49; refine (places_any _ _).mono ?_; rintro e w' ⟨rfl, rfl⟩)
    go_ret
    exact ⟨ret_bool HN.out.symm, below_al _ _⟩
end Go.Proofs.Ytmhgdhkpceggkab


/- Sets of places as bits: placesOf, stepOf and netSteps of the program, for every net in memory. -/
namespace Go.Proofs.Ytmhgdhkpceggkab
open Go.RowKit

/-- The bits of a list of places. -/
def maskL (xs : List Int) : Nat := xs.foldl (fun s x => s ||| 2 ^ x.toNat) 0

theorem maskL_snoc (xs : List Int) (x : Int) : maskL (xs ++ [x]) = maskL xs ||| 2 ^ x.toNat := by simp [maskL, List.foldl_append]

theorem maskL_take (xs : List Int) (k : Nat) (x : Int) (h : xs[k]? = some x) : maskL (xs.take (k + 1)) = maskL (xs.take k) ||| 2 ^ x.toNat := by
  rw [List.take_add_one, h]; exact maskL_snoc _ _

/-- Induction from the list's end. -/
theorem snoc_ind {P : List Int → Prop} (h0 : P []) (h1 : ∀ xs x, P xs → P (xs ++ [x])) (xs : List Int) : P xs := by
  have : ∀ ys : List Int, P ys.reverse := by
    intro ys
    induction ys with
    | nil => exact h0
    | cons y r ih => rw [List.reverse_cons]; exact h1 _ _ ih
  have := this xs.reverse
  rwa [List.reverse_reverse] at this

theorem maskL_lt (xs : List Int) (h : ∀ x ∈ xs, x < 16) : maskL xs < 2 ^ 16 := by
  induction xs using snoc_ind with
  | h0 => simp [maskL]
  | h1 xs x ih =>
    rw [maskL_snoc]
    refine Nat.or_lt_two_pow (ih fun y hy => h y (by simp [hy])) ?_
    have := h x (by simp)
    exact Nat.pow_lt_pow_right (by decide) (by omega)

theorem maskL_bit (xs : List Int) (i : Nat) (h : ∀ x ∈ xs, 0 ≤ x) : (maskL xs).testBit i = decide ((i : Int) ∈ xs) := by
  induction xs using snoc_ind with
  | h0 => simp [maskL]
  | h1 xs x ih =>
    rw [maskL_snoc, Nat.testBit_or, ih fun y hy => h y (by simp [hy]), Nat.testBit_two_pow]
    have hx := h x (by simp)
    have : decide (x.toNat = i) = decide ((i : Int) = x) := by
      congr 1; apply propext; constructor <;> intro e <;> omega
    rw [this]
    simp [List.mem_append]

theorem riseB_mem {xs : List Int} {lo hi : Int} (h : riseB xs lo hi = true) : ∀ x ∈ xs, lo ≤ x ∧ x ≤ hi := by
  induction xs generalizing lo with
  | nil => intro x hx; simp at hx
  | cons y r ih =>
    simp [riseB] at h
    intro x hx
    rcases List.mem_cons.mp hx with rfl | hx
    · exact h.1
    · have := ih h.2 x hx; omega

theorem wraps_u16 (n : Int) (h₀ : 0 ≤ n) (h₁ : n < 2 ^ 16) : IntKind.u16.wrap n = n := by
  simp [IntKind.wrap, IntKind.bits, IntKind.signed]; omega

theorem or_u16 (a b : Nat) (ha : a < 2 ^ 16) (hb : b < 2 ^ 16) : bits .or .u16 (a : Int) (b : Int) = ((a ||| b : Nat) : Int) := (bits_nat .u16 16 (by decide) wraps_u16 a b ha hb).2
theorem and_u16 (a b : Nat) (ha : a < 2 ^ 16) (hb : b < 2 ^ 16) : bits .and .u16 (a : Int) (b : Int) = ((a &&& b : Nat) : Int) := (bits_nat .u16 16 (by decide) wraps_u16 a b ha hb).1

/-- What placesOf answers. -/
def setOf (p : Int) (xs : List Int) : Nat := if riseB xs 0 (p - 1) then maskL xs else 0

theorem ret_set {s t : Nat} {a b : Bool} (h : s = t) (hb : a = b) : Ending.returned (.tuple #[.int .u16 (s : Int), .bool a]) = .returned (.tuple #[.int .u16 (t : Int), .bool b]) := by rw [h, hb]

set_option maxHeartbeats 1000000 in
theorem placesOf_any (p : Int) (a : Option Addr) (n ca : Nat) (xs : List Int) (w : World) (ha : Row w a n xs) (hn : n ≤ 1048576) (hp : inB p 1 16 = true) :
    Calls Try.prog 75 #[.int .i64 p, .slice a n ca] w fun e w' => e = .returned (.tuple #[.int .u16 (setOf p xs : Int), .bool (riseB xs 0 (p - 1))]) ∧ w' = w := by
  have hp1 : 1 ≤ p ∧ p ≤ 16 := by simpa [inB] using hp
  obtain ⟨hp2, hp3⟩ := hp1
  go_enter Try.func75, Try.ntmps75
  go_wp2_with fail
  go_loop [6, 7, 12] (fun s l i => ∃ k : Nat, k ≤ n ∧ i = .int .i64 k ∧ s = .int .u16 (maskL (xs.take k) : Int) ∧ l = .int .i64 (nextLo xs k 0) ∧ Hid (riseB (xs.take k) 0 (p - 1) = true)) (fun _ _ i => n - (intOf i).toNat)
  case atStart => exact ⟨0, Nat.zero_le _, rfl, rfl, rfl, rfl⟩
  case round =>
    obtain ⟨k, hk, rfl, rfl, rfl, hu⟩ := hrel
    by_cases hlt : k < n
    · obtain ⟨b1, o1, x, rfl, hl1, hc1, H1⟩ := ha.at hlt
      have HS := hide (riseB_step hu.out H1.out)
      have hge := nextLo_ge hu.out (show k ≤ xs.length by have := ha.1; omega)
      by_cases h1 : x < nextLo xs k 0
      · have HN : Hid (riseB xs 0 (p - 1) = false) := by
          refine riseB_no (k := k + 1) ?_
          rw [HS.out]; simp; intro h2; omega
        have HE : Hid ((0 : Nat) = setOf p xs) := by show 0 = setOf p xs; unfold setOf; rw [HN.out]; rfl
        clear HS ha H1 hu
        generalize nextLo xs k 0 = nl at *
        go_wp2_with fail
        go_ret2
        exact ⟨ret_set HE.out HN.out.symm, rfl⟩
      by_cases h2 : p ≤ x
      · have HN : Hid (riseB xs 0 (p - 1) = false) := by
          refine riseB_no (k := k + 1) ?_
          rw [HS.out]; simp; intro h2; omega
        have HE : Hid ((0 : Nat) = setOf p xs) := by show 0 = setOf p xs; unfold setOf; rw [HN.out]; rfl
        clear HS ha H1 hu
        generalize nextLo xs k 0 = nl at *
        go_wp2_with fail
        go_ret2
        exact ⟨ret_set HE.out HN.out.symm, rfl⟩
      have h3 : 0 ≤ x := by omega
      have h4 : x < 16 := by omega
      have HU : Hid (riseB (xs.take (k + 1)) 0 (p - 1) = true) := by
        show riseB (xs.take (k + 1)) 0 (p - 1) = true
        rw [HS.out]; simp; omega
      have HM : Hid (bits .or .u16 (maskL (xs.take k) : Int) (IntKind.u16.wrap (2 ^ x.toNat)) = (maskL (xs.take (k + 1)) : Int)) := by
        show _ = _
        have hx2 : 2 ^ x.toNat < 2 ^ 16 := Nat.pow_lt_pow_right (by decide) (by omega)
        have hx3 : ((2 : Int) ^ x.toNat) = ((2 ^ x.toNat : Nat) : Int) := by simp
        rw [hx3, wraps_u16 _ (Int.natCast_nonneg _) (by exact_mod_cast hx2), or_u16 _ _ (maskL_lt _ fun y hy => by have := riseB_mem hu.out y hy; omega) hx2, maskL_take xs k x H1.out]
      have HX : Hid (x + 1 = nextLo xs (k + 1) 0) := by
        show _ = _
        simp only [nextLo, Nat.add_one_ne_zero, if_false, Nat.add_sub_cancel]
        rw [List.getD_eq_getElem?_getD, H1.out]; rfl
      clear HS ha H1 hu
      generalize nextLo xs k 0 = nl at *
      generalize maskL (xs.take k) = mm at *
      go_wp2_with fail
      go_round
      case rel => exact ⟨k + 1, by omega, by go_num, by rw [HM.out], by rw [HX.out], HU⟩
      case measure => simp [intOf]; omega
    · have hk' : k = n := by omega
      subst hk'
      have HA := hide (riseB_done hu.out ha.1)
      have HE : Hid (maskL (xs.take k) = setOf p xs) := by
        show maskL (xs.take k) = setOf p xs
        unfold setOf; rw [HA.out, List.take_of_length_le (by have := ha.1; omega)]; rfl
      generalize nextLo xs k 0 = nl at *
      generalize maskL (xs.take k) = mm at *
      go_wp2_with fail
      go_ret2
      exact ⟨ret_set HE.out HA.out.symm, rfl⟩

theorem maskL_zero {xs : List Int} (h : ∀ x ∈ xs, 0 ≤ x) : maskL xs = 0 ↔ xs = [] := by
  constructor
  · intro e
    cases xs with
    | nil => rfl
    | cons x r =>
      have hb := maskL_bit (x :: r) x.toNat h
      rw [e, Nat.zero_testBit] at hb
      have hx := h x (by simp)
      simp at hb; omega
  · intro e; rw [e]; rfl

/-- Whether the three lists are those of a transition. -/
def tri3Ok (p : Int) (x0 x1 x2 : List Int) : Bool := !x0.isEmpty && riseB x0 0 (p - 1) && riseB x1 0 (p - 1) && riseB x2 0 (p - 1)

def bit3 (b : Bool) (xs : List Int) : Int := if b then (maskL xs : Int) else 0

/-- What stepOf answers. -/
def StepEnd (p : Int) (x0 x1 x2 : List Int) (w : World) (e : Ending) (w' : World) : Prop :=
  e = .returned (.tuple #[.agg #[.int .u16 (bit3 (tri3Ok p x0 x1 x2) x0), .int .u16 (bit3 (tri3Ok p x0 x1 x2) x1), .int .u16 (bit3 (tri3Ok p x0 x1 x2) x2)], .bool (tri3Ok p x0 x1 x2)]) ∧ Below w.heap.size w w'

theorem stepEnd_no {p : Int} {x0 x1 x2 : List Int} {w w' : World} (h : tri3Ok p x0 x1 x2 = false) (hb : Below w.heap.size w w') : StepEnd p x0 x1 x2 w (.returned (.tuple #[.agg #[.int .u16 0, .int .u16 0, .int .u16 0], .bool false])) w' := by
  refine ⟨?_, hb⟩; rw [h]; rfl

theorem stepEnd_yes {p : Int} {x0 x1 x2 : List Int} {w w' : World} {s0 s1 s2 : Nat} (h : tri3Ok p x0 x1 x2 = true) (h0 : maskL x0 = s0) (h1 : maskL x1 = s1) (h2 : maskL x2 = s2) (hb : Below w.heap.size w w') : StepEnd p x0 x1 x2 w (.returned (.tuple #[.agg #[.int .u16 (s0 : Int), .int .u16 (s1 : Int), .int .u16 (s2 : Int)], .bool true])) w' := by
  refine ⟨?_, hb⟩; rw [h, ← h0, ← h1, ← h2]; rfl

set_option maxHeartbeats 1000000 in
theorem stepOf_any (p : Int) (a0 a1 a2 : Option Addr) (n0 n1 n2 c0 c1 c2 : Nat) (x0 x1 x2 : List Int) (w : World) (r0 : Row w a0 n0 x0) (r1 : Row w a1 n1 x1) (r2 : Row w a2 n2 x2) (h0 : n0 ≤ 1048576) (h1 : n1 ≤ 1048576) (h2 : n2 ≤ 1048576) (hp : inB p 1 16 = true) :
    Calls Try.prog 73 #[.int .i64 p, .agg #[.slice a0 n0 c0, .slice a1 n1 c1, .slice a2 n2 c2]] w fun e w' => StepEnd p x0 x1 x2 w e w' := by
  have R0 := hide r0
  have R1 := hide r1
  have R2 := hide r2
  clear r0 r1 r2
  go_enter Try.func73, Try.ntmps73
  go_wp2_with fail
  refine (placesOf_any _ _ _ _ x0 _ ((R0.out.alloc _).alloc _) h0 hp).mono ?_
  rintro e w' ⟨rfl, rfl⟩
  obtain ⟨b0, hb0⟩ : ∃ b, Hid (riseB x0 0 (p - 1) = b) := ⟨_, rfl⟩
  obtain ⟨s0, hs0⟩ : ∃ b, Hid (setOf p x0 = b) := ⟨_, rfl⟩
  rw [hb0.out, hs0.out]
  go_wp2_with fail
  refine (placesOf_any _ _ _ _ x1 _ ((R1.out.alloc _).alloc _) h1 hp).mono ?_
  rintro e w' ⟨rfl, rfl⟩
  obtain ⟨b1, hb1⟩ : ∃ b, Hid (riseB x1 0 (p - 1) = b) := ⟨_, rfl⟩
  obtain ⟨s1, hs1⟩ : ∃ b, Hid (setOf p x1 = b) := ⟨_, rfl⟩
  rw [hb1.out, hs1.out]
  go_wp2_with fail
  refine (placesOf_any _ _ _ _ x2 _ ((R2.out.alloc _).alloc _) h2 hp).mono ?_
  rintro e w' ⟨rfl, rfl⟩
  obtain ⟨b2, hb2⟩ : ∃ b, Hid (riseB x2 0 (p - 1) = b) := ⟨_, rfl⟩
  obtain ⟨s2, hs2⟩ : ∃ b, Hid (setOf p x2 = b) := ⟨_, rfl⟩
  rw [hb2.out, hs2.out]
  cases b0
  · have HN := hide (show tri3Ok p x0 x1 x2 = false by unfold tri3Ok; rw [hb0.out]; simp)
    go_wp2_with fail
    refine bodyPost_ret (v := .tuple #[.agg #[.int .u16 0, .int .u16 0, .int .u16 0], .bool false]) (by simp [results, Try.results73, go_sem]) rfl ?_
    exact stepEnd_no HN.out (below_two _ _ _)
  cases b1
  · have HN := hide (show tri3Ok p x0 x1 x2 = false by unfold tri3Ok; rw [hb1.out]; simp)
    go_wp2_with fail
    refine bodyPost_ret (v := .tuple #[.agg #[.int .u16 0, .int .u16 0, .int .u16 0], .bool false]) (by simp [results, Try.results73, go_sem]) rfl ?_
    exact stepEnd_no HN.out (below_two _ _ _)
  cases b2
  · have HN := hide (show tri3Ok p x0 x1 x2 = false by unfold tri3Ok; rw [hb2.out]; simp)
    go_wp2_with fail
    refine bodyPost_ret (v := .tuple #[.agg #[.int .u16 0, .int .u16 0, .int .u16 0], .bool false]) (by simp [results, Try.results73, go_sem]) rfl ?_
    exact stepEnd_no HN.out (below_two _ _ _)
  have HS0 : Hid (maskL x0 = s0) := by show _ = _; rw [← hs0.out]; unfold setOf; rw [hb0.out]; rfl
  have HS1 : Hid (maskL x1 = s1) := by show _ = _; rw [← hs1.out]; unfold setOf; rw [hb1.out]; rfl
  have HS2 : Hid (maskL x2 = s2) := by show _ = _; rw [← hs2.out]; unfold setOf; rw [hb2.out]; rfl
  have hz := maskL_zero (fun x hx => (riseB_mem hb0.out x hx).1)
  rw [HS0.out] at hz
  by_cases hs : s0 = 0
  · have HN := hide (show tri3Ok p x0 x1 x2 = false by unfold tri3Ok; rw [hz.mp hs]; rfl)
    clear hz
    subst hs
    go_wp2_with fail
    refine bodyPost_ret (v := .tuple #[.agg #[.int .u16 0, .int .u16 0, .int .u16 0], .bool false]) (by simp [results, Try.results73, go_sem]) rfl ?_
    exact stepEnd_no HN.out (below_two _ _ _)
  have HY := hide (show tri3Ok p x0 x1 x2 = true by
    unfold tri3Ok; rw [hb0.out, hb1.out, hb2.out]
    have : x0 ≠ [] := fun e => hs (hz.mpr e)
    cases x0 <;> simp_all)
  have hs' : (s0 : Int) ≠ 0 := by omega
  clear hz hs
  go_wp2_with fail
  refine bodyPost_ret (v := .tuple #[.agg #[.int .u16 (s0 : Int), .int .u16 (s1 : Int), .int .u16 (s2 : Int)], .bool true]) (by simp [results, Try.results73, go_sem]) rfl ?_
  exact stepEnd_yes HY.out HS0.out HS1.out HS2.out (below_two _ _ _)
end Go.Proofs.Ytmhgdhkpceggkab


/- What netSteps and the program's GoodNet answer, for every net in memory. -/
namespace Go.Proofs.Ytmhgdhkpceggkab
open Go.RowKit

/-- The first k of n cells of the block B are the bits of the first k lists. -/
def PartS (w : World) (B n k : Nat) (L : List (List Int)) : Prop :=
  ∃ C : Array Value, w.heap[B]? = some (.cells C 85 (0, 0)) ∧ C.size = n ∧ ∀ j, j < k → C[j]? = some (.int .u16 (maskL (L.getD j []) : Int))

theorem PartS.grow {w w' : World} {B n k : Nat} {L : List (List Int)} (h : PartS w B n k L) (hb : Below w.heap.size w w') : PartS w' B n k L := by
  obtain ⟨C, h1, h2, h3⟩ := h
  exact ⟨C, (hb.block B (Array.getElem?_eq_some_iff.mp h1).1).trans h1, h2, h3⟩

theorem PartS.set_other {w : World} {B n k g : Nat} {L : List (List Int)} (h : PartS w B n k L) (hg : B ≠ g) (o : Nat) (v : Value) : PartS (w.setCell ⟨g, o, none⟩ v) B n k L := by
  obtain ⟨C, h1, h2, h3⟩ := h
  exact ⟨C, (Below.heap_setCell _ _ _ _ hg).trans h1, h2, h3⟩

theorem PartS.step {w : World} {B n k : Nat} {L : List (List Int)} (h : PartS w B (3 * n) (3 * k) L) (hk : k < n) {s0 s1 s2 : Int}
    (e0 : (maskL (L.getD (3 * k) []) : Int) = s0) (e1 : (maskL (L.getD (3 * k + 1) []) : Int) = s1) (e2 : (maskL (L.getD (3 * k + 2) []) : Int) = s2) :
    PartS (w.setCells B (k * 3) [.int .u16 s0, .int .u16 s1, .int .u16 s2]) B (3 * n) (3 * (k + 1)) L := by
  obtain ⟨C, h1, h2, h3⟩ := h
  refine ⟨_, heap_set3_same h1 _ _ _, by simp [h2], fun j hj => ?_⟩
  by_cases hj3 : j < 3 * k
  · rw [Array.getElem?_setIfInBounds_ne (by omega), Array.getElem?_setIfInBounds_ne (by omega), Array.getElem?_setIfInBounds_ne (by omega)]; exact h3 j hj3
  · obtain rfl | rfl | rfl : j = 3 * k ∨ j = 3 * k + 1 ∨ j = 3 * k + 2 := by omega
    · rw [Array.getElem?_setIfInBounds_ne (by omega), Array.getElem?_setIfInBounds_ne (by omega), Array.getElem?_setIfInBounds, if_pos (by omega), if_pos (by omega), e0]
    · rw [Array.getElem?_setIfInBounds_ne (by omega), Array.getElem?_setIfInBounds, if_pos (by omega), if_pos (by simp; omega), e1]
    · rw [Array.getElem?_setIfInBounds, if_pos (by omega), if_pos (by simp; omega), e2]

theorem Try.info85 : (Try.prog.info? 85).map (fun i => (i.zero, i.size, i.bytes)) = some (some (.agg #[.int .u16 0, .int .u16 0, .int .u16 0]), 3, 6) := by kernel_rfl
theorem Try.size85 : (Try.prog.info? 85).map (·.size) = some 3 := by kernel_rfl

/-- How netSteps ends. -/
def NetEnd (g : Bool) (p : Int) (n : Nat) (L : List (List Int)) (w : World) (e : Ending) (w' : World) : Prop :=
  ∃ p' a m c, e = .returned (.tuple #[.agg #[.int .i64 p', .slice a m c], .bool g]) ∧ Hid (g = true → p' = p ∧ m = n ∧ c = n ∧ ∃ B, a = some ⟨B, 0, none⟩ ∧ w.heap.size ≤ B ∧ PartS w' B (3 * n) (3 * n) L) ∧ Below w.heap.size w w'

/-- What the loop of netSteps keeps in mind. -/
structure NsInv (w wr : World) (p : Int) (a : Option Addr) (n c k : Nat) (L : List (List Int)) : Prop where
  par : wr.heap[w.heap.size]? = some (.cells #[.int .i64 p, .slice a n c] 31 (0, 0))
  res : wr.heap[w.heap.size + 1]? = some (.cells #[.int .i64 0, .slice none 0 0] 51 (0, 0))
  part : PartS wr (w.heap.size + 1 + 1) (3 * n) (3 * k) L
  bel : Below w.heap.size w wr

theorem NsInv.grow {w wr v : World} {p : Int} {a : Option Addr} {n c k : Nat} {L : List (List Int)} (h : NsInv w wr p a n c k L) (hb : Below wr.heap.size wr v) : NsInv w v p a n c k L :=
  ⟨(hb.block _ (Array.getElem?_eq_some_iff.mp h.par).1).trans h.par, (hb.block _ (Array.getElem?_eq_some_iff.mp h.res).1).trans h.res, h.part.grow hb, h.bel.trans (hb.mono h.bel.size)⟩

theorem NsInv.step {w wr : World} {p : Int} {a : Option Addr} {n c k : Nat} {L : List (List Int)} (h : NsInv w wr p a n c k L) (hk : k < n) {s0 s1 s2 : Int}
    (e0 : (maskL (L.getD (3 * k) []) : Int) = s0) (e1 : (maskL (L.getD (3 * k + 1) []) : Int) = s1) (e2 : (maskL (L.getD (3 * k + 2) []) : Int) = s2) :
    NsInv w (wr.setCells (w.heap.size + 1 + 1) (k * 3) [.int .u16 s0, .int .u16 s1, .int .u16 s2]) p a n c (k + 1) L :=
  ⟨(heap_set3_other _ _ _ _ _ _ _ (by omega)).trans h.par, (heap_set3_other _ _ _ _ _ _ _ (by omega)).trans h.res, h.part.step hk e0 e1 e2, below_set3 h.bel (by omega) _ _ _ _⟩

theorem NsInv.size {w wr : World} {p : Int} {a : Option Addr} {n c k : Nat} {L : List (List Int)} (h : NsInv w wr p a n c k L) : w.heap.size + 1 + 1 < wr.heap.size := by
  obtain ⟨C, h1, _⟩ := h.part
  exact (Array.getElem?_eq_some_iff.mp h1).1

theorem netEnd_no {p : Int} {n : Nat} {L : List (List Int)} {w w' : World} (h : netOk p n L = false) (hb : Below w.heap.size w w') : NetEnd (netOk p n L) p n L w (.returned (.tuple #[.agg #[.int .i64 0, .slice none 0 0], .bool false])) w' :=
  ⟨_, _, _, _, by rw [h], by rw [h]; intro e; simp at e, hb⟩

theorem triOk_eq (p : Int) (L : List (List Int)) (i : Nat) : triOk p L i = tri3Ok p (L.getD (3 * i) []) (L.getD (3 * i + 1) []) (L.getD (3 * i + 2) []) := rfl

set_option maxHeartbeats 4000000 in
theorem netSteps_any (p : Int) (a : Option Addr) (n c : Nat) (L : List (List Int)) (w : World) (h : Lists w a (3 * n) L) (hs : sizeN n L ≤ 1048576) :
    Calls Try.prog 60 #[.agg #[.int .i64 p, .slice a n c]] w fun e w' => NetEnd (netOk p n L) p n L w e w' := by
  by_cases hp : inB p 1 16 = true
  · by_cases hn : n ≤ 24
    · have hmk := run_make_many (P := Try.prog) 49 85 _ 3 6 Try.underlying49 Try.info85 .i64 .i64 n (by omega) (by omega)
      simp only [Value.cells] at hmk
      have HL := hide h
      clear h
      go_enter Try.func60, Try.ntmps60
      go_wp2_with (go_at_call 55; refine (goodPlaces_any _ _).mono ?_; rintro e w' ⟨rfl, rfl⟩)
      clear hmk
      go_loopw [27] (fun i wr => ∃ k : Nat, k ≤ n ∧ i = .int .i64 k ∧ Hid ((List.range k).all (triOk p L) = true) ∧ Hid (NsInv w wr p a n c k L)) (fun i _ => n - (intOf i).toNat)
      case atStart =>
        refine ⟨0, Nat.zero_le _, rfl, rfl, ?_, ?_, ⟨madeCells #[.int .u16 0, .int .u16 0, .int .u16 0] (n * 3), ?_, ?_, fun j hj => absurd hj (by omega)⟩, ?_⟩
        · rw [heap_al_old _ _ _ (by simp; omega), heap_al_old _ _ _ (by simp)]; exact heap_alloc_new _ _
        · rw [heap_al_old _ _ _ (by simp)]
          have := heap_alloc_new (w.alloc (.cells #[.int .i64 p, .slice a n c] 31)) (.cells #[.int .i64 0, .slice none 0 0] 51)
          simpa using this
        · have := heap_alloc_new ((w.alloc (.cells #[.int .i64 p, .slice a n c] 31)).alloc (.cells #[.int .i64 0, .slice none 0 0] 51)) (.cells (madeCells #[.int .u16 0, .int .u16 0, .int .u16 0] (n * 3)) 85)
          simpa using this
        · rw [size_madeCells]; omega
        · exact ((below_al w _).alloc (by simp) _).alloc (by simp; omega) _
      case round =>
        obtain ⟨k, hk, rfl, hu, hin⟩ := hrel
        have hsz := hin.out.size
        have hpw : w.heap.size < wr.heap.size := by omega
        have hcp := cell_of_row wr w.heap.size 0 _ _ _ hin.out.par
        simp at hcp
        have r10 := cell_of_row wr (w.heap.size + 1) 0 _ _ _ hin.out.res
        have r11 := cell_of_row wr (w.heap.size + 1) 1 _ _ _ hin.out.res
        simp at r10 r11
        have f10 := frozen_of_row wr (w.heap.size + 1) 0 _ _ hin.out.res
        have f11 := frozen_of_row wr (w.heap.size + 1) 1 _ _ hin.out.res
        by_cases hlt : k < n
        · obtain ⟨b, off, a0, n0, c0, a1, n1, c1, a2, n2, c2, rfl, hb, hr, m0, m1, m2, r0, r1, r2⟩ := (HL.out.below hin.out.bel).tri hlt
          obtain ⟨hc0, hc1, hc2⟩ := rangeAt_cells3 hr
          have hl0 := len_le L (3 * k)
          have hl1 := len_le L (3 * k + 1)
          have hl2 := len_le L (3 * k + 2)
          have hs' : n + sizeL L ≤ 1048576 := hs
          obtain ⟨x0, hx0⟩ : ∃ x, Hid (L.getD (3 * k) [] = x) := ⟨_, rfl⟩
          obtain ⟨x1, hx1⟩ : ∃ x, Hid (L.getD (3 * k + 1) [] = x) := ⟨_, rfl⟩
          obtain ⟨x2, hx2⟩ : ∃ x, Hid (L.getD (3 * k + 2) [] = x) := ⟨_, rfl⟩
          rw [hx0.out] at r0 hl0
          rw [hx1.out] at r1 hl1
          rw [hx2.out] at r2 hl2
          have q0 : n0 ≤ 1048576 := by have := r0.1; omega
          have q1 : n1 ≤ 1048576 := by have := r1.1; omega
          have q2 : n2 ≤ 1048576 := by have := r2.1; omega
          have HT := hide (stepOf_any p a0 a1 a2 n0 n1 n2 c0 c1 c2 x0 x1 x2 _ (r0.alloc (.cells #[.slice a0 n0 c0, .slice a1 n1 c1, .slice a2 n2 c2] 77)) (r1.alloc _) (r2.alloc _) q0 q1 q2 hp)
          clear hr r0 r1 r2 hl0 hl1 hl2 hs' m0 m1 m2 q0 q1 q2
          go_wp2_with fail
          refine HT.out.mono ?_
          rintro e w2 ⟨rfl, hb2⟩
          have HI2 := hide ((hin.out.grow (below_al wr (.cells #[.slice a0 n0 c0, .slice a1 n1 c1, .slice a2 n2 c2] 77))).grow hb2)
          have hTO : Hid (triOk p L k = tri3Ok p x0 x1 x2) := by show _ = _; rw [triOk_eq, hx0.out, hx1.out, hx2.out]
          have h2s := HI2.out.size
          have r10' := cell_of_row w2 (w.heap.size + 1) 0 _ _ _ HI2.out.res
          have r11' := cell_of_row w2 (w.heap.size + 1) 1 _ _ _ HI2.out.res
          simp at r10' r11'
          have f10' := frozen_of_row w2 (w.heap.size + 1) 0 _ _ HI2.out.res
          have f11' := frozen_of_row w2 (w.heap.size + 1) 1 _ _ HI2.out.res
          have hp1' : w.heap.size + 1 < w2.heap.size := by omega
          clear HT hb2 hin r10 r11 f10 f11 hcp hc0 hc1 hc2 hpw hsz
          by_cases g : tri3Ok p x0 x1 x2 = true
          rotate_left
          · have g' : tri3Ok p x0 x1 x2 = false := by simpa using g
            have HN : Hid (netOk p n L = false) := netOk_no hlt (hTO.out.trans g')
            rw [g', show bit3 false x0 = 0 from rfl, show bit3 false x1 = 0 from rfl, show bit3 false x2 = 0 from rfl]
            have HB := hide (HI2.out.bel)
            clear g g' HI2 hx0 hx1 hx2 hTO hu HL
            go_wp2_with fail
            refine bodyPost_ret (v := .tuple #[.agg #[.int .i64 0, .slice none 0 0], .bool false]) (by simp [results, Try.results60, go_sem, r10', r11', hp1']) rfl ?_
            exact netEnd_no HN.out (((HB.out.setCell (by simp) _).setCell (by simp) _).alloc (by have := HB.out.size; simp [World.setCell]; omega) _)
          have HU : Hid ((List.range (k + 1)).all (triOk p L) = true) := all_range_succ hu.out (hTO.out.trans g)
          obtain ⟨s0, hs0⟩ : ∃ s, Hid ((maskL x0 : Int) = s) := ⟨_, rfl⟩
          obtain ⟨s1, hs1⟩ : ∃ s, Hid ((maskL x1 : Int) = s) := ⟨_, rfl⟩
          obtain ⟨s2, hs2⟩ : ∃ s, Hid ((maskL x2 : Int) = s) := ⟨_, rfl⟩
          rw [g, show bit3 true x0 = s0 from hs0.out, show bit3 true x1 = s1 from hs1.out, show bit3 true x2 = s2 from hs2.out]
          have HI3 := hide (HI2.out.grow (below_al w2 (.cells #[.int .u16 s0, .int .u16 s1, .int .u16 s2] 85)))
          have HI4 := hide (HI3.out.step (s0 := s0) (s1 := s1) (s2 := s2) hlt (by rw [hx0.out]; exact hs0.out) (by rw [hx1.out]; exact hs1.out) (by rw [hx2.out]; exact hs2.out))
          have HTH : Hid ((w2.alloc (.cells #[.int .u16 s0, .int .u16 s1, .int .u16 s2] 85)).there (w.heap.size + 1 + 1) (k * 3) 3) := by
            obtain ⟨C, h1, h2, _⟩ := HI3.out.part
            exact there_of_row h1 (by omega)
          clear g hTO hu HI2 HI3 hx0 hx1 hx2 hs0 hs1 hs2 HL
          go_wp2_with (refine wpList_store3 rfl 85 (.tmp 45) (.tmp 44) rfl _ _ _ _ _ rfl rfl HTH.out Try.size85 rfl rfl rfl ?_)
          go_roundw
          case rel => exact ⟨k + 1, by omega, by go_num, HU, HI4⟩
          case measure => simp [intOf]; omega
        · have hk' : k = n := by omega
          subst hk'
          have HN : Hid (netOk p k L = true) := netOk_yes hp hn hu.out
          go_wp2_with fail
          refine bodyPost_ret (v := .tuple #[.agg #[.int .i64 p, .slice (some ⟨w.heap.size + 1 + 1, 0, none⟩) k k], .bool true]) (by simp [results, Try.results60, go_sem, r10, r11]) rfl ?_
          exact ⟨_, _, _, _, by rw [HN.out], fun _ => ⟨rfl, rfl, rfl, _, rfl, by omega, (hin.out.part.set_other (by omega) _ _).set_other (by omega) _ _⟩, (hin.out.bel.setCell (by simp) _).setCell (by simp) _⟩
    · have HN : Hid (netOk p n L = false) := by show netOk p n L = false; unfold netOk; simp [hn]
      have hn' : (24 : Int) < (n : Int) := by omega
      clear h
      go_enter Try.func60, Try.ntmps60
      go_wp2_with (go_at_call 55; refine (goodPlaces_any _ _).mono ?_; rintro e w' ⟨rfl, rfl⟩)
      refine bodyPost_ret (v := .tuple #[.agg #[.int .i64 0, .slice none 0 0], .bool false]) (by simp [results, Try.results60, go_sem]) rfl ?_
      exact netEnd_no HN.out (below_two _ _ _)
  · have hp' : inB p 1 16 = false := by simpa using hp
    have HN : Hid (netOk p n L = false) := by show netOk p n L = false; unfold netOk; simp [hp']
    clear hp h
    go_enter Try.func60, Try.ntmps60
    go_wp2_with (go_at_call 55; refine (goodPlaces_any _ _).mono ?_; rintro e w' ⟨rfl, rfl⟩)
    refine bodyPost_ret (v := .tuple #[.agg #[.int .i64 0, .slice none 0 0], .bool false]) (by simp [results, Try.results60, go_sem]) rfl ?_
    exact netEnd_no HN.out (below_two _ _ _)

end Go.Proofs.Ytmhgdhkpceggkab


/- How a net that comes in is opened: a number and a slice whose lists can be read. -/
namespace Go.Proofs.Ytmhgdhkpceggkab
open Go.ChangeShapes Go.WideShapes Go.ChangeAt Go.RowKit Go.Deep Go.Joins

theorem row_of_ints {H : Type} {enc : TypeId × Value → H} {W : World} {base fuel : Nat} {v : Value} {x : DataW H × List MemPlace} (h : DataW.trod enc Try.prog W base (fun _ => true) true fuel 38 [v] = some x) :
    ∃ a n c xs, v = .slice a n c ∧ n ≤ maxLen ∧ Row W a n xs := by
  rcases open_ints Try.underlying38 Try.underlying3 (by kernel_rfl) h with ⟨hcs, _⟩ | ⟨y, l, c, zs, hcs, _, hl, hm, hz, _, hcell, _⟩
  · simp at hcs
    exact ⟨none, 0, 0, [], hcs, Nat.zero_le _, rfl, .inl rfl⟩
  · simp at hcs
    refine ⟨some y, l, c, zs.take l, hcs, by omega, ?_, ?_⟩
    · rw [List.length_take]; simp at hz; omega
    · by_cases h0 : l = 0
      · exact .inl h0
      · simp at hz
        obtain ⟨b, off, spot⟩ := y
        have hc := hcell 0 (by omega)
        have hspot : spot = none := by simpa [Addr.add] using World.cell?_spot hc
        subst hspot
        refine .inr ⟨b, off, rfl, ?_, fun i hi => ?_⟩
        · have := block_lt_of_cell hc; simpa [Addr.add] using this
        · have := hcell i (by omega)
          rw [List.getD_eq_getElem?_getD, List.getElem?_take_of_lt hi, ← List.getD_eq_getElem?_getD]
          rw [Addr.add_mid] at this
          exact this

set_option maxRecDepth 10000 in
theorem open_net {H : Type} {enc : TypeId × Value → H} {W : World} {base b0 : Nat} {r : Reach} {v : Value} {d : DataW H} {ps : List MemPlace} (hv : Value.okWide Try.prog W r b0 24 v) (h : DataW.Trod enc Try.prog W base (fun _ => true) true 24 v d ps) :
    ∃ p a n c L, v = .agg #[.int .i64 p, .slice a n c] ∧ n ≤ maxLen ∧ Lists W a (3 * n) L := by
  obtain ⟨v0, v1, y0, y1, m, rfl, _, _, h0, h1⟩ := open_agg2 Try.underlying24 (by kernel_rfl) (by kernel_rfl) hv h
  obtain ⟨p, hp, _, _⟩ := DataW.trod_int Try.underlying3 h0
  simp at hp
  subst hp
  have hC : Try.prog.cellsOf 73 = 3 := by kernel_rfl
  rcases open_slice Try.underlying22 h1 with ⟨hcs, _⟩ | ⟨a, len, cap, q, n', D, Pl, hcs, hb, hl, hm, hq, _, hel⟩
  · simp at hcs
    subst hcs
    exact ⟨p, none, 0, 0, [], rfl, Nat.zero_le _, rfl, .inl rfl⟩
  · simp at hcs
    subst hcs
    simp at hq
    subst hq
    rw [hC] at hel
    have key : ∀ i, i < len → ∃ (t : (Option Addr × Nat × Nat × List Int) × (Option Addr × Nat × Nat × List Int) × (Option Addr × Nat × Nat × List Int)),
        (W.cell? (a.add (i * 3)) = some (.slice t.1.1 t.1.2.1 t.1.2.2.1) ∧ t.1.2.1 ≤ maxLen ∧ Row W t.1.1 t.1.2.1 t.1.2.2.2) ∧
        (W.cell? ((a.add (i * 3)).add 1) = some (.slice t.2.1.1 t.2.1.2.1 t.2.1.2.2.1) ∧ t.2.1.2.1 ≤ maxLen ∧ Row W t.2.1.1 t.2.1.2.1 t.2.1.2.2.2) ∧
        (W.cell? ((a.add (i * 3)).add 2) = some (.slice t.2.2.1 t.2.2.2.1 t.2.2.2.2.1) ∧ t.2.2.2.1 ≤ maxLen ∧ Row W t.2.2.1 t.2.2.2.1 t.2.2.2.2.2) := by
      intro i hi
      obtain ⟨cs', hc1, hc2⟩ := hel i (by omega)
      obtain ⟨_, hlen, hcell⟩ := World.cells?_some hc1
      obtain ⟨y0, y1, y2, m', _, _, g0, g1, g2⟩ := trod_struct3 Try.underlying73 hc2
      match cs', hlen with
      | [u0, u1, u2], _ =>
        have k0 : Try.prog.cellsOf 38 = 1 := by kernel_rfl
        simp [k0] at g0 g1 g2
        obtain ⟨a0, n0, c0, x0, rfl, l0, r0⟩ := row_of_ints g0
        obtain ⟨a1, n1, c1, x1, rfl, l1, r1⟩ := row_of_ints g1
        obtain ⟨a2, n2, c2, x2, rfl, l2, r2⟩ := row_of_ints g2
        have w0 := hcell 0 (by omega)
        have w1 := hcell 1 (by omega)
        have w2 := hcell 2 (by omega)
        simp at w0 w1 w2
        refine ⟨((a0, n0, c0, x0), (a1, n1, c1, x1), (a2, n2, c2, x2)), ⟨by simpa [Addr.add] using w0, l0, r0⟩, ⟨w1, l1, r1⟩, ⟨w2, l2, r2⟩⟩
    obtain ⟨f, hf⟩ := choose_lt key
    refine ⟨p, some a, len, _, (List.range (3 * len)).map fun j => if j % 3 = 0 then (f (j / 3)).1.2.2.2 else if j % 3 = 1 then (f (j / 3)).2.1.2.2.2 else (f (j / 3)).2.2.2.2.2, rfl, by omega, by simp, ?_⟩
    by_cases h0 : len = 0
    · exact .inl (by omega)
    · obtain ⟨b, off, spot⟩ := a
      have hc := (hf 0 (by omega)).1.1
      have hspot : spot = none := by simpa [Addr.add] using World.cell?_spot hc
      subst hspot
      refine .inr ⟨b, off, rfl, ?_, fun j hj => ?_⟩
      · have := block_lt_of_cell hc; simpa [Addr.add] using this
      · have hj3 : j / 3 < len := by omega
        obtain ⟨q0, q1, q2⟩ := hf (j / 3) hj3
        simp only [Addr.add_mid] at q0 q1 q2
        simp only [List.getD_eq_getElem?_getD, List.getElem?_map, List.getElem?_range hj, Option.map_some, Option.getD_some]
        by_cases e0 : j % 3 = 0
        · rw [if_pos e0]
          have : off + j = off + j / 3 * 3 := by omega
          rw [this]; exact ⟨_, _, _, q0⟩
        · rw [if_neg e0]
          by_cases e1 : j % 3 = 1
          · rw [if_pos e1]
            have : off + j = off + j / 3 * 3 + 1 := by omega
            rw [this]; exact ⟨_, _, _, q1⟩
          · rw [if_neg e1]
            have : off + j = off + j / 3 * 3 + 2 := by omega
            rw [this]; exact ⟨_, _, _, q2⟩

theorem keep {v v' : World} {b : Nat} {C : Array Value} {t : TypeId} (h : v.heap[b]? = some (.cells C t (0, 0))) (hb : Below v.heap.size v v') : v'.heap[b]? = some (.cells C t (0, 0)) :=
  (hb.block b (Array.getElem?_eq_some_iff.mp h).1).trans h

theorem cells2 {v : World} {b : Nat} {x y : Value} {t : TypeId} (h : v.heap[b]? = some (.cells #[x, y] t (0, 0))) : v.cell? ⟨b, 0, none⟩ = some x ∧ v.cell? ⟨b, 1, none⟩ = some y :=
  ⟨cell_of_row v b 0 _ _ _ h, cell_of_row v b 1 _ _ _ h⟩

theorem row_lt {v : World} {b : Nat} {C : Array Value} {t : TypeId} (h : v.heap[b]? = some (.cells C t (0, 0))) : b < v.heap.size := (Array.getElem?_eq_some_iff.mp h).1
end Go.Proofs.Ytmhgdhkpceggkab


/- HasResets of the specification. -/
namespace Go.Proofs.Ytmhgdhkpceggkab
open Go.RowKit

def resB (n : Nat) (L : List (List Int)) : Bool := (List.range n).any fun i => !(L.getD (3 * i + 2) []).isEmpty

theorem resB_yes {n k : Nat} {L : List (List Int)} (hk : k < n) (h : L.getD (3 * k + 2) [] ≠ []) : resB n L = true := by
  unfold resB
  rw [List.any_eq_true]
  refine ⟨k, by simpa using hk, ?_⟩
  cases hq : L.getD (3 * k + 2) []
  · exact absurd hq h
  · rfl

theorem resB_step {k : Nat} {L : List (List Int)} (h : resB k L = false) (he : L.getD (3 * k + 2) [] = []) : resB (k + 1) L = false := by
  unfold resB at *
  rw [List.range_succ, List.any_append, h]
  simp only [List.any_cons, List.any_nil, Bool.or_false, Bool.false_or, he]
  rfl

set_option maxHeartbeats 1000000 in
theorem resS_any (p : Int) (a : Option Addr) (n c : Nat) (L : List (List Int)) (w : World) (h : Lists w a (3 * n) L) (hn : n ≤ 24) :
    Calls Try.prog 38 #[.agg #[.int .i64 p, .slice a n c]] w fun e w' => e = .returned (.bool (resB n L)) ∧ Below w.heap.size w w' := by
  have hAl := below_al w (.cells #[.int .i64 p, .slice a n c] 31)
  have HL := hide h
  have HB0 := hide hAl
  clear h hAl
  go_enter Try.func38, Try.ntmps38
  go_wp2_with fail
  obtain ⟨V, hV⟩ : ∃ V, Hid (w.alloc (.cells #[.int .i64 p, .slice a n c] 31) = V) := ⟨_, rfl⟩
  rw [hV.out] at HB0 ⊢
  clear hV
  go_loopw [8] (fun i wr => ∃ k : Nat, k ≤ n ∧ i = .int .i64 k ∧ Hid (resB k L = false) ∧ Hid (Below w.heap.size w wr)) (fun i _ => n - (intOf i).toNat)
  case atStart => exact ⟨0, Nat.zero_le _, rfl, rfl, HB0⟩
  case round =>
    obtain ⟨k, hk, rfl, hu, hbw⟩ := hrel
    by_cases hlt : k < n
    rotate_left
    · have hk' : k = n := by omega
      subst hk'
      go_wp2_with fail
      go_ret
      exact ⟨ret_bool hu.out.symm, hbw.out⟩
    obtain ⟨b, off, a0, n0, c0, a1, n1, c1, a2, n2, c2, rfl, hb, hr, m0, m1, m2, r0, r1, r2⟩ := (HL.out.below hbw.out).tri hlt
    obtain ⟨hc0, hc1, hc2⟩ := rangeAt_cells3 hr
    have hl := r2.1
    have hA1 := below_al wr (.cells #[.slice a0 n0 c0, .slice a1 n1 c1, .slice a2 n2 c2] 77)
    have HB1 := hide (hbw.out.trans (hA1.mono hbw.out.size))
    clear hr r0 r1 r2 m0 m1 m2 hA1
    by_cases hz : n2 = 0
    · subst hz
      have HU := hide (resB_step hu.out (List.length_eq_zero_iff.mp hl))
      clear hl hu
      go_wp2_with fail
      go_roundw
      case rel => exact ⟨k + 1, by omega, by go_num, HU, HB1⟩
      case measure => simp [intOf]; omega
    · have HY := hide (resB_yes hlt (fun e => hz (by rw [← hl, e]; rfl)))
      have hz' : (0 : Int) < (n2 : Int) := by omega
      clear hl hu
      go_wp2_with fail
      go_ret
      exact ⟨ret_bool HY.out.symm, HB1.out⟩

theorem ret_2 {a b c d : Bool} (h : a = b) (hb : c = d) : Ending.returned (.tuple #[.bool a, .bool c]) = .returned (.tuple #[.bool b, .bool d]) := by rw [h, hb]

theorem netN {p : Int} {n : Nat} {L : List (List Int)} (h : netOk p n L = true) : n ≤ 24 := by
  unfold netOk at h; simp at h; exact h.1.2

end Go.Proofs.Ytmhgdhkpceggkab


/- HasResets of the program: slices.ContainsFunc over its steps. -/
namespace Go.Proofs.Ytmhgdhkpceggkab
open Go.RowKit

theorem PartS.at3 {w : World} {B n k : Nat} {L : List (List Int)} (h : PartS w B (3 * n) (3 * n) L) (hk : k < n) :
    w.cell? ⟨B, k * 3, none⟩ = some (.int .u16 (maskL (L.getD (3 * k) []) : Int)) ∧ w.cell? ⟨B, k * 3 + 1, none⟩ = some (.int .u16 (maskL (L.getD (3 * k + 1) []) : Int)) ∧ w.cell? ⟨B, k * 3 + 2, none⟩ = some (.int .u16 (maskL (L.getD (3 * k + 2) []) : Int)) := by
  obtain ⟨C, h1, h2, h3⟩ := h
  refine ⟨?_, ?_, ?_⟩
  · rw [cell_of_row w B _ C _ _ h1, Nat.mul_comm]; exact h3 _ (by omega)
  · rw [cell_of_row w B _ C _ _ h1, Nat.mul_comm]; exact h3 _ (by omega)
  · rw [cell_of_row w B _ C _ _ h1, Nat.mul_comm]; exact h3 _ (by omega)

set_option maxHeartbeats 400000 in
theorem empties_any (s0 s1 s2 : Nat) (w : World) :
    Calls Try.prog 62 #[.agg #[.int .u16 (s0 : Int), .int .u16 (s1 : Int), .int .u16 (s2 : Int)]] w fun e w' => e = .returned (.bool (!decide (s2 = 0))) ∧ Below w.heap.size w w' := by
  by_cases h : s2 = 0
  · subst h
    go_enter Try.func62, Try.ntmps62
    go_wp2_with fail
    go_ret
    exact ⟨rfl, below_al _ _⟩
  · have hd : ((s2 : Int) != 0) = true := by simp; omega
    have HB := hide (show (!decide (s2 = 0)) = true by simp [h])
    clear h
    go_enter Try.func62, Try.ntmps62
    go_wp2_with fail
    go_ret
    exact ⟨ret_bool HB.out.symm, below_al _ _⟩

def resM (n : Nat) (L : List (List Int)) : Bool := (List.range n).any fun i => !decide (maskL (L.getD (3 * i + 2) []) = 0)

theorem resM_yes {n k : Nat} {L : List (List Int)} (hk : k < n) (h : (!decide (maskL (L.getD (3 * k + 2) []) = 0)) = true) : resM n L = true := by
  unfold resM
  rw [List.any_eq_true]
  exact ⟨k, by simpa using hk, h⟩

theorem resM_step {k : Nat} {L : List (List Int)} (h : resM k L = false) (he : (!decide (maskL (L.getD (3 * k + 2) []) = 0)) = false) : resM (k + 1) L = false := by
  unfold resM at *
  rw [List.range_succ, List.any_append, h]
  simp only [List.any_cons, List.any_nil, Bool.or_false, he]

/-- Where the first one is that empties a place, or -1. -/
def IdxEnd (n : Nat) (L : List (List Int)) (w : World) (e : Ending) (w' : World) : Prop := ∃ z : Int, e = .returned (.int .i64 z) ∧ Hid (decide (0 ≤ z) = resM n L) ∧ Below w.heap.size w w'

set_option maxHeartbeats 1000000 in
theorem index_any (B n : Nat) (L : List (List Int)) (w : World) (h : PartS w B (3 * n) (3 * n) L) (hn : n ≤ 24) :
    Calls Try.prog 74 #[.slice (some ⟨B, 0, none⟩) n n, .func (.func 62) #[] #[]] w fun e w' => IdxEnd n L w e w' := by
  have HP := hide h
  clear h
  go_enter Try.func74, Try.ntmps74
  go_wp2_with fail
  go_loopw [8] (fun i wr => ∃ k : Nat, k ≤ n ∧ i = .int .i64 k ∧ Hid (resM k L = false) ∧ Hid (Below w.heap.size w wr)) (fun i _ => n - (intOf i).toNat)
  case atStart => exact ⟨0, Nat.zero_le _, rfl, rfl, Below.refl _ _⟩
  case round =>
    obtain ⟨k, hk, rfl, hu, hbw⟩ := hrel
    by_cases hlt : k < n
    rotate_left
    · have hk' : k = n := by omega
      subst hk'
      have HE : Hid (IdxEnd k L w (.returned (.int .i64 (-1))) wr) := ⟨-1, rfl, by rw [hu.out]; rfl, hbw.out⟩
      go_wp2_with fail
      go_ret
      exact HE.out
    obtain ⟨hc0, hc1, hc2⟩ := (HP.out.grow hbw.out).at3 hlt
    have HH := hide (empties_any (maskL (L.getD (3 * k) [])) (maskL (L.getD (3 * k + 1) [])) (maskL (L.getD (3 * k + 2) [])) wr)
    cases hh : !decide (maskL (L.getD (3 * k + 2) []) = 0)
    · have HU := hide (resM_step hu.out hh)
      rw [hh] at HH
      clear hh hu
      generalize maskL (L.getD (3 * k) []) = s0 at *
      generalize maskL (L.getD (3 * k + 1) []) = s1 at *
      generalize maskL (L.getD (3 * k + 2) []) = s2 at *
      go_wp2_with fail
      refine HH.out.mono ?_
      rintro e w1 ⟨rfl, hb⟩
      have HB := hide (hbw.out.trans (hb.mono hbw.out.size))
      clear hb HH hc0 hc1 hc2
      go_wp2_with fail
      go_roundw
      case rel => exact ⟨k + 1, by omega, by go_num, HU, HB⟩
      case measure => simp [intOf]; omega
    · have HY := hide (resM_yes hlt hh)
      rw [hh] at HH
      clear hh hu
      generalize maskL (L.getD (3 * k) []) = s0 at *
      generalize maskL (L.getD (3 * k + 1) []) = s1 at *
      generalize maskL (L.getD (3 * k + 2) []) = s2 at *
      go_wp2_with fail
      refine HH.out.mono ?_
      rintro e w1 ⟨rfl, hb⟩
      have HE : Hid (IdxEnd n L w (.returned (.int .i64 (k : Int))) w1) := ⟨k, rfl, by rw [HY.out]; simp [Hid], hbw.out.trans (hb.mono hbw.out.size)⟩
      clear hb HH hc0 hc1 hc2
      go_wp2_with fail
      go_ret
      exact HE.out

set_option maxHeartbeats 400000 in
theorem contains_any (B n : Nat) (L : List (List Int)) (w : World) (h : PartS w B (3 * n) (3 * n) L) (hn : n ≤ 24) :
    Calls Try.prog 61 #[.slice (some ⟨B, 0, none⟩) n n, .func (.func 62) #[] #[]] w fun e w' => e = .returned (.bool (resM n L)) ∧ Below w.heap.size w w' := by
  have HI := hide (index_any B n L w h hn)
  clear h
  go_enter Try.func61, Try.ntmps61
  go_wp2_with fail
  refine HI.out.mono ?_
  rintro e w1 ⟨z, rfl, hz, hb⟩
  have HB := hide hb
  clear hb HI
  go_wp2_with fail
  go_ret
  exact ⟨ret_bool hz.out, HB.out⟩

theorem res_eq {p : Int} {n : Nat} {L : List (List Int)} (h : netOk p n L = true) : resM n L = resB n L := by
  have key : ∀ i, i < n → (!decide (maskL (L.getD (3 * i + 2) []) = 0)) = !(L.getD (3 * i + 2) []).isEmpty := by
    intro i hi
    unfold netOk at h
    rw [Bool.and_eq_true] at h
    have ht := List.all_eq_true.mp h.2 i (by simpa using hi)
    unfold triOk at ht
    simp only [Bool.and_eq_true] at ht
    have hz := maskL_zero (fun x hx => (riseB_mem ht.2 x hx).1)
    by_cases e : L.getD (3 * i + 2) [] = []
    · rw [e]; rfl
    · have : ¬ maskL (L.getD (3 * i + 2) []) = 0 := fun q => e (hz.mp q)
      rw [decide_eq_false this]
      cases hq : L.getD (3 * i + 2) []
      · exact absurd hq e
      · rfl
  unfold resM resB
  rw [Bool.eq_iff_iff, List.any_eq_true, List.any_eq_true]
  constructor
  · rintro ⟨i, hi, hh⟩; exact ⟨i, hi, by rw [← key i (by simpa using hi)]; exact hh⟩
  · rintro ⟨i, hi, hh⟩; exact ⟨i, hi, by rw [key i (by simpa using hi)]; exact hh⟩

end Go.Proofs.Ytmhgdhkpceggkab
