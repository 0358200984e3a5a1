/- Contracts that the proof stands on, one behind the other. -/
import Derived.Test.YtakenobplljkbabP1
/- When a net is good, as the specification reckons it: l1Rising and the specification's GoodNet, for every net in memory. -/
namespace Go.Proofs.Ytakenobplljkbab
open Go.RowKit

/-- Numbers that rise, from lo to hi. -/
def riseB : List Int → Int → Int → Bool
  | [], _, _ => true
  | x :: xs, lo, hi => decide (lo ≤ x) && decide (x ≤ hi) && riseB xs (x + 1) hi

/-- As many as the first k rise; then the least that may follow. -/
theorem riseB_append (xs ys : List Int) (lo hi : Int) : riseB (xs ++ ys) lo hi = (riseB xs lo hi && riseB ys (xs.getLast?.elim lo (· + 1)) hi) := by
  induction xs generalizing lo with
  | nil => simp [riseB]
  | cons x r ih =>
    simp only [List.cons_append, riseB, ih]
    have : (x :: r).getLast?.elim lo (· + 1) = r.getLast?.elim (x + 1) (· + 1) := by
      cases r with
      | nil => rfl
      | cons y r' =>
        obtain ⟨z, hz⟩ : ∃ z, (y :: r').getLast? = some z := ⟨_, List.getLast?_eq_some_getLast (by simp)⟩
        rw [List.getLast?_cons_cons, hz]; rfl
    rw [this]
    simp [Bool.and_assoc]

/-- What the first k numbers ask of the next. -/
def nextLo (xs : List Int) (k : Nat) (lo : Int) : Int := if k = 0 then lo else xs.getD (k - 1) 0 + 1

theorem nextLo_take (xs : List Int) (k : Nat) (lo : Int) (hk : k ≤ xs.length) : (xs.take k).getLast?.elim lo (· + 1) = nextLo xs k lo := by
  unfold nextLo
  by_cases h : k = 0
  · subst h; simp
  · rw [if_neg h, List.getLast?_take]
    simp [h, List.getElem?_eq_getElem (show k - 1 < xs.length by omega)]

theorem riseB_step {xs : List Int} {k : Nat} {x lo hi : Int} (h : riseB (xs.take k) lo hi = true) (hx : xs[k]? = some x) : riseB (xs.take (k + 1)) lo hi = (decide (nextLo xs k lo ≤ x) && decide (x ≤ hi)) := by
  have hk : k < xs.length := (List.getElem?_eq_some_iff.mp hx).1
  rw [List.take_add_one, hx, riseB_append, h, nextLo_take xs k lo (by omega)]
  simp [riseB]

theorem riseB_no {xs : List Int} {k : Nat} {lo hi : Int} (h : riseB (xs.take k) lo hi = false) : riseB xs lo hi = false := by
  conv => lhs; rw [← List.take_append_drop k xs]
  rw [riseB_append, h]; rfl

theorem riseB_take {xs : List Int} {k : Nat} {lo hi : Int} (h : riseB xs lo hi = true) : riseB (xs.take k) lo hi = true := by
  cases hq : riseB (xs.take k) lo hi with
  | true => rfl
  | false => rw [riseB_no hq] at h; exact h

/-- What is next is no less than lo, where the first ones rise. -/
theorem nextLo_ge {xs : List Int} {k : Nat} {lo hi : Int} (h : riseB (xs.take k) lo hi = true) (hk : k ≤ xs.length) : lo ≤ nextLo xs k lo := by
  induction k with
  | zero => simp [nextLo]
  | succ k ih =>
    have hk' : k < xs.length := by omega
    have h0 : riseB (xs.take k) lo hi = true := by
      have := riseB_take (k := k) h
      rwa [List.take_take, Nat.min_eq_left (by omega)] at this
    rw [riseB_step h0 (List.getElem?_eq_getElem hk')] at h
    simp at h
    have := ih h0 (by omega)
    simp only [nextLo, Nat.add_one_ne_zero, if_false, Nat.add_sub_cancel]
    rw [List.getD_eq_getElem?_getD, List.getElem?_eq_getElem hk']
    simp; omega

theorem riseB_done {xs : List Int} {n : Nat} {lo hi : Int} (h : riseB (xs.take n) lo hi = true) (hl : xs.length = n) : riseB xs lo hi = true := by
  rwa [List.take_of_length_le (by omega)] at h

set_option maxHeartbeats 1000000 in
theorem rising_any (a : Option Addr) (n ca : Nat) (xs : List Int) (lo hi : Int) (w : World) (ha : Row w a n xs) (hn : n ≤ 1048576) :
    Calls Try.prog 57 #[.slice a n ca, .int .i64 lo, .int .i64 hi] w fun e w' => e = .returned (.bool (riseB xs lo hi)) ∧ w' = w := by
  go_enter Try.func57, Try.ntmps57
  go_wp2_with fail
  go_loop [11] (fun i => ∃ k : Nat, k ≤ n ∧ i = .int .i64 k ∧ Hid (riseB (xs.take k) lo hi = true)) (fun i => n - (intOf i).toNat)
  case atStart => exact ⟨0, Nat.zero_le _, rfl, rfl⟩
  case round =>
    obtain ⟨k, hk, rfl, hu⟩ := hrel
    by_cases hlt : k < n
    · obtain ⟨b1, o1, x, rfl, hl1, hc1, H1⟩ := ha.at hlt
      have HS := hide (riseB_step hu.out H1.out)
      have HGE := hide (nextLo_ge hu.out (show k ≤ xs.length by have := ha.1; omega))
      by_cases hi' : inB x lo hi = true
      · have HI : Hid (lo ≤ x ∧ x ≤ hi) := by simpa [inB, Hid] using hi'
        by_cases h0 : k = 0
        · subst h0
          have HU : Hid (riseB (xs.take (0 + 1)) lo hi = true) := by
            show riseB (xs.take (0 + 1)) lo hi = true
            rw [HS.out]; simp [nextLo, HI.out.1, HI.out.2]
          rw [Nat.add_zero] at hc1
          clear ha hu HS HGE H1
          go_wp2_with (go_at_call 74; refine (in_any _ _ _ _).mono ?_; rintro e w' ⟨rfl, rfl⟩)
          go_round
          case rel => exact ⟨0 + 1, by omega, by go_num, HU⟩
          case measure => simp [intOf]; omega
        · obtain ⟨j, rfl⟩ : ∃ j, k = j + 1 := ⟨k - 1, by omega⟩
          obtain ⟨b2, o2, y, he, hl2, hc2, H2⟩ := ha.at (show j < n by omega)
          simp only [Option.some.injEq, Addr.mk.injEq] at he
          obtain ⟨rfl, rfl, _⟩ := he
          have hnx : nextLo xs (j + 1) lo = y + 1 := by
            simp only [nextLo, Nat.add_one_ne_zero, if_false, Nat.add_sub_cancel]
            rw [List.getD_eq_getElem?_getD, H2.out]; rfl
          have hz : (0 : Int) < ((j + 1 : Nat) : Int) := by omega
          have hj : ((j + 1 : Nat) : Int) - 1 = ((j : Nat) : Int) := by omega
          have hjn : ((j : Nat) : Int) < (n : Int) := by omega
          by_cases hyx : y < x
          · have HU : Hid (riseB (xs.take (j + 1 + 1)) lo hi = true) := by
              show riseB (xs.take (j + 1 + 1)) lo hi = true
              rw [HS.out, hnx]; have := HI.out; simp; omega
            clear ha hu HS HGE H1 H2 hnx
            go_wp2_with (go_at_call 74; refine (in_any _ _ _ _).mono ?_; rintro e w' ⟨rfl, rfl⟩)
            go_round
            case rel => exact ⟨j + 1 + 1, by omega, by go_num, HU⟩
            case measure => simp [intOf]; omega
          · have HN : Hid (riseB xs lo hi = false) := by
              refine riseB_no (k := j + 1 + 1) ?_
              rw [HS.out, hnx]; simp; omega
            clear ha hu HS HGE H1 H2 hnx
            go_wp2_with (go_at_call 74; refine (in_any _ _ _ _).mono ?_; rintro e w' ⟨rfl, rfl⟩)
            go_ret
            exact ⟨ret_bool HN.out.symm, rfl⟩
      · have hi'' : inB x lo hi = false := by simpa using hi'
        have HN : Hid (riseB xs lo hi = false) := by
          refine riseB_no (k := k + 1) ?_
          rw [HS.out]
          have h1 := HGE.out
          simp [inB] at hi'
          simp; intro h2; omega
        clear ha hu HS HGE H1 hi'
        go_wp2_with (go_at_call 74; refine (in_any _ _ _ _).mono ?_; rintro e w' ⟨rfl, rfl⟩)
        go_ret
        exact ⟨ret_bool HN.out.symm, rfl⟩
    · have hk' : k = n := by omega
      subst hk'
      have HA := hide (riseB_done hu.out ha.1)
      go_wp2_with fail
      go_ret
      exact ⟨ret_bool HA.out.symm, rfl⟩
end Go.Proofs.Ytakenobplljkbab


/- When a net is good, by the specification: GoodNet for every net in memory. -/
namespace Go.Proofs.Ytakenobplljkbab
open Go.RowKit

def triOk (p : Int) (L : List (List Int)) (i : Nat) : Bool :=
  !(L.getD (3 * i) []).isEmpty && riseB (L.getD (3 * i) []) 0 (p - 1) && riseB (L.getD (3 * i + 1) []) 0 (p - 1) && riseB (L.getD (3 * i + 2) []) 0 (p - 1)

def netOk (p : Int) (n : Nat) (L : List (List Int)) : Bool := inB p 1 16 && decide (n ≤ 24) && (List.range n).all (triOk p L)

theorem triOk_no0 {p : Int} {L : List (List Int)} {i : Nat} (h : L.getD (3 * i) [] = []) : triOk p L i = false := by unfold triOk; rw [h]; rfl
theorem triOk_no1 {p : Int} {L : List (List Int)} {i : Nat} {x : List Int} (h : L.getD (3 * i) [] = x) (hr : riseB x 0 (p - 1) = false) : triOk p L i = false := by unfold triOk; rw [h, hr]; simp
theorem triOk_no2 {p : Int} {L : List (List Int)} {i : Nat} {x : List Int} (h : L.getD (3 * i + 1) [] = x) (hr : riseB x 0 (p - 1) = false) : triOk p L i = false := by unfold triOk; rw [h, hr]; simp
theorem triOk_no3 {p : Int} {L : List (List Int)} {i : Nat} {x : List Int} (h : L.getD (3 * i + 2) [] = x) (hr : riseB x 0 (p - 1) = false) : triOk p L i = false := by unfold triOk; rw [h, hr]; simp
theorem triOk_yes {p : Int} {L : List (List Int)} {i : Nat} {x y z : List Int} (h : L.getD (3 * i) [] = x) (h1 : L.getD (3 * i + 1) [] = y) (h2 : L.getD (3 * i + 2) [] = z) (hx : x ≠ []) (hr : riseB x 0 (p - 1) = true) (hr1 : riseB y 0 (p - 1) = true) (hr2 : riseB z 0 (p - 1) = true) : triOk p L i = true := by
  unfold triOk; rw [h, h1, h2, hr, hr1, hr2]; cases x <;> simp_all

theorem netOk_no {p : Int} {n i : Nat} {L : List (List Int)} (hi : i < n) (h : triOk p L i = false) : netOk p n L = false := by
  unfold netOk
  have : (List.range n).all (triOk p L) = false := by rw [List.all_eq_false]; exact ⟨i, by simpa using hi, by simp [h]⟩
  rw [this]; simp

theorem netOk_yes {p : Int} {n : Nat} {L : List (List Int)} (hp : inB p 1 16 = true) (hn : n ≤ 24) (h : (List.range n).all (triOk p L) = true) : netOk p n L = true := by
  unfold netOk; rw [hp, h]; simpa using hn

theorem all_range_succ {f : Nat → Bool} {k : Nat} (h : (List.range k).all f = true) (hk : f k = true) : (List.range (k + 1)).all f = true := by
  rw [List.range_succ, List.all_append, h]; simp [hk]

set_option maxHeartbeats 2000000 in
theorem goodNetS_any (p : Int) (a : Option Addr) (n c : Nat) (L : List (List Int)) (w : World) (h : Lists w a (3 * n) L) (hs : sizeN n L ≤ 1048576) :
    Calls Try.prog 38 #[.agg #[.int .i64 p, .slice a n c]] w fun e w' => e = .returned (.bool (netOk p n L)) ∧ Below w.heap.size w w' := by
  have HL := hide (h.below (below_al w (.cells #[.int .i64 p, .slice a n c] 31)))
  clear h
  by_cases hp : inB p 1 16 = true
  · by_cases hn : n ≤ 24
    · have hp1 : 1 ≤ p ∧ p ≤ 16 := by simpa [inB] using hp
      obtain ⟨hp2, hp3⟩ := hp1
      go_enter Try.func38, Try.ntmps38
      go_wp2_with (go_at_call 56; refine (places_any _ _).mono ?_; rintro e w' ⟨rfl, rfl⟩)
      have HW := hide (below_al w (.cells #[.int .i64 p, .slice a n c] 31))
      have HC0 := hide (cell_of_row (w.alloc (.cells #[.int .i64 p, .slice a n c] 31)) w.heap.size 0 _ _ _ (heap_alloc_new _ _))
      have hsz : w.heap.size < (w.alloc (.cells #[.int .i64 p, .slice a n c] 31)).heap.size := by simp
      generalize w.alloc (.cells #[.int .i64 p, .slice a n c] 31) = w1 at *
      go_loopw [18] (fun i wr => ∃ k : Nat, k ≤ n ∧ i = .int .i64 k ∧ Hid ((List.range k).all (triOk p L) = true) ∧ Hid (Below w1.heap.size w1 wr)) (fun i _ => n - (intOf i).toNat)
      case atStart => exact ⟨0, Nat.zero_le _, rfl, rfl, Below.refl _ _⟩
      case round =>
        obtain ⟨k, hk, rfl, hu, hbw⟩ := hrel
        by_cases hlt : k < n
        · obtain ⟨b, off, a0, n0, c0, a1, n1, c1, a2, n2, c2, rfl, hb, hr, m0, m1, m2, r0, r1, r2⟩ := (HL.out.below hbw.out).tri hlt
          obtain ⟨hc0, hc1, hc2⟩ := rangeAt_cells3 hr
          have hl0 := len_le L (3 * k)
          have hl1 := len_le L (3 * k + 1)
          have hl2 := len_le L (3 * k + 2)
          have hs' : n + sizeL L ≤ 1048576 := hs
          obtain ⟨x0, hx0⟩ : ∃ x, Hid (L.getD (3 * k) [] = x) := ⟨_, rfl⟩
          obtain ⟨x1, hx1⟩ : ∃ x, Hid (L.getD (3 * k + 1) [] = x) := ⟨_, rfl⟩
          obtain ⟨x2, hx2⟩ : ∃ x, Hid (L.getD (3 * k + 2) [] = x) := ⟨_, rfl⟩
          rw [hx0.out] at r0 hl0
          rw [hx1.out] at r1 hl1
          rw [hx2.out] at r2 hl2
          have q0 : n0 ≤ 1048576 := by have := r0.1; omega
          have q1 : n1 ≤ 1048576 := by have := r1.1; omega
          have q2 : n2 ≤ 1048576 := by have := r2.1; omega
          have hcp : wr.cell? ⟨w.heap.size, 0, none⟩ = some (.int .i64 p) := (hbw.out.cell (p := ⟨w.heap.size, 0, none⟩) hsz).trans HC0.out
          have hpw : w.heap.size < wr.heap.size := by have := hbw.out.size; omega
          have HB := hide (HW.out.trans ((hbw.out.trans ((below_al wr (.cells #[.slice a0 n0 c0, .slice a1 n1 c1, .slice a2 n2 c2] 87)).mono hbw.out.size)).mono (by omega)))
          have HB' := hide (hbw.out.trans ((below_al wr (.cells #[.slice a0 n0 c0, .slice a1 n1 c1, .slice a2 n2 c2] 87)).mono hbw.out.size))
          have R0 := hide (r0.alloc (.cells #[.slice a0 n0 c0, .slice a1 n1 c1, .slice a2 n2 c2] 87))
          have R1 := hide (r1.alloc (.cells #[.slice a0 n0 c0, .slice a1 n1 c1, .slice a2 n2 c2] 87))
          have R2 := hide (r2.alloc (.cells #[.slice a0 n0 c0, .slice a1 n1 c1, .slice a2 n2 c2] 87))
          clear hr r0 r1 r2 hl0 hl1 hl2 hs' m0 m1 m2 hs hn
          by_cases hz : n0 = 0
          · subst hz
            have HN : Hid (netOk p n L = false) := netOk_no hlt (triOk_no0 (hx0.out.trans (List.length_eq_zero_iff.mp R0.out.1)))
            clear R0 R1 R2 hx0 hx1 hx2 hu HB'
            go_wp2_with fail
            go_ret
            exact ⟨ret_bool HN.out.symm, HB.out⟩
          have hz' : (n0 : Int) ≠ 0 := by omega
          by_cases g0 : riseB x0 0 (p - 1) = true
          rotate_left
          · have g0' : riseB x0 0 (p - 1) = false := by simpa using g0
            have HN : Hid (netOk p n L = false) := netOk_no hlt (triOk_no1 hx0.out g0')
            clear R1 R2 hx0 hx1 hx2 hu HB' g0
            go_wp2_with fail
            refine (rising_any _ _ _ x0 _ _ _ R0.out q0).mono ?_
            rintro e w' ⟨rfl, rfl⟩
            go_wp2_with fail
            go_ret
            exact ⟨ret_bool HN.out.symm, HB.out⟩
          by_cases g1 : riseB x1 0 (p - 1) = true
          rotate_left
          · have g1' : riseB x1 0 (p - 1) = false := by simpa using g1
            have HN : Hid (netOk p n L = false) := netOk_no hlt (triOk_no2 hx1.out g1')
            clear R2 hx0 hx1 hx2 hu HB' g1
            go_wp2_with fail
            refine (rising_any _ _ _ x0 _ _ _ R0.out q0).mono ?_
            rintro e w' ⟨rfl, rfl⟩
            go_wp2_with fail
            refine (rising_any _ _ _ x1 _ _ _ R1.out q1).mono ?_
            rintro e w' ⟨rfl, rfl⟩
            go_wp2_with fail
            go_ret
            exact ⟨ret_bool HN.out.symm, HB.out⟩
          by_cases g2 : riseB x2 0 (p - 1) = true
          rotate_left
          · have g2' : riseB x2 0 (p - 1) = false := by simpa using g2
            have HN : Hid (netOk p n L = false) := netOk_no hlt (triOk_no3 hx2.out g2')
            clear hx0 hx1 hx2 hu HB' g2
            go_wp2_with fail
            refine (rising_any _ _ _ x0 _ _ _ R0.out q0).mono ?_
            rintro e w' ⟨rfl, rfl⟩
            go_wp2_with fail
            refine (rising_any _ _ _ x1 _ _ _ R1.out q1).mono ?_
            rintro e w' ⟨rfl, rfl⟩
            go_wp2_with fail
            refine (rising_any _ _ _ x2 _ _ _ R2.out q2).mono ?_
            rintro e w' ⟨rfl, rfl⟩
            go_wp2_with fail
            go_ret
            exact ⟨ret_bool HN.out.symm, HB.out⟩
          have HU : Hid ((List.range (k + 1)).all (triOk p L) = true) := all_range_succ hu.out (triOk_yes hx0.out hx1.out hx2.out (fun e => hz (by rw [← R0.out.1, e]; rfl)) g0 g1 g2)
          clear hx0 hx1 hx2 hu HB
          go_wp2_with fail
          refine (rising_any _ _ _ x0 _ _ _ R0.out q0).mono ?_
          rintro e w' ⟨rfl, rfl⟩
          go_wp2_with fail
          refine (rising_any _ _ _ x1 _ _ _ R1.out q1).mono ?_
          rintro e w' ⟨rfl, rfl⟩
          go_wp2_with fail
          refine (rising_any _ _ _ x2 _ _ _ R2.out q2).mono ?_
          rintro e w' ⟨rfl, rfl⟩
          go_wp2_with fail
          go_roundw
          case rel => exact ⟨k + 1, by omega, by go_num, HU, HB'⟩
          case measure => simp [intOf]; omega
        · have hk' : k = n := by omega
          subst hk'
          have HN : Hid (netOk p k L = true) := netOk_yes hp hn hu.out
          have HB := hide (HW.out.trans (hbw.out.mono (by omega)))
          go_wp2_with fail
          go_ret
          exact ⟨ret_bool HN.out.symm, HB.out⟩
    · have HN : Hid (netOk p n L = false) := by show netOk p n L = false; unfold netOk; simp [hn]
      have hn' : (24 : Int) < (n : Int) := by omega
      go_enter Try.func38, Try.ntmps38
      go_wp2_with (go_at_call 56; refine (places_any _ _).mono ?_; rintro e w' ⟨rfl, rfl⟩)
      go_ret
      exact ⟨ret_bool HN.out.symm, below_al _ _⟩
  · have hp' : inB p 1 16 = false := by simpa using hp
    have HN : Hid (netOk p n L = false) := by show netOk p n L = false; unfold netOk; simp [hp']
    clear hp
    go_enter Try.func38, Try.ntmps38
    go_wp2_with (go_at_call 56; refine (places_any _ _).mono ?_; rintro e w' ⟨rfl, rfl⟩)
    go_ret
    exact ⟨ret_bool HN.out.symm, below_al _ _⟩
end Go.Proofs.Ytakenobplljkbab


/- Sets of places as bits: placesOf, stepOf and netSteps of the program, for every net in memory. -/
namespace Go.Proofs.Ytakenobplljkbab
open Go.RowKit

/-- The bits of a list of places. -/
def maskL (xs : List Int) : Nat := xs.foldl (fun s x => s ||| 2 ^ x.toNat) 0

theorem maskL_snoc (xs : List Int) (x : Int) : maskL (xs ++ [x]) = maskL xs ||| 2 ^ x.toNat := by simp [maskL, List.foldl_append]

theorem maskL_take (xs : List Int) (k : Nat) (x : Int) (h : xs[k]? = some x) : maskL (xs.take (k + 1)) = maskL (xs.take k) ||| 2 ^ x.toNat := by
  rw [List.take_add_one, h]; exact maskL_snoc _ _

/-- Induction from the list's end. -/
theorem snoc_ind {P : List Int → Prop} (h0 : P []) (h1 : ∀ xs x, P xs → P (xs ++ [x])) (xs : List Int) : P xs := by
  have : ∀ ys : List Int, P ys.reverse := by
    intro ys
    induction ys with
    | nil => exact h0
    | cons y r ih => rw [List.reverse_cons]; exact h1 _ _ ih
  have := this xs.reverse
  rwa [List.reverse_reverse] at this

theorem maskL_lt (xs : List Int) (h : ∀ x ∈ xs, x < 16) : maskL xs < 2 ^ 16 := by
  induction xs using snoc_ind with
  | h0 => simp [maskL]
  | h1 xs x ih =>
    rw [maskL_snoc]
    refine Nat.or_lt_two_pow (ih fun y hy => h y (by simp [hy])) ?_
    have := h x (by simp)
    exact Nat.pow_lt_pow_right (by decide) (by omega)

theorem maskL_bit (xs : List Int) (i : Nat) (h : ∀ x ∈ xs, 0 ≤ x) : (maskL xs).testBit i = decide ((i : Int) ∈ xs) := by
  induction xs using snoc_ind with
  | h0 => simp [maskL]
  | h1 xs x ih =>
    rw [maskL_snoc, Nat.testBit_or, ih fun y hy => h y (by simp [hy]), Nat.testBit_two_pow]
    have hx := h x (by simp)
    have : decide (x.toNat = i) = decide ((i : Int) = x) := by
      congr 1; apply propext; constructor <;> intro e <;> omega
    rw [this]
    simp [List.mem_append]

theorem riseB_mem {xs : List Int} {lo hi : Int} (h : riseB xs lo hi = true) : ∀ x ∈ xs, lo ≤ x ∧ x ≤ hi := by
  induction xs generalizing lo with
  | nil => intro x hx; simp at hx
  | cons y r ih =>
    simp [riseB] at h
    intro x hx
    rcases List.mem_cons.mp hx with rfl | hx
    · exact h.1
    · have := ih h.2 x hx; omega

theorem wraps_u16 (n : Int) (h₀ : 0 ≤ n) (h₁ : n < 2 ^ 16) : IntKind.u16.wrap n = n := by
  simp [IntKind.wrap, IntKind.bits, IntKind.signed]; omega

theorem or_u16 (a b : Nat) (ha : a < 2 ^ 16) (hb : b < 2 ^ 16) : bits .or .u16 (a : Int) (b : Int) = ((a ||| b : Nat) : Int) := (bits_nat .u16 16 (by decide) wraps_u16 a b ha hb).2
theorem and_u16 (a b : Nat) (ha : a < 2 ^ 16) (hb : b < 2 ^ 16) : bits .and .u16 (a : Int) (b : Int) = ((a &&& b : Nat) : Int) := (bits_nat .u16 16 (by decide) wraps_u16 a b ha hb).1

/-- What placesOf answers. -/
def setOf (p : Int) (xs : List Int) : Nat := if riseB xs 0 (p - 1) then maskL xs else 0

theorem ret_set {s t : Nat} {a b : Bool} (h : s = t) (hb : a = b) : Ending.returned (.tuple #[.int .u16 (s : Int), .bool a]) = .returned (.tuple #[.int .u16 (t : Int), .bool b]) := by rw [h, hb]

set_option maxHeartbeats 1000000 in
theorem placesOf_any (p : Int) (a : Option Addr) (n ca : Nat) (xs : List Int) (w : World) (ha : Row w a n xs) (hn : n ≤ 1048576) (hp : inB p 1 16 = true) :
    Calls Try.prog 86 #[.int .i64 p, .slice a n ca] w fun e w' => e = .returned (.tuple #[.int .u16 (setOf p xs : Int), .bool (riseB xs 0 (p - 1))]) ∧ w' = w := by
  have hp1 : 1 ≤ p ∧ p ≤ 16 := by simpa [inB] using hp
  obtain ⟨hp2, hp3⟩ := hp1
  go_enter Try.func86, Try.ntmps86
  go_wp2_with fail
  go_loop [6, 7, 12] (fun s l i => ∃ k : Nat, k ≤ n ∧ i = .int .i64 k ∧ s = .int .u16 (maskL (xs.take k) : Int) ∧ l = .int .i64 (nextLo xs k 0) ∧ Hid (riseB (xs.take k) 0 (p - 1) = true)) (fun _ _ i => n - (intOf i).toNat)
  case atStart => exact ⟨0, Nat.zero_le _, rfl, rfl, rfl, rfl⟩
  case round =>
    obtain ⟨k, hk, rfl, rfl, rfl, hu⟩ := hrel
    by_cases hlt : k < n
    · obtain ⟨b1, o1, x, rfl, hl1, hc1, H1⟩ := ha.at hlt
      have HS := hide (riseB_step hu.out H1.out)
      have hge := nextLo_ge hu.out (show k ≤ xs.length by have := ha.1; omega)
      by_cases h1 : x < nextLo xs k 0
      · have HN : Hid (riseB xs 0 (p - 1) = false) := by
          refine riseB_no (k := k + 1) ?_
          rw [HS.out]; simp; intro h2; omega
        have HE : Hid ((0 : Nat) = setOf p xs) := by show 0 = setOf p xs; unfold setOf; rw [HN.out]; rfl
        clear HS ha H1 hu
        generalize nextLo xs k 0 = nl at *
        go_wp2_with fail
        go_ret2
        exact ⟨ret_set HE.out HN.out.symm, rfl⟩
      by_cases h2 : p ≤ x
      · have HN : Hid (riseB xs 0 (p - 1) = false) := by
          refine riseB_no (k := k + 1) ?_
          rw [HS.out]; simp; intro h2; omega
        have HE : Hid ((0 : Nat) = setOf p xs) := by show 0 = setOf p xs; unfold setOf; rw [HN.out]; rfl
        clear HS ha H1 hu
        generalize nextLo xs k 0 = nl at *
        go_wp2_with fail
        go_ret2
        exact ⟨ret_set HE.out HN.out.symm, rfl⟩
      have h3 : 0 ≤ x := by omega
      have h4 : x < 16 := by omega
      have HU : Hid (riseB (xs.take (k + 1)) 0 (p - 1) = true) := by
        show riseB (xs.take (k + 1)) 0 (p - 1) = true
        rw [HS.out]; simp; omega
      have HM : Hid (bits .or .u16 (maskL (xs.take k) : Int) (IntKind.u16.wrap (2 ^ x.toNat)) = (maskL (xs.take (k + 1)) : Int)) := by
        show _ = _
        have hx2 : 2 ^ x.toNat < 2 ^ 16 := Nat.pow_lt_pow_right (by decide) (by omega)
        have hx3 : ((2 : Int) ^ x.toNat) = ((2 ^ x.toNat : Nat) : Int) := by simp
        rw [hx3, wraps_u16 _ (Int.natCast_nonneg _) (by exact_mod_cast hx2), or_u16 _ _ (maskL_lt _ fun y hy => by have := riseB_mem hu.out y hy; omega) hx2, maskL_take xs k x H1.out]
      have HX : Hid (x + 1 = nextLo xs (k + 1) 0) := by
        show _ = _
        simp only [nextLo, Nat.add_one_ne_zero, if_false, Nat.add_sub_cancel]
        rw [List.getD_eq_getElem?_getD, H1.out]; rfl
      clear HS ha H1 hu
      generalize nextLo xs k 0 = nl at *
      generalize maskL (xs.take k) = mm at *
      go_wp2_with fail
      go_round
      case rel => exact ⟨k + 1, by omega, by go_num, by rw [HM.out], by rw [HX.out], HU⟩
      case measure => simp [intOf]; omega
    · have hk' : k = n := by omega
      subst hk'
      have HA := hide (riseB_done hu.out ha.1)
      have HE : Hid (maskL (xs.take k) = setOf p xs) := by
        show maskL (xs.take k) = setOf p xs
        unfold setOf; rw [HA.out, List.take_of_length_le (by have := ha.1; omega)]; rfl
      generalize nextLo xs k 0 = nl at *
      generalize maskL (xs.take k) = mm at *
      go_wp2_with fail
      go_ret2
      exact ⟨ret_set HE.out HA.out.symm, rfl⟩

theorem maskL_zero {xs : List Int} (h : ∀ x ∈ xs, 0 ≤ x) : maskL xs = 0 ↔ xs = [] := by
  constructor
  · intro e
    cases xs with
    | nil => rfl
    | cons x r =>
      have hb := maskL_bit (x :: r) x.toNat h
      rw [e, Nat.zero_testBit] at hb
      have hx := h x (by simp)
      simp at hb; omega
  · intro e; rw [e]; rfl

/-- Whether the three lists are those of a transition. -/
def tri3Ok (p : Int) (x0 x1 x2 : List Int) : Bool := !x0.isEmpty && riseB x0 0 (p - 1) && riseB x1 0 (p - 1) && riseB x2 0 (p - 1)

def bit3 (b : Bool) (xs : List Int) : Int := if b then (maskL xs : Int) else 0

/-- What stepOf answers. -/
def StepEnd (p : Int) (x0 x1 x2 : List Int) (w : World) (e : Ending) (w' : World) : Prop :=
  e = .returned (.tuple #[.agg #[.int .u16 (bit3 (tri3Ok p x0 x1 x2) x0), .int .u16 (bit3 (tri3Ok p x0 x1 x2) x1), .int .u16 (bit3 (tri3Ok p x0 x1 x2) x2)], .bool (tri3Ok p x0 x1 x2)]) ∧ Below w.heap.size w w'

theorem stepEnd_no {p : Int} {x0 x1 x2 : List Int} {w w' : World} (h : tri3Ok p x0 x1 x2 = false) (hb : Below w.heap.size w w') : StepEnd p x0 x1 x2 w (.returned (.tuple #[.agg #[.int .u16 0, .int .u16 0, .int .u16 0], .bool false])) w' := by
  refine ⟨?_, hb⟩; rw [h]; rfl

theorem stepEnd_yes {p : Int} {x0 x1 x2 : List Int} {w w' : World} {s0 s1 s2 : Nat} (h : tri3Ok p x0 x1 x2 = true) (h0 : maskL x0 = s0) (h1 : maskL x1 = s1) (h2 : maskL x2 = s2) (hb : Below w.heap.size w w') : StepEnd p x0 x1 x2 w (.returned (.tuple #[.agg #[.int .u16 (s0 : Int), .int .u16 (s1 : Int), .int .u16 (s2 : Int)], .bool true])) w' := by
  refine ⟨?_, hb⟩; rw [h, ← h0, ← h1, ← h2]; rfl

set_option maxHeartbeats 1000000 in
theorem stepOf_any (p : Int) (a0 a1 a2 : Option Addr) (n0 n1 n2 c0 c1 c2 : Nat) (x0 x1 x2 : List Int) (w : World) (r0 : Row w a0 n0 x0) (r1 : Row w a1 n1 x1) (r2 : Row w a2 n2 x2) (h0 : n0 ≤ 1048576) (h1 : n1 ≤ 1048576) (h2 : n2 ≤ 1048576) (hp : inB p 1 16 = true) :
    Calls Try.prog 75 #[.int .i64 p, .agg #[.slice a0 n0 c0, .slice a1 n1 c1, .slice a2 n2 c2]] w fun e w' => StepEnd p x0 x1 x2 w e w' := by
  have R0 := hide r0
  have R1 := hide r1
  have R2 := hide r2
  clear r0 r1 r2
  go_enter Try.func75, Try.ntmps75
  go_wp2_with fail
  refine (placesOf_any _ _ _ _ x0 _ ((R0.out.alloc _).alloc _) h0 hp).mono ?_
  rintro e w' ⟨rfl, rfl⟩
  obtain ⟨b0, hb0⟩ : ∃ b, Hid (riseB x0 0 (p - 1) = b) := ⟨_, rfl⟩
  obtain ⟨s0, hs0⟩ : ∃ b, Hid (setOf p x0 = b) := ⟨_, rfl⟩
  rw [hb0.out, hs0.out]
  go_wp2_with fail
  refine (placesOf_any _ _ _ _ x1 _ ((R1.out.alloc _).alloc _) h1 hp).mono ?_
  rintro e w' ⟨rfl, rfl⟩
  obtain ⟨b1, hb1⟩ : ∃ b, Hid (riseB x1 0 (p - 1) = b) := ⟨_, rfl⟩
  obtain ⟨s1, hs1⟩ : ∃ b, Hid (setOf p x1 = b) := ⟨_, rfl⟩
  rw [hb1.out, hs1.out]
  go_wp2_with fail
  refine (placesOf_any _ _ _ _ x2 _ ((R2.out.alloc _).alloc _) h2 hp).mono ?_
  rintro e w' ⟨rfl, rfl⟩
  obtain ⟨b2, hb2⟩ : ∃ b, Hid (riseB x2 0 (p - 1) = b) := ⟨_, rfl⟩
  obtain ⟨s2, hs2⟩ : ∃ b, Hid (setOf p x2 = b) := ⟨_, rfl⟩
  rw [hb2.out, hs2.out]
  cases b0
  · have HN := hide (show tri3Ok p x0 x1 x2 = false by unfold tri3Ok; rw [hb0.out]; simp)
    go_wp2_with fail
    refine bodyPost_ret (v := .tuple #[.agg #[.int .u16 0, .int .u16 0, .int .u16 0], .bool false]) (by simp [results, Try.results75, go_sem]) rfl ?_
    exact stepEnd_no HN.out (below_two _ _ _)
  cases b1
  · have HN := hide (show tri3Ok p x0 x1 x2 = false by unfold tri3Ok; rw [hb1.out]; simp)
    go_wp2_with fail
    refine bodyPost_ret (v := .tuple #[.agg #[.int .u16 0, .int .u16 0, .int .u16 0], .bool false]) (by simp [results, Try.results75, go_sem]) rfl ?_
    exact stepEnd_no HN.out (below_two _ _ _)
  cases b2
  · have HN := hide (show tri3Ok p x0 x1 x2 = false by unfold tri3Ok; rw [hb2.out]; simp)
    go_wp2_with fail
    refine bodyPost_ret (v := .tuple #[.agg #[.int .u16 0, .int .u16 0, .int .u16 0], .bool false]) (by simp [results, Try.results75, go_sem]) rfl ?_
    exact stepEnd_no HN.out (below_two _ _ _)
  have HS0 : Hid (maskL x0 = s0) := by show _ = _; rw [← hs0.out]; unfold setOf; rw [hb0.out]; rfl
  have HS1 : Hid (maskL x1 = s1) := by show _ = _; rw [← hs1.out]; unfold setOf; rw [hb1.out]; rfl
  have HS2 : Hid (maskL x2 = s2) := by show _ = _; rw [← hs2.out]; unfold setOf; rw [hb2.out]; rfl
  have hz := maskL_zero (fun x hx => (riseB_mem hb0.out x hx).1)
  rw [HS0.out] at hz
  by_cases hs : s0 = 0
  · have HN := hide (show tri3Ok p x0 x1 x2 = false by unfold tri3Ok; rw [hz.mp hs]; rfl)
    clear hz
    subst hs
    go_wp2_with fail
    refine bodyPost_ret (v := .tuple #[.agg #[.int .u16 0, .int .u16 0, .int .u16 0], .bool false]) (by simp [results, Try.results75, go_sem]) rfl ?_
    exact stepEnd_no HN.out (below_two _ _ _)
  have HY := hide (show tri3Ok p x0 x1 x2 = true by
    unfold tri3Ok; rw [hb0.out, hb1.out, hb2.out]
    have : x0 ≠ [] := fun e => hs (hz.mpr e)
    cases x0 <;> simp_all)
  have hs' : (s0 : Int) ≠ 0 := by omega
  clear hz hs
  go_wp2_with fail
  refine bodyPost_ret (v := .tuple #[.agg #[.int .u16 (s0 : Int), .int .u16 (s1 : Int), .int .u16 (s2 : Int)], .bool true]) (by simp [results, Try.results75, go_sem]) rfl ?_
  exact stepEnd_yes HY.out HS0.out HS1.out HS2.out (below_two _ _ _)
end Go.Proofs.Ytakenobplljkbab


/- What netSteps and the program's GoodNet answer, for every net in memory. -/
namespace Go.Proofs.Ytakenobplljkbab
open Go.RowKit

/-- The first k of n cells of the block B are the bits of the first k lists. -/
def PartS (w : World) (B n k : Nat) (L : List (List Int)) : Prop :=
  ∃ C : Array Value, w.heap[B]? = some (.cells C 112 (0, 0)) ∧ C.size = n ∧ ∀ j, j < k → C[j]? = some (.int .u16 (maskL (L.getD j []) : Int))

theorem PartS.grow {w w' : World} {B n k : Nat} {L : List (List Int)} (h : PartS w B n k L) (hb : Below w.heap.size w w') : PartS w' B n k L := by
  obtain ⟨C, h1, h2, h3⟩ := h
  exact ⟨C, (hb.block B (Array.getElem?_eq_some_iff.mp h1).1).trans h1, h2, h3⟩

theorem PartS.set_other {w : World} {B n k g : Nat} {L : List (List Int)} (h : PartS w B n k L) (hg : B ≠ g) (o : Nat) (v : Value) : PartS (w.setCell ⟨g, o, none⟩ v) B n k L := by
  obtain ⟨C, h1, h2, h3⟩ := h
  exact ⟨C, (Below.heap_setCell _ _ _ _ hg).trans h1, h2, h3⟩

theorem PartS.step {w : World} {B n k : Nat} {L : List (List Int)} (h : PartS w B (3 * n) (3 * k) L) (hk : k < n) {s0 s1 s2 : Int}
    (e0 : (maskL (L.getD (3 * k) []) : Int) = s0) (e1 : (maskL (L.getD (3 * k + 1) []) : Int) = s1) (e2 : (maskL (L.getD (3 * k + 2) []) : Int) = s2) :
    PartS (w.setCells B (k * 3) [.int .u16 s0, .int .u16 s1, .int .u16 s2]) B (3 * n) (3 * (k + 1)) L := by
  obtain ⟨C, h1, h2, h3⟩ := h
  refine ⟨_, heap_set3_same h1 _ _ _, by simp [h2], fun j hj => ?_⟩
  by_cases hj3 : j < 3 * k
  · rw [Array.getElem?_setIfInBounds_ne (by omega), Array.getElem?_setIfInBounds_ne (by omega), Array.getElem?_setIfInBounds_ne (by omega)]; exact h3 j hj3
  · obtain rfl | rfl | rfl : j = 3 * k ∨ j = 3 * k + 1 ∨ j = 3 * k + 2 := by omega
    · rw [Array.getElem?_setIfInBounds_ne (by omega), Array.getElem?_setIfInBounds_ne (by omega), Array.getElem?_setIfInBounds, if_pos (by omega), if_pos (by omega), e0]
    · rw [Array.getElem?_setIfInBounds_ne (by omega), Array.getElem?_setIfInBounds, if_pos (by omega), if_pos (by simp; omega), e1]
    · rw [Array.getElem?_setIfInBounds, if_pos (by omega), if_pos (by simp; omega), e2]

theorem Try.info112 : (Try.prog.info? 112).map (fun i => (i.zero, i.size, i.bytes)) = some (some (.agg #[.int .u16 0, .int .u16 0, .int .u16 0]), 3, 6) := by kernel_rfl
theorem Try.size112 : (Try.prog.info? 112).map (·.size) = some 3 := by kernel_rfl

/-- How netSteps ends. -/
def NetEnd (g : Bool) (p : Int) (n : Nat) (L : List (List Int)) (w : World) (e : Ending) (w' : World) : Prop :=
  ∃ p' a m c, e = .returned (.tuple #[.agg #[.int .i64 p', .slice a m c], .bool g]) ∧ Hid (g = true → p' = p ∧ m = n ∧ c = n ∧ ∃ B, a = some ⟨B, 0, none⟩ ∧ w.heap.size ≤ B ∧ PartS w' B (3 * n) (3 * n) L) ∧ Below w.heap.size w w'

/-- What the loop of netSteps keeps in mind. -/
structure NsInv (w wr : World) (p : Int) (a : Option Addr) (n c k : Nat) (L : List (List Int)) : Prop where
  par : wr.heap[w.heap.size]? = some (.cells #[.int .i64 p, .slice a n c] 31 (0, 0))
  res : wr.heap[w.heap.size + 1]? = some (.cells #[.int .i64 0, .slice none 0 0] 54 (0, 0))
  part : PartS wr (w.heap.size + 1 + 1) (3 * n) (3 * k) L
  bel : Below w.heap.size w wr

theorem NsInv.grow {w wr v : World} {p : Int} {a : Option Addr} {n c k : Nat} {L : List (List Int)} (h : NsInv w wr p a n c k L) (hb : Below wr.heap.size wr v) : NsInv w v p a n c k L :=
  ⟨(hb.block _ (Array.getElem?_eq_some_iff.mp h.par).1).trans h.par, (hb.block _ (Array.getElem?_eq_some_iff.mp h.res).1).trans h.res, h.part.grow hb, h.bel.trans (hb.mono h.bel.size)⟩

theorem NsInv.step {w wr : World} {p : Int} {a : Option Addr} {n c k : Nat} {L : List (List Int)} (h : NsInv w wr p a n c k L) (hk : k < n) {s0 s1 s2 : Int}
    (e0 : (maskL (L.getD (3 * k) []) : Int) = s0) (e1 : (maskL (L.getD (3 * k + 1) []) : Int) = s1) (e2 : (maskL (L.getD (3 * k + 2) []) : Int) = s2) :
    NsInv w (wr.setCells (w.heap.size + 1 + 1) (k * 3) [.int .u16 s0, .int .u16 s1, .int .u16 s2]) p a n c (k + 1) L :=
  ⟨(heap_set3_other _ _ _ _ _ _ _ (by omega)).trans h.par, (heap_set3_other _ _ _ _ _ _ _ (by omega)).trans h.res, h.part.step hk e0 e1 e2, below_set3 h.bel (by omega) _ _ _ _⟩

theorem NsInv.size {w wr : World} {p : Int} {a : Option Addr} {n c k : Nat} {L : List (List Int)} (h : NsInv w wr p a n c k L) : w.heap.size + 1 + 1 < wr.heap.size := by
  obtain ⟨C, h1, _⟩ := h.part
  exact (Array.getElem?_eq_some_iff.mp h1).1

theorem netEnd_no {p : Int} {n : Nat} {L : List (List Int)} {w w' : World} (h : netOk p n L = false) (hb : Below w.heap.size w w') : NetEnd (netOk p n L) p n L w (.returned (.tuple #[.agg #[.int .i64 0, .slice none 0 0], .bool false])) w' :=
  ⟨_, _, _, _, by rw [h], by rw [h]; intro e; simp at e, hb⟩

theorem triOk_eq (p : Int) (L : List (List Int)) (i : Nat) : triOk p L i = tri3Ok p (L.getD (3 * i) []) (L.getD (3 * i + 1) []) (L.getD (3 * i + 2) []) := rfl

set_option maxHeartbeats 4000000 in
theorem netSteps_any (p : Int) (a : Option Addr) (n c : Nat) (L : List (List Int)) (w : World) (h : Lists w a (3 * n) L) (hs : sizeN n L ≤ 1048576) :
    Calls Try.prog 59 #[.agg #[.int .i64 p, .slice a n c]] w fun e w' => NetEnd (netOk p n L) p n L w e w' := by
  by_cases hp : inB p 1 16 = true
  · by_cases hn : n ≤ 24
    · have hmk := run_make_many (P := Try.prog) 52 112 _ 3 6 Try.underlying52 Try.info112 .i64 .i64 n (by omega) (by omega)
      simp only [Value.cells] at hmk
      have HL := hide h
      clear h
      go_enter Try.func59, Try.ntmps59
      go_wp2_with (go_at_call 69; refine (goodPlaces_any _ _).mono ?_; rintro e w' ⟨rfl, rfl⟩)
      clear hmk
      go_loopw [27] (fun i wr => ∃ k : Nat, k ≤ n ∧ i = .int .i64 k ∧ Hid ((List.range k).all (triOk p L) = true) ∧ Hid (NsInv w wr p a n c k L)) (fun i _ => n - (intOf i).toNat)
      case atStart =>
        refine ⟨0, Nat.zero_le _, rfl, rfl, ?_, ?_, ⟨madeCells #[.int .u16 0, .int .u16 0, .int .u16 0] (n * 3), ?_, ?_, fun j hj => absurd hj (by omega)⟩, ?_⟩
        · rw [heap_al_old _ _ _ (by simp; omega), heap_al_old _ _ _ (by simp)]; exact heap_alloc_new _ _
        · rw [heap_al_old _ _ _ (by simp)]
          have := heap_alloc_new (w.alloc (.cells #[.int .i64 p, .slice a n c] 31)) (.cells #[.int .i64 0, .slice none 0 0] 54)
          simpa using this
        · have := heap_alloc_new ((w.alloc (.cells #[.int .i64 p, .slice a n c] 31)).alloc (.cells #[.int .i64 0, .slice none 0 0] 54)) (.cells (madeCells #[.int .u16 0, .int .u16 0, .int .u16 0] (n * 3)) 112)
          simpa using this
        · rw [size_madeCells]; omega
        · exact ((below_al w _).alloc (by simp) _).alloc (by simp; omega) _
      case round =>
        obtain ⟨k, hk, rfl, hu, hin⟩ := hrel
        have hsz := hin.out.size
        have hpw : w.heap.size < wr.heap.size := by omega
        have hcp := cell_of_row wr w.heap.size 0 _ _ _ hin.out.par
        simp at hcp
        have r10 := cell_of_row wr (w.heap.size + 1) 0 _ _ _ hin.out.res
        have r11 := cell_of_row wr (w.heap.size + 1) 1 _ _ _ hin.out.res
        simp at r10 r11
        have f10 := frozen_of_row wr (w.heap.size + 1) 0 _ _ hin.out.res
        have f11 := frozen_of_row wr (w.heap.size + 1) 1 _ _ hin.out.res
        by_cases hlt : k < n
        · obtain ⟨b, off, a0, n0, c0, a1, n1, c1, a2, n2, c2, rfl, hb, hr, m0, m1, m2, r0, r1, r2⟩ := (HL.out.below hin.out.bel).tri hlt
          obtain ⟨hc0, hc1, hc2⟩ := rangeAt_cells3 hr
          have hl0 := len_le L (3 * k)
          have hl1 := len_le L (3 * k + 1)
          have hl2 := len_le L (3 * k + 2)
          have hs' : n + sizeL L ≤ 1048576 := hs
          obtain ⟨x0, hx0⟩ : ∃ x, Hid (L.getD (3 * k) [] = x) := ⟨_, rfl⟩
          obtain ⟨x1, hx1⟩ : ∃ x, Hid (L.getD (3 * k + 1) [] = x) := ⟨_, rfl⟩
          obtain ⟨x2, hx2⟩ : ∃ x, Hid (L.getD (3 * k + 2) [] = x) := ⟨_, rfl⟩
          rw [hx0.out] at r0 hl0
          rw [hx1.out] at r1 hl1
          rw [hx2.out] at r2 hl2
          have q0 : n0 ≤ 1048576 := by have := r0.1; omega
          have q1 : n1 ≤ 1048576 := by have := r1.1; omega
          have q2 : n2 ≤ 1048576 := by have := r2.1; omega
          have HT := hide (stepOf_any p a0 a1 a2 n0 n1 n2 c0 c1 c2 x0 x1 x2 _ (r0.alloc (.cells #[.slice a0 n0 c0, .slice a1 n1 c1, .slice a2 n2 c2] 87)) (r1.alloc _) (r2.alloc _) q0 q1 q2 hp)
          clear hr r0 r1 r2 hl0 hl1 hl2 hs' m0 m1 m2 q0 q1 q2
          go_wp2_with fail
          refine HT.out.mono ?_
          rintro e w2 ⟨rfl, hb2⟩
          have HI2 := hide ((hin.out.grow (below_al wr (.cells #[.slice a0 n0 c0, .slice a1 n1 c1, .slice a2 n2 c2] 87))).grow hb2)
          have hTO : Hid (triOk p L k = tri3Ok p x0 x1 x2) := by show _ = _; rw [triOk_eq, hx0.out, hx1.out, hx2.out]
          have h2s := HI2.out.size
          have r10' := cell_of_row w2 (w.heap.size + 1) 0 _ _ _ HI2.out.res
          have r11' := cell_of_row w2 (w.heap.size + 1) 1 _ _ _ HI2.out.res
          simp at r10' r11'
          have f10' := frozen_of_row w2 (w.heap.size + 1) 0 _ _ HI2.out.res
          have f11' := frozen_of_row w2 (w.heap.size + 1) 1 _ _ HI2.out.res
          have hp1' : w.heap.size + 1 < w2.heap.size := by omega
          clear HT hb2 hin r10 r11 f10 f11 hcp hc0 hc1 hc2 hpw hsz
          by_cases g : tri3Ok p x0 x1 x2 = true
          rotate_left
          · have g' : tri3Ok p x0 x1 x2 = false := by simpa using g
            have HN : Hid (netOk p n L = false) := netOk_no hlt (hTO.out.trans g')
            rw [g', show bit3 false x0 = 0 from rfl, show bit3 false x1 = 0 from rfl, show bit3 false x2 = 0 from rfl]
            have HB := hide (HI2.out.bel)
            clear g g' HI2 hx0 hx1 hx2 hTO hu HL
            go_wp2_with fail
            refine bodyPost_ret (v := .tuple #[.agg #[.int .i64 0, .slice none 0 0], .bool false]) (by simp [results, Try.results59, go_sem, r10', r11', hp1']) rfl ?_
            exact netEnd_no HN.out (((HB.out.setCell (by simp) _).setCell (by simp) _).alloc (by have := HB.out.size; simp [World.setCell]; omega) _)
          have HU : Hid ((List.range (k + 1)).all (triOk p L) = true) := all_range_succ hu.out (hTO.out.trans g)
          obtain ⟨s0, hs0⟩ : ∃ s, Hid ((maskL x0 : Int) = s) := ⟨_, rfl⟩
          obtain ⟨s1, hs1⟩ : ∃ s, Hid ((maskL x1 : Int) = s) := ⟨_, rfl⟩
          obtain ⟨s2, hs2⟩ : ∃ s, Hid ((maskL x2 : Int) = s) := ⟨_, rfl⟩
          rw [g, show bit3 true x0 = s0 from hs0.out, show bit3 true x1 = s1 from hs1.out, show bit3 true x2 = s2 from hs2.out]
          have HI3 := hide (HI2.out.grow (below_al w2 (.cells #[.int .u16 s0, .int .u16 s1, .int .u16 s2] 112)))
          have HI4 := hide (HI3.out.step (s0 := s0) (s1 := s1) (s2 := s2) hlt (by rw [hx0.out]; exact hs0.out) (by rw [hx1.out]; exact hs1.out) (by rw [hx2.out]; exact hs2.out))
          have HTH : Hid ((w2.alloc (.cells #[.int .u16 s0, .int .u16 s1, .int .u16 s2] 112)).there (w.heap.size + 1 + 1) (k * 3) 3) := by
            obtain ⟨C, h1, h2, _⟩ := HI3.out.part
            exact there_of_row h1 (by omega)
          clear g hTO hu HI2 HI3 hx0 hx1 hx2 hs0 hs1 hs2 HL
          go_wp2_with (refine wpList_store3 rfl 112 (.tmp 45) (.tmp 44) rfl _ _ _ _ _ rfl rfl HTH.out Try.size112 rfl rfl rfl ?_)
          go_roundw
          case rel => exact ⟨k + 1, by omega, by go_num, HU, HI4⟩
          case measure => simp [intOf]; omega
        · have hk' : k = n := by omega
          subst hk'
          have HN : Hid (netOk p k L = true) := netOk_yes hp hn hu.out
          go_wp2_with fail
          refine bodyPost_ret (v := .tuple #[.agg #[.int .i64 p, .slice (some ⟨w.heap.size + 1 + 1, 0, none⟩) k k], .bool true]) (by simp [results, Try.results59, go_sem, r10, r11]) rfl ?_
          exact ⟨_, _, _, _, by rw [HN.out], fun _ => ⟨rfl, rfl, rfl, _, rfl, by omega, (hin.out.part.set_other (by omega) _ _).set_other (by omega) _ _⟩, (hin.out.bel.setCell (by simp) _).setCell (by simp) _⟩
    · have HN : Hid (netOk p n L = false) := by show netOk p n L = false; unfold netOk; simp [hn]
      have hn' : (24 : Int) < (n : Int) := by omega
      clear h
      go_enter Try.func59, Try.ntmps59
      go_wp2_with (go_at_call 69; refine (goodPlaces_any _ _).mono ?_; rintro e w' ⟨rfl, rfl⟩)
      refine bodyPost_ret (v := .tuple #[.agg #[.int .i64 0, .slice none 0 0], .bool false]) (by simp [results, Try.results59, go_sem]) rfl ?_
      exact netEnd_no HN.out (below_two _ _ _)
  · have hp' : inB p 1 16 = false := by simpa using hp
    have HN : Hid (netOk p n L = false) := by show netOk p n L = false; unfold netOk; simp [hp']
    clear hp h
    go_enter Try.func59, Try.ntmps59
    go_wp2_with (go_at_call 69; refine (goodPlaces_any _ _).mono ?_; rintro e w' ⟨rfl, rfl⟩)
    refine bodyPost_ret (v := .tuple #[.agg #[.int .i64 0, .slice none 0 0], .bool false]) (by simp [results, Try.results59, go_sem]) rfl ?_
    exact netEnd_no HN.out (below_two _ _ _)

end Go.Proofs.Ytakenobplljkbab


/- The specification's small functions on lists: l1Has, l2Meet and l1Same. -/
namespace Go.Proofs.Ytakenobplljkbab
open Go.RowKit

def hasB (xs : List Int) (x : Int) : Bool := xs.contains x

theorem hasB_take {xs : List Int} {k : Nat} {x y : Int} (h : hasB (xs.take k) y = false) (hx : xs[k]? = some x) (hne : ¬ x = y) : hasB (xs.take (k + 1)) y = false := by
  unfold hasB at *
  rw [List.take_add_one, hx]
  simp at h ⊢
  exact ⟨h, fun e => hne e.symm⟩

theorem hasB_yes {xs : List Int} {k : Nat} {x : Int} (hx : xs[k]? = some x) : hasB xs x = true := by
  unfold hasB
  simpa using List.mem_of_getElem? hx



set_option maxHeartbeats 400000 in
theorem same_any (a b : Option Addr) (n m ca cb : Nat) (xs ys : List Int) (w : World) (ha : Row w a n xs) (hb : Row w b m ys) (hn : n ≤ 1048576) :
    Calls Try.prog 50 #[.slice a n ca, .slice b m cb] w fun e w' => e = .returned (.bool (sameB xs ys)) ∧ ∃ q, w' = w.drewN q := by
  by_cases hnm : n = m
  · subst hnm
    have hne : ((n : Int) != (n : Int)) = false := by simp
    go_enter Try.func50, Try.ntmps50
    go_wp2
    clear hne
    go_loopw [13] (fun i wr => ∃ k : Nat, k ≤ n ∧ i = .int .i64 k ∧ Upto xs ys k ∧ ∃ q, wr = w.drewN q) (fun i _ => n - (intOf i).toNat)
    case atStart => exact ⟨0, Nat.zero_le _, rfl, rfl, 0, rfl⟩
    case round =>
      obtain ⟨k, hk, rfl, hu, q, rfl⟩ := hrel
      by_cases hlt : k < n
      · obtain ⟨b1, o1, x, rfl, hl1, hc1, H1⟩ := ha.at hlt
        obtain ⟨b2, o2, y, rfl, hl2, hc2, H2⟩ := hb.at hlt
        have hi1 : ((k : Int)) < ((n : Int)) := by omega
        clear ha hb
        by_cases he : x = y
        · subst he
          have HU := hu.step H1 H2
          clear hu H1 H2
          go_wp2
          go_quiet (fail)
          go_wp2
          go_roundw
          case rel => exact ⟨k + 1, by omega, by go_num, HU, _, rfl⟩
          case measure => simp [intOf]; omega
        · have HS := sameB_ne H1 H2 he
          have hd : (x != y) = true := by simp [he]
          clear hu H1 H2 he
          go_wp2
          go_quiet (fail)
          go_wp2
          go_ret
          exact ⟨ret_bool HS.symm, _, drewN_two w _ _⟩
      · have hx := ha.1
        have hy := hb.1
        have HS := hu.done (by omega) (by omega)
        go_wp2
        go_ret
        exact ⟨ret_bool HS.symm, _, rfl⟩
  · have hx := ha.1
    have hy := hb.1
    have HS := sameB_len (show xs.length ≠ ys.length by omega)
    have hne : ((n : Int) != (m : Int)) = true := by simp; omega
    clear ha hb hx hy
    go_enter Try.func50, Try.ntmps50
    go_wp2
    go_ret
    exact ⟨ret_bool HS.symm, 0, rfl⟩
end Go.Proofs.Ytakenobplljkbab


/- What markIntS writes, what heldIntS answers, and what the list of an array is, for slices that lie from the head of a block of their own; nothing else that was there is written. -/
namespace Go.Proofs.Ytakenobplljkbab
open Go.RowKit

/-- Nothing but the block b has turned, and no block is new. -/
structure Only (b : Nat) (w w' : World) : Prop where
  os : w'.os = w.os
  tape : w'.tape = w.tape
  output : w'.output = w.output
  size : w'.heap.size = w.heap.size
  block : ∀ k, k ≠ b → w'.heap[k]? = w.heap[k]?

theorem Only.refl (b : Nat) (w : World) : Only b w w := ⟨rfl, rfl, rfl, rfl, fun _ _ => rfl⟩
theorem Only.below {b B : Nat} {w w' : World} (h : Only b w w') (hb : B ≤ b) : Below B w w' := ⟨h.os, h.tape, h.output, Nat.le_of_eq h.size.symm, fun k hk => h.block k (by omega)⟩
theorem Only.setCell {b : Nat} {w w' : World} (h : Only b w w') (o : Nat) (v : Value) : Only b w (w'.setCell ⟨b, o, none⟩ v) :=
  ⟨h.os, h.tape, h.output, by rw [← h.size]; simp [World.setCell], fun k hk => (Below.heap_setCell _ _ _ _ hk).trans (h.block k hk)⟩

/-- A slice that lies from the head of the block b, as long as it is; or an empty one. -/
def Blk (w : World) (a : Option Addr) (b n : Nat) (xs : List Int) : Prop :=
  xs.length = n ∧ (n = 0 ∨ (a = some ⟨b, 0, none⟩ ∧ w.heap[b]? = some (.cells (cellsOf xs) 3 (0, 0))))

theorem Blk.row {w : World} {a : Option Addr} {b n : Nat} {xs : List Int} (h : Blk w a b n xs) : Row w a n xs := by
  rcases h.2 with h0 | ⟨e, hh⟩
  · exact ⟨h.1, .inl h0⟩
  · exact Own.row (B := 0) ⟨h.1, b, e, Nat.zero_le _, hh⟩

theorem Blk.below {w w' : World} {a : Option Addr} {b n B : Nat} {xs : List Int} (h : Blk w a b n xs) (hb : Below B w w') (hB : b < B) : Blk w' a b n xs := by
  refine ⟨h.1, ?_⟩
  rcases h.2 with h0 | ⟨e, hh⟩
  · exact .inl h0
  · exact .inr ⟨e, (hb.block b hB).trans hh⟩

theorem Blk.only {w w' : World} {a : Option Addr} {b c n : Nat} {xs : List Int} (h : Blk w a b n xs) (hb : Only c w w') (hB : b ≠ c) : Blk w' a b n xs := by
  refine ⟨h.1, ?_⟩
  rcases h.2 with h0 | ⟨e, hh⟩
  · exact .inl h0
  · exact .inr ⟨e, (hb.block b hB).trans hh⟩

/-- k, k + 1, and so on. -/
def seqL (k n : Nat) : List Int := (List.range n).map fun i => ((k + i : Nat) : Int)

theorem seqL_len (k n : Nat) : (seqL k n).length = n := by simp [seqL]
theorem seqL_at (k n i : Nat) (h : i < n) : (seqL k n).getD i 0 = ((k + i : Nat) : Int) := by simp [seqL, h]

theorem set_fill {xs : List Int} {n k : Nat} {cs : Array Value} {x : Int} (h : Fill xs n k cs) (hk : k < n) (hx : xs.getD k 0 = x) : Fill xs n (k + 1) (cs.setIfInBounds k (.int .i64 x)) := by
  obtain ⟨h1, h2⟩ := h
  refine ⟨by simp [h1], fun i hi => ?_⟩
  rw [Array.getElem?_setIfInBounds]
  by_cases e : k = i
  · subst e; rw [if_pos rfl, if_pos (by omega), hx]
  · rw [if_neg e]; exact h2 i (by omega)

set_option maxHeartbeats 400000 in
theorem mark_any (a : Option Addr) (b n c k0 : Nat) (xs : List Int) (w : World) (h : Blk w a b n xs) (hn : n ≤ 1048576) (hk0 : k0 ≤ 4194304) :
    Calls Try.prog 21 #[.slice a n c, .int .i64 (k0 : Int)] w fun e w' => e = .returned (.int .i64 ((k0 + n : Nat) : Int)) ∧ Blk w' a b n (seqL k0 n) ∧ Only b w w' := by
  have HB := hide h
  clear h
  go_enter Try.func21, Try.ntmps21
  go_wp2
  go_loopw [1, 5] (fun t i wr => ∃ k : Nat, k ≤ n ∧ i = .int .i64 k ∧ t = .int .i64 ((k0 + k : Nat) : Int) ∧ Only b w wr ∧ (n = 0 ∨ (a = some ⟨b, 0, none⟩ ∧ ∃ cs, Fill (seqL k0 n) n k cs ∧ wr.heap[b]? = some (.cells cs 3 (0, 0))))) (fun _ i _ => n - (intOf i).toNat)
  case atStart =>
    refine ⟨0, Nat.zero_le _, rfl, rfl, Only.refl _ _, ?_⟩
    rcases HB.out.2 with h0 | ⟨e, hh⟩
    · exact .inl h0
    · exact .inr ⟨e, _, ⟨by have := HB.out.1; simp [cellsOf]; omega, fun i hi => absurd hi (by omega)⟩, hh⟩
  case round =>
    obtain ⟨k, hk, rfl, rfl, ho, hd⟩ := hrel
    by_cases hlt : k < n
    · obtain ⟨rfl, cs, hf, hh⟩ : a = some ⟨b, 0, none⟩ ∧ ∃ cs, Fill (seqL k0 n) n k cs ∧ wr.heap[b]? = some (.cells cs 3 (0, 0)) := by
        rcases hd with h0 | h
        · omega
        · exact h
      have HF := hide (set_fill hf hlt (seqL_at k0 n k hlt))
      have hsz := hf.1
      obtain ⟨v0, hv0⟩ : ∃ v0, wr.cell? ⟨b, k, none⟩ = some v0 := ⟨_, by rw [cell_of_row wr b k cs _ _ hh]; exact Array.getElem?_eq_getElem (by omega)⟩
      have hfr := frozen_of_row wr b k cs _ hh
      have HH := hide (heap_setCell_same wr b k cs _ (.int .i64 ((k0 + k : Nat) : Int)) hh)
      have HO := hide (ho.setCell k (.int .i64 ((k0 + k : Nat) : Int)))
      have hb1 : ((k0 + k : Nat) : Int) ≤ 5242880 := by omega
      have hb0 : (0 : Int) ≤ ((k0 + k : Nat) : Int) := by omega
      obtain ⟨t, ht⟩ : ∃ t : Nat, Hid (k0 + k = t) := ⟨_, rfl⟩
      rw [ht.out] at hb1 hb0 HF HH HO ⊢
      clear hd ho hf hh HB
      go_wp2
      go_roundw
      case rel => exact ⟨k + 1, by omega, by go_num, by rw [show k0 + (k + 1) = t + 1 by have := ht.out; omega]; go_num, HO.out, by first | exact .inr ⟨rfl, _, HF.out, HH.out⟩ | exact .inr ⟨trivial, _, HF.out, HH.out⟩⟩
      case measure => simp [intOf]; omega
    · have hk' : k = n := by omega
      subst hk'
      have HD := hide hd
      have HO := hide ho
      clear hd ho
      go_wp2
      go_ret
      refine ⟨rfl, ⟨seqL_len _ _, ?_⟩, HO.out⟩
      rcases HD.out with h0 | ⟨e, cs, hf, hh⟩
      · exact .inl h0
      · exact .inr ⟨e, by rw [hh, hf.done (seqL_len _ _)]⟩

set_option maxHeartbeats 400000 in
theorem held_any (a : Option Addr) (n c k0 : Nat) (w : World) (h : Row w a n (seqL k0 n)) (hn : n ≤ 1048576) (hk0 : k0 ≤ 4194304) :
    Calls Try.prog 22 #[.slice a n c, .int .i64 (k0 : Int)] w fun e w' => e = .returned (.int .i64 ((k0 + n : Nat) : Int)) ∧ w' = w := by
  go_enter Try.func22, Try.ntmps22
  go_wp2
  go_loop [1, 5] (fun t i => ∃ k : Nat, k ≤ n ∧ i = .int .i64 k ∧ t = .int .i64 ((k0 + k : Nat) : Int)) (fun _ i => n - (intOf i).toNat)
  case atStart => exact ⟨0, Nat.zero_le _, rfl, rfl⟩
  case round =>
    obtain ⟨k, hk, rfl, rfl⟩ := hrel
    by_cases hlt : k < n
    · obtain ⟨b1, o1, x, rfl, hl1, hc1, H1⟩ := h.at hlt
      have hx : x = ((k0 + k : Nat) : Int) := by
        have := seqL_at k0 n k hlt
        rw [List.getD_eq_getElem?_getD, H1.out] at this
        simpa using this
      subst hx
      clear h H1
      have hb1 : ((k0 + k : Nat) : Int) ≤ 5242880 := by omega
      have hb0 : (0 : Int) ≤ ((k0 + k : Nat) : Int) := by omega
      obtain ⟨t, ht⟩ : ∃ t : Nat, Hid (k0 + k = t) := ⟨_, rfl⟩
      rw [ht.out] at hb1 hb0 hc1 ⊢
      have hne : ((t : Int) != (t : Int)) = false := by simp
      go_wp2
      go_round
      case rel => exact ⟨k + 1, by omega, by go_num, by rw [show k0 + (k + 1) = t + 1 by have := ht.out; omega]; go_num⟩
      case measure => simp [intOf]; omega
    · have hk' : k = n := by omega
      subst hk'
      go_wp2
      go_ret
      exact ⟨rfl, rfl⟩

/-- The first n numbers of an array. -/
def listF (f : Nat → Int) (n : Nat) : List Int := (List.range n).map f

theorem listF_len (f : Nat → Int) (n : Nat) : (listF f n).length = n := by simp [listF]
theorem listF_at (f : Nat → Int) (n i : Nat) (h : i < n) : (listF f n).getD i 0 = f i := by simp [listF, h]
end Go.Proofs.Ytakenobplljkbab
