/- When a net is good, as the specification reckons it: l1Rising and the specification's GoodNet, for every net in memory. -/
import Derived.Test.YtnknhjiofpjbbaaEq
namespace Go.Proofs.Ytnknhjiofpjbbaa
open Go.RowKit

/-- Numbers that rise, from lo to hi. -/
def riseB : List Int → Int → Int → Bool
  | [], _, _ => true
  | x :: xs, lo, hi => decide (lo ≤ x) && decide (x ≤ hi) && riseB xs (x + 1) hi

/-- As many as the first k rise; then the least that may follow. -/
theorem riseB_append (xs ys : List Int) (lo hi : Int) : riseB (xs ++ ys) lo hi = (riseB xs lo hi && riseB ys (xs.getLast?.elim lo (· + 1)) hi) := by
  induction xs generalizing lo with
  | nil => simp [riseB]
  | cons x r ih =>
    simp only [List.cons_append, riseB, ih]
    have : (x :: r).getLast?.elim lo (· + 1) = r.getLast?.elim (x + 1) (· + 1) := by
      cases r with
      | nil => rfl
      | cons y r' =>
        obtain ⟨z, hz⟩ : ∃ z, (y :: r').getLast? = some z := ⟨_, List.getLast?_eq_some_getLast (by simp)⟩
        rw [List.getLast?_cons_cons, hz]; rfl
    rw [this]
    simp [Bool.and_assoc]

/-- What the first k numbers ask of the next. -/
def nextLo (xs : List Int) (k : Nat) (lo : Int) : Int := if k = 0 then lo else xs.getD (k - 1) 0 + 1

theorem nextLo_take (xs : List Int) (k : Nat) (lo : Int) (hk : k ≤ xs.length) : (xs.take k).getLast?.elim lo (· + 1) = nextLo xs k lo := by
  unfold nextLo
  by_cases h : k = 0
  · subst h; simp
  · rw [if_neg h, List.getLast?_take]
    simp [h, List.getElem?_eq_getElem (show k - 1 < xs.length by omega)]

theorem riseB_step {xs : List Int} {k : Nat} {x lo hi : Int} (h : riseB (xs.take k) lo hi = true) (hx : xs[k]? = some x) : riseB (xs.take (k + 1)) lo hi = (decide (nextLo xs k lo ≤ x) && decide (x ≤ hi)) := by
  have hk : k < xs.length := (List.getElem?_eq_some_iff.mp hx).1
  rw [List.take_add_one, hx, riseB_append, h, nextLo_take xs k lo (by omega)]
  simp [riseB]

theorem riseB_no {xs : List Int} {k : Nat} {lo hi : Int} (h : riseB (xs.take k) lo hi = false) : riseB xs lo hi = false := by
  conv => lhs; rw [← List.take_append_drop k xs]
  rw [riseB_append, h]; rfl

theorem riseB_take {xs : List Int} {k : Nat} {lo hi : Int} (h : riseB xs lo hi = true) : riseB (xs.take k) lo hi = true := by
  cases hq : riseB (xs.take k) lo hi with
  | true => rfl
  | false => rw [riseB_no hq] at h; exact h

/-- What is next is no less than lo, where the first ones rise. -/
theorem nextLo_ge {xs : List Int} {k : Nat} {lo hi : Int} (h : riseB (xs.take k) lo hi = true) (hk : k ≤ xs.length) : lo ≤ nextLo xs k lo := by
  induction k with
  | zero => simp [nextLo]
  | succ k ih =>
    have hk' : k < xs.length := by omega
    have h0 : riseB (xs.take k) lo hi = true := by
      have := riseB_take (k := k) h
      rwa [List.take_take, Nat.min_eq_left (by omega)] at this
    rw [riseB_step h0 (List.getElem?_eq_getElem hk')] at h
    simp at h
    have := ih h0 (by omega)
    simp only [nextLo, Nat.add_one_ne_zero, if_false, Nat.add_sub_cancel]
    rw [List.getD_eq_getElem?_getD, List.getElem?_eq_getElem hk']
    simp; omega

theorem riseB_done {xs : List Int} {n : Nat} {lo hi : Int} (h : riseB (xs.take n) lo hi = true) (hl : xs.length = n) : riseB xs lo hi = true := by
  rwa [List.take_of_length_le (by omega)] at h

set_option maxHeartbeats 1000000 in
theorem rising_any (a : Option Addr) (n ca : Nat) (xs : List Int) (lo hi : Int) (w : World) (ha : Row w a n xs) (hn : n ≤ 1048576) :
    Calls Try.prog 66 #[.slice a n ca, .int .i64 lo, .int .i64 hi] w fun e w' => e = .returned (.bool (riseB xs lo hi)) ∧ w' = w := by
  go_enter Try.func66, Try.ntmps66
  go_wp2_with fail
  go_loop [11] (fun i => ∃ k : Nat, k ≤ n ∧ i = .int .i64 k ∧ Hid (riseB (xs.take k) lo hi = true)) (fun i => n - (intOf i).toNat)
  case atStart => exact ⟨0, Nat.zero_le _, rfl, rfl⟩
  case round =>
    obtain ⟨k, hk, rfl, hu⟩ := hrel
    by_cases hlt : k < n
    · obtain ⟨b1, o1, x, rfl, hl1, hc1, H1⟩ := ha.at hlt
      have HS := hide (riseB_step hu.out H1.out)
      have HGE := hide (nextLo_ge hu.out (show k ≤ xs.length by have := ha.1; omega))
      by_cases hi' : inB x lo hi = true
      · have HI : Hid (lo ≤ x ∧ x ≤ hi) := by simpa [inB, Hid] using hi'
        by_cases h0 : k = 0
        · subst h0
          have HU : Hid (riseB (xs.take (0 + 1)) lo hi = true) := by
            show riseB (xs.take (0 + 1)) lo hi = true
            rw [HS.out]; simp [nextLo, HI.out.1, HI.out.2]
          rw [Nat.add_zero] at hc1
          clear ha hu HS HGE H1
          go_wp2_with (go_at_call 38; refine (in_any _ _ _ _).mono ?_; rintro e w' ⟨rfl, rfl⟩)
          go_round
          case rel => exact ⟨0 + 1, by omega, by go_num, HU⟩
          case measure => simp [intOf]; omega
        · obtain ⟨j, rfl⟩ : ∃ j, k = j + 1 := ⟨k - 1, by omega⟩
          obtain ⟨b2, o2, y, he, hl2, hc2, H2⟩ := ha.at (show j < n by omega)
          simp only [Option.some.injEq, Addr.mk.injEq] at he
          obtain ⟨rfl, rfl, _⟩ := he
          have hnx : nextLo xs (j + 1) lo = y + 1 := by
            simp only [nextLo, Nat.add_one_ne_zero, if_false, Nat.add_sub_cancel]
            rw [List.getD_eq_getElem?_getD, H2.out]; rfl
          have hz : (0 : Int) < ((j + 1 : Nat) : Int) := by omega
          have hj : ((j + 1 : Nat) : Int) - 1 = ((j : Nat) : Int) := by omega
          have hjn : ((j : Nat) : Int) < (n : Int) := by omega
          by_cases hyx : y < x
          · have HU : Hid (riseB (xs.take (j + 1 + 1)) lo hi = true) := by
              show riseB (xs.take (j + 1 + 1)) lo hi = true
              rw [HS.out, hnx]; have := HI.out; simp; omega
            clear ha hu HS HGE H1 H2 hnx
            go_wp2_with (go_at_call 38; refine (in_any _ _ _ _).mono ?_; rintro e w' ⟨rfl, rfl⟩)
            go_round
            case rel => exact ⟨j + 1 + 1, by omega, by go_num, HU⟩
            case measure => simp [intOf]; omega
          · have HN : Hid (riseB xs lo hi = false) := by
              refine riseB_no (k := j + 1 + 1) ?_
              rw [HS.out, hnx]; simp; omega
            clear ha hu HS HGE H1 H2 hnx
            go_wp2_with (go_at_call 38; refine (in_any _ _ _ _).mono ?_; rintro e w' ⟨rfl, rfl⟩)
            go_ret
            exact ⟨ret_bool HN.out.symm, rfl⟩
      · have hi'' : inB x lo hi = false := by simpa using hi'
        have HN : Hid (riseB xs lo hi = false) := by
          refine riseB_no (k := k + 1) ?_
          rw [HS.out]
          have h1 := HGE.out
          simp [inB] at hi'
          simp; intro h2; omega
        clear ha hu HS HGE H1 hi'
        go_wp2_with (go_at_call 38; refine (in_any _ _ _ _).mono ?_; rintro e w' ⟨rfl, rfl⟩)
        go_ret
        exact ⟨ret_bool HN.out.symm, rfl⟩
    · have hk' : k = n := by omega
      subst hk'
      have HA := hide (riseB_done hu.out ha.1)
      go_wp2_with fail
      go_ret
      exact ⟨ret_bool HA.out.symm, rfl⟩
end Go.Proofs.Ytnknhjiofpjbbaa
