/- What tokensOf and both GoodMarks answer, for every number of places and every list: true just where the places are in 1..16, the list is as long, and each of its numbers is in 0..50; nothing that was there is written. -/
import Derived.Test.YtbobppcnmpiacaaTok
namespace Go.Proofs.Ytbobppcnmpiacaa
open Go.RowKit

theorem goodB_of {p : Int} {n : Nat} {xs : List Int} (hl : xs.length = n) (hp : inB p 1 16 = true) (hn : (n : Int) = p) : goodB p xs = allB xs 0 50 := by
  simp [goodB, hp, hl, hn]

theorem goodB_p {p : Int} {xs : List Int} (hp : inB p 1 16 = false) : goodB p xs = false := by simp [goodB, hp]

theorem goodB_n {p : Int} {n : Nat} {xs : List Int} (hl : xs.length = n) (hn : ¬ (n : Int) = p) : goodB p xs = false := by
  simp [goodB, hl, hn]

theorem inB_le {p : Int} {n : Nat} (hp : inB p 1 16 = true) (hn : (n : Int) = p) : 1 ≤ n ∧ n ≤ 16 := by
  simp [inB] at hp; omega

set_option maxHeartbeats 400000 in
theorem tokens_any (p : Int) (a : Option Addr) (n ca : Nat) (xs : List Int) (w : World) (ha : Row w a n xs) (_hn : n ≤ 1048576) :
    Calls Try.prog 74 #[.int .i64 p, .slice a n ca] w fun e w' => TokEnd (goodB p xs) xs n w e w' := by
  by_cases hp : inB p 1 16 = true
  · by_cases hnp : (n : Int) = p
    · exact tokens_run _ p a n ca xs w ha hp hnp (inB_le hp hnp).2 (goodB_of ha.1 hp hnp)
    · have hd : ((n : Int) != p) = true := by simp [hnp]
      have HG : Hid (goodB p xs = false) := goodB_n ha.1 hnp
      clear hnp ha
      go_enter Try.func74, Try.ntmps74
      go_wp2_with (go_at_call 77; refine (goodPlaces_any _ _).mono ?_; rintro e w' ⟨rfl, rfl⟩)
      exact bodyPost_ret (v := .tuple #[.agg #[.int .u8 0, .int .u8 0, .int .u8 0, .int .u8 0, .int .u8 0, .int .u8 0, .int .u8 0, .int .u8 0, .int .u8 0, .int .u8 0, .int .u8 0, .int .u8 0, .int .u8 0, .int .u8 0, .int .u8 0, .int .u8 0], .bool false]) (by simp [results, Try.results74, go_sem]) rfl (tokEnd_no HG.out (below_two _ _ _))
  · have hp' : inB p 1 16 = false := by simpa using hp
    have HG : Hid (goodB p xs = false) := goodB_p hp'
    clear hp ha
    go_enter Try.func74, Try.ntmps74
    go_wp2_with (go_at_call 77; refine (goodPlaces_any _ _).mono ?_; rintro e w' ⟨rfl, rfl⟩)
    exact bodyPost_ret (v := .tuple #[.agg #[.int .u8 0, .int .u8 0, .int .u8 0, .int .u8 0, .int .u8 0, .int .u8 0, .int .u8 0, .int .u8 0, .int .u8 0, .int .u8 0, .int .u8 0, .int .u8 0, .int .u8 0, .int .u8 0, .int .u8 0, .int .u8 0], .bool false]) (by simp [results, Try.results74, go_sem]) rfl (tokEnd_no HG.out (below_two _ _ _))

/-- A call that answers a bool and writes into nothing that was there. -/
def BoolEnd (b : Bool) (w : World) (e : Ending) (w' : World) : Prop := e = .returned (.bool b) ∧ Below w.heap.size w w'


def AllUpto (xs : List Int) (lo hi : Int) (k : Nat) : Prop := allB (xs.take k) lo hi = true

theorem AllUpto.step {xs : List Int} {lo hi : Int} {k : Nat} {x : Int} (h : AllUpto xs lo hi k) (hx : Hid (xs[k]? = some x)) (hi' : inB x lo hi = true) : AllUpto xs lo hi (k + 1) := by
  unfold AllUpto allB at *
  rw [List.take_add_one, hx.out, List.all_append, h]
  simp [hi']

theorem AllUpto.done {xs : List Int} {lo hi : Int} {n : Nat} (h : AllUpto xs lo hi n) (hl : xs.length = n) : allB xs lo hi = true := by
  unfold AllUpto at h
  rwa [List.take_of_length_le (by omega)] at h

theorem allB_no {xs : List Int} {lo hi : Int} {k : Nat} {x : Int} (hx : Hid (xs[k]? = some x)) (hi' : inB x lo hi = false) : allB xs lo hi = false := by
  unfold allB
  rw [List.all_eq_false]
  exact ⟨x, List.mem_of_getElem? hx.out, by simp [hi']⟩

set_option maxHeartbeats 400000 in
theorem all_any (a : Option Addr) (n ca : Nat) (xs : List Int) (lo hi : Int) (w : World) (ha : Row w a n xs) (hn : n ≤ 1048576) :
    Calls Try.prog 46 #[.slice a n ca, .int .i64 lo, .int .i64 hi] w fun e w' => e = .returned (.bool (allB xs lo hi)) ∧ w' = w := by
  go_enter Try.func46, Try.ntmps46
  go_wp2
  go_loop [11] (fun i => ∃ k : Nat, k ≤ n ∧ i = .int .i64 k ∧ AllUpto xs lo hi k) (fun i => n - (intOf i).toNat)
  case atStart => exact ⟨0, Nat.zero_le _, rfl, rfl⟩
  case round =>
    obtain ⟨k, hk, rfl, hu⟩ := hrel
    by_cases hlt : k < n
    · obtain ⟨b1, o1, x, rfl, hl1, hc1, H1⟩ := ha.at hlt
      clear ha
      by_cases hi' : inB x lo hi = true
      · have HU := hu.step H1 hi'
        clear hu H1
        go_wp2_with (go_at_call 53; refine (in_any _ _ _ _).mono ?_; rintro e w' ⟨rfl, rfl⟩)
        go_round
        case rel => exact ⟨k + 1, by omega, by go_num, HU⟩
        case measure => simp [intOf]; omega
      · have hi'' : inB x lo hi = false := by simpa using hi'
        have HA := hide (allB_no H1 hi'')
        clear hu H1 hi'
        go_wp2_with (go_at_call 53; refine (in_any _ _ _ _).mono ?_; rintro e w' ⟨rfl, rfl⟩)
        go_ret
        exact ⟨ret_bool HA.out.symm, rfl⟩
    · have hk' : k = n := by omega
      subst hk'
      have HA := hide (hu.done ha.1)
      go_wp2
      go_ret
      exact ⟨ret_bool HA.out.symm, rfl⟩

set_option maxHeartbeats 400000 in
theorem goodS_any (p : Int) (a : Option Addr) (n ca : Nat) (xs : List Int) (w : World) (ha : Row w a n xs) (hn : n ≤ 1048576) :
    Calls Try.prog 56 #[.int .i64 p, .slice a n ca] w fun e w' => e = .returned (.bool (goodB p xs)) ∧ w' = w := by
  by_cases hp : inB p 1 16 = true
  · by_cases hnp : (n : Int) = p
    · have hd : ((n : Int) == p) = true := by simp [hnp]
      have HG := hide (goodB_of ha.1 hp hnp)
      have HA := hide (all_any a n ca xs 0 50 w ha hn)
      clear hnp ha
      go_enter Try.func56, Try.ntmps56
      go_wp2_with (first
        | (go_at_call 48; refine (places_any _ _).mono ?_; rintro e w' ⟨rfl, rfl⟩)
        | (go_at_call 46; refine HA.out.mono ?_; rintro e w' ⟨rfl, rfl⟩))
      go_ret
      exact ⟨ret_bool HG.out.symm, rfl⟩
    · have hd : ((n : Int) == p) = false := by simp [hnp]
      have HG := hide (goodB_n ha.1 hnp)
      clear hnp ha
      go_enter Try.func56, Try.ntmps56
      go_wp2_with (go_at_call 48; refine (places_any _ _).mono ?_; rintro e w' ⟨rfl, rfl⟩)
      go_ret
      exact ⟨ret_bool HG.out.symm, rfl⟩
  · have hp' : inB p 1 16 = false := by simpa using hp
    have HG := hide (goodB_p (xs := xs) hp')
    clear hp ha
    go_enter Try.func56, Try.ntmps56
    go_wp2_with (go_at_call 48; refine (places_any _ _).mono ?_; rintro e w' ⟨rfl, rfl⟩)
    go_ret
    exact ⟨ret_bool HG.out.symm, rfl⟩
end Go.Proofs.Ytbobppcnmpiacaa
