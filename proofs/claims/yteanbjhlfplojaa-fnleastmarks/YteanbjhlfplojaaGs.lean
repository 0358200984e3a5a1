/- When a net is good, by the specification: GoodNet for every net in memory. -/
import Derived.Test.YteanbjhlfplojaaGn
namespace Go.Proofs.Yteanbjhlfplojaa
open Go.RowKit

def triOk (p : Int) (L : List (List Int)) (i : Nat) : Bool :=
  !(L.getD (3 * i) []).isEmpty && riseB (L.getD (3 * i) []) 0 (p - 1) && riseB (L.getD (3 * i + 1) []) 0 (p - 1) && riseB (L.getD (3 * i + 2) []) 0 (p - 1)

def netOk (p : Int) (n : Nat) (L : List (List Int)) : Bool := inB p 1 16 && decide (n ≤ 24) && (List.range n).all (triOk p L)

theorem triOk_no0 {p : Int} {L : List (List Int)} {i : Nat} (h : L.getD (3 * i) [] = []) : triOk p L i = false := by unfold triOk; rw [h]; rfl
theorem triOk_no1 {p : Int} {L : List (List Int)} {i : Nat} {x : List Int} (h : L.getD (3 * i) [] = x) (hr : riseB x 0 (p - 1) = false) : triOk p L i = false := by unfold triOk; rw [h, hr]; simp
theorem triOk_no2 {p : Int} {L : List (List Int)} {i : Nat} {x : List Int} (h : L.getD (3 * i + 1) [] = x) (hr : riseB x 0 (p - 1) = false) : triOk p L i = false := by unfold triOk; rw [h, hr]; simp
theorem triOk_no3 {p : Int} {L : List (List Int)} {i : Nat} {x : List Int} (h : L.getD (3 * i + 2) [] = x) (hr : riseB x 0 (p - 1) = false) : triOk p L i = false := by unfold triOk; rw [h, hr]; simp
theorem triOk_yes {p : Int} {L : List (List Int)} {i : Nat} {x y z : List Int} (h : L.getD (3 * i) [] = x) (h1 : L.getD (3 * i + 1) [] = y) (h2 : L.getD (3 * i + 2) [] = z) (hx : x ≠ []) (hr : riseB x 0 (p - 1) = true) (hr1 : riseB y 0 (p - 1) = true) (hr2 : riseB z 0 (p - 1) = true) : triOk p L i = true := by
  unfold triOk; rw [h, h1, h2, hr, hr1, hr2]; cases x <;> simp_all

theorem netOk_no {p : Int} {n i : Nat} {L : List (List Int)} (hi : i < n) (h : triOk p L i = false) : netOk p n L = false := by
  unfold netOk
  have : (List.range n).all (triOk p L) = false := by rw [List.all_eq_false]; exact ⟨i, by simpa using hi, by simp [h]⟩
  rw [this]; simp

theorem netOk_yes {p : Int} {n : Nat} {L : List (List Int)} (hp : inB p 1 16 = true) (hn : n ≤ 24) (h : (List.range n).all (triOk p L) = true) : netOk p n L = true := by
  unfold netOk; rw [hp, h]; simpa using hn

theorem all_range_succ {f : Nat → Bool} {k : Nat} (h : (List.range k).all f = true) (hk : f k = true) : (List.range (k + 1)).all f = true := by
  rw [List.range_succ, List.all_append, h]; simp [hk]

end Go.Proofs.Yteanbjhlfplojaa
