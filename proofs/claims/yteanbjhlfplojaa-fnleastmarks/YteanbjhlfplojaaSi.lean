/- What the laws' own sameInts, big and numberOf answer. -/
import Derived.Test.YteanbjhlfplojaaCur
namespace Go.Proofs.Yteanbjhlfplojaa
open Go.RowKit
set_option maxRecDepth 10000

set_option maxHeartbeats 400000 in
theorem sameI_any (a b : Option Addr) (n m ca cb : Nat) (xs ys : List Int) (w : World) (ha : Row w a n xs) (hb : Row w b m ys) (hn : n ≤ 1048576) :
    Calls Try.prog 30 #[.slice a n ca, .slice b m cb] w fun e w' => e = .returned (.bool (sameB xs ys)) ∧ ∃ q, w' = w.drewN q := by
  by_cases hnm : n = m
  · subst hnm
    have hne : ((n : Int) != (n : Int)) = false := by simp
    go_enter Try.func30, Try.ntmps30
    go_wp2
    clear hne
    go_loopw [13] (fun i wr => ∃ k : Nat, k ≤ n ∧ i = .int .i64 k ∧ Upto xs ys k ∧ ∃ q, wr = w.drewN q) (fun i _ => n - (intOf i).toNat)
    case atStart => exact ⟨0, Nat.zero_le _, rfl, rfl, 0, rfl⟩
    case round =>
      obtain ⟨k, hk, rfl, hu, q, rfl⟩ := hrel
      by_cases hlt : k < n
      · obtain ⟨b1, o1, x, rfl, hl1, hc1, H1⟩ := ha.at hlt
        obtain ⟨b2, o2, y, rfl, hl2, hc2, H2⟩ := hb.at hlt
        have hi1 : ((k : Int)) < ((n : Int)) := by omega
        clear ha hb
        by_cases he : x = y
        · subst he
          have HU := hu.step H1 H2
          clear hu H1 H2
          go_wp2
          go_quiet (fail)
          go_wp2
          go_roundw
          case rel => exact ⟨k + 1, by omega, by go_num, HU, _, rfl⟩
          case measure => simp [intOf]; omega
        · have HS := sameB_ne H1 H2 he
          have hd : (x != y) = true := by simp [he]
          clear hu H1 H2 he
          go_wp2
          go_quiet (fail)
          go_wp2
          go_ret
          exact ⟨ret_bool HS.symm, _, drewN_two w _ _⟩
      · have hx := ha.1
        have hy := hb.1
        have HS := hu.done (by omega) (by omega)
        go_wp2
        go_ret
        exact ⟨ret_bool HS.symm, _, rfl⟩
  · have hx := ha.1
    have hy := hb.1
    have HS := sameB_len (show xs.length ≠ ys.length by omega)
    have hne : ((n : Int) != (m : Int)) = true := by simp; omega
    clear ha hb hx hy
    go_enter Try.func30, Try.ntmps30
    go_wp2
    go_ret
    exact ⟨ret_bool HS.symm, 0, rfl⟩


def BigEnd (n m : Nat) (w : World) (e : Ending) (w' : World) : Prop := ∃ r : Bool, e = .returned (.bool r) ∧ Hid (r = false → n ≤ 1048576 ∧ m ≤ 1048576) ∧ w' = w

set_option maxHeartbeats 400000 in
theorem big_any (a b : Option Addr) (n m ca cb : Nat) (w : World) (hn : n ≤ 9223372036854775807) (hm : m ≤ 9223372036854775807) :
    Calls Try.prog 5 #[.slice a n ca, .slice b m cb] w fun e w' => BigEnd n m w e w' := by
  by_cases h1 : 1048576 < n
  · go_enter Try.func5, Try.ntmps5
    go_wp2
    go_ret
    exact ⟨true, rfl, fun h => by simp at h, rfl⟩
  · have h1' : (n : Int) ≤ 1048576 := by omega
    by_cases h2 : (1048576 : Int) - (n : Int) < (m : Int)
    · go_enter Try.func5, Try.ntmps5
      go_wp2
      go_ret
      exact ⟨true, rfl, fun h => by simp at h, rfl⟩
    · go_enter Try.func5, Try.ntmps5
      go_wp2
      go_ret
      exact ⟨_, rfl, fun _ => by omega, rfl⟩

/-- Some slices read as some lists. -/
def Rs (v : World) (l : List (Option Addr × Nat × List Int)) : Prop := ∀ t ∈ l, Row v t.1 t.2.1 t.2.2

theorem Rs.nil (v : World) : Rs v [] := by intro t ht; simp at ht
theorem Rs.cons {v : World} {a : Option Addr} {n : Nat} {xs : List Int} {l : List (Option Addr × Nat × List Int)} (h : Row v a n xs) (hl : Rs v l) : Rs v ((a, n, xs) :: l) := by
  intro t ht
  rcases List.mem_cons.mp ht with rfl | ht
  · exact h
  · exact hl t ht
theorem Rs.below {v v' : World} {l : List (Option Addr × Nat × List Int)} (h : Rs v l) (hb : Below v.heap.size v v') : Rs v' l := fun t ht => (h t ht).below hb
theorem Rs.at {v : World} {l : List (Option Addr × Nat × List Int)} (h : Rs v l) (a : Option Addr) (n : Nat) (xs : List Int) (hm : (a, n, xs) ∈ l) : Row v a n xs := h _ hm


/-- How numberOf ends. -/
def NumEnd (w : World) (e : Ending) (w' : World) : Prop := ∃ z : Nat, e = .returned (.int .i64 (z : Int)) ∧ z < 1000003 ∧ w' = w

end Go.Proofs.Yteanbjhlfplojaa
