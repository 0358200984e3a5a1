/- Contracts that the proof stands on, one behind the other. -/
import Derived.Test.YtegabkegbhglfaaP15
/- What the laws' own sameInts, big and numberOf answer. -/
namespace Go.Proofs.Ytegabkegbhglfaa
open Go.RowKit
set_option maxRecDepth 10000

set_option maxHeartbeats 400000 in
theorem sameI_any (a b : Option Addr) (n m ca cb : Nat) (xs ys : List Int) (w : World) (ha : Row w a n xs) (hb : Row w b m ys) (hn : n ≤ 1048576) :
    Calls Try.prog 22 #[.slice a n ca, .slice b m cb] w fun e w' => e = .returned (.bool (sameB xs ys)) ∧ ∃ q, w' = w.drewN q := by
  by_cases hnm : n = m
  · subst hnm
    have hne : ((n : Int) != (n : Int)) = false := by simp
    go_enter Try.func22, Try.ntmps22
    go_wp2
    clear hne
    go_loopw [13] (fun i wr => ∃ k : Nat, k ≤ n ∧ i = .int .i64 k ∧ Upto xs ys k ∧ ∃ q, wr = w.drewN q) (fun i _ => n - (intOf i).toNat)
    case atStart => exact ⟨0, Nat.zero_le _, rfl, rfl, 0, rfl⟩
    case round =>
      obtain ⟨k, hk, rfl, hu, q, rfl⟩ := hrel
      by_cases hlt : k < n
      · obtain ⟨b1, o1, x, rfl, hl1, hc1, H1⟩ := ha.at hlt
        obtain ⟨b2, o2, y, rfl, hl2, hc2, H2⟩ := hb.at hlt
        have hi1 : ((k : Int)) < ((n : Int)) := by omega
        clear ha hb
        by_cases he : x = y
        · subst he
          have HU := hu.step H1 H2
          clear hu H1 H2
          go_wp2
          go_quiet (fail)
          go_wp2
          go_roundw
          case rel => exact ⟨k + 1, by omega, by go_num, HU, _, rfl⟩
          case measure => simp [intOf]; omega
        · have HS := sameB_ne H1 H2 he
          have hd : (x != y) = true := by simp [he]
          clear hu H1 H2 he
          go_wp2
          go_quiet (fail)
          go_wp2
          go_ret
          exact ⟨ret_bool HS.symm, _, drewN_two w _ _⟩
      · have hx := ha.1
        have hy := hb.1
        have HS := hu.done (by omega) (by omega)
        go_wp2
        go_ret
        exact ⟨ret_bool HS.symm, _, rfl⟩
  · have hx := ha.1
    have hy := hb.1
    have HS := sameB_len (show xs.length ≠ ys.length by omega)
    have hne : ((n : Int) != (m : Int)) = true := by simp; omega
    clear ha hb hx hy
    go_enter Try.func22, Try.ntmps22
    go_wp2
    go_ret
    exact ⟨ret_bool HS.symm, 0, rfl⟩


def BigEnd (n m : Nat) (w : World) (e : Ending) (w' : World) : Prop := ∃ r : Bool, e = .returned (.bool r) ∧ Hid (r = false → n ≤ 1048576 ∧ m ≤ 1048576) ∧ w' = w

set_option maxHeartbeats 400000 in
theorem big_any (a b : Option Addr) (n m ca cb : Nat) (w : World) (hn : n ≤ 9223372036854775807) (hm : m ≤ 9223372036854775807) :
    Calls Try.prog 8 #[.slice a n ca, .slice b m cb] w fun e w' => BigEnd n m w e w' := by
  by_cases h1 : 1048576 < n
  · go_enter Try.func8, Try.ntmps8
    go_wp2
    go_ret
    exact ⟨true, rfl, fun h => by simp at h, rfl⟩
  · have h1' : (n : Int) ≤ 1048576 := by omega
    by_cases h2 : (1048576 : Int) - (n : Int) < (m : Int)
    · go_enter Try.func8, Try.ntmps8
      go_wp2
      go_ret
      exact ⟨true, rfl, fun h => by simp at h, rfl⟩
    · go_enter Try.func8, Try.ntmps8
      go_wp2
      go_ret
      exact ⟨_, rfl, fun _ => by omega, rfl⟩

/-- Some slices read as some lists. -/
def Rs (v : World) (l : List (Option Addr × Nat × List Int)) : Prop := ∀ t ∈ l, Row v t.1 t.2.1 t.2.2

theorem Rs.nil (v : World) : Rs v [] := by intro t ht; simp at ht
theorem Rs.cons {v : World} {a : Option Addr} {n : Nat} {xs : List Int} {l : List (Option Addr × Nat × List Int)} (h : Row v a n xs) (hl : Rs v l) : Rs v ((a, n, xs) :: l) := by
  intro t ht
  rcases List.mem_cons.mp ht with rfl | ht
  · exact h
  · exact hl t ht
theorem Rs.below {v v' : World} {l : List (Option Addr × Nat × List Int)} (h : Rs v l) (hb : Below v.heap.size v v') : Rs v' l := fun t ht => (h t ht).below hb
theorem Rs.at {v : World} {l : List (Option Addr × Nat × List Int)} (h : Rs v l) (a : Option Addr) (n : Nat) (xs : List Int) (hm : (a, n, xs) ∈ l) : Row v a n xs := h _ hm


/-- How numberOf ends. -/
def NumEnd (w : World) (e : Ending) (w' : World) : Prop := ∃ z : Nat, e = .returned (.int .i64 (z : Int)) ∧ z < 1000003 ∧ w' = w

set_option maxHeartbeats 400000 in
theorem number_any (a : Option Addr) (n c : Nat) (bs : List Int) (w : World) (h : RowB w a n bs) (hn : n ≤ 1048576) :
    Calls Try.prog 23 #[.slice a n c] w fun e w' => NumEnd w e w' := by
  have HR := hide h
  clear h
  go_enter Try.func23, Try.ntmps23
  go_wp2_with fail
  go_loop [3, 8] (fun m i => ∃ k z : Nat, k ≤ n ∧ i = .int .i64 k ∧ m = .int .i64 (z : Int) ∧ z < 1000003) (fun _ i => n - (intOf i).toNat)
  case atStart => exact ⟨0, 0, Nat.zero_le _, rfl, rfl, by omega⟩
  case round =>
    obtain ⟨k, z, hk, rfl, rfl, hz⟩ := hrel
    by_cases hlt : k < n
    · have hi1 : (k : Int) < (n : Int) := by omega
      rcases HR.out.2.2 with h0 | ⟨b, off, rfl, hl, hc⟩
      · omega
      have hck := hc k hlt
      have hx := HR.out.2.1 k
      generalize bs.getD k 0 = x at hck hx
      clear hc HR
      have hz1 : (0 : Int) ≤ (z : Int) ∧ (z : Int) < 1000003 := by omega
      go_wp2_with fail
      go_round
      case rel => exact ⟨k + 1, ((31 * (z : Int) + x) % 1000003).toNat, by omega, by go_num, by have := Int.emod_nonneg (31 * (z : Int) + x) (show (1000003 : Int) ≠ 0 by omega); congr 1; omega, by have := Int.emod_lt_of_pos (31 * (z : Int) + x) (show (0 : Int) < 1000003 by omega); omega⟩
      case measure => simp [intOf]; omega
    · go_wp2_with fail
      go_ret
      exact ⟨z, rfl, hz, rfl⟩
end Go.Proofs.Ytegabkegbhglfaa


/- What a law over a drawn net and drawn lists keeps in mind. -/
namespace Go.Proofs.Ytegabkegbhglfaa
open Go.RowKit
set_option maxRecDepth 10000

structure Mst (w v : World) (V : Nat) (pl : Int) (a : Option Addr) (k c : Nat) (L : List (List Int)) (rows : List (Option Addr × Nat × List Int)) (ma : Option Addr) (mn : Nat) (cs : List Int) : Prop where
  old : Below w.heap.size w v
  var : v.heap[V]? = some (.cells #[.int .i64 pl, .slice a k c] 39 (0, 0))
  net : Lists v a (3 * k) L
  rows : Rs v rows
  more : RowB v ma mn cs

section
variable {w v v' : World} {V : Nat} {pl : Int} {a : Option Addr} {k c : Nat} {L : List (List Int)} {rows : List (Option Addr × Nat × List Int)} {ma : Option Addr} {mn : Nat} {cs : List Int}

theorem Mst.grow (h : Mst w v V pl a k c L rows ma mn cs) (hb : Below v.heap.size v v') : Mst w v' V pl a k c L rows ma mn cs :=
  ⟨h.old.trans (hb.mono h.old.size), (hb.block V (Array.getElem?_eq_some_iff.mp h.var).1).trans h.var, h.net.below hb, h.rows.below hb, h.more.below hb⟩
theorem Mst.add (h : Mst w v V pl a k c L rows ma mn cs) {b : Option Addr} {n : Nat} {xs : List Int} (hr : Row v b n xs) : Mst w v V pl a k c L ((b, n, xs) :: rows) ma mn cs := ⟨h.old, h.var, h.net, Rs.cons hr h.rows, h.more⟩
theorem Mst.c0 (h : Mst w v V pl a k c L rows ma mn cs) : v.cell? ⟨V, 0, none⟩ = some (.int .i64 pl) := cell_of_row v V 0 _ _ _ h.var
theorem Mst.c1 (h : Mst w v V pl a k c L rows ma mn cs) : v.cell? ⟨V, 1, none⟩ = some (.slice a k c) := cell_of_row v V 1 _ _ _ h.var
end
end Go.Proofs.Ytegabkegbhglfaa
