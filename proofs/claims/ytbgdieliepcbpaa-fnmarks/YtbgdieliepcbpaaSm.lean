/- What sameInts and big answer, and how sums, differences and covers of good marks hang together. -/
import Derived.Test.YtbgdieliepcbpaaTotal2
import Derived.Test.YtbgdieliepcbpaaDrw
namespace Go.Proofs.Ytbgdieliepcbpaa
open Go.RowKit

set_option maxHeartbeats 400000 in
theorem same_any (a b : Option Addr) (n m ca cb : Nat) (xs ys : List Int) (w : World) (ha : Row w a n xs) (hb : Row w b m ys) (hn : n ≤ 1048576) :
    Calls Try.prog 12 #[.slice a n ca, .slice b m cb] w fun e w' => e = .returned (.bool (sameB xs ys)) ∧ ∃ q, w' = w.drewN q := by
  by_cases hnm : n = m
  · subst hnm
    have hne : ((n : Int) != (n : Int)) = false := by simp
    go_enter Try.func12, Try.ntmps12
    go_wp2
    clear hne
    go_loopw [13] (fun i wr => ∃ k : Nat, k ≤ n ∧ i = .int .i64 k ∧ Upto xs ys k ∧ ∃ q, wr = w.drewN q) (fun i _ => n - (intOf i).toNat)
    case atStart => exact ⟨0, Nat.zero_le _, rfl, rfl, 0, rfl⟩
    case round =>
      obtain ⟨k, hk, rfl, hu, q, rfl⟩ := hrel
      by_cases hlt : k < n
      · obtain ⟨b1, o1, x, rfl, hl1, hc1, H1⟩ := ha.at hlt
        obtain ⟨b2, o2, y, rfl, hl2, hc2, H2⟩ := hb.at hlt
        have hi1 : ((k : Int)) < ((n : Int)) := by omega
        clear ha hb
        by_cases he : x = y
        · subst he
          have HU := hu.step H1 H2
          clear hu H1 H2
          go_wp2
          go_quiet (fail)
          go_wp2
          go_roundw
          case rel => exact ⟨k + 1, by omega, by go_num, HU, _, rfl⟩
          case measure => simp [intOf]; omega
        · have HS := sameB_ne H1 H2 he
          have hd : (x != y) = true := by simp [he]
          clear hu H1 H2 he
          go_wp2
          go_quiet (fail)
          go_wp2
          go_ret
          exact ⟨ret_bool HS.symm, _, drewN_two w _ _⟩
      · have hx := ha.1
        have hy := hb.1
        have HS := hu.done (by omega) (by omega)
        go_wp2
        go_ret
        exact ⟨ret_bool HS.symm, _, rfl⟩
  · have hx := ha.1
    have hy := hb.1
    have HS := sameB_len (show xs.length ≠ ys.length by omega)
    have hne : ((n : Int) != (m : Int)) = true := by simp; omega
    clear ha hb hx hy
    go_enter Try.func12, Try.ntmps12
    go_wp2
    go_ret
    exact ⟨ret_bool HS.symm, 0, rfl⟩


def BigEnd (n m : Nat) (w : World) (e : Ending) (w' : World) : Prop := ∃ r : Bool, e = .returned (.bool r) ∧ Hid (r = false → n ≤ 1048576 ∧ m ≤ 1048576) ∧ w' = w

set_option maxHeartbeats 400000 in
theorem big_any (a b : Option Addr) (n m ca cb : Nat) (w : World) (hn : n ≤ 9223372036854775807) (hm : m ≤ 9223372036854775807) :
    Calls Try.prog 4 #[.slice a n ca, .slice b m cb] w fun e w' => BigEnd n m w e w' := by
  by_cases h1 : 1048576 < n
  · go_enter Try.func4, Try.ntmps4
    go_wp2
    go_ret
    exact ⟨true, rfl, fun h => by simp at h, rfl⟩
  · have h1' : (n : Int) ≤ 1048576 := by omega
    by_cases h2 : (1048576 : Int) - (n : Int) < (m : Int)
    · go_enter Try.func4, Try.ntmps4
      go_wp2
      go_ret
      exact ⟨true, rfl, fun h => by simp at h, rfl⟩
    · go_enter Try.func4, Try.ntmps4
      go_wp2
      go_ret
      exact ⟨_, rfl, fun _ => by omega, rfl⟩

/-- Some slices read as some lists. -/
def Rs (v : World) (l : List (Option Addr × Nat × List Int)) : Prop := ∀ t ∈ l, Row v t.1 t.2.1 t.2.2

theorem Rs.nil (v : World) : Rs v [] := by intro t ht; simp at ht
theorem Rs.cons {v : World} {a : Option Addr} {n : Nat} {xs : List Int} {l : List (Option Addr × Nat × List Int)} (h : Row v a n xs) (hl : Rs v l) : Rs v ((a, n, xs) :: l) := by
  intro t ht
  rcases List.mem_cons.mp ht with rfl | ht
  · exact h
  · exact hl t ht
theorem Rs.below {v v' : World} {l : List (Option Addr × Nat × List Int)} (h : Rs v l) (hb : Below v.heap.size v v') : Rs v' l := fun t ht => (h t ht).below hb
theorem Rs.at {v : World} {l : List (Option Addr × Nat × List Int)} (h : Rs v l) (a : Option Addr) (n : Nat) (xs : List Int) (hm : (a, n, xs) ∈ l) : Row v a n xs := h _ hm

theorem getF_sum {xs ys : List Int} {i : Nat} (h : i < xs.length) : getF (sumL xs ys) i = getF xs i + getF ys i := by
  simp [getF, sumL, h]

theorem map_getF (xs : List Int) : (List.range xs.length).map (getF xs) = xs := by
  apply List.ext_getElem
  · simp
  · intro i h1 h2
    simp [getF, h2]

structure AddFacts (p : Int) (xs ys : List Int) : Prop where
  gs : goodB p (sumL xs ys) = true
  gx : goodB p xs = true
  gy : goodB p ys = true
  to : takeOk p (sumL xs ys) ys = true
  tr : takeR p (sumL xs ys) ys = xs
  cv : covB p (sumL xs ys) xs = true
  tot : totB p (sumL xs ys) = totB p xs + totB p ys
  bx : 0 ≤ totB p xs ∧ totB p xs ≤ 800
  bY : 0 ≤ totB p ys ∧ totB p ys ≤ 800

theorem add_facts {p : Int} {xs ys : List Int} (h : addOk p xs ys = true) : AddFacts p xs ys := by
  have h' := h
  unfold addOk at h'
  simp only [Bool.and_eq_true] at h'
  obtain ⟨⟨gx, gy⟩, gs⟩ := h'
  have px := good_parts gx
  have py := good_parts gy
  have hlen : xs.length = ys.length := by omega
  have hto : takeOk p (sumL xs ys) ys = true := by
    unfold takeOk
    rw [gs, gy, Bool.true_and, Bool.true_and, covF_iff]
    intro i hi
    rw [sumL_len] at hi
    rw [getF_sum hi]
    have := px.1 i
    omega
  have hsum : ∀ k, k ≤ xs.length → sumF (getF (sumL xs ys)) k = sumF (getF xs) k + sumF (getF ys) k := by
    intro k
    induction k with
    | zero => intro _; rfl
    | succ k ih => intro hk; simp only [sumF]; rw [ih (by omega), getF_sum (by omega)]; omega
  refine ⟨gs, gx, gy, hto, ?_, ?_, ?_, ?_, ?_⟩
  · unfold takeR
    rw [hto, if_pos rfl]
    unfold difL
    rw [sumL_len]
    refine Eq.trans (List.map_congr_left fun i hi => ?_) (map_getF xs)
    have hi' : i < xs.length := by simpa using hi
    rw [getF_sum hi']; omega
  · unfold covB
    rw [gs, gx, Bool.true_and, Bool.true_and, covF_iff]
    intro i hi
    rw [sumL_len] at hi
    rw [getF_sum hi]
    have := py.1 i
    omega
  · unfold totB
    rw [gs, gx, gy, if_pos rfl, if_pos rfl, if_pos rfl, sumL_len, hsum _ (Nat.le_refl _), ← hlen]
  · unfold totB; rw [gx, if_pos rfl]; have := sumF_le px.1 xs.length; omega
  · unfold totB; rw [gy, if_pos rfl]; have := sumF_le py.1 ys.length; omega

theorem take_cov (p : Int) (xs ys : List Int) : takeOk p xs ys = covB p xs ys := rfl
theorem cov_no {p : Int} {xs ys : List Int} (h : (goodB p xs && goodB p ys) = false) : covB p xs ys = false := by unfold covB; rw [h]; rfl
theorem addR_no {p : Int} {xs ys : List Int} (h : addOk p xs ys = true) : (goodB p xs && goodB p ys) = true := by unfold addOk at h; simp only [Bool.and_eq_true] at h ⊢; exact h.1
end Go.Proofs.Ytbgdieliepcbpaa
