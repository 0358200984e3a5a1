/- Contracts that the proof stands on, one behind the other. -/
import Derived.Test.YtakenobplljkbabP4
import Derived.BigQuiet
import Derived.Lib.Strings
import Derived.Lib.Slices
import Derived.Lib.Small
import Derived.Lib.Walk
import Derived.Lib.Tables
import Derived.Lib.BitFns
import Derived.OwnWalk
/- IsInvariant of both sides. -/
namespace Go.Proofs.Ytakenobplljkbab
open Go.RowKit
set_option maxRecDepth 10000

def wgM (ws : List Int) (P n : Nat) (L : List (List Int)) : Bool := (List.range n).any fun i => !decide (chW (maskL (L.getD (3 * i) [])) (maskL (L.getD (3 * i + 1) [])) ws P = 0)

theorem wgM_yes {ws : List Int} {P n k : Nat} {L : List (List Int)} (hk : k < n) (h : (!decide (chW (maskL (L.getD (3 * k) [])) (maskL (L.getD (3 * k + 1) [])) ws P = 0)) = true) : wgM ws P n L = true := by
  unfold wgM
  rw [List.any_eq_true]
  exact ⟨k, by simpa using hk, h⟩

theorem wgM_step {ws : List Int} {P k : Nat} {L : List (List Int)} (h : wgM ws P k L = false) (he : (!decide (chW (maskL (L.getD (3 * k) [])) (maskL (L.getD (3 * k + 1) [])) ws P = 0)) = false) : wgM ws P (k + 1) L = false := by
  unfold wgM at *
  rw [List.range_succ, List.any_append, h]
  simp only [List.any_cons, List.any_nil, Bool.or_false, he]


/-- The weights of the places of a list, added. -/
def sumW (ws xs : List Int) : Int := sumF (fun i => ws.getD (xs.getD i 0).toNat 0) xs.length

theorem sumF_add {f : Nat → Int} {n j : Nat} {c : Int} (hj : j < n) : sumF (fun i => f i + if i = j then c else 0) n = sumF f n + c := by
  have key : ∀ m, sumF (fun i => f i + if i = j then c else 0) m = sumF f m + if j < m then c else 0 := by
    intro m
    induction m with
    | zero => simp [sumF]
    | succ k ih =>
      rw [sumF, sumF, ih]
      by_cases e : k = j
      · subst e; simp; omega
      · by_cases h : j < k
        · rw [if_pos h, if_neg e, if_pos (by omega)]; omega
        · rw [if_neg h, if_neg e, if_neg (by omega)]; omega
  rw [key, if_pos hj]

theorem sumF_sub {f g : Nat → Int} {n : Nat} : sumF (fun i => f i - g i) n = sumF f n - sumF g n := by
  induction n with
  | zero => rfl
  | succ k ih => simp only [sumF]; rw [ih]; omega

/-- The weights of a rising list's places are the weights of the places that lie in it. -/
theorem sumW_in {xs ws : List Int} {P : Nat} (h : riseB xs 0 ((P : Int) - 1) = true) : sumF (fun j => (if (j : Int) ∈ xs then 1 else 0) * ws.getD j 0) P = sumW ws xs := by
  induction xs using snoc_ind with
  | h0 =>
    show _ = 0
    have : ∀ m, sumF (fun j => (if (j : Int) ∈ ([] : List Int) then 1 else 0) * ws.getD j 0) m = 0 := by
      intro m
      induction m with
      | zero => rfl
      | succ k ih => rw [sumF, ih]; simp
    exact this P
  | h1 xs x ih =>
    have hs := riseB_snoc h
    have hx := riseB_mem h x (by simp)
    have e1 : sumW ws (xs ++ [x]) = sumW ws xs + ws.getD x.toNat 0 := by
      unfold sumW
      rw [List.length_append]
      show sumF _ (xs.length + 1) = _
      rw [sumF]
      congr 1
      · refine sumF_congr fun i hi => ?_
        have e : (xs ++ [x]).getD i 0 = xs.getD i 0 := by rw [List.getD_eq_getElem?_getD, List.getElem?_append_left hi, ← List.getD_eq_getElem?_getD]
        rw [e]
      · simp
    rw [e1, ← ih hs.1, ← sumF_add (n := P) (j := x.toNat) (c := ws.getD x.toNat 0) (by omega)]
    refine sumF_congr fun i hi => ?_
    by_cases e : i = x.toNat
    · subst e
      have hxe : ((x.toNat : Nat) : Int) = x := by omega
      rw [hxe, if_pos (by simp), if_pos rfl, if_neg hs.2]; omega
    · have hne : (i : Int) ≠ x := by omega
      rw [if_neg e]
      by_cases hm : (i : Int) ∈ xs
      · rw [if_pos hm, if_pos (by simp [hm])]; omega
      · rw [if_neg hm, if_neg (by simp [hm, hne])]; omega

theorem chW_eq {p : Int} {P n k : Nat} {L : List (List Int)} (ws : List Int) (hp : p = P) (h : netOk p n L = true) (hk : k < n) : chW (maskL (L.getD (3 * k) [])) (maskL (L.getD (3 * k + 1) [])) ws P = sumW ws (L.getD (3 * k + 1) []) - sumW ws (L.getD (3 * k) []) := by
  have hr := net_rises h hk
  subst hp
  rw [← sumW_in (P := P) hr.1, ← sumW_in (P := P) hr.2.1, ← sumF_sub]
  unfold chW
  refine sumF_congr fun j _ => ?_
  have := chL_eq (j := j) h hk
  unfold chL at this
  rw [this, Int.sub_mul]

def invB (ws : List Int) (n : Nat) (L : List (List Int)) : Bool := (List.range n).all fun k => decide (sumW ws (L.getD (3 * k) []) = sumW ws (L.getD (3 * k + 1) []))

theorem wgM_eq {p : Int} {P n : Nat} {L : List (List Int)} (ws : List Int) (hp : p = P) (h : netOk p n L = true) : (!wgM ws P n L) = invB ws n L := by
  unfold wgM invB
  rw [Bool.eq_iff_iff, Bool.not_eq_true', List.all_eq_true, List.any_eq_false]
  constructor
  · intro hh k hk
    have := hh k hk
    rw [chW_eq ws hp h (by simpa using hk)] at this
    simp at this ⊢; omega
  · intro hh k hk
    have := hh k hk
    rw [chW_eq ws hp h (by simpa using hk)]
    simp at this ⊢; omega

theorem invB_take {ws : List Int} {k : Nat} {L : List (List Int)} (h : invB ws k L = true) (hk : sumW ws (L.getD (3 * k) []) = sumW ws (L.getD (3 * k + 1) [])) : invB ws (k + 1) L = true := by
  unfold invB at *
  rw [List.range_succ, List.all_append, h]; simp at hk ⊢; exact hk

theorem invB_no {ws : List Int} {n k : Nat} {L : List (List Int)} (hk : k < n) (h : ¬ sumW ws (L.getD (3 * k) []) = sumW ws (L.getD (3 * k + 1) [])) : invB ws n L = false := by
  unfold invB
  rw [List.all_eq_false]
  exact ⟨k, by simpa using hk, by simpa using h⟩

set_option maxHeartbeats 1000000 in
theorem sumS_any (a b : Option Addr) (m n c d : Nat) (ws xs : List Int) (w : World) (ra : Row w a m ws) (rb : Row w b n xs) (hn : n ≤ 1000) (hin : ∀ x ∈ xs, 0 ≤ x ∧ x < m) (hb : ∀ i, -1000 ≤ ws.getD i 0 ∧ ws.getD i 0 ≤ 1000) :
    Calls Try.prog 58 #[.slice a m c, .slice b n d] w fun e w' => e = .returned (.int .i64 (sumW ws xs)) ∧ w' = w := by
  have HS := hide (sumF_bound (f := fun i => ws.getD (xs.getD i 0).toNat 0) (n := n) (M := 1000) (by omega) (fun i _ => hb _))
  have HB := hide hb
  have HIN := hide hin
  have hxl := rb.1
  clear hb hin
  go_enter Try.func58, Try.ntmps58
  go_wp2_with fail
  go_loop [5, 10] (fun s i => ∃ k : Nat, k ≤ n ∧ i = .int .i64 k ∧ s = .int .i64 (sumF (fun i => ws.getD (xs.getD i 0).toNat 0) k)) (fun _ i => n - (intOf i).toNat)
  case atStart => exact ⟨0, Nat.zero_le _, rfl, rfl⟩
  case round =>
    obtain ⟨k, hk, rfl, rfl⟩ := hrel
    by_cases hkn : k < n
    rotate_left
    · have hk' : k = n := by omega
      subst hk'
      have HE : Hid (sumF (fun i => ws.getD (xs.getD i 0).toNat 0) k = sumW ws xs) := by show _ = _; unfold sumW; rw [hxl]
      go_wp2_with fail
      go_ret
      exact ⟨ret_int HE.out, rfl⟩
    obtain ⟨b1, o1, x, rfl, hl1, hc1, H1⟩ := rb.at hkn
    have hx := HIN.out x (List.mem_of_getElem? H1.out)
    obtain ⟨z, rfl⟩ : ∃ z : Nat, x = (z : Int) := ⟨x.toNat, by omega⟩
    obtain ⟨b2, o2, t, rfl, hl2, hc2, H2⟩ := ra.at (show z < m by omega)
    have h1 := HS.out k hk
    have h2 := HB.out z
    have h3 := getD_at H1
    have h4 := getD_at H2
    have hzm : (z : Int) < (m : Int) := hx.2
    obtain ⟨s, hs⟩ : ∃ s, Hid (sumF (fun i => ws.getD (xs.getD i 0).toNat 0) k = s) := ⟨_, rfl⟩
    have HN : Hid (sumF (fun i => ws.getD (xs.getD i 0).toNat 0) (k + 1) = s + t) := by show _ = _; rw [sumF, hs.out, h3, Int.toNat_natCast, h4]
    rw [h4] at h2
    rw [hs.out] at h1 ⊢
    have hs1 : -1000000 ≤ s ∧ s ≤ 1000000 := by omega
    clear ra rb h1 H1 H2 h3 h4 HS HB HIN hx
    go_wp2_with fail
    go_round
    case rel => exact ⟨k + 1, by omega, by go_num, by rw [HN.out]⟩
    case measure => simp [intOf]; omega

theorem wgt_parts {p : Int} {n : Nat} {L : List (List Int)} {ws : List Int} (h : wgtOk p n L ws = true) : netOk p n L = true ∧ (ws.length : Int) = p ∧ (∀ i, -9 ≤ ws.getD i 0 ∧ ws.getD i 0 ≤ 9) ∧ 1 ≤ p ∧ p ≤ 16 := by
  unfold wgtOk plainB at h
  simp only [Bool.and_eq_true] at h
  obtain ⟨⟨h1, _⟩, h2, h3⟩ := h
  refine ⟨h1, of_decide_eq_true h2, fun i => ?_, ?_⟩
  · by_cases hi' : i < ws.length
    · unfold allB at h3
      have := List.all_eq_true.mp h3 (ws[i]) (List.getElem_mem hi')
      rw [List.getD_eq_getElem?_getD, List.getElem?_eq_getElem hi']
      simp [inB] at this ⊢; omega
    · rw [List.getD_eq_getElem?_getD, List.getElem?_eq_none (by omega)]; simp
  · unfold netOk at h1; simp [inB] at h1; omega

theorem rise_len {xs : List Int} {lo hi : Int} (h : riseB xs lo hi = true) : (xs.length : Int) ≤ hi + 1 - lo ∨ xs = [] := by
  induction xs generalizing lo with
  | nil => exact .inr rfl
  | cons x r ih =>
    simp only [riseB, Bool.and_eq_true, decide_eq_true_eq] at h
    have hx := h.1
    rcases ih h.2 with e | e
    · left; simp only [List.length_cons]; omega
    · left; subst e; simp; omega

set_option maxHeartbeats 2000000 in
theorem invS_any (P : Nat) (a aw : Option Addr) (n c m cw : Nat) (L : List (List Int)) (ws : List Int) (w : World) (h : Lists w a (3 * n) L) (rc : Row w aw m ws) (hm : P ≤ m) (hg : netOk (P : Int) n L = true) (hws : ∀ i, -1000 ≤ ws.getD i 0 ∧ ws.getD i 0 ≤ 1000) :
    Calls Try.prog 40 #[.agg #[.int .i64 (P : Int), .slice a n c], .slice aw m cw] w fun e w' => e = .returned (.bool (invB ws n L)) ∧ Below w.heap.size w w' := by
  have hAl := below_al w (.cells #[.int .i64 (P : Int), .slice a n c] 31)
  have hn := netN hg
  have hP : P ≤ 16 := by unfold netOk at hg; simp [inB] at hg; omega
  have HL := hide h
  have RC := hide rc
  have HG := hide hg
  have HWS := hide hws
  have HB0 := hide hAl
  clear h rc hg hws hAl
  go_enter Try.func40, Try.ntmps40
  go_wp2_with fail
  obtain ⟨V, hV⟩ : ∃ V, Hid (w.alloc (.cells #[.int .i64 (P : Int), .slice a n c] 31) = V) := ⟨_, rfl⟩
  rw [hV.out] at HB0 ⊢
  clear hV
  go_loopw [10] (fun i wr => ∃ k : Nat, k ≤ n ∧ i = .int .i64 k ∧ Hid (invB ws k L = true) ∧ Hid (Below w.heap.size w wr)) (fun i _ => n - (intOf i).toNat)
  case atStart => exact ⟨0, Nat.zero_le _, rfl, rfl, HB0⟩
  case round =>
    obtain ⟨k, hk, rfl, hu, hbw⟩ := hrel
    by_cases hlt : k < n
    rotate_left
    · have hk' : k = n := by omega
      subst hk'
      go_wp2_with fail
      go_ret
      exact ⟨ret_bool hu.out.symm, hbw.out⟩
    obtain ⟨b, off, a0, n0, c0, a1, n1, c1, a2, n2, c2, rfl, hb, hr, m0, m1, m2, r0, r1, r2⟩ := (HL.out.below hbw.out).tri hlt
    obtain ⟨hc0, hc1, hc2⟩ := rangeAt_cells3 hr
    have hri := net_rises HG.out hlt
    have hA1 := below_al wr (.cells #[.slice a0 n0 c0, .slice a1 n1 c1, .slice a2 n2 c2] 87)
    have HB1 := hide (hbw.out.trans (hA1.mono hbw.out.size))
    have HV1 := hide (heap_alloc_new wr (.cells #[.slice a0 n0 c0, .slice a1 n1 c1, .slice a2 n2 c2] 87))
    have q0 : n0 ≤ 1000 := by have h1 := r0.1; rcases rise_len hri.1 with e | e; omega; rw [e] at h1; simp at h1; omega
    have q1 : n1 ≤ 1000 := by have h1 := r1.1; rcases rise_len hri.2.1 with e | e; omega; rw [e] at h1; simp at h1; omega
    have H0 := hide (fun (W : World) (hW : Below (wr.alloc (.cells #[.slice a0 n0 c0, .slice a1 n1 c1, .slice a2 n2 c2] 87)).heap.size (wr.alloc (.cells #[.slice a0 n0 c0, .slice a1 n1 c1, .slice a2 n2 c2] 87)) W) => sumS_any aw a0 m n0 cw c0 ws (L.getD (3 * k) []) W ((RC.out.below HB1.out).below hW) ((r0.below hA1).below hW) q0 (fun x hx => by have := riseB_mem hri.1 x hx; omega) HWS.out)
    have H1 := hide (fun (W : World) (hW : Below (wr.alloc (.cells #[.slice a0 n0 c0, .slice a1 n1 c1, .slice a2 n2 c2] 87)).heap.size (wr.alloc (.cells #[.slice a0 n0 c0, .slice a1 n1 c1, .slice a2 n2 c2] 87)) W) => sumS_any aw a1 m n1 cw c1 ws (L.getD (3 * k + 1) []) W ((RC.out.below HB1.out).below hW) ((r1.below hA1).below hW) q1 (fun x hx => by have := riseB_mem hri.2.1 x hx; omega) HWS.out)
    have HY : Hid (sumW ws (L.getD (3 * k) []) = sumW ws (L.getD (3 * k + 1) []) → invB ws (k + 1) L = true) := invB_take hu.out
    have HN : Hid (¬ sumW ws (L.getD (3 * k) []) = sumW ws (L.getD (3 * k + 1) []) → invB ws n L = false) := invB_no hlt
    generalize sumW ws (L.getD (3 * k) []) = t0 at *
    generalize sumW ws (L.getD (3 * k + 1) []) = t1 at *
    clear hr m0 m1 m2 r0 r1 r2 hri hA1 hu q0 q1
    go_wp2_with fail
    clear hc0 hc1 hc2
    generalize wr.alloc (.cells #[.slice a0 n0 c0, .slice a1 n1 c1, .slice a2 n2 c2] 87) = W1 at *
    generalize wr.heap.size = q at *
    obtain ⟨hv0, hv1, hv2⟩ := cells3E HV1.out
    have hvl := (Array.getElem?_eq_some_iff.mp HV1.out).1
    go_quiet (first
      | (go_at_call 58; with_reducible show Calls _ _ #[_, .slice a0 n0 c0] _ _; refine Calls.quiet_of_same (H0.out _ (below_drewN' _ _)))
      | (go_at_call 58; with_reducible show Calls _ _ #[_, .slice a1 n1 c1] _ _; refine Calls.quiet_of_same (H1.out _ (below_drewN' _ _))))
    have HB2 : Hid (∀ N, Below w.heap.size w (W1.drewN N)) := fun N => HB1.out.trans ((below_drewN' W1 N).mono HB1.out.size)
    clear HB1 H0 H1 HV1 hv0 hv1 hv2 hvl
    by_cases ht : t0 = t1
    · have hd : (t0 != t1) = false := by simp [ht]
      have HU := hide (HY.out ht)
      clear HY HN ht
      go_wp2_with fail
      go_roundw
      case rel => exact ⟨k + 1, by omega, by go_num, HU, HB2.out _⟩
      case measure => simp [intOf]; omega
    · have hd : (t0 != t1) = true := by simp [ht]
      have HU := hide (HN.out ht)
      clear HY HN ht
      go_wp2_with fail
      go_ret
      exact ⟨ret_bool HU.out.symm, HB2.out _⟩

def inR (p : Int) (n : Nat) (L : List (List Int)) (ws : List Int) : Bool := wgtOk p n L ws && invB ws n L

def InEnd (p : Int) (n : Nat) (L : List (List Int)) (ws : List Int) (w : World) (e : Ending) (w' : World) : Prop :=
  e = .returned (.tuple #[.bool (inR p n L ws), .bool (wgtOk p n L ws)]) ∧ Below w.heap.size w w'


end Go.Proofs.Ytakenobplljkbab


/- How many places a set has; keeps of the program: whether each step takes as many tokens from a set of places as it gives to it. -/
namespace Go.Proofs.Ytakenobplljkbab
open Go.RowKit
set_option maxRecDepth 10000

/-- How many bits a number has. -/
def popc (s : Nat) : Int := sumF (fun j => if s.testBit j then 1 else 0) 10

theorem fold8 : ({ data := (([0, 1, 1, 2, 1, 2, 2, 3, 1, 2, 2, 3, 2, 3, 3, 4, 1, 2, 2, 3, 2, 3, 3, 4, 2, 3, 3, 4, 3, 4, 4, 5, 1, 2, 2, 3, 2, 3, 3, 4, 2, 3, 3, 4, 3, 4, 4, 5, 2, 3, 3, 4, 3, 4, 4, 5, 3, 4, 4, 5, 4, 5, 5, 6].append [1, 2, 2, 3, 2, 3, 3, 4, 2, 3, 3, 4, 3, 4, 4, 5, 2, 3, 3, 4, 3, 4, 4, 5, 3, 4, 4, 5, 4, 5, 5, 6, 2, 3, 3, 4, 3, 4, 4, 5, 3, 4, 4, 5, 4, 5, 5, 6, 3, 4, 4, 5, 4, 5, 5, 6, 4, 5, 5, 6, 5, 6, 6, 7]).append ([1, 2, 2, 3, 2, 3, 3, 4, 2, 3, 3, 4, 3, 4, 4, 5, 2, 3, 3, 4, 3, 4, 4, 5, 3, 4, 4, 5, 4, 5, 5, 6, 2, 3, 3, 4, 3, 4, 4, 5, 3, 4, 4, 5, 4, 5, 5, 6, 3, 4, 4, 5, 4, 5, 5, 6, 4, 5, 5, 6, 5, 6, 6, 7].append [2, 3, 3, 4, 3, 4, 4, 5, 3, 4, 4, 5, 4, 5, 5, 6, 3, 4, 4, 5, 4, 5, 5, 6, 4, 5, 5, 6, 5, 6, 6, 7, 3, 4, 4, 5, 4, 5, 5, 6, 4, 5, 5, 6, 5, 6, 6, 7, 4, 5, 5, 6, 5, 6, 6, 7, 5, 6, 6, 7, 6, 7, 7, 8])).toArray } : ByteArray) = Go.Lib.pop8tab := by kernel_rfl

theorem pop_all : ∀ n : Fin 1024, (Go.Lib.pop8 ((n.val : Int) / 256) + Go.Lib.pop8 (((n.val &&& 255 : Nat)) : Int)) = popc n.val := by decide +kernel
theorem pop_le : ∀ n : Fin 1024, 0 ≤ popc n.val ∧ popc n.val ≤ 10 := by decide +kernel

def kpM (st n : Nat) (L : List (List Int)) : Bool := (List.range n).any fun i => !decide (popc (maskL (L.getD (3 * i) []) &&& st) = popc (maskL (L.getD (3 * i + 1) []) &&& st))

theorem kpM_yes {st n k : Nat} {L : List (List Int)} (hk : k < n) (h : (!decide (popc (maskL (L.getD (3 * k) []) &&& st) = popc (maskL (L.getD (3 * k + 1) []) &&& st))) = true) : kpM st n L = true := by
  unfold kpM
  rw [List.any_eq_true]
  exact ⟨k, by simpa using hk, h⟩

theorem kpM_step {st k : Nat} {L : List (List Int)} (h : kpM st k L = false) (he : (!decide (popc (maskL (L.getD (3 * k) []) &&& st) = popc (maskL (L.getD (3 * k + 1) []) &&& st))) = false) : kpM st (k + 1) L = false := by
  unfold kpM at *
  rw [List.range_succ, List.any_append, h]
  simp only [List.any_cons, List.any_nil, Bool.or_false, he]

set_option maxHeartbeats 1000000 in
theorem ones_any (s : Nat) (w : World) (hs : s < 1024) :
    Calls Try.prog 78 #[.int .u16 (s : Int)] w fun e w' => e = .returned (.int .i64 (popc s)) ∧ ∃ q, w' = w.drewN q := by
  have h0 : (0 : Int) ≤ (s : Int) := by omega
  have h1 : (s : Int) < 1024 := by omega
  have a0 := @and_u16 s 255 (by omega) (by decide)
  rw [show ((255 : Nat) : Int) = (255 : Int) from rfl] at a0
  have a1 : (0 : Int) ≤ ((s &&& 255 : Nat) : Int) := by omega
  have a2 : ((s &&& 255 : Nat) : Int) ≤ 255 := by have := Nat.and_le_right (n := s) (m := 255); omega
  have b1 : (0 : Int) ≤ (s : Int) / 256 := by omega
  have b2 : (s : Int) / 256 ≤ 255 := by omega
  have hu : Try.prog.underlying 9 = some .string := by kernel_rfl
  have hp : Go.Lib.pop8 ((s : Int) / 256) + Go.Lib.pop8 (((s &&& 255 : Nat)) : Int) = popc s := pop_all ⟨s, hs⟩
  have hl := pop_le ⟨s, hs⟩
  simp only at hl
  go_enter Try.func78, Try.ntmps78
  simp only [fold8]
  go_wp2_with fail
  go_quiet (fail)
  go_wp2_with fail
  go_ret
  exact ⟨rfl, _, rfl⟩

set_option maxHeartbeats 400000 in
theorem size_any (s : Nat) (w : World) (hs : s < 1024) :
    Calls Try.prog 65 #[.int .u16 (s : Int)] w fun e w' => e = .returned (.int .i64 (popc s)) ∧ ∃ q, w' = w.drewN q := by
  go_enter Try.func65, Try.ntmps65
  go_wp2_with fail
  refine (ones_any s w hs).mono ?_
  rintro e w1 ⟨rfl, q, rfl⟩
  go_wp2_with fail
  go_ret
  exact ⟨rfl, _, rfl⟩

set_option maxHeartbeats 1000000 in
theorem takes1_any (s0 s1 s2 st bc : Nat) (w : World) (h0 : s0 < 2 ^ 16) (h1 : s1 < 2 ^ 16) (hst : st < 1024) (hbc : w.heap[bc]? = some (.cells #[.int .u16 (st : Int)] 62 (0, 0))) :
    Calls Try.prog 64 #[.agg #[.int .u16 (s0 : Int), .int .u16 (s1 : Int), .int .u16 (s2 : Int)], .pointer (some ⟨bc, 0, none⟩)] w fun e w' => e = .returned (.bool (!decide (popc (s0 &&& st) = popc (s1 &&& st)))) ∧ Below w.heap.size w w' := by
  have hA := below_al w (.cells #[.int .u16 (s0 : Int), .int .u16 (s1 : Int), .int .u16 (s2 : Int)] 112)
  have HB := hide hA
  have hc0 := cell_of_row _ bc 0 _ _ _ (keep hbc hA)
  simp at hc0
  have hlt := (Array.getElem?_eq_some_iff.mp hbc).1
  have a0 := and_u16 s0 st h0 (by omega)
  have a1 := and_u16 s1 st h1 (by omega)
  have l0 : s0 &&& st < 1024 := Nat.lt_of_le_of_lt Nat.and_le_right hst
  have l1 : s1 &&& st < 1024 := Nat.lt_of_le_of_lt Nat.and_le_right hst
  have Z0 := hide (fun W => size_any (s0 &&& st) W l0)
  have Z1 := hide (fun W => size_any (s1 &&& st) W l1)
  have HD : Hid ((popc (s0 &&& st) != popc (s1 &&& st)) = !decide (popc (s0 &&& st) = popc (s1 &&& st))) := by show _ = _; by_cases h : popc (s0 &&& st) = popc (s1 &&& st) <;> simp [h]
  rw [← HD.out]
  generalize popc (s0 &&& st) = u0 at *
  generalize popc (s1 &&& st) = u1 at *
  generalize s0 &&& st = t0 at *
  generalize s1 &&& st = t1 at *
  clear hbc hA l0 l1 HD
  go_enter Try.func64, Try.ntmps64
  go_wp2_with fail
  go_quiet (first
    | (go_at_call 65; with_reducible show Calls _ _ #[.int .u16 (t0 : Int)] _ _; refine Calls.quiet_of (Z0.out _))
    | (go_at_call 65; with_reducible show Calls _ _ #[.int .u16 (t1 : Int)] _ _; refine Calls.quiet_of (Z1.out _)))
  go_wp2_with fail
  go_ret
  exact ⟨rfl, HB.out.trans ((below_drewN' _ _).mono HB.out.size)⟩

/-- Where the first one is that empties a place, or -1. -/
def IkEnd (st n : Nat) (L : List (List Int)) (w : World) (e : Ending) (w' : World) : Prop := ∃ z : Int, e = .returned (.int .i64 z) ∧ Hid (decide (0 ≤ z) = kpM st n L) ∧ Below w.heap.size w w'

set_option maxHeartbeats 1000000 in
theorem indexK_any (B n bc st : Nat) (L : List (List Int)) (w : World) (h : PartS w B (3 * n) (3 * n) L) (hn : n ≤ 24) (hst : st < 1024) (hm : ∀ i, maskL (L.getD i []) < 2 ^ 16) (hbc : w.heap[bc]? = some (.cells #[.int .u16 (st : Int)] 62 (0, 0))) :
    Calls Try.prog 76 #[.slice (some ⟨B, 0, none⟩) n n, .func (.func 64) #[] #[.pointer (some ⟨bc, 0, none⟩)]] w fun e w' => IkEnd st n L w e w' := by
  have HP := hide h
  have HBC := hide hbc
  clear h hbc
  go_enter Try.func76, Try.ntmps76
  go_wp2_with fail
  go_loopw [8] (fun i wr => ∃ k : Nat, k ≤ n ∧ i = .int .i64 k ∧ Hid (kpM st k L = false) ∧ Hid (Below w.heap.size w wr)) (fun i _ => n - (intOf i).toNat)
  case atStart => exact ⟨0, Nat.zero_le _, rfl, rfl, Below.refl _ _⟩
  case round =>
    obtain ⟨k, hk, rfl, hu, hbw⟩ := hrel
    by_cases hlt : k < n
    rotate_left
    · have hk' : k = n := by omega
      subst hk'
      have HE : Hid (IkEnd st k L w (.returned (.int .i64 (-1))) wr) := ⟨-1, rfl, by rw [hu.out]; rfl, hbw.out⟩
      go_wp2_with fail
      go_ret
      exact HE.out
    obtain ⟨hc0, hc1, hc2⟩ := (HP.out.grow hbw.out).at3 hlt
    have HH := hide (takes1_any (maskL (L.getD (3 * k) [])) (maskL (L.getD (3 * k + 1) [])) (maskL (L.getD (3 * k + 2) [])) st bc wr (hm _) (hm _) hst (keep HBC.out hbw.out))
    cases hh : !decide (popc (maskL (L.getD (3 * k) []) &&& st) = popc (maskL (L.getD (3 * k + 1) []) &&& st))
    · have HU := hide (kpM_step hu.out hh)
      rw [hh] at HH
      clear hh hu
      clear hm
      generalize maskL (L.getD (3 * k) []) = s0 at *
      generalize maskL (L.getD (3 * k + 1) []) = s1 at *
      generalize maskL (L.getD (3 * k + 2) []) = s2 at *
      go_wp2_with fail
      refine HH.out.mono ?_
      rintro e w1 ⟨rfl, hb⟩
      have HB := hide (hbw.out.trans (hb.mono hbw.out.size))
      clear hb HH hc0 hc1 hc2
      go_wp2_with fail
      go_roundw
      case rel => exact ⟨k + 1, by omega, by go_num, HU, HB⟩
      case measure => simp [intOf]; omega
    · have HY := hide (kpM_yes hlt hh)
      rw [hh] at HH
      clear hh hu
      clear hm
      generalize maskL (L.getD (3 * k) []) = s0 at *
      generalize maskL (L.getD (3 * k + 1) []) = s1 at *
      generalize maskL (L.getD (3 * k + 2) []) = s2 at *
      go_wp2_with fail
      refine HH.out.mono ?_
      rintro e w1 ⟨rfl, hb⟩
      have HE : Hid (IkEnd st n L w (.returned (.int .i64 (k : Int))) w1) := ⟨k, rfl, by rw [HY.out]; simp [Hid], hbw.out.trans (hb.mono hbw.out.size)⟩
      clear hb HH hc0 hc1 hc2
      go_wp2_with fail
      go_ret
      exact HE.out

set_option maxHeartbeats 400000 in
theorem containsK_any (B n bc st : Nat) (L : List (List Int)) (w : World) (h : PartS w B (3 * n) (3 * n) L) (hn : n ≤ 24) (hst : st < 1024) (hm : ∀ i, maskL (L.getD i []) < 2 ^ 16) (hbc : w.heap[bc]? = some (.cells #[.int .u16 (st : Int)] 62 (0, 0))) :
    Calls Try.prog 60 #[.slice (some ⟨B, 0, none⟩) n n, .func (.func 64) #[] #[.pointer (some ⟨bc, 0, none⟩)]] w fun e w' => e = .returned (.bool (kpM st n L)) ∧ Below w.heap.size w w' := by
  have HI := hide (indexK_any B n bc st L w h hn hst hm hbc)
  clear h hm hbc
  go_enter Try.func60, Try.ntmps60
  go_wp2_with fail
  refine HI.out.mono ?_
  rintro e w1 ⟨z, rfl, hz, hb⟩
  have HB := hide hb
  clear hb HI
  go_wp2_with fail
  go_ret
  exact ⟨ret_bool hz.out, HB.out⟩


set_option maxHeartbeats 1000000 in
theorem keeps_any (p : Int) (B n st : Nat) (L : List (List Int)) (w : World) (h : PartS w B (3 * n) (3 * n) L) (hn : n ≤ 24) (hst : st < 1024) (hm : ∀ i, maskL (L.getD i []) < 2 ^ 16) :
    Calls Try.prog 46 #[.agg #[.int .i64 p, .slice (some ⟨B, 0, none⟩) n n], .int .u16 (st : Int)] w fun e w' => e = .returned (.bool (!kpM st n L)) ∧ Below w.heap.size w w' := by
  have hA := below_two w (.cells #[.int .i64 p, .slice (some ⟨B, 0, none⟩) n n] 54) (.cells #[.int .u16 (st : Int)] 62)
  have HB := hide hA
  have HBX : Hid (((w.alloc (.cells #[.int .i64 p, .slice (some ⟨B, 0, none⟩) n n] 54)).alloc (.cells #[.int .u16 (st : Int)] 62)).heap[w.heap.size + 1]? = some (.cells #[.int .u16 (st : Int)] 62 (0, 0))) := by
    have := heap_alloc_new (w.alloc (.cells #[.int .i64 p, .slice (some ⟨B, 0, none⟩) n n] 54)) (.cells #[.int .u16 (st : Int)] 62)
    rw [show (w.alloc (.cells #[.int .i64 p, .slice (some ⟨B, 0, none⟩) n n] 54)).heap.size = w.heap.size + 1 by simp] at this
    exact this
  have HC := hide (containsK_any B n (w.heap.size + 1) st L _ (h.grow hA) hn hst hm HBX.out)
  clear h hA hm HBX
  go_enter Try.func46, Try.ntmps46
  go_wp2_with fail
  refine HC.out.mono ?_
  rintro e w1 ⟨rfl, hb⟩
  have HB1 := hide (HB.out.trans (hb.mono HB.out.size))
  obtain ⟨r, hr⟩ : ∃ r, Hid (kpM st n L = r) := ⟨_, rfl⟩
  rw [hr.out]
  clear hb HC HB
  go_wp2_with fail
  go_ret
  exact ⟨ret_bool (by rw [hr.out]), HB1.out⟩

/-- 1 at the places of a set, 0 elsewhere. -/
def rowB (st P : Nat) : List Int := listF (fun j => if st.testBit j then 1 else 0) P

theorem rise_up {xs : List Int} {lo hi hi' : Int} (hh : hi ≤ hi') (h : riseB xs lo hi = true) : riseB xs lo hi' = true := by
  induction xs generalizing lo with
  | nil => rfl
  | cons y r ih =>
    simp only [riseB, Bool.and_eq_true, decide_eq_true_eq] at h ⊢
    exact ⟨⟨h.1.1, by omega⟩, ih h.2⟩

theorem sumW_congr {u v xs : List Int} (h : ∀ x ∈ xs, u.getD x.toNat 0 = v.getD x.toNat 0) : sumW u xs = sumW v xs := by
  unfold sumW
  refine sumF_congr fun i hi => h _ ?_
  rw [List.getD_eq_getElem?_getD, List.getElem?_eq_getElem hi]
  exact List.getElem_mem hi

theorem popc_sum {xs : List Int} {P st : Nat} (hP : P ≤ 10) (h : riseB xs 0 ((P : Int) - 1) = true) : popc (maskL xs &&& st) = sumW (rowB st P) xs := by
  have hr10 : riseB xs 0 (((10 : Nat) : Int) - 1) = true := rise_up (by omega) h
  have e1 : sumW (rowB st P) xs = sumW (rowB st 10) xs := sumW_congr fun x hx => by
    have := riseB_mem h x hx
    unfold rowB
    rw [listF_at _ _ _ (by omega), listF_at _ _ _ (by omega)]
  rw [e1, ← sumW_in (P := 10) hr10]
  unfold popc
  refine sumF_congr fun j hj => ?_
  rw [Nat.testBit_and, maskL_bit _ _ (fun x hx => (riseB_mem h x hx).1)]
  unfold rowB
  rw [listF_at _ _ _ hj]
  by_cases a : (j : Int) ∈ xs <;> by_cases b : st.testBit j = true <;> simp [a, b]

theorem kpM_eq {P n st : Nat} {L : List (List Int)} (hP : P ≤ 10) (h : netOk (P : Int) n L = true) : (!kpM st n L) = invB (rowB st P) n L := by
  unfold kpM invB
  rw [Bool.eq_iff_iff, Bool.not_eq_true', List.all_eq_true, List.any_eq_false]
  constructor
  · intro hh k hk
    have := hh k hk
    have hr := net_rises h (show k < n by simpa using hk)
    rw [popc_sum hP hr.1, popc_sum hP hr.2.1] at this
    simpa using this
  · intro hh k hk
    have := hh k hk
    have hr := net_rises h (show k < n by simpa using hk)
    rw [popc_sum hP hr.1, popc_sum hP hr.2.1]
    simpa using this
end Go.Proofs.Ytakenobplljkbab


/- smallSets of the program: the sets for which keeps tells true, and that have no earlier one within them. -/
namespace Go.Proofs.Ytakenobplljkbab
open Go.RowKit
set_option maxRecDepth 10000

/-- The numbers from 1 up to k for which f tells true, and that have no earlier one within them. -/
def smallN (f : Nat → Bool) : Nat → List Nat
  | 0 => []
  | k + 1 => if f (k + 1) && !(smallN f k).any (fun r => decide (r &&& (k + 1) = r)) then smallN f k ++ [k + 1] else smallN f k

theorem smallN_yes {f : Nat → Bool} {k : Nat} (h1 : f (k + 1) = true) (h2 : (smallN f k).any (fun r => decide (r &&& (k + 1) = r)) = false) : smallN f (k + 1) = smallN f k ++ [k + 1] := by
  show (if _ then _ else _) = _
  rw [h1, h2]; rfl
theorem smallN_no1 {f : Nat → Bool} {k : Nat} (h1 : f (k + 1) = false) : smallN f (k + 1) = smallN f k := by
  show (if _ then _ else _) = _
  rw [h1]; rfl
theorem smallN_no2 {f : Nat → Bool} {k : Nat} (h2 : (smallN f k).any (fun r => decide (r &&& (k + 1) = r)) = true) : smallN f (k + 1) = smallN f k := by
  show (if _ then _ else _) = _
  rw [h2]; simp

theorem smallN_mem {f : Nat → Bool} {k s : Nat} (h : s ∈ smallN f k) : 1 ≤ s ∧ s ≤ k := by
  induction k with
  | zero => simp [smallN] at h
  | succ k ih =>
    have h' : s ∈ smallN f k ∨ s = k + 1 := by
      unfold smallN at h
      split at h
      · simpa using h
      · exact .inl h
    rcases h' with h' | rfl
    · have := ih h'; omega
    · omega

theorem smallN_len (f : Nat → Bool) (k : Nat) : (smallN f k).length ≤ k := by
  induction k with
  | zero => simp [smallN]
  | succ k ih =>
    unfold smallN
    split
    · simp; omega
    · omega

def encS (l : List Nat) : List Value := l.map fun (s : Nat) => Value.int .u16 (s : Int)

theorem encS_len (l : List Nat) : (encS l).length = l.length := by simp [encS]

theorem own_slice {w : World} {B n : Nat} {v : Value} {T : TypeId} {xs : List Value} (h : w.ownsRow B T 1 v n xs) : ∃ a c, v = .slice a n c := by
  rcases h.2 with ⟨rfl, rfl⟩ | ⟨g, cap, cur, rfl, _⟩
  · exact ⟨_, _, rfl⟩
  · exact ⟨_, _, rfl⟩

theorem setSet_at {w : World} {B n : Nat} {v : Value} {l : List Nat} (h : w.ownsRow B 62 1 v n (encS l)) {k : Nat} (hk : k < n) : ∃ g c, v = .slice (some ⟨g, 0, none⟩) n c ∧ g < w.heap.size ∧ w.cell? ⟨g, k, none⟩ = some (.int .u16 ((l.getD k 0 : Nat) : Int)) ∧ l[k]? = some (l.getD k 0) := by
  have hl : l.length = n := by have := h.1; rw [encS_len] at this; omega
  rcases h.2 with ⟨rfl, rfl⟩ | ⟨g, cap, cur, rfl, hb, hh, hnc, _, hsz, ht⟩
  · omega
  · refine ⟨g, cap, rfl, (Array.getElem?_eq_some_iff.mp hh).1, ?_, ?_⟩
    · rw [cell_of_row w g k cur _ _ hh]
      have e : (cur.toList.take (n * 1))[k]? = (encS l)[k]? := by rw [ht]
      rw [List.getElem?_take_of_lt (by omega), Array.getElem?_toList] at e
      rw [e]
      simp [encS, List.getElem?_eq_getElem (show k < l.length by omega), List.getD_eq_getElem?_getD]
    · rw [List.getD_eq_getElem?_getD, List.getElem?_eq_getElem (by omega)]; rfl

theorem andNotK_nat (a b : Nat) : bits .andNot .u16 (a : Int) (b : Int) = (((BitVec.ofNat 16 a) &&& ~~~(BitVec.ofNat 16 b)).toNat : Int) := by
  simp only [bits, BitVec.ofInt_natCast]
  refine wraps_u16 _ (Int.natCast_nonneg _) ?_
  have := ((BitVec.ofNat 16 a) &&& ~~~(BitVec.ofNat 16 b)).isLt
  exact_mod_cast this

theorem andNotK {a b : Nat} (ha : a < 2 ^ 16) : (bits .andNot .u16 (a : Int) (b : Int) == 0) = decide (a &&& b = a) := by
  by_cases h : a &&& b = a
  · rw [decide_eq_true h, andNotK_nat a b]
    have : (BitVec.ofNat 16 a) &&& ~~~(BitVec.ofNat 16 b) = 0#16 := by
      apply BitVec.eq_of_getLsbD_eq
      intro i hi
      have hbit : (a &&& b).testBit i = a.testBit i := by rw [h]
      rw [Nat.testBit_and] at hbit
      rw [BitVec.getLsbD_and, BitVec.getLsbD_not, BitVec.getLsbD_ofNat, BitVec.getLsbD_ofNat]
      cases h1 : a.testBit i
      · simp
      · rw [h1] at hbit
        have : b.testBit i = true := by simpa using hbit
        simp [this, hi]
    rw [this]; rfl
  · rw [decide_eq_false h, andNotK_nat a b]
    apply Bool.eq_false_iff.mpr
    intro e
    have e := eq_of_beq e
    apply h
    have e' : (BitVec.ofNat 16 a) &&& ~~~(BitVec.ofNat 16 b) = 0#16 := by
      apply BitVec.eq_of_toNat_eq
      simpa using (by exact_mod_cast e : ((BitVec.ofNat 16 a) &&& ~~~(BitVec.ofNat 16 b)).toNat = 0)
    apply Nat.eq_of_testBit_eq
    intro i
    rw [Nat.testBit_and]
    by_cases hi : i < 16
    · have := congrArg (fun x => BitVec.getLsbD x i) e'
      rw [BitVec.getLsbD_and, BitVec.getLsbD_not, BitVec.getLsbD_ofNat, BitVec.getLsbD_ofNat] at this
      cases h1 : a.testBit i
      · rfl
      · rw [h1] at this
        cases h2 : b.testBit i
        · rw [h2] at this; simp [hi] at this
        · rfl
    · rw [Nat.testBit_lt_two_pow (Nat.lt_of_lt_of_le ha (Nat.pow_le_pow_right (by decide) (by omega)))]; rfl

set_option maxHeartbeats 400000 in
theorem holds_any (t s : Nat) (w : World) (hs : s < 2 ^ 16) :
    Calls Try.prog 63 #[.int .u16 (t : Int), .int .u16 (s : Int)] w fun e w' => e = .returned (.bool (decide (s &&& t = s))) ∧ w' = w := by
  have HB := hide (andNotK (b := t) hs)
  go_enter Try.func63, Try.ntmps63
  go_wp2_with fail
  go_ret
  exact ⟨ret_bool HB.out, rfl⟩

def SuEnd (g : Bool) (w : World) (e : Ending) (w' : World) : Prop := ∃ z : Int, e = .returned (.int .i64 z) ∧ Hid (decide (0 ≤ z) = g) ∧ w' = w

def subA (l : List Nat) (t : Nat) : Bool := l.any fun r => decide (r &&& t = r)

theorem subA_take {l : List Nat} {t k s : Nat} (h : subA (l.take k) t = false) (hx : l[k]? = some s) (hn : decide (s &&& t = s) = false) : subA (l.take (k + 1)) t = false := by
  unfold subA at *
  rw [List.take_add_one, hx, List.any_append, h]
  simp [of_decide_eq_false hn]

theorem subA_yes {l : List Nat} {t k s : Nat} (hx : l[k]? = some s) (hn : decide (s &&& t = s) = true) : subA l t = true := by
  unfold subA
  rw [List.any_eq_true]
  exact ⟨s, List.mem_of_getElem? hx, hn⟩

set_option maxHeartbeats 1000000 in
theorem subIx_any (B n c t : Nat) (a : Option Addr) (l : List Nat) (w : World) (h : w.ownsRow B 62 1 (.slice a n c) n (encS l)) (hn : n ≤ 1024) (hl : ∀ s ∈ l, s < 2 ^ 16) :
    Calls Try.prog 77 #[.slice a n c, .func (.func 63) #[.int .u16 (t : Int)] #[]] w fun e w' => SuEnd (subA l t) w e w' := by
  have HO := hide h
  have HL := hide hl
  have hlen : l.length = n := by have := h.1; rw [encS_len] at this; omega
  clear h hl
  go_enter Try.func77, Try.ntmps77
  go_wp2_with fail
  go_loop [8] (fun i => ∃ k : Nat, k ≤ n ∧ i = .int .i64 k ∧ Hid (subA (l.take k) t = false)) (fun i => n - (intOf i).toNat)
  case atStart => exact ⟨0, Nat.zero_le _, rfl, rfl⟩
  case round =>
    obtain ⟨k, hk, rfl, hu⟩ := hrel
    by_cases hkn : k < n
    rotate_left
    · have hk' : n = k := by omega
      subst hk'
      have HE : Hid (SuEnd (subA l t) w (.returned (.int .i64 (-1))) w) := ⟨-1, rfl, by have := hu.out; rw [List.take_of_length_le (by omega)] at this; rw [this]; rfl, rfl⟩
      go_wp2_with fail
      go_ret
      exact HE.out
    obtain ⟨g, c', ev, hgl, hcg, hlk⟩ := setSet_at HO.out hkn
    injection ev with e1 _ e3
    subst e1 e3
    obtain ⟨s, hs⟩ : ∃ s, Hid (l.getD k 0 = s) := ⟨_, rfl⟩
    rw [hs.out] at hcg hlk
    have hsl := HL.out s (List.mem_of_getElem? hlk)
    have HH := hide (holds_any t s w hsl)
    have HLK := hide hlk
    clear hlk hs
    cases hd : decide (s &&& t = s)
    · have HU := hide (subA_take hu.out HLK.out hd)
      rw [hd] at HH
      clear hd hu HLK
      go_wp2_with fail
      refine HH.out.mono ?_
      rintro e w1 ⟨rfl, rfl⟩
      clear HH hcg hgl
      go_wp2_with fail
      go_round
      case rel => exact ⟨k + 1, by omega, by go_num, HU⟩
      case measure => simp [intOf]; omega
    · have HE : Hid (SuEnd (subA l t) w (.returned (.int .i64 (k : Int))) w) := ⟨k, rfl, by rw [subA_yes HLK.out hd]; simp [Hid], rfl⟩
      rw [hd] at HH
      clear hd hu HLK
      go_wp2_with fail
      refine HH.out.mono ?_
      rintro e w1 ⟨rfl, rfl⟩
      clear HH hcg hgl
      go_wp2_with fail
      go_ret
      exact HE.out

set_option maxHeartbeats 400000 in
theorem subC_any (B n c t : Nat) (a : Option Addr) (l : List Nat) (w : World) (h : w.ownsRow B 62 1 (.slice a n c) n (encS l)) (hn : n ≤ 1024) (hl : ∀ s ∈ l, s < 2 ^ 16) :
    Calls Try.prog 62 #[.slice a n c, .func (.func 63) #[.int .u16 (t : Int)] #[]] w fun e w' => e = .returned (.bool (subA l t)) ∧ w' = w := by
  have HI := hide (subIx_any B n c t a l w h hn hl)
  clear h hl
  go_enter Try.func62, Try.ntmps62
  go_wp2_with fail
  refine HI.out.mono ?_
  rintro e w1 ⟨z, rfl, hz, rfl⟩
  clear HI
  go_wp2_with fail
  go_ret
  exact ⟨ret_bool hz.out, rfl⟩

theorem Try.info62 : (Try.prog.info? 62).map (fun i => (i.zero, i.size, i.bytes)) = some (some (.int .u16 0), 1, 2) := by kernel_rfl
theorem Try.und51 : Try.prog.underlying 51 = some (.slice 62) := by kernel_rfl

theorem own_belowK {B : Nat} {w w' : World} {v : Value} {n : Nat} {T : TypeId} {l : List Value} (hown : w.ownsRow B T 1 v n l) (hg : w.grownBy w' v.ownBlock) {a : World} {C : Nat} (h : Below C a w) (hC : C ≤ w.heap.size) (hB : C ≤ B) : Below C a w' := by
  refine h.grown hg hC fun k hk => ?_
  rcases hown.2 with ⟨rfl, _⟩ | ⟨g, cap, cur, rfl, hb, _⟩
  · simp [Value.ownBlock] at hk
  · simp [Value.ownBlock] at hk; omega

theorem own_growK {B : Nat} {w w' : World} {v : Value} {n : Nat} {T : TypeId} {l : List Value} (hown : w.ownsRow B T 1 v n l) (hb : Below w.heap.size w w') : w'.ownsRow B T 1 v n l := by
  refine ⟨hown.1, ?_⟩
  rcases hown.2 with h0 | ⟨g, cap, cur, e, h1, h2, h3⟩
  · exact .inl h0
  · exact .inr ⟨g, cap, cur, e, h1, (hb.block g (Array.getElem?_eq_some_iff.mp h2).1).trans h2, h3⟩

theorem one_cellK (w : World) (v : Value) (T : TypeId) : ∀ j u, ([v] : List Value)[j]? = some u → (w.alloc (.cells #[v] T)).cell? ((⟨w.heap.size, 0, none⟩ : Addr).add j) = some u := by
  intro j u hu
  match j, hu with
  | 0, hu =>
    simp at hu; subst hu
    rw [Addr.add_mid]
    exact cell_of_row _ w.heap.size 0 #[v] _ _ (heap_alloc_new _ _)
  | (q + 1), hu => simp at hu

theorem shl_pow {P : Nat} (h : P ≤ 10) : 2 ^ P ≤ 1024 := by
  have : 2 ^ P ≤ 2 ^ 10 := Nat.pow_le_pow_right (by decide) h
  simpa using this

/-- How smallSets ends. -/
def SsEnd (l : List Nat) (w : World) (e : Ending) (w' : World) : Prop :=
  ∃ v m, e = .returned v ∧ w'.ownsRow w.heap.size 62 1 v m (encS l) ∧ Below w.heap.size w w'

set_option maxHeartbeats 4000000 in
theorem smallSets_any (P B n : Nat) (p : Int) (L : List (List Int)) (w : World) (h : PartS w B (3 * n) (3 * n) L) (hn : n ≤ 24) (hP : P ≤ 10) (hm : ∀ i, maskL (L.getD i []) < 2 ^ 16) :
    Calls Try.prog 45 #[.int .i64 (P : Int), .func (.func 46) #[.agg #[.int .i64 p, .slice (some ⟨B, 0, none⟩) n n]] #[]] w fun e w' => SsEnd (smallN (fun s => !kpM s n L) (2 ^ P - 1)) w e w' := by
  have HP := hide h
  have HM := hide hm
  obtain ⟨i0, hi, hz0, hz1, hz2⟩ := info_split2 Try.info62
  obtain ⟨M, hM⟩ : ∃ M : Nat, Hid ((2 : Nat) ^ P = M) := ⟨_, rfl⟩
  have hM1 : M ≤ 1024 := by rw [← hM.out]; exact shl_pow hP
  have hM0 : 1 ≤ M := by rw [← hM.out]; exact Nat.one_le_two_pow
  have hMi : ((2 : Int) ^ P) = (M : Int) := by rw [← hM.out]; simp
  rw [hM.out]
  have hP0 : (0 : Int) ≤ (P : Int) := by omega
  clear h hm
  go_enter Try.func45, Try.ntmps45
  go_wp2_with fail
  go_loopw [5, 11] (fun o i wr => ∃ k m : Nat, k ≤ M - 1 ∧ i = .int .i64 k ∧ Hid (m = (smallN (fun s => !kpM s n L) k).length) ∧ Hid (wr.ownsRow w.heap.size 62 1 o m (encS (smallN (fun s => !kpM s n L) k))) ∧ Hid (Below w.heap.size w wr)) (fun _ i _ => M - (intOf i).toNat)
  case atStart => exact ⟨0, 0, Nat.zero_le _, rfl, rfl, World.ownsRow_nil _ _ _ _, Below.refl _ _⟩
  case round =>
    obtain ⟨k, m, hk, rfl, hmk, hown, hbw⟩ := hrel
    by_cases hlt : k < M - 1
    rotate_left
    · have hk' : k = M - 1 := by omega
      have HE : Hid (SsEnd (smallN (fun s => !kpM s n L) (M - 1)) w (.returned u5) wr) := ⟨_, m, rfl, by rw [← hk']; exact hown.out, hbw.out⟩
      clear hk' hown hmk hbw
      go_wp2_with fail
      go_ret
      exact HE.out
    have hml : m ≤ k := by rw [hmk.out]; exact smallN_len _ _
    obtain ⟨a5, c5, rfl⟩ := own_slice hown.out
    have hk1 : k + 1 < 1024 := by omega
    have HK := hide (keeps_any p B n (k + 1) L wr (HP.out.grow hbw.out) hn hk1 HM.out)
    have HS := hide (subC_any w.heap.size m c5 (k + 1) a5 (smallN (fun s => !kpM s n L) k) wr hown.out (by omega) (fun s hs => by have := smallN_mem hs; omega))
    have hki : ((k : Int) + 1) = ((k + 1 : Nat) : Int) := by omega
    rw [← hki] at HK HS
    have HKI := hide hki
    clear hki
    have hk2 : (k : Int) + 1 < 1024 := by omega
    have hk3 : (0 : Int) ≤ (k : Int) + 1 := by omega
    cases hsub : subA (smallN (fun s => !kpM s n L) k) (k + 1)
    case true =>
      have HN := hide (smallN_no2 (f := fun s => !kpM s n L) hsub)
      rw [hsub] at HS
      clear hsub
      go_wp2_with fail
      refine HS.out.mono ?_
      rintro e w1 ⟨rfl, rfl⟩
      clear HS HK
      go_wp2_with fail
      go_roundw
      case rel => exact ⟨k + 1, m, by omega, by go_num, by show _ = _; rw [HN.out]; exact hmk.out, by rw [HN.out]; exact hown, hbw⟩
      case measure => simp [intOf]; omega
    have hsub' : (smallN (fun s => !kpM s n L) k).any (fun r => decide (r &&& (k + 1) = r)) = false := hsub
    rw [hsub] at HS
    clear hsub
    cases hkp : kpM (k + 1) n L
    case true =>
      have HN := hide (smallN_no1 (f := fun s => !kpM s n L) (k := k) (by show (!kpM (k + 1) n L) = false; rw [hkp]; rfl))
      rw [hkp] at HK
      clear hkp hsub'
      go_wp2_with fail
      refine HS.out.mono ?_
      rintro e w1 ⟨rfl, rfl⟩
      go_wp2_with fail
      refine HK.out.mono ?_
      rintro e w2 ⟨rfl, hb⟩
      have HB2 := hide (hbw.out.trans (hb.mono hbw.out.size))
      have HO2 := hide (own_growK hown.out hb)
      clear HS HK hb hbw hown
      go_wp2_with fail
      go_roundw
      case rel => exact ⟨k + 1, m, by omega, by go_num, by show _ = _; rw [HN.out]; exact hmk.out, by rw [HN.out]; exact HO2, HB2⟩
      case measure => simp [intOf]; omega
    have HN := hide (smallN_yes (f := fun s => !kpM s n L) (k := k) (by show (!kpM (k + 1) n L) = true; rw [hkp]; rfl) hsub')
    rw [hkp] at HK
    clear hkp hsub'
    go_wp2_with fail
    refine HS.out.mono ?_
    rintro e w1 ⟨rfl, rfl⟩
    go_wp2_with fail
    refine HK.out.mono ?_
    rintro e w2 ⟨rfl, hb⟩
    have HB2 := hide (hbw.out.trans (hb.mono hbw.out.size))
    have HO2 := hide (own_growK hown.out hb)
    clear HS HK hb hbw hown
    have hA2 := below_al w2 (.cells #[.int .u16 ((k : Int) + 1)] 62)
    have HO3 := hide (HO2.out.alloc (.cells #[.int .u16 ((k : Int) + 1)] 62))
    have HB3 := hide (HB2.out.trans (hA2.mono HB2.out.size))
    have HCE : Hid (∀ j u, ([.int .u16 ((k : Int) + 1)] : List Value)[j]? = some u → (w2.alloc (.cells #[.int .u16 ((k : Int) + 1)] 62)).cell? ((⟨w2.heap.size, 0, none⟩ : Addr).add j) = some u) := one_cellK w2 _ _
    have H1c : Hid (∀ u ∈ ([.int .u16 ((k : Int) + 1)] : List Value), u.oneCell' = true) := fun u hu => by simp at hu; subst hu; rfl
    have HX := hide (show m + 1 ≤ maxLen by unfold maxLen; omega)
    have HY := hide (show (m + 1) * 2 ≤ 140737488355328 by omega)
    have HZ := hide HB3.out.size
    clear hA2 HO2 HB2
    go_wp2_with (refine wpList_append_own _ rfl (.tmp 27) (.tmp 29) 51 rfl w.heap.size 62 i0 (.int .u16 0) 1 2 Try.und51 hi hz0 hz1 hz2 rfl (by decide) _ m _ rfl HO3.out ⟨_, 0, none⟩ 1 1 [.int .u16 ((k : Int) + 1)] rfl rfl HCE.out H1c.out HX.out HY.out HZ.out ?_; intro v' W' r1 r2 r3)
    have HR1 : Hid (W'.ownsRow w.heap.size 62 1 v' (m + 1) (encS (smallN (fun s => !kpM s n L) (k + 1)))) := by
      show World.ownsRow _ _ _ _ _ _ _
      rw [HN.out, encS, List.map_append]
      simp only [List.map_cons, List.map_nil, ← HKI.out]
      exact r1
    have HB4 := hide (own_belowK HO3.out r2 HB3.out HB3.out.size (Nat.le_refl _))
    have HM2 : Hid (m + 1 = (smallN (fun s => !kpM s n L) (k + 1)).length) := by show _ = _; rw [HN.out, List.length_append, ← hmk.out]; rfl
    clear r1 r2 r3 HO3 HB3 HCE H1c HX HY HZ
    go_wp2_with fail
    go_roundw
    case rel => exact ⟨k + 1, m + 1, by omega, by go_num, HM2, HR1, HB4⟩
    case measure => simp [intOf]; omega
end Go.Proofs.Ytakenobplljkbab
