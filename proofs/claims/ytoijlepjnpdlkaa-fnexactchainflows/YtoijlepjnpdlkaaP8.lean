/- Contracts that the proof stands on, one behind the other. -/
import Derived.Test.YtoijlepjnpdlkaaP7
import Derived.Deep.AppendLies
/- The chain of two good flows is good where its sizes fit: mathematics. -/
namespace Go.Proofs.Ytoijlepjnpdlkaa
open Go.RowKit

/-- Where a place of the next flow comes to lie. -/
def mvP (pa ta sb q : Int) : Int := if q = sb then ta else if sb < q then pa + q - 1 else pa + q

/-- A list of places moved, rising. -/
def mvL (pa ta sb : Int) (xs : List Int) : List Int := nums2 (maskL (xs.map (mvP pa ta sb))).testBit 16

theorem mvP_range {pa ta sb pb q : Int} (hta : 0 ≤ ta ∧ ta < pa) (hsb : 0 ≤ sb ∧ sb < pb) (hq : 0 ≤ q ∧ q < pb) : 0 ≤ mvP pa ta sb q ∧ mvP pa ta sb q < pa + pb - 1 := by
  unfold mvP; split
  · omega
  · split <;> omega

theorem mvP_inj {pa ta sb x y : Int} (hta : 0 ≤ ta ∧ ta < pa) (hx : 0 ≤ x) (hy : 0 ≤ y) (h : mvP pa ta sb x = mvP pa ta sb y) : x = y := by
  unfold mvP at h; split at h <;> split at h <;> (try split at h) <;> (try split at h) <;> omega

theorem mvP_high {pa ta sb x : Int} (hx : 0 ≤ x) (hb : 0 ≤ sb) (hs : x ≠ sb) : pa ≤ mvP pa ta sb x := by
  unfold mvP; rw [if_neg hs]; split <;> omega

theorem mvP_sb (pa ta sb : Int) : mvP pa ta sb sb = ta := by unfold mvP; simp

theorem mvL_mem {pa ta sb pb : Int} {xs : List Int} (hta : 0 ≤ ta ∧ ta < pa) (hsb : 0 ≤ sb ∧ sb < pb) (hp : pa + pb - 1 ≤ 16) (hx : ∀ x ∈ xs, 0 ≤ x ∧ x < pb) (z : Int) : z ∈ mvL pa ta sb xs ↔ ∃ x ∈ xs, mvP pa ta sb x = z := by
  have hr : ∀ y ∈ xs.map (mvP pa ta sb), 0 ≤ y := by
    intro y hy
    rw [List.mem_map] at hy
    obtain ⟨x, hx1, rfl⟩ := hy
    exact (mvP_range hta hsb (hx x hx1)).1
  unfold mvL
  constructor
  · intro h
    obtain ⟨h0, h1, h2⟩ := nums2_mem h
    rw [maskL_bit _ _ hr] at h2
    have : z ∈ xs.map (mvP pa ta sb) := by simpa [show max z 0 = z by omega] using h2
    rw [List.mem_map] at this
    exact this
  · rintro ⟨x, hx1, rfl⟩
    have hm := mvP_range hta hsb (hx x hx1)
    obtain ⟨i, hi⟩ : ∃ i : Nat, mvP pa ta sb x = (i : Int) := ⟨(mvP pa ta sb x).toNat, by omega⟩
    rw [hi, nums2_in]
    refine ⟨by omega, ?_⟩
    rw [maskL_bit _ _ hr]
    simp only [decide_eq_true_iff]
    rw [← hi]
    exact List.mem_map_of_mem hx1

theorem rise_of {xs : List Int} {lo hi : Int} (hs : List.Pairwise (· < ·) xs) (hr : ∀ x ∈ xs, lo ≤ x ∧ x ≤ hi) : riseB xs lo hi = true := by
  induction xs generalizing lo with
  | nil => rfl
  | cons y r ih =>
    rw [List.pairwise_cons] at hs
    have hy := hr y (by simp)
    simp only [riseB, Bool.and_eq_true, decide_eq_true_iff]
    refine ⟨⟨hy.1, hy.2⟩, ih hs.2 fun x hx => ?_⟩
    have h1 := hs.1 x hx
    have h2 := hr x (by simp [hx])
    omega

theorem nums2_pair (f : Nat → Bool) (k : Nat) : List.Pairwise (· < ·) (nums2 f k) := by
  unfold nums2
  rw [List.pairwise_map]
  refine List.Pairwise.imp (R := (· < ·)) (fun h => by omega) ?_
  exact List.Pairwise.filter _ List.pairwise_lt_range

theorem mvL_rise {pa ta sb pb : Int} {xs : List Int} (hta : 0 ≤ ta ∧ ta < pa) (hsb : 0 ≤ sb ∧ sb < pb) (hp : pa + pb - 1 ≤ 16) (hx : ∀ x ∈ xs, 0 ≤ x ∧ x < pb) : riseB (mvL pa ta sb xs) 0 (pa + pb - 1 - 1) = true := by
  refine rise_of (nums2_pair _ _) fun z hz => ?_
  obtain ⟨x, hx1, rfl⟩ := (mvL_mem hta hsb hp hx z).mp hz
  have := mvP_range hta hsb (hx x hx1)
  omega

/-- The lists of the chain. -/
def chainL (pa ta sb : Int) (La Lb : List (List Int)) : List (List Int) := La ++ Lb.map (mvL pa ta sb)

theorem chain_len {pa ta sb : Int} {na nb : Nat} {La Lb : List (List Int)} (ha : La.length = 3 * na) (hb : Lb.length = 3 * nb) : (chainL pa ta sb La Lb).length = 3 * (na + nb) := by
  unfold chainL; rw [List.length_append, List.length_map]; omega

theorem chain_a {pa ta sb : Int} {na : Nat} {La Lb : List (List Int)} (ha : La.length = 3 * na) {j : Nat} (hj : j < 3 * na) : (chainL pa ta sb La Lb).getD j [] = La.getD j [] := by
  unfold chainL; rw [getD_app, if_pos (by omega)]

theorem mvL_nil (pa ta sb : Int) : mvL pa ta sb [] = [] := by unfold mvL maskL; simp [nums2]

theorem chain_b {pa ta sb : Int} {na : Nat} {La Lb : List (List Int)} (ha : La.length = 3 * na) (j : Nat) : (chainL pa ta sb La Lb).getD (3 * na + j) [] = mvL pa ta sb (Lb.getD j []) := by
  unfold chainL
  rw [getD_app, if_neg (by omega), ha, Nat.add_sub_cancel_left]
  simp only [List.getD_eq_getElem?_getD, List.getElem?_map]
  cases h : Lb[j]?
  · simp [mvL_nil]
  · simp

theorem netOk_of {p : Int} {n : Nat} {L : List (List Int)} (hp : 1 ≤ p ∧ p ≤ 16) (hn : n ≤ 24) (h : ∀ k, k < n → tri3Ok p (L.getD (3 * k) []) (L.getD (3 * k + 1) []) (L.getD (3 * k + 2) []) = true) : netOk p n L = true := by
  unfold netOk
  simp only [Bool.and_eq_true, decide_eq_true_iff]
  refine ⟨⟨by simp [inB]; omega, hn⟩, List.all_eq_true.mpr fun k hk => ?_⟩
  rw [triOk_eq]
  exact h k (by simpa using hk)

theorem tri3_mk {p : Int} {x0 x1 x2 : List Int} (h : x0 ≠ []) (r0 : riseB x0 0 (p - 1) = true) (r1 : riseB x1 0 (p - 1) = true) (r2 : riseB x2 0 (p - 1) = true) : tri3Ok p x0 x1 x2 = true := by
  unfold tri3Ok
  rw [r0, r1, r2]
  cases x0 <;> simp_all

theorem tri3_ne {p : Int} {x0 x1 x2 : List Int} (h : tri3Ok p x0 x1 x2 = true) : x0 ≠ [] := by
  intro e; rw [e] at h; simp [tri3Ok] at h

theorem rise_wide {xs : List Int} {lo hi hi' : Int} (h : riseB xs lo hi = true) (hh : hi ≤ hi') : riseB xs lo hi' = true := by
  induction xs generalizing lo with
  | nil => rfl
  | cons y r ih =>
    simp only [riseB, Bool.and_eq_true, decide_eq_true_iff] at h ⊢
    exact ⟨⟨h.1.1, by omega⟩, ih h.2⟩

/-- What is asked of both flows, and the sizes. -/
structure Chn (pa pb sa ta sb tb : Int) (na nb : Nat) (La Lb : List (List Int)) : Prop where
  a : flowOk pa na La sa ta = true
  b : flowOk pb nb Lb sb tb = true
  la : La.length = 3 * na
  lb : Lb.length = 3 * nb
  p16 : pa + pb - 1 ≤ 16
  n24 : na + nb ≤ 24

section
variable {pa pb sa ta sb tb : Int} {na nb : Nat} {La Lb : List (List Int)}

theorem Chn.nets (h : Chn pa pb sa ta sb tb na nb La Lb) : netOk pa na La = true ∧ netOk pb nb Lb = true :=
  ⟨(wayOk_parts (flowOk_parts h.a).1).1, (wayOk_parts (flowOk_parts h.b).1).1⟩

theorem Chn.nums (h : Chn pa pb sa ta sb tb na nb La Lb) : (1 ≤ pa ∧ pa ≤ 16) ∧ (1 ≤ pb ∧ pb ≤ 16) ∧ (0 ≤ sa ∧ sa < pa) ∧ (0 ≤ ta ∧ ta < pa) ∧ (0 ≤ sb ∧ sb < pb) ∧ (0 ≤ tb ∧ tb < pb) ∧ sa ≠ ta ∧ sb ≠ tb := by
  obtain ⟨p1, _, s1, t1⟩ := flow_num h.a
  obtain ⟨p2, _, s2, t2⟩ := flow_num h.b
  exact ⟨p1, p2, s1, t1, s2, t2, (flowOk_parts h.a).2.1, (flowOk_parts h.b).2.1⟩

theorem Chn.memB (h : Chn pa pb sa ta sb tb na nb La Lb) {k : Nat} (hk : k < nb) : (∀ x ∈ Lb.getD (3 * k) [], 0 ≤ x ∧ x < pb) ∧ (∀ x ∈ Lb.getD (3 * k + 1) [], 0 ≤ x ∧ x < pb) ∧ (∀ x ∈ Lb.getD (3 * k + 2) [], 0 ≤ x ∧ x < pb) := netOk_mem h.nets.2 hk

theorem Chn.net (h : Chn pa pb sa ta sb tb na nb La Lb) : netOk (pa + pb - 1) (na + nb) (chainL pa ta sb La Lb) = true := by
  obtain ⟨p1, p2, s1, t1, s2, t2, _, _⟩ := h.nums
  refine netOk_of ⟨by omega, h.p16⟩ h.n24 fun k hk => ?_
  by_cases hka : k < na
  · rw [chain_a h.la (by omega), chain_a h.la (by omega), chain_a h.la (by omega)]
    have ht := (netOk_parts h.nets.1).2.2 k hka
    obtain ⟨r0, r1, r2⟩ := tri3_rise ht
    exact tri3_mk (tri3_ne ht) (rise_wide r0 (by omega)) (rise_wide r1 (by omega)) (rise_wide r2 (by omega))
  · obtain ⟨j, rfl⟩ : ∃ j, k = na + j := ⟨k - na, by omega⟩
    have hj : j < nb := by omega
    rw [show 3 * (na + j) = 3 * na + 3 * j by omega, show 3 * na + 3 * j + 1 = 3 * na + (3 * j + 1) by omega, show 3 * na + 3 * j + 2 = 3 * na + (3 * j + 2) by omega, chain_b h.la, chain_b h.la, chain_b h.la]
    obtain ⟨m0, m1, m2⟩ := h.memB hj
    refine tri3_mk ?_ (mvL_rise t1 s2 h.p16 m0) (mvL_rise t1 s2 h.p16 m1) (mvL_rise t1 s2 h.p16 m2)
    have hne := tri3_ne ((netOk_parts h.nets.2).2.2 j hj)
    cases hx : Lb.getD (3 * j) [] with
    | nil => exact absurd hx hne
    | cons x r =>
      intro e
      have : mvP pa ta sb x ∈ mvL pa ta sb (x :: r) := (mvL_mem t1 s2 h.p16 (by rw [← hx]; exact m0) _).mpr ⟨x, by simp, rfl⟩
      rw [e] at this
      simp at this

theorem inL_a (h : Chn pa pb sa ta sb tb na nb La Lb) {k : Nat} (hk : k < na) : inL (chainL pa ta sb La Lb) k = inL La k := chain_a h.la (by omega)
theorem outL_a (h : Chn pa pb sa ta sb tb na nb La Lb) {k : Nat} (hk : k < na) : outL (chainL pa ta sb La Lb) k = outL La k := chain_a h.la (by omega)
theorem inL_b (h : Chn pa pb sa ta sb tb na nb La Lb) (k : Nat) : inL (chainL pa ta sb La Lb) (na + k) = mvL pa ta sb (inL Lb k) := by
  unfold inL; rw [show 3 * (na + k) = 3 * na + 3 * k by omega]; exact chain_b h.la _
theorem outL_b (h : Chn pa pb sa ta sb tb na nb La Lb) (k : Nat) : outL (chainL pa ta sb La Lb) (na + k) = mvL pa ta sb (outL Lb k) := by
  unfold outL; rw [show 3 * (na + k) + 1 = 3 * na + (3 * k + 1) by omega]; exact chain_b h.la _
theorem resL_a (h : Chn pa pb sa ta sb tb na nb La Lb) {k : Nat} (hk : k < na) : (chainL pa ta sb La Lb).getD (3 * k + 2) [] = La.getD (3 * k + 2) [] := chain_a h.la (by omega)
theorem resL_b (h : Chn pa pb sa ta sb tb na nb La Lb) (k : Nat) : (chainL pa ta sb La Lb).getD (3 * (na + k) + 2) [] = mvL pa ta sb (Lb.getD (3 * k + 2) []) := by
  rw [show 3 * (na + k) + 2 = 3 * na + (3 * k + 2) by omega]; exact chain_b h.la _

/-- Ways of the first flow are ways of the chain. -/
theorem Chn.forthA (h : Chn pa pb sa ta sb tb na nb La Lb) {s q : Int} (hr : Rch (inL La) (outL La) na s q) : Rch (inL (chainL pa ta sb La Lb)) (outL (chainL pa ta sb La Lb)) (na + nb) s q := by
  induction hr with
  | base => exact .base
  | @step _ _ k _ hk hp hq ih => exact .step (k := k) ih (by omega) (by rw [inL_a h hk]; exact hp) (by rw [outL_a h hk]; exact hq)
theorem Chn.backA (h : Chn pa pb sa ta sb tb na nb La Lb) {s q : Int} (hr : Rch (outL La) (inL La) na s q) : Rch (outL (chainL pa ta sb La Lb)) (inL (chainL pa ta sb La Lb)) (na + nb) s q := by
  induction hr with
  | base => exact .base
  | @step _ _ k _ hk hp hq ih => exact .step (k := k) ih (by omega) (by rw [outL_a h hk]; exact hp) (by rw [inL_a h hk]; exact hq)

theorem Chn.inM (h : Chn pa pb sa ta sb tb na nb La Lb) {k : Nat} (hk : k < nb) (z : Int) : z ∈ mvL pa ta sb (inL Lb k) ↔ ∃ x ∈ inL Lb k, mvP pa ta sb x = z := mvL_mem h.nums.2.2.2.1 h.nums.2.2.2.2.1 h.p16 (h.memB hk).1 z
theorem Chn.outM (h : Chn pa pb sa ta sb tb na nb La Lb) {k : Nat} (hk : k < nb) (z : Int) : z ∈ mvL pa ta sb (outL Lb k) ↔ ∃ x ∈ outL Lb k, mvP pa ta sb x = z := mvL_mem h.nums.2.2.2.1 h.nums.2.2.2.2.1 h.p16 (h.memB hk).2.1 z
theorem Chn.resM (h : Chn pa pb sa ta sb tb na nb La Lb) {k : Nat} (hk : k < nb) (z : Int) : z ∈ mvL pa ta sb (Lb.getD (3 * k + 2) []) ↔ ∃ x ∈ Lb.getD (3 * k + 2) [], mvP pa ta sb x = z := mvL_mem h.nums.2.2.2.1 h.nums.2.2.2.2.1 h.p16 (h.memB hk).2.2 z

/-- Ways of the next flow are ways of the chain, moved. -/
theorem Chn.forthB (h : Chn pa pb sa ta sb tb na nb La Lb) {u s q : Int} (h0 : Rch (inL (chainL pa ta sb La Lb)) (outL (chainL pa ta sb La Lb)) (na + nb) u (mvP pa ta sb s)) (hr : Rch (inL Lb) (outL Lb) nb s q) : Rch (inL (chainL pa ta sb La Lb)) (outL (chainL pa ta sb La Lb)) (na + nb) u (mvP pa ta sb q) := by
  induction hr with
  | base => exact h0
  | @step _ _ k _ hk hp hq ih => exact .step (k := na + k) ih (by omega) (by rw [inL_b h]; exact (h.inM hk _).mpr ⟨_, hp, rfl⟩) (by rw [outL_b h]; exact (h.outM hk _).mpr ⟨_, hq, rfl⟩)
theorem Chn.backB (h : Chn pa pb sa ta sb tb na nb La Lb) {u s q : Int} (h0 : Rch (outL (chainL pa ta sb La Lb)) (inL (chainL pa ta sb La Lb)) (na + nb) u (mvP pa ta sb s)) (hr : Rch (outL Lb) (inL Lb) nb s q) : Rch (outL (chainL pa ta sb La Lb)) (inL (chainL pa ta sb La Lb)) (na + nb) u (mvP pa ta sb q) := by
  induction hr with
  | base => exact h0
  | @step _ _ k _ hk hp hq ih => exact .step (k := na + k) ih (by omega) (by rw [outL_b h]; exact (h.outM hk _).mpr ⟨_, hp, rfl⟩) (by rw [inL_b h]; exact (h.inM hk _).mpr ⟨_, hq, rfl⟩)
end

/-- In a good flow each place and each transition is on a way. -/
theorem flow_places {p s t : Int} {n : Nat} {L : List (List Int)} (h : flowOk p n L s t = true) {q : Int} (hq : 0 ≤ q ∧ q < p) : Rch (inL L) (outL L) n s q ∧ Rch (outL L) (inL L) n t q := by
  obtain ⟨h1, _, h3, _⟩ := flowOk_parts h
  unfold wayP at h3
  rw [h1, if_pos rfl] at h3
  have hl : (nums2 (plB n L s t) p.toNat).length = p.toNat := by omega
  have := nums2_full.mp hl q.toNat (by omega)
  unfold plB at this
  rw [Bool.and_eq_true, rchB_iff, rchB_iff, show ((q.toNat : Nat) : Int) = q by omega] at this
  exact this

theorem flow_trans {p s t : Int} {n : Nat} {L : List (List Int)} (h : flowOk p n L s t = true) {k : Nat} (hk : k < n) : (∃ x ∈ inL L k, Rch (inL L) (outL L) n s x) ∧ (∃ x ∈ outL L k, Rch (outL L) (inL L) n t x) := by
  obtain ⟨h1, _, _, h4, _⟩ := flowOk_parts h
  have hm := netOk_mem (wayOk_parts h1).1 hk
  unfold wayT at h4
  rw [h1, if_pos rfl] at h4
  have := nums2_full.mp h4 k hk
  unfold trB rchT at this
  rw [Bool.and_eq_true, List.any_eq_true, List.any_eq_true] at this
  obtain ⟨⟨x, hx, hr⟩, y, hy, hr'⟩ := this
  rw [rchB_iff] at hr hr'
  have hx0 := hm.1 x hx
  have hy0 := hm.2.1 y hy
  rw [show ((x.toNat : Nat) : Int) = x by omega] at hr
  rw [show ((y.toNat : Nat) : Int) = y by omega] at hr'
  exact ⟨⟨x, hx, hr⟩, ⟨y, hy, hr'⟩⟩

/-- A flow is good where each place and each transition is on a way and none spoils it. -/
theorem flow_of {p s t : Int} {n : Nat} {L : List (List Int)} (hn : netOk p n L = true) (hs : 0 ≤ s ∧ s < p) (ht : 0 ≤ t ∧ t < p) (hst : s ≠ t)
    (h1 : ∀ q, 0 ≤ q ∧ q < p → Rch (inL L) (outL L) n s q ∧ Rch (outL L) (inL L) n t q)
    (h2 : ∀ k, k < n → (∃ x ∈ inL L k, Rch (inL L) (outL L) n s x) ∧ (∃ x ∈ outL L k, Rch (outL L) (inL L) n t x))
    (h3 : ∀ k, k < n → spoilL L s t k = false) : flowOk p n L s t = true := by
  have hw : wayOk p n L s t = true := by unfold wayOk; rw [hn]; simp [inB]; omega
  refine flow_yes hw hst ?_ ?_ ?_
  · unfold wayP
    rw [hw, if_pos rfl]
    have : (nums2 (plB n L s t) p.toNat).length = p.toNat := nums2_full.mpr fun i hi => by
      unfold plB
      rw [Bool.and_eq_true, rchB_iff, rchB_iff]
      exact h1 i (by omega)
    omega
  · unfold wayT
    rw [hw, if_pos rfl]
    refine nums2_full.mpr fun k hk => ?_
    obtain ⟨⟨x, hx, hr⟩, y, hy, hr'⟩ := h2 k hk
    have hm := netOk_mem hn hk
    have hx0 := hm.1 x hx
    have hy0 := hm.2.1 y hy
    unfold trB rchT
    rw [Bool.and_eq_true, List.any_eq_true, List.any_eq_true]
    refine ⟨⟨x, hx, ?_⟩, y, hy, ?_⟩
    · rw [rchB_iff, show ((x.toNat : Nat) : Int) = x by omega]; exact hr
    · rw [rchB_iff, show ((y.toNat : Nat) : Int) = y by omega]; exact hr'
  · unfold anyK
    rw [List.any_eq_false]
    intro k hk
    rw [h3 k (by simpa using hk)]
    simp

theorem spoil_none {p s t : Int} {n : Nat} {L : List (List Int)} (h : flowOk p n L s t = true) {k : Nat} (hk : k < n) : s ∉ outL L k ∧ t ∉ inL L k ∧ s ∉ L.getD (3 * k + 2) [] ∧ t ∉ L.getD (3 * k + 2) [] := by
  have h5 := (flowOk_parts h).2.2.2.2
  unfold anyK at h5
  rw [List.any_eq_false] at h5
  have := h5 k (by simpa using hk)
  unfold spoilL hasB at this
  simpa [not_or, and_assoc] using this

theorem spoil_of {s t : Int} {L : List (List Int)} {k : Nat} (h : s ∉ outL L k ∧ t ∉ inL L k ∧ s ∉ L.getD (3 * k + 2) [] ∧ t ∉ L.getD (3 * k + 2) []) : spoilL L s t k = false := by
  unfold spoilL hasB
  simpa [and_assoc] using h

/-- The chain of two good flows is good where its sizes fit. -/
theorem Chn.good {pa pb sa ta sb tb : Int} {na nb : Nat} {La Lb : List (List Int)} (h : Chn pa pb sa ta sb tb na nb La Lb) : flowOk (pa + pb - 1) (na + nb) (chainL pa ta sb La Lb) sa (mvP pa ta sb tb) = true := by
  obtain ⟨p1, p2, s1, t1, s2, t2, dst, dst2⟩ := h.nums
  have hmt := mvP_range t1 s2 t2
  have hhi := mvP_high (pa := pa) (ta := ta) t2.1 s2.1 (fun e => dst2 e.symm)
  have fTA : Rch (inL (chainL pa ta sb La Lb)) (outL (chainL pa ta sb La Lb)) (na + nb) sa (mvP pa ta sb sb) := by rw [mvP_sb]; exact h.forthA (flow_places h.a t1).1
  have bTA : Rch (outL (chainL pa ta sb La Lb)) (inL (chainL pa ta sb La Lb)) (na + nb) (mvP pa ta sb tb) (mvP pa ta sb sb) := h.backB .base (flow_places h.b s2).2
  have bA : ∀ {q : Int}, Rch (outL La) (inL La) na ta q → Rch (outL (chainL pa ta sb La Lb)) (inL (chainL pa ta sb La Lb)) (na + nb) (mvP pa ta sb tb) q := by
    intro q hq
    have h1 : Rch (outL (chainL pa ta sb La Lb)) (inL (chainL pa ta sb La Lb)) (na + nb) (mvP pa ta sb tb) ta := by have := bTA; rwa [mvP_sb] at this
    induction hq with
    | base => exact h1
    | @step _ _ k _ hk hp hq ih => exact .step (k := k) ih (by omega) (by rw [outL_a h hk]; exact hp) (by rw [inL_a h hk]; exact hq)
  refine flow_of h.net ⟨s1.1, by omega⟩ hmt (by omega) (fun q hq => ?_) (fun k hk => ?_) (fun k hk => spoil_of ?_)
  · by_cases hqa : q < pa
    · exact ⟨h.forthA (flow_places h.a ⟨hq.1, hqa⟩).1, bA (flow_places h.a ⟨hq.1, hqa⟩).2⟩
    · have hx : ∃ x, (0 ≤ x ∧ x < pb) ∧ mvP pa ta sb x = q := by
        by_cases hc : q - pa < sb
        · exact ⟨q - pa, ⟨by omega, by omega⟩, by unfold mvP; rw [if_neg (by omega), if_neg (by omega)]; omega⟩
        · exact ⟨q - pa + 1, ⟨by omega, by omega⟩, by unfold mvP; rw [if_neg (by omega), if_pos (by omega)]; omega⟩
      obtain ⟨x, hx, rfl⟩ := hx
      exact ⟨h.forthB fTA (flow_places h.b hx).1, h.backB .base (flow_places h.b hx).2⟩
  · by_cases hka : k < na
    · obtain ⟨⟨x, hx, hr⟩, y, hy, hr'⟩ := flow_trans h.a hka
      exact ⟨⟨x, by rw [inL_a h hka]; exact hx, h.forthA hr⟩, ⟨y, by rw [outL_a h hka]; exact hy, bA hr'⟩⟩
    · obtain ⟨j, rfl⟩ : ∃ j, k = na + j := ⟨k - na, by omega⟩
      have hj : j < nb := by omega
      obtain ⟨⟨x, hx, hr⟩, y, hy, hr'⟩ := flow_trans h.b hj
      exact ⟨⟨mvP pa ta sb x, by rw [inL_b h]; exact (h.inM hj _).mpr ⟨x, hx, rfl⟩, h.forthB fTA hr⟩, ⟨mvP pa ta sb y, by rw [outL_b h]; exact (h.outM hj _).mpr ⟨y, hy, rfl⟩, h.backB .base hr'⟩⟩
  · by_cases hka : k < na
    · obtain ⟨n1, n2, n3, n4⟩ := spoil_none h.a hka
      have hm := netOk_mem h.nets.1 hka
      rw [inL_a h hka, outL_a h hka, resL_a h hka]
      exact ⟨n1, fun e => by have := hm.1 _ e; omega, n3, fun e => by have := hm.2.2 _ e; omega⟩
    · obtain ⟨j, rfl⟩ : ∃ j, k = na + j := ⟨k - na, by omega⟩
      have hj : j < nb := by omega
      obtain ⟨n1, n2, n3, n4⟩ := spoil_none h.b hj
      obtain ⟨m0, m1, m2⟩ := h.memB hj
      have noS : ∀ x, 0 ≤ x → mvP pa ta sb x ≠ sa := fun x hx e => by
        by_cases hxs : x = sb
        · rw [hxs, mvP_sb] at e; omega
        · have := mvP_high (pa := pa) (ta := ta) hx s2.1 hxs; omega
      rw [inL_b h, outL_b h, resL_b h]
      refine ⟨fun e => ?_, fun e => ?_, fun e => ?_, fun e => ?_⟩
      · obtain ⟨x, hx, e1⟩ := (h.outM hj _).mp e; exact noS x (m1 x hx).1 e1
      · obtain ⟨x, hx, e1⟩ := (h.inM hj _).mp e; exact n2 (by rw [← mvP_inj t1 (m0 x hx).1 t2.1 e1]; exact hx)
      · obtain ⟨x, hx, e1⟩ := (h.resM hj _).mp e; exact noS x (m2 x hx).1 e1
      · obtain ⟨x, hx, e1⟩ := (h.resM hj _).mp e; exact n4 (by rw [← mvP_inj t1 (m2 x hx).1 t2.1 e1]; exact hx)
end Go.Proofs.Ytoijlepjnpdlkaa


/- Where places of the next flow come to lie in the chain: placeBehind, placesBehind, stepBehind of the program. -/
namespace Go.Proofs.Ytoijlepjnpdlkaa
open Go.RowKit
set_option maxRecDepth 10000

theorem ret_i {a b : Int} (h : a = b) : Ending.returned (.int .i64 a) = .returned (.int .i64 b) := by rw [h]

set_option maxHeartbeats 1000000 in
theorem placeBehind_any (pa sa ta pb sb tb : Int) (aa ab : Option Addr) (ma ca mb cb : Nat) (q : Int) (w : World) (hp : 0 ≤ pa ∧ pa ≤ 16) (hq : 0 ≤ q ∧ q < 16) :
    Calls Try.prog 20 #[.agg #[.int .i64 pa, .slice aa ma ca, .int .i64 sa, .int .i64 ta], .agg #[.int .i64 pb, .slice ab mb cb, .int .i64 sb, .int .i64 tb], .int .i64 q] w fun e w' => e = .returned (.int .i64 (mvP pa ta sb q)) ∧ Below w.heap.size w w' := by
  by_cases h0 : q = sb
  · have HM := hide (show mvP pa ta sb q = ta by rw [h0]; exact mvP_sb _ _ _)
    have hd : (q == sb) = true := by simpa using h0
    go_enter Try.func20, Try.ntmps20
    go_wp2_with fail
    go_ret
    exact ⟨ret_i HM.out.symm, below_two _ _ _⟩
  have hd : (q == sb) = false := by simpa using h0
  by_cases h1 : sb < q
  · have HM := hide (show mvP pa ta sb q = pa + q - 1 by unfold mvP; rw [if_neg h0, if_pos h1])
    have hx : -9223372036854775808 ≤ pa + q ∧ pa + q ≤ 9223372036854775807 := by omega
    have hx2 : -9223372036854775808 ≤ pa + q - 1 ∧ pa + q - 1 ≤ 9223372036854775807 := by omega
    go_enter Try.func20, Try.ntmps20
    go_wp2_with fail
    go_ret
    exact ⟨ret_i HM.out.symm, below_two _ _ _⟩
  · have HM := hide (show mvP pa ta sb q = pa + q by unfold mvP; rw [if_neg h0, if_neg h1])
    have hx : -9223372036854775808 ≤ pa + q ∧ pa + q ≤ 9223372036854775807 := by omega
    go_enter Try.func20, Try.ntmps20
    go_wp2_with fail
    go_ret
    exact ⟨ret_i HM.out.symm, below_two _ _ _⟩

theorem nums2_len16 (f : Nat → Bool) : (nums2 f 16).length ≤ 16 := by
  unfold nums2
  have := List.length_filter_le f (List.range 16)
  simpa using this

theorem mask_map_lt {xs : List Int} {f : Int → Int} (h : ∀ x ∈ xs, 0 ≤ f x ∧ f x < 16) : maskL (xs.map f) < 2 ^ 16 :=
  maskL_lt _ fun y hy => by
    rw [List.mem_map] at hy
    obtain ⟨x, hx, rfl⟩ := hy
    exact (h x hx).2

set_option maxHeartbeats 2000000 in
theorem placesBehind_any (pa sa ta pb sb tb : Int) (aa ab : Option Addr) (ma ca mb cb : Nat) (xs : List Int) (w : World) (hp : 0 ≤ pa ∧ pa ≤ 16) (hx : nums2 (maskL xs).testBit 16 = xs) (hm : maskL xs < 2 ^ 16) (hx0 : ∀ x ∈ xs, 0 ≤ x ∧ x < 16) (hx1 : ∀ x ∈ xs, 0 ≤ mvP pa ta sb x ∧ mvP pa ta sb x < 16) :
    Calls Try.prog 36 #[.agg #[.int .i64 pa, .slice aa ma ca, .int .i64 sa, .int .i64 ta], .agg #[.int .i64 pb, .slice ab mb cb, .int .i64 sb, .int .i64 tb], .int .u16 (maskL xs : Int)] w fun e w' => e = .returned (.int .u16 (maskL (xs.map (mvP pa ta sb)) : Int)) ∧ Below w.heap.size w w' := by
  have HB0 := hide (below_two w (.cells #[.int .i64 pa, .slice aa ma ca, .int .i64 sa, .int .i64 ta] 51) (.cells #[.int .i64 pb, .slice ab mb cb, .int .i64 sb, .int .i64 tb] 51))
  have HX := hide (keep (heap_alloc_new w (.cells #[.int .i64 pa, .slice aa ma ca, .int .i64 sa, .int .i64 ta] 51)) (below_al _ (.cells #[.int .i64 pb, .slice ab mb cb, .int .i64 sb, .int .i64 tb] 51)))
  have hy := heap_alloc_new (w.alloc (.cells #[.int .i64 pa, .slice aa ma ca, .int .i64 sa, .int .i64 ta] 51)) (.cells #[.int .i64 pb, .slice ab mb cb, .int .i64 sb, .int .i64 tb] 51)
  rw [show (w.alloc (.cells #[.int .i64 pa, .slice aa ma ca, .int .i64 sa, .int .i64 ta] 51)).heap.size = w.heap.size + 1 by simp] at hy
  have HY := hide hy
  have HL := hide (fun W => setList_any (maskL xs) W hm)
  rw [hx] at HL
  have HXX := hide hx
  have H0 := hide hx0
  have H1 := hide hx1
  clear hx hy hx0 hx1
  go_enter Try.func36, Try.ntmps36
  go_wp2_with fail
  refine (HL.out _).mono ?_
  rintro e w1 ⟨al, bl, ml, cl, rfl, hg, ho, hb⟩
  have HB1 := hide (HB0.out.trans (hb.mono HB0.out.size))
  have HX1 := hide (keep HX.out hb)
  have HY1 := hide (keep HY.out hb)
  have HR := hide ho.row
  have HLE := hide ho.1
  have hml : ml ≤ 16 := by
    have h1 := ho.1
    have h2 := nums2_len16 (maskL xs).testBit
    rw [HXX.out] at h2
    omega
  clear hb ho hg HL HB0 HX HY
  go_wp2_with fail
  go_loopw [7, 13] (fun mv i wr => ∃ k : Nat, k ≤ ml ∧ i = .int .i64 k ∧ mv = .int .u16 (maskL ((xs.take k).map (mvP pa ta sb)) : Int) ∧ Hid (Below w.heap.size w wr) ∧ Hid (Below w1.heap.size w1 wr)) (fun _ i _ => ml - (intOf i).toNat)
  case atStart => exact ⟨0, Nat.zero_le _, rfl, rfl, HB1, Below.refl _ _⟩
  case round =>
    obtain ⟨k, hk, rfl, rfl, hbw, hb1⟩ := hrel
    by_cases hlt : k < ml
    rotate_left
    · have hk' : k = ml := by omega
      subst hk'
      have HE : Hid (maskL ((xs.take k).map (mvP pa ta sb)) = maskL (xs.map (mvP pa ta sb))) := by show _ = _; rw [List.take_of_length_le (by have := HLE.out; omega)]
      generalize maskL ((xs.take k).map (mvP pa ta sb)) = mm at *
      go_wp2_with fail
      go_ret
      exact ⟨ret_u16 HE.out, hbw.out⟩
    obtain ⟨b1, o1, x, rfl, hl1, hc1, H2⟩ := (HR.out.below hb1.out).at hlt
    have hx0 := H0.out x (List.mem_of_getElem? H2.out)
    have hx1 := H1.out x (List.mem_of_getElem? H2.out)
    obtain ⟨⟨hp0, hp1, hp2, hp3⟩, _⟩ := cells4 (keep HX1.out hb1.out)
    obtain ⟨⟨hq0, hq1, hq2, hq3⟩, _⟩ := cells4 (keep HY1.out hb1.out)
    have HPB := hide (placeBehind_any pa sa ta pb sb tb aa ab ma ca mb cb x wr hp hx0)
    have hmk : maskL ((xs.take k).map (mvP pa ta sb)) < 2 ^ 16 := mask_map_lt fun y hy => H1.out y (List.mem_of_mem_take hy)
    have HM : Hid (bits .or .u16 (maskL ((xs.take k).map (mvP pa ta sb)) : Int) (IntKind.u16.wrap (2 ^ (mvP pa ta sb x).toNat)) = (maskL ((xs.take (k + 1)).map (mvP pa ta sb)) : Int)) := by
      show _ = _
      have e2 : 2 ^ (mvP pa ta sb x).toNat < 2 ^ 16 := Nat.pow_lt_pow_right (by decide) (by omega)
      have e3 : ((2 : Int) ^ (mvP pa ta sb x).toNat) = ((2 ^ (mvP pa ta sb x).toNat : Nat) : Int) := by simp
      rw [e3, wraps_u16 _ (Int.natCast_nonneg _) (by exact_mod_cast e2), or_u16 _ _ hmk e2, List.take_add_one, H2.out, List.map_append]
      exact congrArg _ (maskL_snoc _ _).symm
    obtain ⟨z, hz⟩ : ∃ z, Hid (mvP pa ta sb x = z) := ⟨_, rfl⟩
    rw [hz.out] at HPB HM hx1
    obtain ⟨hz0, hz1⟩ := hx1
    clear H2 hmk hx0
    generalize maskL ((xs.take k).map (mvP pa ta sb)) = mm at *
    generalize wr = v0 at *
    go_wp2_with fail
    refine HPB.out.mono ?_
    rintro e w2 ⟨rfl, hb2⟩
    have HB2 := hide (hbw.out.trans (hb2.mono hbw.out.size))
    have HB3 := hide (hb1.out.trans (hb2.mono hb1.out.size))
    clear hb2 HPB hp0 hp1 hp2 hp3 hq0 hq1 hq2 hq3
    go_wp2_with fail
    go_roundw
    case rel => exact ⟨k + 1, by omega, by go_num, by rw [HM.out], HB2, HB3⟩
    case measure => simp [intOf]; omega

theorem mapw3 (g : Operand → Value) (x y z : Operand) (a b c : Value) (h : g x = a) (h2 : g y = b) (h3 : g z = c) : (#[x, y, z] : Array Operand).map g = #[a, b, c] := by simp [h, h2, h3]

set_option maxHeartbeats 4000000 in
theorem stepBehind_any (pa sa ta pb sb tb : Int) (aa ab : Option Addr) (ma ca mb cb : Nat) (s0 s1 s2 r0 r1 r2 : Nat) (w : World)
    (h0 : ∀ W, Calls Try.prog 36 #[.agg #[.int .i64 pa, .slice aa ma ca, .int .i64 sa, .int .i64 ta], .agg #[.int .i64 pb, .slice ab mb cb, .int .i64 sb, .int .i64 tb], .int .u16 (s0 : Int)] W fun e w' => e = .returned (.int .u16 (r0 : Int)) ∧ Below W.heap.size W w')
    (h1 : ∀ W, Calls Try.prog 36 #[.agg #[.int .i64 pa, .slice aa ma ca, .int .i64 sa, .int .i64 ta], .agg #[.int .i64 pb, .slice ab mb cb, .int .i64 sb, .int .i64 tb], .int .u16 (s1 : Int)] W fun e w' => e = .returned (.int .u16 (r1 : Int)) ∧ Below W.heap.size W w')
    (h2 : ∀ W, Calls Try.prog 36 #[.agg #[.int .i64 pa, .slice aa ma ca, .int .i64 sa, .int .i64 ta], .agg #[.int .i64 pb, .slice ab mb cb, .int .i64 sb, .int .i64 tb], .int .u16 (s2 : Int)] W fun e w' => e = .returned (.int .u16 (r2 : Int)) ∧ Below W.heap.size W w') :
    Calls Try.prog 18 #[.agg #[.int .i64 pa, .slice aa ma ca, .int .i64 sa, .int .i64 ta], .agg #[.int .i64 pb, .slice ab mb cb, .int .i64 sb, .int .i64 tb], .agg #[.int .u16 (s0 : Int), .int .u16 (s1 : Int), .int .u16 (s2 : Int)]] w fun e w' => e = .returned (.agg #[.int .u16 (r0 : Int), .int .u16 (r1 : Int), .int .u16 (r2 : Int)]) ∧ Below w.heap.size w w' := by
  have HS0 := hide h0
  have HS1 := hide h1
  have HS2 := hide h2
  have y1 : (w.alloc (.cells #[.int .i64 pa, .slice aa ma ca, .int .i64 sa, .int .i64 ta] 51)).heap.size = w.heap.size + 1 := by simp
  have y2 : ((w.alloc (.cells #[.int .i64 pa, .slice aa ma ca, .int .i64 sa, .int .i64 ta] 51)).alloc (.cells #[.int .i64 pb, .slice ab mb cb, .int .i64 sb, .int .i64 tb] 51)).heap.size = w.heap.size + 1 + 1 := by simp
  have y3 : (((w.alloc (.cells #[.int .i64 pa, .slice aa ma ca, .int .i64 sa, .int .i64 ta] 51)).alloc (.cells #[.int .i64 pb, .slice ab mb cb, .int .i64 sb, .int .i64 tb] 51)).alloc (.cells #[.int .u16 (s0 : Int), .int .u16 (s1 : Int), .int .u16 (s2 : Int)] 58)).heap.size = w.heap.size + 1 + 1 + 1 := by simp
  have k1 := heap_alloc_new w (.cells #[.int .i64 pa, .slice aa ma ca, .int .i64 sa, .int .i64 ta] 51)
  have k2 := heap_alloc_new (w.alloc (.cells #[.int .i64 pa, .slice aa ma ca, .int .i64 sa, .int .i64 ta] 51)) (.cells #[.int .i64 pb, .slice ab mb cb, .int .i64 sb, .int .i64 tb] 51)
  have k3 := heap_alloc_new ((w.alloc (.cells #[.int .i64 pa, .slice aa ma ca, .int .i64 sa, .int .i64 ta] 51)).alloc (.cells #[.int .i64 pb, .slice ab mb cb, .int .i64 sb, .int .i64 tb] 51)) (.cells #[.int .u16 (s0 : Int), .int .u16 (s1 : Int), .int .u16 (s2 : Int)] 58)
  have k4 := heap_alloc_new (((w.alloc (.cells #[.int .i64 pa, .slice aa ma ca, .int .i64 sa, .int .i64 ta] 51)).alloc (.cells #[.int .i64 pb, .slice ab mb cb, .int .i64 sb, .int .i64 tb] 51)).alloc (.cells #[.int .u16 (s0 : Int), .int .u16 (s1 : Int), .int .u16 (s2 : Int)] 58)) (.cells #[.int .u16 0, .int .u16 0, .int .u16 0] 58)
  rw [y1] at k2
  rw [y2] at k3
  rw [y3] at k4
  have HX := hide (keep (keep (keep k1 (below_al _ (.cells #[.int .i64 pb, .slice ab mb cb, .int .i64 sb, .int .i64 tb] 51))) (below_al _ (.cells #[.int .u16 (s0 : Int), .int .u16 (s1 : Int), .int .u16 (s2 : Int)] 58))) (below_al _ (.cells #[.int .u16 0, .int .u16 0, .int .u16 0] 58)))
  have HY := hide (keep (keep k2 (below_al _ (.cells #[.int .u16 (s0 : Int), .int .u16 (s1 : Int), .int .u16 (s2 : Int)] 58))) (below_al _ (.cells #[.int .u16 0, .int .u16 0, .int .u16 0] 58)))
  have HZ := hide (keep k3 (below_al _ (.cells #[.int .u16 0, .int .u16 0, .int .u16 0] 58)))
  have HRR := hide k4
  have HB0 := hide (((below_two w (.cells #[.int .i64 pa, .slice aa ma ca, .int .i64 sa, .int .i64 ta] 51) (.cells #[.int .i64 pb, .slice ab mb cb, .int .i64 sb, .int .i64 tb] 51)).alloc (by rw [y2]; omega) (.cells #[.int .u16 (s0 : Int), .int .u16 (s1 : Int), .int .u16 (s2 : Int)] 58)).alloc (by rw [y3]; omega) (.cells #[.int .u16 0, .int .u16 0, .int .u16 0] 58))
  clear h0 h1 h2 y1 y2 y3 k1 k2 k3 k4
  go_enter Try.func18, Try.ntmps18
  go_wp2_with fail
  obtain ⟨V, hV⟩ : ∃ V, Hid (((((w.alloc (.cells #[.int .i64 pa, .slice aa ma ca, .int .i64 sa, .int .i64 ta] 51)).alloc (.cells #[.int .i64 pb, .slice ab mb cb, .int .i64 sb, .int .i64 tb] 51)).alloc (.cells #[.int .u16 (s0 : Int), .int .u16 (s1 : Int), .int .u16 (s2 : Int)] 58)).alloc (.cells #[.int .u16 0, .int .u16 0, .int .u16 0] 58)) = V) := ⟨_, rfl⟩
  rw [hV.out] at HX HY HZ HRR HB0 ⊢
  clear hV
  refine wp_region_held_drew (S := fun W => (W.cell? ⟨w.heap.size, 0, none⟩ = some (.int .i64 pa) ∧ W.cell? ⟨w.heap.size, 1, none⟩ = some (.slice aa ma ca) ∧ W.cell? ⟨w.heap.size, 2, none⟩ = some (.int .i64 sa) ∧ W.cell? ⟨w.heap.size, 3, none⟩ = some (.int .i64 ta)) ∧ (W.cell? ⟨w.heap.size + 1, 0, none⟩ = some (.int .i64 pb) ∧ W.cell? ⟨w.heap.size + 1, 1, none⟩ = some (.slice ab mb cb) ∧ W.cell? ⟨w.heap.size + 1, 2, none⟩ = some (.int .i64 sb) ∧ W.cell? ⟨w.heap.size + 1, 3, none⟩ = some (.int .i64 tb)) ∧ W.cell? ⟨w.heap.size + 1 + 1, 0, none⟩ = some (.int .u16 (s0 : Int)) ∧ W.cell? ⟨w.heap.size + 1 + 1, 1, none⟩ = some (.int .u16 (s1 : Int)) ∧ W.cell? ⟨w.heap.size + 1 + 1, 2, none⟩ = some (.int .u16 (s2 : Int))) (by kernel_rfl) ?_ (fun hHeld => ?_)
  · exact ⟨(cells4 (keep HX.out (Below.refl _ V).drew)).1, (cells4 (keep HY.out (Below.refl _ V).drew)).1, cells3W (keep HZ.out (Below.refl _ V).drew)⟩
  refine take_yes (i := 0) (some 7) (.agg #[.int .i64 pa, .slice aa ma ca, .int .i64 sa, .int .i64 ta]) rfl rfl (by kernel_rfl) (by kernel_rfl) (by kernel_rfl) (fun _ _ _ h => h) (by rfl) ?_ (by assumption) ?_
  · intro W' hSw
    obtain ⟨⟨hz0, hz1, hz2, hz3⟩, ⟨hy0, hy1, hy2, hy3⟩, hx0, hx1, hx2⟩ := hSw
    go_simp
  simp only [Act.put, List.setIfInBounds_toArray, List.set_cons_zero, List.set_cons_succ]
  refine take_yes (i := 1) (some 8) (.agg #[.int .i64 pb, .slice ab mb cb, .int .i64 sb, .int .i64 tb]) rfl rfl (by kernel_rfl) (by kernel_rfl) (by kernel_rfl) (fun _ _ _ h => h) (by rfl) ?_ (by assumption) ?_
  · intro W' hSw
    obtain ⟨⟨hz0, hz1, hz2, hz3⟩, ⟨hy0, hy1, hy2, hy3⟩, hx0, hx1, hx2⟩ := hSw
    go_simp
  simp only [Act.put, List.setIfInBounds_toArray, List.set_cons_zero, List.set_cons_succ]
  refine take_yes (i := 2) (some 9) (.pointer (some ⟨w.heap.size + 1 + 1, 0, none⟩)) rfl rfl (by kernel_rfl) (by kernel_rfl) (by kernel_rfl) (fun _ _ _ h => h) (by rfl) ?_ (by assumption) ?_
  · intro W' hSw
    obtain ⟨⟨hz0, hz1, hz2, hz3⟩, ⟨hy0, hy1, hy2, hy3⟩, hx0, hx1, hx2⟩ := hSw
    go_simp
  simp only [Act.put, List.setIfInBounds_toArray, List.set_cons_zero, List.set_cons_succ]
  refine take_yes (i := 3) (some 10) (.int .u16 (s0 : Int)) rfl rfl (by kernel_rfl) (by kernel_rfl) (by kernel_rfl) (fun _ _ _ h => h) (by rfl) ?_ (by assumption) ?_
  · intro W' hSw
    obtain ⟨⟨hz0, hz1, hz2, hz3⟩, ⟨hy0, hy1, hy2, hy3⟩, hx0, hx1, hx2⟩ := hSw
    go_simp
  simp only [Act.put, List.setIfInBounds_toArray, List.set_cons_zero, List.set_cons_succ]
  refine take_yes (i := 5) (some 12) (.agg #[.int .i64 pa, .slice aa ma ca, .int .i64 sa, .int .i64 ta]) rfl rfl (by kernel_rfl) (by kernel_rfl) (by kernel_rfl) (fun _ _ _ h => h) (by rfl) ?_ (by assumption) ?_
  · intro W' hSw
    obtain ⟨⟨hz0, hz1, hz2, hz3⟩, ⟨hy0, hy1, hy2, hy3⟩, hx0, hx1, hx2⟩ := hSw
    go_simp
  simp only [Act.put, List.setIfInBounds_toArray, List.set_cons_zero, List.set_cons_succ]
  refine take_yes (i := 6) (some 13) (.agg #[.int .i64 pb, .slice ab mb cb, .int .i64 sb, .int .i64 tb]) rfl rfl (by kernel_rfl) (by kernel_rfl) (by kernel_rfl) (fun _ _ _ h => h) (by rfl) ?_ (by assumption) ?_
  · intro W' hSw
    obtain ⟨⟨hz0, hz1, hz2, hz3⟩, ⟨hy0, hy1, hy2, hy3⟩, hx0, hx1, hx2⟩ := hSw
    go_simp
  simp only [Act.put, List.setIfInBounds_toArray, List.set_cons_zero, List.set_cons_succ]
  refine take_yes (i := 7) (some 14) (.pointer (some ⟨w.heap.size + 1 + 1, 1, none⟩)) rfl rfl (by kernel_rfl) (by kernel_rfl) (by kernel_rfl) (fun _ _ _ h => h) (by rfl) ?_ (by assumption) ?_
  · intro W' hSw
    obtain ⟨⟨hz0, hz1, hz2, hz3⟩, ⟨hy0, hy1, hy2, hy3⟩, hx0, hx1, hx2⟩ := hSw
    go_simp
  simp only [Act.put, List.setIfInBounds_toArray, List.set_cons_zero, List.set_cons_succ]
  refine take_yes (i := 8) (some 15) (.int .u16 (s1 : Int)) rfl rfl (by kernel_rfl) (by kernel_rfl) (by kernel_rfl) (fun _ _ _ h => h) (by rfl) ?_ (by assumption) ?_
  · intro W' hSw
    obtain ⟨⟨hz0, hz1, hz2, hz3⟩, ⟨hy0, hy1, hy2, hy3⟩, hx0, hx1, hx2⟩ := hSw
    go_simp
  simp only [Act.put, List.setIfInBounds_toArray, List.set_cons_zero, List.set_cons_succ]
  refine take_yes (i := 10) (some 17) (.agg #[.int .i64 pa, .slice aa ma ca, .int .i64 sa, .int .i64 ta]) rfl rfl (by kernel_rfl) (by kernel_rfl) (by kernel_rfl) (fun _ _ _ h => h) (by rfl) ?_ (by assumption) ?_
  · intro W' hSw
    obtain ⟨⟨hz0, hz1, hz2, hz3⟩, ⟨hy0, hy1, hy2, hy3⟩, hx0, hx1, hx2⟩ := hSw
    go_simp
  simp only [Act.put, List.setIfInBounds_toArray, List.set_cons_zero, List.set_cons_succ]
  refine take_yes (i := 11) (some 18) (.agg #[.int .i64 pb, .slice ab mb cb, .int .i64 sb, .int .i64 tb]) rfl rfl (by kernel_rfl) (by kernel_rfl) (by kernel_rfl) (fun _ _ _ h => h) (by rfl) ?_ (by assumption) ?_
  · intro W' hSw
    obtain ⟨⟨hz0, hz1, hz2, hz3⟩, ⟨hy0, hy1, hy2, hy3⟩, hx0, hx1, hx2⟩ := hSw
    go_simp
  simp only [Act.put, List.setIfInBounds_toArray, List.set_cons_zero, List.set_cons_succ]
  refine take_yes (i := 12) (some 19) (.pointer (some ⟨w.heap.size + 1 + 1, 2, none⟩)) rfl rfl (by kernel_rfl) (by kernel_rfl) (by kernel_rfl) (fun _ _ _ h => h) (by rfl) ?_ (by assumption) ?_
  · intro W' hSw
    obtain ⟨⟨hz0, hz1, hz2, hz3⟩, ⟨hy0, hy1, hy2, hy3⟩, hx0, hx1, hx2⟩ := hSw
    go_simp
  simp only [Act.put, List.setIfInBounds_toArray, List.set_cons_zero, List.set_cons_succ]
  refine take_yes (i := 13) (some 20) (.int .u16 (s2 : Int)) rfl rfl (by kernel_rfl) (by kernel_rfl) (by kernel_rfl) (fun _ _ _ h => h) (by rfl) ?_ (by assumption) ?_
  · intro W' hSw
    obtain ⟨⟨hz0, hz1, hz2, hz3⟩, ⟨hy0, hy1, hy2, hy3⟩, hx0, hx1, hx2⟩ := hSw
    go_simp
  simp only [Act.put, List.setIfInBounds_toArray, List.set_cons_zero, List.set_cons_succ]
  refine call_next (i := 4) (some 11) rfl rfl (by kernel_rfl) (by rfl) 36 _ _ _ rfl Try.func36 (by decide) rfl #[.agg #[.int .i64 pa, .slice aa ma ca, .int .i64 sa, .int .i64 ta], .agg #[.int .i64 pb, .slice ab mb cb, .int .i64 sb, .int .i64 tb], .int .u16 (s0 : Int)] (mapw3 _ _ _ _ _ _ _ rfl rfl rfl) _ (HS0.out _) ?_
  rintro e v1 ⟨rfl, hb1⟩
  refine ⟨_, rfl, ?_, fun hHeld => ?_⟩
  · exact ⟨(cells4 (keep (keep HX.out (Below.refl _ V).drew) hb1)).1, (cells4 (keep (keep HY.out (Below.refl _ V).drew) hb1)).1, cells3W (keep (keep HZ.out (Below.refl _ V).drew) hb1)⟩
  simp only [Act.put, List.setIfInBounds_toArray, List.set_cons_zero, List.set_cons_succ]
  refine call_next (i := 9) (some 16) rfl rfl (by kernel_rfl) (by rfl) 36 _ _ _ rfl Try.func36 (by decide) rfl #[.agg #[.int .i64 pa, .slice aa ma ca, .int .i64 sa, .int .i64 ta], .agg #[.int .i64 pb, .slice ab mb cb, .int .i64 sb, .int .i64 tb], .int .u16 (s1 : Int)] (mapw3 _ _ _ _ _ _ _ rfl rfl rfl) _ (HS1.out _) ?_
  rintro e v2 ⟨rfl, hb2⟩
  refine ⟨_, rfl, ?_, fun hHeld => ?_⟩
  · exact ⟨(cells4 (keep (keep (keep HX.out (Below.refl _ V).drew) hb1) hb2)).1, (cells4 (keep (keep (keep HY.out (Below.refl _ V).drew) hb1) hb2)).1, cells3W (keep (keep (keep HZ.out (Below.refl _ V).drew) hb1) hb2)⟩
  simp only [Act.put, List.setIfInBounds_toArray, List.set_cons_zero, List.set_cons_succ]
  refine call_next (i := 14) (some 21) rfl rfl (by kernel_rfl) (by rfl) 36 _ _ _ rfl Try.func36 (by decide) rfl #[.agg #[.int .i64 pa, .slice aa ma ca, .int .i64 sa, .int .i64 ta], .agg #[.int .i64 pb, .slice ab mb cb, .int .i64 sb, .int .i64 tb], .int .u16 (s2 : Int)] (mapw3 _ _ _ _ _ _ _ rfl rfl rfl) _ (HS2.out _) ?_
  rintro e v3 ⟨rfl, hb3⟩
  refine ⟨_, rfl, ?_, fun hHeld => ?_⟩
  · exact ⟨(cells4 (keep (keep (keep (keep HX.out (Below.refl _ V).drew) hb1) hb2) hb3)).1, (cells4 (keep (keep (keep (keep HY.out (Below.refl _ V).drew) hb1) hb2) hb3)).1, cells3W (keep (keep (keep (keep HZ.out (Below.refl _ V).drew) hb1) hb2) hb3)⟩
  simp only [Act.put, List.setIfInBounds_toArray, List.set_cons_zero, List.set_cons_succ]
  refine take_yes (i := 15) (some 22) (.agg #[.int .u16 (r0 : Int), .int .u16 (r1 : Int), .int .u16 (r2 : Int)]) rfl rfl (by kernel_rfl) (by kernel_rfl) (by kernel_rfl) (fun _ _ _ h => h) (by rfl) ?_ (by assumption) ?_
  · intro W' hSw
    obtain ⟨⟨hz0, hz1, hz2, hz3⟩, ⟨hy0, hy1, hy2, hy3⟩, hx0, hx1, hx2⟩ := hSw
    go_simp
  simp only [Act.put, List.setIfInBounds_toArray, List.set_cons_zero, List.set_cons_succ]
  have HR3 := hide (keep (keep (keep (keep HRR.out (Below.refl _ V).drew) hb1) hb2) hb3)
  refine store_next (i := 16) rfl rfl (by kernel_rfl) (by rfl) 58 _ _ rfl (w.heap.size + 1 + 1 + 1) #[.int .u16 (r0 : Int), .int .u16 (r1 : Int), .int .u16 (r2 : Int)] rfl rfl 58 _ HR3.out Try.size58 rfl (by simp [Value.oneCell']) ?_ (fun hHeld => ?_)
  · exact ⟨(cells4 ((setRow_otherW _ (by omega) _).trans (keep (keep (keep (keep HX.out (Below.refl _ V).drew) hb1) hb2) hb3))).1, (cells4 ((setRow_otherW _ (by omega) _).trans (keep (keep (keep (keep HY.out (Below.refl _ V).drew) hb1) hb2) hb3))).1, cells3W ((setRow_otherW _ (by omega) _).trans (keep (keep (keep (keep HZ.out (Below.refl _ V).drew) hb1) hb2) hb3))⟩
  refine wpAnyH_done (by kernel_rfl) ?_ _
  obtain ⟨hr0, hr1, hr2⟩ := cells3W (setRow_sameW HR3.out #[.int .u16 (r0 : Int), .int .u16 (r1 : Int), .int .u16 (r2 : Int)])
  have HBX := hide (below_setRow (HB0.out.drew.trans ((hb1.trans ((hb2.trans (hb3.mono hb2.size)).mono hb1.size)).mono HB0.out.drew.size)) (w.heap.size + 1 + 1 + 1) (by omega) #[.int .u16 (r0 : Int), .int .u16 (r1 : Int), .int .u16 (r2 : Int)])
  clear hb1 hb2 hb3 hHeld
  go_wp2_with fail
  refine bodyPost_ret (v := .agg #[.int .u16 (r0 : Int), .int .u16 (r1 : Int), .int .u16 (r2 : Int)]) (by simp [results, Try.results18, go_sem, hr0, hr1, hr2]) rfl ?_
  exact ⟨rfl, HBX.out⟩
end Go.Proofs.Ytoijlepjnpdlkaa


/- More steps of a region that draws its order, by hand. -/
namespace Go.Proofs.Ytoijlepjnpdlkaa
open Go.RowKit

/-- An operation that yields a value as one step of a region that draws its order. -/
theorem step_valW {P : Program} {ops : Array Oper} {o : Oper} {a : Act} {w w' : World} {K : Act → World → Prop} {Q : Exit → Act → World → Prop} {E : Prop}
    (hw : Region.wanted o (yielded ops a.tmps) = true) (d : Option Tmp) (hd : o.dst = d) (v : Value) (hr : (execOp a.eval o).run P w = .ok (.value v) w') (h : K (a.put d v) w') :
    if Region.wanted o (yielded ops a.tmps) = true then Oper.wp P o a w K Q else E := by
  subst hd
  rw [if_pos hw]
  unfold Oper.wp
  rw [hr]
  exact h

/-- A call that is wanted, its place named. -/
theorem step_callWd {P : Program} {ops : Array Oper} {o : Oper} {a : Act} {w : World} {K : Act → World → Prop} {Q : Exit → Act → World → Prop} {E : Prop} (d : Option Tmp) (hd : o.dst = d)
    (hw : Region.wanted o (yielded ops a.tmps) = true) (f : FuncId) (fn : Func) (xs : Array Operand) (ts : Array TypeId) (hop : o.op = Op.call { callee := Callee.value (Operand.func f), args := xs, argTypes := ts })
    (hfn : P.funcs[f]? = some fn) (hnm : (fn.name == "runtime.NumGoroutine") = false) (hbd : fn.body.isNone = false) (args : Array Value) (hargs : xs.map a.eval = args) (R : Ending → World → Prop) (hc : Calls P f args w R)
    (h : ∀ e w', R e w' → ∃ v, e = .returned v ∧ K (a.put d v) w') :
    if Region.wanted o (yielded ops a.tmps) = true then Oper.wp P o a w K Q else E := by
  subst hd
  exact step_callW hw f fn xs ts hop hfn hnm hbd args hargs R hc h

/-- An append, its place named. -/
theorem step_appWd {P : Program} {ops : Array Oper} {o : Oper} {a : Act} {w : World} {K : Act → World → Prop} {Q : Exit → Act → World → Prop} {E : Prop} (d : Option Tmp) (hd : o.dst = d) (hgd : o.guard = none) (s x : Operand) (t : TypeId)
    (ho : o.op = .call { callee := .builtin .append, args := #[s, x], argTypes := #[t, t] })
    (base : Nat) (e : TypeId) (i : TypeInfo) (z : Value) (size bytes : Nat) (ht : P.underlying t = some (.slice e)) (hi : P.info? e = some i) (hz : i.zero = some z)
    (hsize : i.size = size) (hby : i.bytes = bytes) (hzs : z.cells.size = size) (hsz : 0 < size)
    (v : Value) (n : Nat) (xs : List Value) (hs : a.eval s = v) (hown : w.ownsRow base e size v n xs)
    (ad : Addr) (m c : Nat) (news : List Value) (hx : a.eval x = .slice (some ad) m c) (hl : news.length = m * size) (hnews : ∀ j u, news[j]? = some u → w.cell? (ad.add j) = some u) (h1 : ∀ u ∈ news, u.oneCell' = true)
    (hm : 0 < m) (h63 : n + m ≤ maxLen) (hbytes : (n + m) * bytes ≤ 140737488355328) (hbase : base ≤ w.heap.size) (H : Nat) (hH : w.heap.size = H)
    (h : ∀ g cap w', w'.ownsRow base e size (.slice (some ⟨g, 0, none⟩) (n + m) cap) (n + m) (xs ++ news) → w.grownBy w' v.ownBlock → (v.ownBlock = some g ∨ g = H) → g < w'.heap.size → K (a.put d (.slice (some ⟨g, 0, none⟩) (n + m) cap)) w') :
    if Region.wanted o (yielded ops a.tmps) = true then Oper.wp P o a w K Q else E := by
  subst hd
  exact step_append_lies w hgd s x t ho base e i z size bytes ht hi hz hsize hby hzs hsz v n xs hs hown ad m c news hx hl hnews h1 hm h63 hbytes hbase H hH h

section
variable {P : Program} {ops : Array Oper} {Q : Exit → Act → World → Prop} {md : Region.Mode} {S : World → Prop}

/-- A store of one cell that must come up next. -/
theorem store_one_next {i : Nat} {oi : Oper} {fuel : Nat} {listed : Array Bool} {a : Act} {w : World} (hi : ops[i]? = some oi) (hd : oi.dst = none) (hr : Region.ready md ops listed = [i])
    (hw : Region.wanted oi (yielded ops a.tmps) = true) (ty : TypeId) (x y : Operand) (hop : oi.op = .store ty x y)
    (b o : Nat) (p : Option Addr) (l c : Nat) (hx : a.eval x = .pointer (some ⟨b, o, none⟩)) (hy : a.eval y = .slice p l c) (C : Array Value) (T : TypeId) (hb : w.heap[b]? = some (.cells C T (0, 0))) (ho : o < C.size) (hz : (P.info? ty).map (·.size) = some 1)
    (hS : S (w.setCell ⟨b, o, none⟩ (.slice p l c))) (h : S (w.setCell ⟨b, o, none⟩ (.slice p l c)) → wpAnyH P md ops Q S fuel (listed.setIfInBounds i true) a (w.setCell ⟨b, o, none⟩ (.slice p l c))) : wpAnyH P md ops Q S (fuel + 1) listed a w := by
  refine wpAnyH_ready hr (by simp) (AllReadyH.cons hi (fun K hK => ?_) AllReadyH.nil)
  rw [if_pos hw]
  have hc : w.cell? ⟨b, o, none⟩ = some (C[o]'ho) := by rw [cell_of_row w b o C T _ hb, Array.getElem?_eq_getElem ho]
  have hf : w.frozen? ⟨b, o, none⟩ = false := frozen_of_row w b o C _ hb
  have hrun : (execOp a.eval oi).run P w = .ok .skip (w.setCell ⟨b, o, none⟩ (.slice p l c)) := by
    unfold execOp
    simp only [hop, hx, hy]
    obtain ⟨inf, hinf, hsz⟩ := Option.map_eq_some_iff.1 hz
    simp [go_sem, sizeOf, typeInfo, hinf, hsz, hc, hf]
  unfold Oper.wp
  rw [hrun]
  show K (a.put oi.dst undef) _
  rw [hd]
  exact hK.out _ _ hS h

end
end Go.Proofs.Ytoijlepjnpdlkaa


/- ChainFlows of the program. -/
namespace Go.Proofs.Ytoijlepjnpdlkaa
open Go.RowKit
set_option maxRecDepth 10000

/-- The cells of m steps. -/
def stC (K : List (List Int)) (m : Nat) : List Value := (List.range (3 * m)).map fun j => Value.int .u16 (maskL (K.getD j []) : Int)

theorem stC_succ (K : List (List Int)) (m : Nat) : stC K (m + 1) = stC K m ++ [.int .u16 (maskL (K.getD (3 * m) []) : Int), .int .u16 (maskL (K.getD (3 * m + 1) []) : Int), .int .u16 (maskL (K.getD (3 * m + 2) []) : Int)] := by
  unfold stC
  rw [show 3 * (m + 1) = 3 * m + 1 + 1 + 1 by omega, List.range_succ, List.range_succ, List.range_succ]
  simp

theorem stC_len (K : List (List Int)) (m : Nat) : (stC K m).length = 3 * m := by simp [stC]

theorem stC_congr {K K' : List (List Int)} {m : Nat} (h : ∀ j, j < 3 * m → K.getD j [] = K'.getD j []) : stC K m = stC K' m := by
  unfold stC
  apply List.map_congr_left
  intro j hj
  rw [h j (by simpa using hj)]

theorem own_steps {w : World} {B n lo : Nat} {L : List (List Int)} (h : PartS w B (3 * n) (3 * n) L) (hB : lo ≤ B) (hn : n ≤ 24) : w.ownsRow lo 58 3 (.slice (some ⟨B, 0, none⟩) n n) n (stC L n) := by
  obtain ⟨C, h1, h2, h3⟩ := h
  refine ⟨by rw [stC_len]; omega, .inr ⟨B, n, C, rfl, hB, h1, Nat.le_refl _, by unfold maxLen; omega, by omega, ?_⟩⟩
  rw [List.take_of_length_le (by simp; omega)]
  apply List.ext_getElem?
  intro j
  by_cases hj : j < 3 * n
  · rw [Array.getElem?_toList, h3 j hj]
    unfold stC
    simp [hj]
  · rw [List.getElem?_eq_none (by simp; omega), List.getElem?_eq_none (by rw [stC_len]; omega)]

theorem PartX.of_own {w : World} {n lo : Nat} {v : Value} {L : List (List Int)} (h : w.ownsRow lo 58 3 v n (stC L n)) (hn : 0 < n) : ∃ g c, v = .slice (some ⟨g, 0, none⟩) n c ∧ PartX w g n L := by
  rcases h.2 with ⟨_, h0⟩ | ⟨g, cp, cur, e, hg, hh, hc, _, hsz, htk⟩
  · omega
  · refine ⟨g, cp, e, cur, hh, by omega, fun j hj => ?_⟩
    have e2 : (cur.toList.take (n * 3))[j]? = (stC L n)[j]? := by rw [htk]
    rw [List.getElem?_take_of_lt (by omega), Array.getElem?_toList] at e2
    rw [e2]
    unfold stC
    simp [hj]

theorem mask_mvL {pa ta sb pb : Int} {xs : List Int} (hta : 0 ≤ ta ∧ ta < pa) (hsb : 0 ≤ sb ∧ sb < pb) (hp : pa + pb - 1 ≤ 16) (hx : ∀ x ∈ xs, 0 ≤ x ∧ x < pb) : maskL (mvL pa ta sb xs) = maskL (xs.map (mvP pa ta sb)) := by
  have hr : ∀ y ∈ xs.map (mvP pa ta sb), 0 ≤ y := by
    intro y hy
    rw [List.mem_map] at hy
    obtain ⟨x, hx1, rfl⟩ := hy
    exact (mvP_range hta hsb (hx x hx1)).1
  apply Nat.eq_of_testBit_eq
  intro i
  rw [maskL_bit (mvL pa ta sb xs) i (fun z hz => by unfold mvL at hz; exact (nums2_mem hz).1), maskL_bit _ _ hr]
  rw [Bool.eq_iff_iff, decide_eq_true_iff, decide_eq_true_iff, mvL_mem hta hsb hp hx, List.mem_map]

/-- How ChainFlows ends: N transitions, K their lists. -/
def ChEnd (g : Bool) (P S T : Int) (N : Nat) (K : List (List Int)) (w : World) (e : Ending) (w' : World) : Prop :=
  ∃ (a : Option Addr) (c : Nat), e = .returned (.tuple #[.agg #[.int .i64 (if g then P else 0), .slice a (if g then N else 0) c, .int .i64 (if g then S else 0), .int .i64 (if g then T else 0)], .bool g]) ∧ (g = true → TriX w' w.heap.size (.slice a N c) N K) ∧ Below w.heap.size w w'

theorem chEnd_no {P S T : Int} {N : Nat} {K : List (List Int)} {w w' : World} (hb : Below w.heap.size w w') : ChEnd false P S T N K w (.returned (.tuple #[.agg #[.int .i64 0, .slice none 0 0, .int .i64 0, .int .i64 0], .bool false])) w' :=
  ⟨none, 0, rfl, fun h => by simp at h, hb⟩

/-- Whether two flows can be chained. -/
noncomputable def chOk (pa sa ta pb sb tb : Int) (na nb : Nat) (La Lb : List (List Int)) : Bool := flowOk pa na La sa ta && flowOk pb nb Lb sb tb && decide (pa + pb - 1 ≤ 16) && decide (na + nb ≤ 24)
end Go.Proofs.Ytoijlepjnpdlkaa


/- ChainFlows of the program: what it keeps in mind, one step of its loop. -/
namespace Go.Proofs.Ytoijlepjnpdlkaa
open Go.RowKit
set_option maxRecDepth 10000

theorem own_growX {B : Nat} {e : TypeId} {s : Nat} {w w' : World} {v : Value} {n : Nat} {l : List Value} (h : w.ownsRow B e s v n l) (hb : Below w.heap.size w w') : w'.ownsRow B e s v n l := by
  rcases h with ⟨h0, h1 | ⟨g, cp, cur, e1, hg, hh, r⟩⟩
  · exact ⟨h0, .inl h1⟩
  · exact ⟨h0, .inr ⟨g, cp, cur, e1, hg, keep hh hb, r⟩⟩

theorem own_setX {B : Nat} {e : TypeId} {s : Nat} {w : World} {g c n : Nat} {l : List Value} (h : w.ownsRow B e s (.slice (some ⟨g, 0, none⟩) n c) n l) {b : Nat} (hb : g ≠ b) (o : Nat) (u : Value) : (w.setCell ⟨b, o, none⟩ u).ownsRow B e s (.slice (some ⟨g, 0, none⟩) n c) n l := by
  rcases h with ⟨h0, h1 | ⟨g', cp, cur, e1, hg, hh, r⟩⟩
  · exact ⟨h0, .inl h1⟩
  · have e2 : g' = g := by simp at e1; exact e1.1.symm
    subst e2
    exact ⟨h0, .inr ⟨g', cp, cur, e1, hg, (Below.heap_setCell _ _ _ _ hb).trans hh, r⟩⟩

theorem PartX.same {w w' : World} {B n : Nat} {L : List (List Int)} (h : PartX w B n L) (hb : w'.heap[B]? = w.heap[B]?) : PartX w' B n L := by
  obtain ⟨C, h1, h2, h3⟩ := h
  exact ⟨C, hb.trans h1, h2, h3⟩

theorem PartX.lt {w : World} {B n : Nat} {L : List (List Int)} (h : PartX w B n L) : B < w.heap.size := by
  obtain ⟨C, h1, _⟩ := h
  exact row_lt h1

/-- What ChainFlows keeps in mind while it chains. -/
structure ChInv (w wr : World) (x1 x2 : Nat) (p1 s1 t1 p2 s2 t2 : Int) (B1 B2 c1 c2 : Nat) (v : Value) (k : Nat) (La Lb : List (List Int)) : Prop where
  fst : wr.heap[x1]? = some (.cells #[.int .i64 p1, .slice (some ⟨B1, 0, none⟩) c1 c1, .int .i64 s1, .int .i64 t1] 51 (0, 0))
  nxt : wr.heap[x2]? = some (.cells #[.int .i64 p2, .slice (some ⟨B2, 0, none⟩) c2 c2, .int .i64 s2, .int .i64 t2] 51 (0, 0))
  res : wr.heap[w.heap.size + 1 + 1]? = some (.cells #[.int .i64 0, .slice none 0 0, .int .i64 0, .int .i64 0] 32 (0, 0))
  var : wr.heap[x2 + 1]? = some (.cells #[.int .i64 (p1 + p2 - 1), v] 49 (0, 0))
  own : wr.ownsRow (w.heap.size + 1 + 1 + 1) 58 3 v (c1 + k) (stC (chainL p1 t1 s2 La Lb) (c1 + k))
  far : ∀ q, v.ownBlock = some q → q < x1 ∨ x2 + 1 < q
  prt : PartX wr B2 c2 Lb
  bel : Below w.heap.size w wr

section
variable {w wr wr' : World} {x1 x2 : Nat} {p1 s1 t1 p2 s2 t2 : Int} {B1 B2 c1 c2 : Nat} {v : Value} {k : Nat} {La Lb : List (List Int)}

theorem ChInv.grow (h : ChInv w wr x1 x2 p1 s1 t1 p2 s2 t2 B1 B2 c1 c2 v k La Lb) (hb : Below wr.heap.size wr wr') : ChInv w wr' x1 x2 p1 s1 t1 p2 s2 t2 B1 B2 c1 c2 v k La Lb :=
  ⟨keep h.fst hb, keep h.nxt hb, keep h.res hb, keep h.var hb, own_growX h.own hb, h.far, h.prt.grow hb, h.bel.trans (hb.mono h.bel.size)⟩

theorem ChInv.same (h : ChInv w wr x1 x2 p1 s1 t1 p2 s2 t2 B1 B2 c1 c2 v k La Lb) {W : World} (hgr : wr.grownBy W v.ownBlock) {b : Nat} (hb : b < wr.heap.size) (hc : x1 ≤ b ∧ b ≤ x2 + 1 ∨ b < w.heap.size + 1 + 1 + 1) : W.heap[b]? = wr.heap[b]? :=
  hgr.block b hb (fun e => by have f := h.far b e.symm; have l := (h.own.lt b e.symm).1; omega)

theorem ChInv.push (h : ChInv w wr x1 x2 p1 s1 t1 p2 s2 t2 B1 B2 c1 c2 v k La Lb) (hx0 : w.heap.size + 1 + 1 < x1) (hx : x1 < x2) (hB2 : x1 < B2) (hB2' : B2 < x2) {gg cp : Nat} {W : World}
    (hown : W.ownsRow (w.heap.size + 1 + 1 + 1) 58 3 (.slice (some ⟨gg, 0, none⟩) (c1 + k + 1) cp) (c1 + k + 1) (stC (chainL p1 t1 s2 La Lb) (c1 + k) ++ [.int .u16 (maskL ((chainL p1 t1 s2 La Lb).getD (3 * (c1 + k)) []) : Int), .int .u16 (maskL ((chainL p1 t1 s2 La Lb).getD (3 * (c1 + k) + 1) []) : Int), .int .u16 (maskL ((chainL p1 t1 s2 La Lb).getD (3 * (c1 + k) + 2) []) : Int)]))
    (hgr : wr.grownBy W v.ownBlock) (hlies : v.ownBlock = some gg ∨ gg = wr.heap.size) :
    ChInv w (W.setCell ⟨x2 + 1, 1, none⟩ (.slice (some ⟨gg, 0, none⟩) (c1 + k + 1) cp)) x1 x2 p1 s1 t1 p2 s2 t2 B1 B2 c1 c2 (.slice (some ⟨gg, 0, none⟩) (c1 + k + 1) cp) (k + 1) La Lb := by
  have hv := row_lt h.var
  have hgg : gg < x1 ∨ x2 + 1 < gg := by
    rcases hlies with e | e
    · exact h.far gg e
    · omega
  have hVW := (h.same hgr hv (by omega)).trans h.var
  refine ⟨?_, ?_, ?_, ?_, ?_, ?_, ?_, ?_⟩
  · exact (Below.heap_setCell _ _ _ _ (show x1 ≠ x2 + 1 by omega)).trans ((h.same hgr (by omega) (by omega)).trans h.fst)
  · exact (Below.heap_setCell _ _ _ _ (show x2 ≠ x2 + 1 by omega)).trans ((h.same hgr (by omega) (by omega)).trans h.nxt)
  · exact (Below.heap_setCell _ _ _ _ (show w.heap.size + 1 + 1 ≠ x2 + 1 by omega)).trans ((h.same hgr (by omega) (by omega)).trans h.res)
  · rw [heap_setCell_same _ _ _ _ _ _ hVW]; rfl
  · rw [show c1 + (k + 1) = c1 + k + 1 by omega, stC_succ]
    exact own_setX hown (by omega) 1 _
  · intro q hq
    simp [Value.ownBlock] at hq
    omega
  · exact h.prt.same ((Below.heap_setCell _ _ _ _ (show B2 ≠ x2 + 1 by omega)).trans (h.same hgr (by omega) (by omega)))
  · exact (h.bel.grown hgr h.bel.size (fun q hq => by have := (h.own.lt q hq).1; omega)).setCell (by simp; omega) _
end

/-- One step of the next flow, moved. -/
theorem chStep {p1 s1 t1 p2 s2 t2 : Int} {c1 c2 k : Nat} {La Lb : List (List Int)} (h : Chn p1 p2 s1 t1 s2 t2 c1 c2 La Lb) (hk : k < c2) (B1 B2 : Nat) (W : World) :
    Calls Try.prog 18 #[.agg #[.int .i64 p1, .slice (some ⟨B1, 0, none⟩) c1 c1, .int .i64 s1, .int .i64 t1], .agg #[.int .i64 p2, .slice (some ⟨B2, 0, none⟩) c2 c2, .int .i64 s2, .int .i64 t2], .agg #[.int .u16 (maskL (Lb.getD (3 * k) []) : Int), .int .u16 (maskL (Lb.getD (3 * k + 1) []) : Int), .int .u16 (maskL (Lb.getD (3 * k + 2) []) : Int)]] W fun e w' => e = .returned (.agg #[.int .u16 (maskL ((chainL p1 t1 s2 La Lb).getD (3 * (c1 + k)) []) : Int), .int .u16 (maskL ((chainL p1 t1 s2 La Lb).getD (3 * (c1 + k) + 1) []) : Int), .int .u16 (maskL ((chainL p1 t1 s2 La Lb).getD (3 * (c1 + k) + 2) []) : Int)]) ∧ Below W.heap.size W w' := by
  obtain ⟨hpa, hpb, hsa, hta, hsb, htb, _, _⟩ := h.nums
  have hp16 := h.p16
  obtain ⟨m0, m1, m2⟩ := h.memB hk
  obtain ⟨n0, n1, n2⟩ := setsX h.nets.2 hk
  rw [show 3 * (c1 + k) = 3 * c1 + 3 * k by omega, show 3 * c1 + 3 * k + 1 = 3 * c1 + (3 * k + 1) by omega, show 3 * c1 + 3 * k + 2 = 3 * c1 + (3 * k + 2) by omega, chain_b h.la, chain_b h.la, chain_b h.la, mask_mvL hta hsb hp16 m0, mask_mvL hta hsb hp16 m1, mask_mvL hta hsb hp16 m2]
  have key : ∀ xs : List Int, (∀ x ∈ xs, 0 ≤ x ∧ x < p2) → nums2 (maskL xs).testBit 16 = xs → ∀ W, Calls Try.prog 36 #[.agg #[.int .i64 p1, .slice (some ⟨B1, 0, none⟩) c1 c1, .int .i64 s1, .int .i64 t1], .agg #[.int .i64 p2, .slice (some ⟨B2, 0, none⟩) c2 c2, .int .i64 s2, .int .i64 t2], .int .u16 (maskL xs : Int)] W fun e w' => e = .returned (.int .u16 (maskL (xs.map (mvP p1 t1 s2)) : Int)) ∧ Below W.heap.size W w' := by
    intro xs hx hn W
    refine placesBehind_any p1 s1 t1 p2 s2 t2 _ _ c1 c1 c2 c2 xs W (by omega) hn ?_ (fun x hx' => by have := hx x hx'; omega) (fun x hx' => by have := mvP_range hta hsb (hx x hx'); omega)
    have := mask_map_lt (xs := xs) (f := id) (fun x hx' => by have := hx x hx'; simp; omega)
    simpa using this
  exact stepBehind_any p1 s1 t1 p2 s2 t2 _ _ c1 c1 c2 c2 _ _ _ _ _ _ W (key _ m0 n0) (key _ m1 n1) (key _ m2 n2)
end Go.Proofs.Ytoijlepjnpdlkaa


/- The cursor that draws choices from bytes: next, pick, one, among, places and mark answer within their bounds, whatever the bytes, and write into nothing that was there but the cursor. -/
namespace Go.Proofs.Ytoijlepjnpdlkaa
open Go.RowKit

/-- A slice of bytes reads as the list bs. -/
def RowB (w : World) (a : Option Addr) (n : Nat) (bs : List Int) : Prop :=
  bs.length = n ∧ (∀ i, 0 ≤ bs.getD i 0 ∧ bs.getD i 0 ≤ 255) ∧ (n = 0 ∨ ∃ b off, a = some ⟨b, off, none⟩ ∧ b < w.heap.size ∧ ∀ i, i < n → w.cell? ⟨b, off + i, none⟩ = some (.int .u8 (bs.getD i 0)))

theorem cur_step {w : World} {bc : Nat} {t : TypeId} {A B C : Value} (h : w.heap[bc]? = some (.cells #[A, B, C] t (0, 0))) (q : Nat) (v u : Value) :
    (((w.drewN q).setCell ⟨bc, 1, none⟩ v).setCell ⟨bc, 2, none⟩ u).heap[bc]? = some (.cells #[A, v, u] t (0, 0)) := by
  have h1 := heap_setCell_same (w.drewN q) bc 1 _ _ v h
  have h2 := heap_setCell_same _ bc 2 _ _ u h1
  simpa using h2

end Go.Proofs.Ytoijlepjnpdlkaa
