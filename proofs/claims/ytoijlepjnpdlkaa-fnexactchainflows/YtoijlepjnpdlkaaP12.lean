/- Contracts that the proof stands on, one behind the other. -/
import Derived.Test.YtoijlepjnpdlkaaP11
/- The specification's ChainFlows: the chain's lists whatever their sizes (the program's are cut at 16 places: the same where they fit). -/
namespace Go.Proofs.Ytoijlepjnpdlkaa
open Go.RowKit
set_option maxRecDepth 10000

/-- A list of places moved, rising, for up to 32 places. -/
def mvW (pa ta sb : Int) (xs : List Int) : List Int := nums2 (maskL (xs.map (mvP pa ta sb))).testBit 32

def chainW (pa ta sb : Int) (La Lb : List (List Int)) : List (List Int) := La ++ Lb.map (mvW pa ta sb)

theorem mvW_pair (pa ta sb : Int) (xs : List Int) : List.Pairwise (· < ·) (mvW pa ta sb xs) := nums2_pair _ _

theorem mvW_mem {pa ta sb pb : Int} {xs : List Int} (hta : 0 ≤ ta ∧ ta < pa) (hsb : 0 ≤ sb ∧ sb < pb) (hp : pa + pb - 1 ≤ 32) (hx : ∀ x ∈ xs, 0 ≤ x ∧ x < pb) (z : Int) : z ∈ mvW pa ta sb xs ↔ ∃ x ∈ xs, mvP pa ta sb x = z := by
  have hr : ∀ y ∈ xs.map (mvP pa ta sb), 0 ≤ y := by
    intro y hy
    rw [List.mem_map] at hy
    obtain ⟨x, hx1, rfl⟩ := hy
    exact (mvP_range hta hsb (hx x hx1)).1
  unfold mvW
  constructor
  · intro h
    obtain ⟨h0, h1, h2⟩ := nums2_mem h
    rw [maskL_bit _ _ hr] at h2
    have : z ∈ xs.map (mvP pa ta sb) := by simpa [show max z 0 = z by omega] using h2
    rw [List.mem_map] at this
    exact this
  · rintro ⟨x, hx1, rfl⟩
    have hm := mvP_range hta hsb (hx x hx1)
    obtain ⟨i, hi⟩ : ∃ i : Nat, mvP pa ta sb x = (i : Int) := ⟨(mvP pa ta sb x).toNat, by omega⟩
    rw [hi, nums2_in]
    refine ⟨by omega, ?_⟩
    rw [maskL_bit _ _ hr]
    simp only [decide_eq_true_iff]
    rw [← hi]
    exact List.mem_map_of_mem hx1

theorem mvW_same {pa ta sb pb : Int} {xs : List Int} (hta : 0 ≤ ta ∧ ta < pa) (hsb : 0 ≤ sb ∧ sb < pb) (hp : pa + pb - 1 ≤ 16) (hx : ∀ x ∈ xs, 0 ≤ x ∧ x < pb) : mvW pa ta sb xs = mvL pa ta sb xs :=
  pair_same (mvW_pair _ _ _ _) (mvL_pair _ _ _ _) (fun z => by rw [mvW_mem hta hsb (by omega) hx, mvL_mem hta hsb hp hx])

theorem mvW_len (pa ta sb : Int) (xs : List Int) : (mvW pa ta sb xs).length ≤ 32 := by
  unfold mvW nums2
  rw [List.length_map]
  exact Nat.le_trans (List.length_filter_le _ _) (by simp)

theorem atL_movedW {pa ta sb pb : Int} {n : Nat} {xs : List Int} (hn : (n : Int) = pb) (hta : 0 ≤ ta ∧ ta < pa) (hsb : 0 ≤ sb ∧ sb < pb) (hp : pa + pb - 1 ≤ 32) (hx : ∀ x ∈ xs, 0 ≤ x ∧ x < pb) (z : Int) : z ∈ mvW pa ta sb xs ↔ ∃ x ∈ xs, (atL pa ta sb n).getD x.toNat 0 = z := by
  rw [mvW_mem hta hsb hp hx]
  constructor
  · rintro ⟨x, h1, h2⟩
    refine ⟨x, h1, ?_⟩
    have := hx x h1
    rw [atL_get (by omega), Int.toNat_of_nonneg this.1]
    exact h2
  · rintro ⟨x, h1, h2⟩
    refine ⟨x, h1, ?_⟩
    have := hx x h1
    rw [atL_get (by omega), Int.toNat_of_nonneg this.1] at h2
    exact h2

/-- The places of one transition of the next flow, by the table, whatever the sizes. -/
theorem moved_chainW {pa ta sb pb : Int} {m : Nat} {xs : List Int} (a : Option Addr) (n c g : Nat) (w : World) (hm : (m : Int) = pb) (hta : 0 ≤ ta ∧ ta < pa) (hsb : 0 ≤ sb ∧ sb < pb) (hp : pa + pb - 1 ≤ 32) (hr : ∀ x ∈ xs, 0 ≤ x ∧ x < pb) (hx : Row w a n xs) (ha : Row w (some ⟨g, 0, none⟩) m (atL pa ta sb m)) (hn : n ≤ 1000) :
    Calls Try.prog 14 #[.slice a n c, .slice (some ⟨g, 0, none⟩) m m] w fun e w' => ∃ a' g' c', e = .returned (.slice a' (mvW pa ta sb xs).length c') ∧ w.heap.size ≤ g' ∧ Ob w' a' g' (mvW pa ta sb xs).length (mvW pa ta sb xs) ∧ Below w.heap.size w w' :=
  moved3_any a n c xs g m _ _ w hx ha hn (by rw [hm]; exact hr) (mvW_pair _ _ _ _) (atL_movedW hm hta hsb hp hr)

theorem chainW_len {pa ta sb : Int} {na nb : Nat} {La Lb : List (List Int)} (ha : La.length = 3 * na) (hb : Lb.length = 3 * nb) : (chainW pa ta sb La Lb).length = 3 * (na + nb) := by
  unfold chainW; rw [List.length_append, List.length_map]; omega

theorem getD_mem {nb : Nat} {L : List (List Int)} {pb : Int} (hl : L.length = 3 * nb) (h : netOk pb nb L = true) : ∀ l ∈ L, ∀ x ∈ l, 0 ≤ x ∧ x < pb := by
  intro l hl2 x hx
  obtain ⟨j, hj, rfl⟩ := List.getElem_of_mem hl2
  have e : L.getD j [] = L[j] := by rw [List.getD_eq_getElem?_getD, List.getElem?_eq_getElem hj]; rfl
  obtain ⟨h0, h1, h2⟩ := netOk_mem h (show j / 3 < nb by omega)
  have hj3 : j = 3 * (j / 3) ∨ j = 3 * (j / 3) + 1 ∨ j = 3 * (j / 3) + 2 := by omega
  rcases hj3 with q | q | q
  · exact h0 x (by show x ∈ L.getD (3 * (j / 3)) []; rw [← q, e]; exact hx)
  · exact h1 x (by show x ∈ L.getD (3 * (j / 3) + 1) []; rw [← q, e]; exact hx)
  · exact h2 x (by rw [← q, e]; exact hx)

/-- Where both flows fit into one net, it is the same chain. -/
theorem chainW_same {pa pb sa ta sb tb : Int} {na nb : Nat} {La Lb : List (List Int)} (h : Chn pa pb sa ta sb tb na nb La Lb) : chainW pa ta sb La Lb = chainL pa ta sb La Lb := by
  unfold chainW chainL
  rw [List.map_congr_left]
  intro l hl
  exact mvW_same h.nums.2.2.2.1 h.nums.2.2.2.2.1 h.p16 (getD_mem h.lb h.nets.2 l hl)

/-- A net that is too big is no flow. -/
theorem flow_big {p s t : Int} {n : Nat} {L : List (List Int)} (h : 16 < p ∨ 24 < n) : flowOk p n L s t = false := by
  by_cases hf : flowOk p n L s t = true
  · have := flow_num hf
    omega
  · simpa using hf
theorem mvW_nil (pa ta sb : Int) : mvW pa ta sb [] = [] := by unfold mvW maskL; simp [nums2]

theorem chainW_b {pa ta sb : Int} {na : Nat} {La Lb : List (List Int)} (ha : La.length = 3 * na) (j : Nat) : (chainW pa ta sb La Lb).getD (3 * na + j) [] = mvW pa ta sb (Lb.getD j []) := by
  unfold chainW
  rw [List.getD_eq_getElem?_getD, List.getElem?_append_right (by omega), List.getElem?_map, ha, show 3 * na + j - 3 * na = j by omega, List.getD_eq_getElem?_getD]
  cases Lb[j]? with
  | none => exact (mvW_nil _ _ _).symm
  | some l => rfl

/-- What the specification's ChainFlows has come to while it chains: k transitions of the next flow. -/
structure Sp2 (w wr : World) (X G pn : Nat) (p1 s1 t1 p2 s2 t2 : Int) (aa ab : Option Addr) (c1 ca c2 cb : Nat) (v : Value) (k : Nat) (La Lb : List (List Int)) : Prop where
  sp : SpInv w wr X p1 s1 t1 p2 s2 t2 aa ab c1 ca c2 cb (plN p1 s2 pn) 0 v (c1 + k) ((chainW p1 t1 s2 La Lb).take (3 * (c1 + k)))
  row : wr.heap[G]? = some (.cells (cellsOf (atL p1 t1 s2 pn)) 3 (0, 0))
  far : w.heap.size + 1 + 1 < G ∧ G ≠ X

section
variable {w W wr wr' : World} {X G pn : Nat} {p1 s1 t1 p2 s2 t2 : Int} {aa ab : Option Addr} {c1 ca c2 cb : Nat} {v : Value} {k : Nat} {La Lb : List (List Int)}

theorem Sp2.grow (h : Sp2 w wr X G pn p1 s1 t1 p2 s2 t2 aa ab c1 ca c2 cb v k La Lb) (hb : Below wr.heap.size wr wr') : Sp2 w wr' X G pn p1 s1 t1 p2 s2 t2 aa ab c1 ca c2 cb v k La Lb :=
  ⟨h.sp.grow hb, keep h.row hb, h.far⟩

theorem Sp2.tab (h : Sp2 w wr X G pn p1 s1 t1 p2 s2 t2 aa ab c1 ca c2 cb v k La Lb) : Row wr (some ⟨G, 0, none⟩) pn (atL p1 t1 s2 pn) := by
  refine ⟨atL_len _ _ _ _, .inr ⟨G, 0, rfl, row_lt h.row, fun i hi => ?_⟩⟩
  rw [cell_of_row _ _ _ _ _ _ h.row, Nat.zero_add]
  unfold cellsOf
  simp [List.getElem?_map, List.getElem?_eq_getElem (show i < (atL p1 t1 s2 pn).length by rw [atL_len]; exact hi)]

theorem AtInv.start (h : AtInv w W wr X G pn pn p1 s1 t1 p2 s2 t2 aa ab c1 ca c2 cb v La) (ha : La.length = 3 * c1) : Sp2 w wr X G pn p1 s1 t1 p2 s2 t2 aa ab c1 ca c2 cb v 0 La Lb := by
  refine ⟨?_, ?_, ?_⟩
  · have e : (chainW p1 t1 s2 La Lb).take (3 * (c1 + 0)) = La := by
      unfold chainW
      rw [Nat.add_zero, List.take_append_of_le_length (by omega), List.take_of_length_le (by omega)]
    rw [e]
    exact h.sp
  · have := h.row
    rw [Nat.sub_self, List.replicate_zero, List.append_nil] at this
    exact this
  · have := h.ltX
    have := h.high
    have := h.sp.far
    omega

theorem tri_own {lo : Nat} {K : List (List Int)} (h : TriX wr lo v k K) {b : Nat} {D : Array Value} {T : TypeId} (hb : wr.heap[b]? = some (.cells D T (0, 0))) (hT : T ≠ 44) : some b = v.ownBlock → False := by
  intro e
  obtain ⟨cells, A, f, cap, h1, h2, _⟩ := h
  rcases h2.2 with ⟨e1, _⟩ | ⟨g, cp, cur, e1, _, hq, _⟩
  · rw [e1] at e; cases e
  · rw [e1] at e
    have e2 : b = g := by simpa [Value.ownBlock] using e
    subst e2
    rw [hb] at hq
    simp at hq
    exact hT hq.2

/-- One transition more. -/
theorem Sp2.push (h : Sp2 w wr X G pn p1 s1 t1 p2 s2 t2 aa ab c1 ca c2 cb v k La Lb) (ha : La.length = 3 * c1) (hb : Lb.length = 3 * c2) (hk : k < c2) {Z W : World} {v' : Value} (hZ : Below wr.heap.size wr Z) (hgr : Z.grownBy W v.ownBlock)
    (ht : TriX W (w.heap.size + 1 + 1 + 1) v' (c1 + k + 1) ((chainW p1 t1 s2 La Lb).take (3 * (c1 + k)) ++ [mvW p1 t1 s2 (Lb.getD (3 * k) []), mvW p1 t1 s2 (Lb.getD (3 * k + 1) []), mvW p1 t1 s2 (Lb.getD (3 * k + 2) [])])) :
    Sp2 w (W.setCell ⟨X, 1, none⟩ v') X G pn p1 s1 t1 p2 s2 t2 aa ab c1 ca c2 cb v' (k + 1) La Lb := by
  have hf := h.sp.far
  have hfG := h.far
  have hz := h.grow hZ
  have same : ∀ (b : Nat) (D : Array Value) (T : TypeId), Z.heap[b]? = some (.cells D T (0, 0)) → T ≠ 44 → W.heap[b]? = some (.cells D T (0, 0)) := fun b D T hb hT => (hgr.block b (row_lt hb) (tri_own hz.sp.tri hb hT)).trans hb
  have hX := same _ _ _ hz.sp.out (by decide)
  refine ⟨⟨(Below.heap_setCell _ _ _ _ (show w.heap.size ≠ X by omega)).trans (same _ _ _ hz.sp.pa (by decide)), (Below.heap_setCell _ _ _ _ (show w.heap.size + 1 ≠ X by omega)).trans (same _ _ _ hz.sp.pb (by decide)), (Below.heap_setCell _ _ _ _ (show w.heap.size + 1 + 1 ≠ X by omega)).trans (same _ _ _ hz.sp.res (by decide)), ?_, ?_, hf, ?_⟩, (Below.heap_setCell _ _ _ _ (show G ≠ X by omega)).trans (same _ _ _ hz.row (by decide)), hfG⟩
  · rw [heap_setCell_same _ _ _ _ _ _ hX]; rfl
  · rw [show c1 + (k + 1) = c1 + k + 1 by omega, take3_succ (chainW_len (na := c1) (nb := c2) ha hb) (by omega), show 3 * (c1 + k) = 3 * c1 + 3 * k by omega, show 3 * c1 + 3 * k + 1 = 3 * c1 + (3 * k + 1) by omega, show 3 * c1 + 3 * k + 2 = 3 * c1 + (3 * k + 2) by omega, chainW_b ha, chainW_b ha, chainW_b ha, ← show 3 * (c1 + k) = 3 * c1 + 3 * k by omega]
    exact ht.other hX (by decide) (by decide) 1 _
  · refine (hz.sp.bel.grown hgr hz.sp.bel.size (fun q hq => ?_)).setCell (by show _ ≤ X; omega) _
    obtain ⟨cells, A, f, cap, h1, h2, _⟩ := hz.sp.tri
    have := (h2.lt q hq).1
    omega
end
theorem sumW (l : List (List Int)) (pa ta sb : Int) : sizeL (l.map (mvW pa ta sb)) ≤ 32 * l.length := by
  induction l with
  | nil => simp [sizeL]
  | cons x xs ih =>
    have := mvW_len pa ta sb x
    unfold sizeL at ih ⊢
    simp only [List.map_cons, List.sum_cons, List.length_cons]
    omega

theorem chainW_size {pa ta sb : Int} {na nb : Nat} {La Lb : List (List Int)} (ha : sizeN na La ≤ 2000) (hb : Lb.length = 3 * nb) (hn : nb ≤ 24) : sizeN (na + nb) (chainW pa ta sb La Lb) ≤ 1048576 := by
  have := sumW Lb pa ta sb
  unfold sizeN at ha ⊢
  unfold chainW
  rw [sizeL_app]
  omega
theorem TriX.listsAt {w : World} {lo n c : Nat} {a : Option Addr} {K : List (List Int)} (h : TriX w lo (.slice a n c) n K) (hs : sizeN n K ≤ 1048576) : Lists w a (3 * n) K := by
  obtain ⟨a', c', e, hl⟩ := h.lists hs
  obtain ⟨rfl, rfl⟩ : a' = a ∧ c' = c := by simpa [eq_comm] using e
  exact hl
end Go.Proofs.Ytoijlepjnpdlkaa
