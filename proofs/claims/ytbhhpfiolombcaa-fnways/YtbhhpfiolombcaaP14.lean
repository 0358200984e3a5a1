/- Contracts that the proof stands on, one behind the other. -/
import Derived.Test.YtbhhpfiolombcaaP13
import Derived.Deep.AppendLies
/- l3Own of the specification: a net's own copy. -/
namespace Go.Proofs.Ytbhhpfiolombcaa
open Go.RowKit
set_option maxRecDepth 10000

set_option maxHeartbeats 400000 in
theorem own5_any (a : Option Addr) (n c : Nat) (xs : List Int) (w : World) (ha : Row w a n xs) (hn : n ≤ 1048576) :
    Calls Try.prog 51 #[.slice a n c] w fun e w' => ∃ a' g c', e = .returned (.slice a' n c') ∧ w.heap.size ≤ g ∧ Ob w' a' g n xs ∧ Below w.heap.size w w' := by
  obtain ⟨i0, hi, hz0, hz1, hz2⟩ := info_split2 Try.info3
  have P0 := hide (PutSt.first w)
  have HA := hide (ha.below P0.out.bel)
  have HL := hide ha.1
  clear ha
  go_enter Try.func51, Try.ntmps51
  go_wp2_with (at_builtin; refine wpList_append_any2 _ rfl (.tmp 3) (.tmp 4) 33 rfl w.heap.size 3 i0 (.int .i64 0) 1 8 Try.underlying33 hi hz0 hz1 hz2 rfl (by decide) (.slice (some ⟨w.heap.size, 0, none⟩) 0 0) 0 [] rfl P0.out.own a n c (xs.map (Value.int .i64)) rfl (by rw [List.length_map, Nat.mul_one]; exact HL.out) (fun h => by (rcases HA.out.2 with h0 | ⟨b, off, e, _⟩; exact h0; rw [h] at e; cases e)) HA.out.some_of (ints_oneCell _ _) (by unfold maxLen; omega) (by omega) (by simp) ?_; intro u1 W1 r1 r2; have P1 := hide (P0.out.step (q := n) (zs := xs) r1 r2); clear r1 r2)
  go_ret
  have P2 := P1.out
  rw [Nat.zero_add, List.nil_append] at P2
  obtain ⟨a', g, c', e, hg, ho⟩ := own_ob2 P2.own
  subst e
  exact ⟨a', g, c', rfl, hg, ho, P2.bel⟩

/-- What l3Own keeps in mind. -/
structure OwInv (w wr : World) (p : Int) (a : Option Addr) (n c : Nat) (v : Value) (k : Nat) (L : List (List Int)) : Prop where
  var : wr.heap[w.heap.size + 1 + 1]? = some (.cells #[.int .i64 p, v] 26 (0, 0))
  tri : TriX wr (w.heap.size + 1 + 1 + 1) v k (L.take (3 * k))
  bel : Below (w.heap.size + 1 + 1) ((w.alloc (.cells #[.int .i64 p, .slice a n c] 26)).alloc (.cells #[.int .i64 0, .slice none 0 0] 26)) wr

theorem OwInv.grow {w wr wr' : World} {p : Int} {a : Option Addr} {n c : Nat} {v : Value} {k : Nat} {L : List (List Int)} (h : OwInv w wr p a n c v k L) (hb : Below wr.heap.size wr wr') : OwInv w wr' p a n c v k L :=
  ⟨keep h.var hb, h.tri.grow hb, h.bel.trans (hb.mono (by have := row_lt h.var; omega))⟩

theorem take3_succ {n k : Nat} {L : List (List Int)} (hl : L.length = 3 * n) (hk : k < n) : L.take (3 * (k + 1)) = L.take (3 * k) ++ [L.getD (3 * k) [], L.getD (3 * k + 1) [], L.getD (3 * k + 2) []] := by
  have e0 : L[3 * k]? = some (L.getD (3 * k) []) := by simp [List.getElem?_eq_getElem (show 3 * k < L.length by omega)]
  have e1 : L[3 * k + 1]? = some (L.getD (3 * k + 1) []) := by simp [List.getElem?_eq_getElem (show 3 * k + 1 < L.length by omega)]
  have e2 : L[3 * k + 2]? = some (L.getD (3 * k + 2) []) := by simp [List.getElem?_eq_getElem (show 3 * k + 2 < L.length by omega)]
  rw [show 3 * (k + 1) = 3 * k + 1 + 1 + 1 by omega, List.take_add_one, List.take_add_one, List.take_add_one, e0, show 3 * k + 1 + 1 = 3 * k + 2 by omega, e1, e2]
  simp

theorem Try.size24 : (Try.prog.info? 24).map (·.size) = some 1 := by kernel_rfl

/-- How l3Own ends. -/
def O3End (p : Int) (n : Nat) (L : List (List Int)) (w : World) (e : Ending) (w' : World) : Prop :=
  ∃ v, e = .returned (.agg #[.int .i64 p, v]) ∧ TriX w' w.heap.size v n L ∧ Below w.heap.size w w'

set_option maxHeartbeats 8000000 in
theorem own3S_any (p : Int) (a : Option Addr) (n c : Nat) (L : List (List Int)) (w : World) (h : Lists w a (3 * n) L) (hs : sizeN n L ≤ 1048576) (hn : n ≤ 1048576) :
    Calls Try.prog 24 #[.agg #[.int .i64 p, .slice a n c]] w fun e w' => O3End p n L w e w' := by
  have HL := hide h
  have hs' : n + sizeL L ≤ 1048576 := hs
  have hAA := below_two w (.cells #[.int .i64 p, .slice a n c] 26) (.cells #[.int .i64 0, .slice none 0 0] 26)
  have HBB := hide hAA
  have z2 : ((w.alloc (.cells #[.int .i64 p, .slice a n c] 26)).alloc (.cells #[.int .i64 0, .slice none 0 0] 26)).heap.size = w.heap.size + 1 + 1 := by simp
  have HI0 : Hid (OwInv w (((w.alloc (.cells #[.int .i64 p, .slice a n c] 26)).alloc (.cells #[.int .i64 0, .slice none 0 0] 26)).alloc (.cells #[.int .i64 p, .slice none 0 0] 26)) p a n c (.slice none 0 0) 0 L) := by
    have hv := heap_alloc_new ((w.alloc (.cells #[.int .i64 p, .slice a n c] 26)).alloc (.cells #[.int .i64 0, .slice none 0 0] 26)) (.cells #[.int .i64 p, .slice none 0 0] 26)
    rw [z2] at hv
    exact ⟨hv, by simpa using TriX.nil _ _, (below_al _ _).mono (by rw [z2]; omega)⟩
  have HRS : Hid (((w.alloc (.cells #[.int .i64 p, .slice a n c] 26)).alloc (.cells #[.int .i64 0, .slice none 0 0] 26)).heap[w.heap.size + 1]? = some (.cells #[.int .i64 0, .slice none 0 0] 26 (0, 0))) := by
    have := heap_alloc_new (w.alloc (.cells #[.int .i64 p, .slice a n c] 26)) (.cells #[.int .i64 0, .slice none 0 0] 26)
    rw [show (w.alloc (.cells #[.int .i64 p, .slice a n c] 26)).heap.size = w.heap.size + 1 by simp] at this
    exact this
  have HZ2 := hide z2
  obtain ⟨i1, hi1, hz0, hz1, hz2⟩ := info_split2 Try.info52
  clear h hAA z2
  go_enter Try.func24, Try.ntmps24
  go_wp2_with fail
  generalize (((w.alloc (.cells #[.int .i64 p, .slice a n c] 26)).alloc (.cells #[.int .i64 0, .slice none 0 0] 26)).alloc (.cells #[.int .i64 p, .slice none 0 0] 26)) = W0 at *
  go_loopw [12] (fun i wr => ∃ k v, k ≤ n ∧ i = .int .i64 (k : Nat) ∧ Hid (OwInv w wr p a n c v k L)) (fun i _ => n - (intOf i).toNat)
  case atStart => exact ⟨0, _, Nat.zero_le _, rfl, HI0⟩
  case round =>
    obtain ⟨k, v, hk, rfl, hin⟩ := hrel
    clear HI0
    have HBW := hide (HBB.out.trans (hin.out.bel.mono (by omega)))
    by_cases hlt : k < n
    rotate_left
    · have hk' : k = n := by omega
      subst hk'
      obtain ⟨hv0, hv1⟩ := cells2 hin.out.var
      have hRr := (hin.out.bel.block (w.heap.size + 1) (by omega)).trans HRS.out
      obtain ⟨hr0, hr1⟩ := cells2 hRr
      have hf0 : wr.frozen? ⟨w.heap.size + 1, 0, none⟩ = false := frozen_of_row wr _ 0 _ _ hRr
      have hf1 : wr.frozen? ⟨w.heap.size + 1, 1, none⟩ = false := frozen_of_row wr _ 1 _ _ hRr
      have HT := hide hin.out.tri
      rw [List.take_of_length_le (by have := HL.out.1; omega)] at HT
      obtain ⟨av, cv, hev, _⟩ := HT.out.lists hs
      subst hev
      clear hin hRr
      go_wp2_with fail
      refine bodyPost_ret (v := .agg #[.int .i64 p, .slice av k cv]) (by simp [results, Try.results24, go_sem, hr0, hr1]) rfl ?_
      exact ⟨_, rfl, ((HT.out.low (by omega) 0 _).low (by omega) 1 _).lower (by omega), (HBW.out.setCell (by simp) _).setCell (by simp) _⟩
    obtain ⟨b, off, a0, l0, q0, a1, l1, q1, a2, l2, q2, rfl, hb, hr, m0, m1, m2, r0, r1, r2⟩ := (HL.out.below HBW.out).tri hlt
    obtain ⟨hx0, hx1, hx2⟩ := rangeAt_cells3 hr
    have y0 := len_le L (3 * k)
    have y1 := len_le L (3 * k + 1)
    have y2 := len_le L (3 * k + 2)
    have hm0 : l0 ≤ 1048576 := by have := r0.1; omega
    have hm1 : l1 ≤ 1048576 := by have := r1.1; omega
    have hm2 : l2 ≤ 1048576 := by have := r2.1; omega
    have hA1 := below_al wr (.cells #[.slice a0 l0 q0, .slice a1 l1 q1, .slice a2 l2 q2] 52)
    have hI1 := hin.out.grow hA1
    have HVS := hide (row_lt hin.out.var)
    have HXq := hide (heap_alloc_new wr (.cells #[.slice a0 l0 q0, .slice a1 l1 q1, .slice a2 l2 q2] 52))
    have HXN : Hid (∀ cells A f cap, Tris wr (w.heap.size + 1 + 1 + 1) v k (L.take (3 * k)) cells A f cap → some wr.heap.size = v.ownBlock → False) := fun cells A f cap ht e => by
      have := (ht.own.lt _ e.symm).2; omega
    have HQ0 := hide (r0.below hA1)
    have HQ1 := hide (r1.below hA1)
    have HQ2 := hide (r2.below hA1)
    have HSW := hide (show (wr.alloc (.cells #[.slice a0 l0 q0, .slice a1 l1 q1, .slice a2 l2 q2] 52)).heap.size = wr.heap.size + 1 by simp)
    have HTin := hide hin.out.tri
    clear hr r0 r1 r2 m0 m1 m2 y0 y1 y2 hin
    go_wp2_with fail
    clear hx0 hx1 hx2
    obtain ⟨U, hU⟩ : ∃ U, Hid (wr.alloc (.cells #[.slice a0 l0 q0, .slice a1 l1 q1, .slice a2 l2 q2] 52) = U) := ⟨_, rfl⟩
    obtain ⟨X, hX⟩ : ∃ X, Hid (wr.heap.size = X) := ⟨_, rfl⟩
    obtain ⟨cells, A, f, cap, ht⟩ := HTin.out
    have hXN := HXN.out cells A f cap ht
    have HT1 := hide (ht.grow hA1)
    rw [hU.out] at hI1 HXq HQ0 HQ1 HQ2 HSW HT1 ⊢
    rw [hX.out] at HXq HVS HSW hXN ⊢
    have HXN2 : Hid (some X = v.ownBlock → False) := hXN
    have hdr := (Below.refl U.heap.size U).drew
    have HTS := hide (HT1.out.grow hdr)
    have HV2 := hide (keep hI1.var hdr)
    have HX2 := hide (keep HXq.out hdr)
    have HR0 := hide (HQ0.out.below hdr)
    have HR1 := hide (HQ1.out.below hdr)
    have HR2 := hide (HQ2.out.below hdr)
    have HBZ := hide (show Below (w.heap.size + 1 + 1) _ U.drew from (hI1.grow hdr).bel)
    have HSS := hide (show U.drew.heap.size = X + 1 ∧ w.heap.size + 1 + 1 < X from ⟨HSW.out, HVS.out⟩)
    have HXV := hide (show X ≠ w.heap.size + 1 + 1 by have := HVS.out; omega)
    clear HXN hA1 hI1 HXq HQ0 HQ1 HQ2 HTin ht hXN HT1 hdr hU hX
    rename Hid (some X = v.ownBlock → False) => HXN
    refine wp_region_held_drew (S := fun W => W.cell? ⟨X, 0, none⟩ = some (.slice a0 l0 q0) ∧ W.cell? ⟨X, 1, none⟩ = some (.slice a1 l1 q1) ∧ W.cell? ⟨X, 2, none⟩ = some (.slice a2 l2 q2)) (by kernel_rfl) ?_ (fun hHeld => ?_)
    · exact cells3W HX2.out
    refine take_yes (i := 0) (some 16) (.pointer (some ⟨w.heap.size + 1 + 1, 1, none⟩)) rfl rfl (by kernel_rfl) (by kernel_rfl) (by kernel_rfl) (fun _ _ _ h => h) (by rfl) ?_ (by assumption) ?_
    · intro W' hSw
      obtain ⟨hz0, hz1, hz2⟩ := hSw
      go_simp
    simp only [Act.put, List.setIfInBounds_toArray, List.set_cons_zero, List.set_cons_succ]
    refine take_yes (i := 2) (some 18) (.pointer (some ⟨X, 0, none⟩)) rfl rfl (by kernel_rfl) (by kernel_rfl) (by kernel_rfl) (fun _ _ _ h => h) (by rfl) ?_ (by assumption) ?_
    · intro W' hSw
      obtain ⟨hz0, hz1, hz2⟩ := hSw
      go_simp
    simp only [Act.put, List.setIfInBounds_toArray, List.set_cons_zero, List.set_cons_succ]
    refine take_yes (i := 3) (some 19) (.slice a0 l0 q0) rfl rfl (by kernel_rfl) (by kernel_rfl) (by kernel_rfl) (fun _ _ _ h => h) (by rfl) ?_ (by assumption) ?_
    · intro W' hSw
      obtain ⟨hz0, hz1, hz2⟩ := hSw
      go_simp
    simp only [Act.put, List.setIfInBounds_toArray, List.set_cons_zero, List.set_cons_succ]
    refine take_yes (i := 5) (some 21) (.pointer (some ⟨X, 1, none⟩)) rfl rfl (by kernel_rfl) (by kernel_rfl) (by kernel_rfl) (fun _ _ _ h => h) (by rfl) ?_ (by assumption) ?_
    · intro W' hSw
      obtain ⟨hz0, hz1, hz2⟩ := hSw
      go_simp
    simp only [Act.put, List.setIfInBounds_toArray, List.set_cons_zero, List.set_cons_succ]
    refine take_yes (i := 6) (some 22) (.slice a1 l1 q1) rfl rfl (by kernel_rfl) (by kernel_rfl) (by kernel_rfl) (fun _ _ _ h => h) (by rfl) ?_ (by assumption) ?_
    · intro W' hSw
      obtain ⟨hz0, hz1, hz2⟩ := hSw
      go_simp
    simp only [Act.put, List.setIfInBounds_toArray, List.set_cons_zero, List.set_cons_succ]
    refine take_yes (i := 8) (some 24) (.pointer (some ⟨X, 2, none⟩)) rfl rfl (by kernel_rfl) (by kernel_rfl) (by kernel_rfl) (fun _ _ _ h => h) (by rfl) ?_ (by assumption) ?_
    · intro W' hSw
      obtain ⟨hz0, hz1, hz2⟩ := hSw
      go_simp
    simp only [Act.put, List.setIfInBounds_toArray, List.set_cons_zero, List.set_cons_succ]
    refine take_yes (i := 9) (some 25) (.slice a2 l2 q2) rfl rfl (by kernel_rfl) (by kernel_rfl) (by kernel_rfl) (fun _ _ _ h => h) (by rfl) ?_ (by assumption) ?_
    · intro W' hSw
      obtain ⟨hz0, hz1, hz2⟩ := hSw
      go_simp
    simp only [Act.put, List.setIfInBounds_toArray, List.set_cons_zero, List.set_cons_succ]
    refine wpAnyH_ready (rs := [1, 4]) (by kernel_rfl) (by simp) (AllReadyH.cons rfl (fun K hK => ?_) (AllReadyH.cons rfl (fun K hK => ?_) AllReadyH.nil))
    · refine step_valW (w' := U.drew) (by rfl) (some 17) rfl v (by have hv := (cells2 (HV2.out)).2; go_simp) (hK.out _ _ ?_ (fun hHeld => ?_))
      · exact cells3W (HX2.out)
      simp only [Act.put, List.setIfInBounds_toArray, List.set_cons_zero, List.set_cons_succ]
      refine wpAnyH_ready (rs := [4]) (by kernel_rfl) (by simp) (AllReadyH.cons rfl (fun K hK => ?_) AllReadyH.nil)
      refine step_callWd (some 20) rfl (by rfl) 51 _ _ _ rfl Try.func51 (by decide) rfl #[.slice a0 l0 q0] (mapw1 _ _ _ rfl) _ (own5_any a0 l0 q0 _ _ (HR0.out) hm0) ?_
      rintro e v1 ⟨e0, g0, d0, rfl, hg0, ho0, hc1⟩
      refine ⟨_, rfl, hK.out _ _ ?_ (fun hHeld => ?_)⟩
      · exact cells3W (keep HX2.out hc1)
      simp only [Act.put, List.setIfInBounds_toArray, List.set_cons_zero, List.set_cons_succ]
      refine wpAnyH_ready (rs := [7]) (by kernel_rfl) (by simp) (AllReadyH.cons rfl (fun K hK => ?_) AllReadyH.nil)
      refine step_callWd (some 23) rfl (by rfl) 51 _ _ _ rfl Try.func51 (by decide) rfl #[.slice a1 l1 q1] (mapw1 _ _ _ rfl) _ (own5_any a1 l1 q1 _ _ ((HR1.out).below hc1) hm1) ?_
      rintro e v2 ⟨e1, g1, d1, rfl, hg1, ho1, hc2⟩
      refine ⟨_, rfl, hK.out _ _ ?_ (fun hHeld => ?_)⟩
      · exact cells3W (keep (keep HX2.out hc1) hc2)
      simp only [Act.put, List.setIfInBounds_toArray, List.set_cons_zero, List.set_cons_succ]
      refine wpAnyH_ready (rs := [10]) (by kernel_rfl) (by simp) (AllReadyH.cons rfl (fun K hK => ?_) AllReadyH.nil)
      refine step_callWd (some 26) rfl (by rfl) 51 _ _ _ rfl Try.func51 (by decide) rfl #[.slice a2 l2 q2] (mapw1 _ _ _ rfl) _ (own5_any a2 l2 q2 _ _ (((HR2.out).below hc1).below hc2) hm2) ?_
      rintro e v3 ⟨e2, g2, d2, rfl, hg2, ho2, hc3⟩
      refine ⟨_, rfl, hK.out _ _ ?_ (fun hHeld => ?_)⟩
      · exact cells3W (keep (keep (keep HX2.out hc1) hc2) hc3)
      simp only [Act.put, List.setIfInBounds_toArray, List.set_cons_zero, List.set_cons_succ]
      refine take_yes (i := 11) (some 27) (.agg #[.slice e0 l0 d0, .slice e1 l1 d1, .slice e2 l2 d2]) rfl rfl (by kernel_rfl) (by kernel_rfl) (by kernel_rfl) (fun _ _ _ h => h) (by rfl) ?_ (by assumption) ?_
      · intro W' hSw
        obtain ⟨hz0, hz1, hz2⟩ := hSw
        go_simp
      simp only [Act.put, List.setIfInBounds_toArray, List.set_cons_zero, List.set_cons_succ]
      refine wpAnyH_ready (rs := [12]) (by kernel_rfl) (by simp) (AllReadyH.cons rfl (fun K hK => ?_) AllReadyH.nil)
      have hcA := below_al v3 (.cells #[.slice e0 l0 d0, .slice e1 l1 d1, .slice e2 l2 d2] 52)
      refine step_valW (w' := v3.alloc (.cells #[.slice e0 l0 d0, .slice e1 l1 d1, .slice e2 l2 d2] 52)) (by rfl) (some 28) rfl (.slice (some ⟨v3.heap.size, 0, none⟩) 1 1) (by go_simp) (hK.out _ _ ?_ (fun hHeld => ?_))
      · exact cells3W (keep (keep (keep (keep HX2.out hc1) hc2) hc3) hcA)
      simp only [Act.put, List.setIfInBounds_toArray, List.set_cons_zero, List.set_cons_succ]
      have HT4 := hide ((((HTS.out.grow hc1).grow hc2).grow hc3).grow hcA)
      have HNW := hide (news3X v3 (.slice e0 l0 d0) (.slice e1 l1 d1) (.slice e2 l2 d2))
      have hss := HSS.out
      have hy1 := hc1.size
      have hy2 := hc2.size
      have hy3 := hc3.size
      refine wpAnyH_ready (rs := [13]) (by kernel_rfl) (by simp) (AllReadyH.cons rfl (fun K hK => ?_) AllReadyH.nil)
      refine step_appWd (some 29) rfl (by rfl) (.tmp 17) (.tmp 28) 24 (by rfl) (w.heap.size + 1 + 1 + 1) 52 i1 _ 3 72 Try.underlying24 hi1 hz0 hz1 hz2 (by rfl) (by decide) v k cells (by rfl) HT4.out.own ⟨v3.heap.size, 0, none⟩ 1 1 [.slice e0 l0 d0, .slice e1 l1 d1, .slice e2 l2 d2] (by rfl) (by rfl) HNW.out (by simp [Value.oneCell']) (by decide) (by unfold maxLen; omega) (by omega) (by simp; omega) (v3.heap.size + 1) (by simp) ?_
      intro gg cp W hown hgr hlies hglt
      have hVne : ∀ q, v.ownBlock = some q → w.heap.size + 1 + 1 + 1 ≤ q := fun q hq => (HT4.out.own.lt q hq).1
      have hX4 := keep (keep (keep (keep HX2.out hc1) hc2) hc3) hcA
      have hV4 := keep (keep (keep (keep HV2.out hc1) hc2) hc3) hcA
      have hXW := (hgr.block X (row_lt hX4) (fun e => HXN.out e)).trans hX4
      have hVW := (hgr.block (w.heap.size + 1 + 1) (row_lt hV4) (fun e => by have := hVne _ e.symm; omega)).trans hV4
      refine hK.out _ _ ?_ (fun hHeld => ?_)
      · exact cells3W hXW
      simp only [Act.put, List.setIfInBounds_toArray, List.set_cons_zero, List.set_cons_succ]
      refine take_yes (i := 14) (some 30) (.pointer (some ⟨w.heap.size + 1 + 1, 1, none⟩)) rfl rfl (by kernel_rfl) (by kernel_rfl) (by kernel_rfl) (fun _ _ _ h => h) (by rfl) ?_ (by assumption) ?_
      · intro W' hSw
        obtain ⟨hz0, hz1, hz2⟩ := hSw
        go_simp
      simp only [Act.put, List.setIfInBounds_toArray, List.set_cons_zero, List.set_cons_succ]
      have hXV : X ≠ w.heap.size + 1 + 1 := HXV.out
      refine store_one_next (i := 15) rfl rfl (by kernel_rfl) (by rfl) 24 _ _ rfl (w.heap.size + 1 + 1) 1 (some ⟨gg, 0, none⟩) (k + 1) cp rfl rfl #[.int .i64 p, v] 26 hVW (by simp) Try.size24 ?_ (fun hHeld => ?_)
      · exact cells3W ((Below.heap_setCell _ _ _ _ hXV).trans hXW)
      refine wpAnyH_done (by kernel_rfl) ?_ _
      have hpush := HTS.out.push (c0 := d0) (c1 := d1) (c2 := d2) (hc1.trans ((hc2.trans ((hc3.trans (hcA.mono hc3.size)).mono hc2.size)).mono hc1.size)) (by omega) (((ho0.grow hc2).grow hc3).grow hcA) ((ho1.grow hc3).grow hcA) (ho2.grow hcA) (fun _ => hg0) (fun _ => by omega) (fun _ => by omega) (fun hx _ => by have := ho0.ltX hx; omega) (fun hx _ => by have := ho0.ltX hx; omega) (fun hx _ => by have := ho1.ltX hx; omega) hown hgr (by simpa using hlies)
      have HI3 : Hid (OwInv w (W.setCell ⟨w.heap.size + 1 + 1, 1, none⟩ (.slice (some ⟨gg, 0, none⟩) (k + 1) cp)) p (some ⟨b, off, none⟩) n c (.slice (some ⟨gg, 0, none⟩) (k + 1) cp) (k + 1) L) := by
        refine ⟨by rw [heap_setCell_same _ _ _ _ _ _ hVW]; rfl, ?_, ?_⟩
        · rw [take3_succ HL.out.1 hlt]; exact hpush.low (by omega) 1 _
        · exact (((((HBZ.out.trans (hc1.mono (by omega))).trans (hc2.mono (by omega))).trans (hc3.mono (by omega))).trans (hcA.mono (by omega))).grown hgr (by first | omega | (simp; omega)) (fun q hq => by have := hVne q hq; omega)).setCell (Nat.le_refl _) _
      clear hown hgr hlies hglt hpush hXW hVW hX4 hV4 ho0 ho1 ho2 hg0 hg1 hg2 hc1 hc2 hc3 hcA hHeld HT4 HNW hVne hss hy1 hy2 hy3
      go_wp2_with fail
      go_roundw
      case rel => exact ⟨k + 1, _, by omega, by go_num, HI3⟩
      case measure => simp [intOf]; omega
    · refine step_callWd (some 20) rfl (by rfl) 51 _ _ _ rfl Try.func51 (by decide) rfl #[.slice a0 l0 q0] (mapw1 _ _ _ rfl) _ (own5_any a0 l0 q0 _ _ (HR0.out) hm0) ?_
      rintro e v1 ⟨e0, g0, d0, rfl, hg0, ho0, hc1⟩
      refine ⟨_, rfl, hK.out _ _ ?_ (fun hHeld => ?_)⟩
      · exact cells3W (keep HX2.out hc1)
      simp only [Act.put, List.setIfInBounds_toArray, List.set_cons_zero, List.set_cons_succ]
      refine wpAnyH_ready (rs := [1, 7]) (by kernel_rfl) (by simp) (AllReadyH.cons rfl (fun K hK => ?_) (AllReadyH.cons rfl (fun K hK => ?_) AllReadyH.nil))
      · refine step_valW (w' := v1) (by rfl) (some 17) rfl v (by have hv := (cells2 (keep HV2.out hc1)).2; go_simp) (hK.out _ _ ?_ (fun hHeld => ?_))
        · exact cells3W (keep HX2.out hc1)
        simp only [Act.put, List.setIfInBounds_toArray, List.set_cons_zero, List.set_cons_succ]
        refine wpAnyH_ready (rs := [7]) (by kernel_rfl) (by simp) (AllReadyH.cons rfl (fun K hK => ?_) AllReadyH.nil)
        refine step_callWd (some 23) rfl (by rfl) 51 _ _ _ rfl Try.func51 (by decide) rfl #[.slice a1 l1 q1] (mapw1 _ _ _ rfl) _ (own5_any a1 l1 q1 _ _ ((HR1.out).below hc1) hm1) ?_
        rintro e v2 ⟨e1, g1, d1, rfl, hg1, ho1, hc2⟩
        refine ⟨_, rfl, hK.out _ _ ?_ (fun hHeld => ?_)⟩
        · exact cells3W (keep (keep HX2.out hc1) hc2)
        simp only [Act.put, List.setIfInBounds_toArray, List.set_cons_zero, List.set_cons_succ]
        refine wpAnyH_ready (rs := [10]) (by kernel_rfl) (by simp) (AllReadyH.cons rfl (fun K hK => ?_) AllReadyH.nil)
        refine step_callWd (some 26) rfl (by rfl) 51 _ _ _ rfl Try.func51 (by decide) rfl #[.slice a2 l2 q2] (mapw1 _ _ _ rfl) _ (own5_any a2 l2 q2 _ _ (((HR2.out).below hc1).below hc2) hm2) ?_
        rintro e v3 ⟨e2, g2, d2, rfl, hg2, ho2, hc3⟩
        refine ⟨_, rfl, hK.out _ _ ?_ (fun hHeld => ?_)⟩
        · exact cells3W (keep (keep (keep HX2.out hc1) hc2) hc3)
        simp only [Act.put, List.setIfInBounds_toArray, List.set_cons_zero, List.set_cons_succ]
        refine take_yes (i := 11) (some 27) (.agg #[.slice e0 l0 d0, .slice e1 l1 d1, .slice e2 l2 d2]) rfl rfl (by kernel_rfl) (by kernel_rfl) (by kernel_rfl) (fun _ _ _ h => h) (by rfl) ?_ (by assumption) ?_
        · intro W' hSw
          obtain ⟨hz0, hz1, hz2⟩ := hSw
          go_simp
        simp only [Act.put, List.setIfInBounds_toArray, List.set_cons_zero, List.set_cons_succ]
        refine wpAnyH_ready (rs := [12]) (by kernel_rfl) (by simp) (AllReadyH.cons rfl (fun K hK => ?_) AllReadyH.nil)
        have hcA := below_al v3 (.cells #[.slice e0 l0 d0, .slice e1 l1 d1, .slice e2 l2 d2] 52)
        refine step_valW (w' := v3.alloc (.cells #[.slice e0 l0 d0, .slice e1 l1 d1, .slice e2 l2 d2] 52)) (by rfl) (some 28) rfl (.slice (some ⟨v3.heap.size, 0, none⟩) 1 1) (by go_simp) (hK.out _ _ ?_ (fun hHeld => ?_))
        · exact cells3W (keep (keep (keep (keep HX2.out hc1) hc2) hc3) hcA)
        simp only [Act.put, List.setIfInBounds_toArray, List.set_cons_zero, List.set_cons_succ]
        have HT4 := hide ((((HTS.out.grow hc1).grow hc2).grow hc3).grow hcA)
        have HNW := hide (news3X v3 (.slice e0 l0 d0) (.slice e1 l1 d1) (.slice e2 l2 d2))
        have hss := HSS.out
        have hy1 := hc1.size
        have hy2 := hc2.size
        have hy3 := hc3.size
        refine wpAnyH_ready (rs := [13]) (by kernel_rfl) (by simp) (AllReadyH.cons rfl (fun K hK => ?_) AllReadyH.nil)
        refine step_appWd (some 29) rfl (by rfl) (.tmp 17) (.tmp 28) 24 (by rfl) (w.heap.size + 1 + 1 + 1) 52 i1 _ 3 72 Try.underlying24 hi1 hz0 hz1 hz2 (by rfl) (by decide) v k cells (by rfl) HT4.out.own ⟨v3.heap.size, 0, none⟩ 1 1 [.slice e0 l0 d0, .slice e1 l1 d1, .slice e2 l2 d2] (by rfl) (by rfl) HNW.out (by simp [Value.oneCell']) (by decide) (by unfold maxLen; omega) (by omega) (by simp; omega) (v3.heap.size + 1) (by simp) ?_
        intro gg cp W hown hgr hlies hglt
        have hVne : ∀ q, v.ownBlock = some q → w.heap.size + 1 + 1 + 1 ≤ q := fun q hq => (HT4.out.own.lt q hq).1
        have hX4 := keep (keep (keep (keep HX2.out hc1) hc2) hc3) hcA
        have hV4 := keep (keep (keep (keep HV2.out hc1) hc2) hc3) hcA
        have hXW := (hgr.block X (row_lt hX4) (fun e => HXN.out e)).trans hX4
        have hVW := (hgr.block (w.heap.size + 1 + 1) (row_lt hV4) (fun e => by have := hVne _ e.symm; omega)).trans hV4
        refine hK.out _ _ ?_ (fun hHeld => ?_)
        · exact cells3W hXW
        simp only [Act.put, List.setIfInBounds_toArray, List.set_cons_zero, List.set_cons_succ]
        refine take_yes (i := 14) (some 30) (.pointer (some ⟨w.heap.size + 1 + 1, 1, none⟩)) rfl rfl (by kernel_rfl) (by kernel_rfl) (by kernel_rfl) (fun _ _ _ h => h) (by rfl) ?_ (by assumption) ?_
        · intro W' hSw
          obtain ⟨hz0, hz1, hz2⟩ := hSw
          go_simp
        simp only [Act.put, List.setIfInBounds_toArray, List.set_cons_zero, List.set_cons_succ]
        have hXV : X ≠ w.heap.size + 1 + 1 := HXV.out
        refine store_one_next (i := 15) rfl rfl (by kernel_rfl) (by rfl) 24 _ _ rfl (w.heap.size + 1 + 1) 1 (some ⟨gg, 0, none⟩) (k + 1) cp rfl rfl #[.int .i64 p, v] 26 hVW (by simp) Try.size24 ?_ (fun hHeld => ?_)
        · exact cells3W ((Below.heap_setCell _ _ _ _ hXV).trans hXW)
        refine wpAnyH_done (by kernel_rfl) ?_ _
        have hpush := HTS.out.push (c0 := d0) (c1 := d1) (c2 := d2) (hc1.trans ((hc2.trans ((hc3.trans (hcA.mono hc3.size)).mono hc2.size)).mono hc1.size)) (by omega) (((ho0.grow hc2).grow hc3).grow hcA) ((ho1.grow hc3).grow hcA) (ho2.grow hcA) (fun _ => hg0) (fun _ => by omega) (fun _ => by omega) (fun hx _ => by have := ho0.ltX hx; omega) (fun hx _ => by have := ho0.ltX hx; omega) (fun hx _ => by have := ho1.ltX hx; omega) hown hgr (by simpa using hlies)
        have HI3 : Hid (OwInv w (W.setCell ⟨w.heap.size + 1 + 1, 1, none⟩ (.slice (some ⟨gg, 0, none⟩) (k + 1) cp)) p (some ⟨b, off, none⟩) n c (.slice (some ⟨gg, 0, none⟩) (k + 1) cp) (k + 1) L) := by
          refine ⟨by rw [heap_setCell_same _ _ _ _ _ _ hVW]; rfl, ?_, ?_⟩
          · rw [take3_succ HL.out.1 hlt]; exact hpush.low (by omega) 1 _
          · exact (((((HBZ.out.trans (hc1.mono (by omega))).trans (hc2.mono (by omega))).trans (hc3.mono (by omega))).trans (hcA.mono (by omega))).grown hgr (by first | omega | (simp; omega)) (fun q hq => by have := hVne q hq; omega)).setCell (Nat.le_refl _) _
        clear hown hgr hlies hglt hpush hXW hVW hX4 hV4 ho0 ho1 ho2 hg0 hg1 hg2 hc1 hc2 hc3 hcA hHeld HT4 HNW hVne hss hy1 hy2 hy3
        go_wp2_with fail
        go_roundw
        case rel => exact ⟨k + 1, _, by omega, by go_num, HI3⟩
        case measure => simp [intOf]; omega
      · refine step_callWd (some 23) rfl (by rfl) 51 _ _ _ rfl Try.func51 (by decide) rfl #[.slice a1 l1 q1] (mapw1 _ _ _ rfl) _ (own5_any a1 l1 q1 _ _ ((HR1.out).below hc1) hm1) ?_
        rintro e v2 ⟨e1, g1, d1, rfl, hg1, ho1, hc2⟩
        refine ⟨_, rfl, hK.out _ _ ?_ (fun hHeld => ?_)⟩
        · exact cells3W (keep (keep HX2.out hc1) hc2)
        simp only [Act.put, List.setIfInBounds_toArray, List.set_cons_zero, List.set_cons_succ]
        refine wpAnyH_ready (rs := [1, 10]) (by kernel_rfl) (by simp) (AllReadyH.cons rfl (fun K hK => ?_) (AllReadyH.cons rfl (fun K hK => ?_) AllReadyH.nil))
        · refine step_valW (w' := v2) (by rfl) (some 17) rfl v (by have hv := (cells2 (keep (keep HV2.out hc1) hc2)).2; go_simp) (hK.out _ _ ?_ (fun hHeld => ?_))
          · exact cells3W (keep (keep HX2.out hc1) hc2)
          simp only [Act.put, List.setIfInBounds_toArray, List.set_cons_zero, List.set_cons_succ]
          refine wpAnyH_ready (rs := [10]) (by kernel_rfl) (by simp) (AllReadyH.cons rfl (fun K hK => ?_) AllReadyH.nil)
          refine step_callWd (some 26) rfl (by rfl) 51 _ _ _ rfl Try.func51 (by decide) rfl #[.slice a2 l2 q2] (mapw1 _ _ _ rfl) _ (own5_any a2 l2 q2 _ _ (((HR2.out).below hc1).below hc2) hm2) ?_
          rintro e v3 ⟨e2, g2, d2, rfl, hg2, ho2, hc3⟩
          refine ⟨_, rfl, hK.out _ _ ?_ (fun hHeld => ?_)⟩
          · exact cells3W (keep (keep (keep HX2.out hc1) hc2) hc3)
          simp only [Act.put, List.setIfInBounds_toArray, List.set_cons_zero, List.set_cons_succ]
          refine take_yes (i := 11) (some 27) (.agg #[.slice e0 l0 d0, .slice e1 l1 d1, .slice e2 l2 d2]) rfl rfl (by kernel_rfl) (by kernel_rfl) (by kernel_rfl) (fun _ _ _ h => h) (by rfl) ?_ (by assumption) ?_
          · intro W' hSw
            obtain ⟨hz0, hz1, hz2⟩ := hSw
            go_simp
          simp only [Act.put, List.setIfInBounds_toArray, List.set_cons_zero, List.set_cons_succ]
          refine wpAnyH_ready (rs := [12]) (by kernel_rfl) (by simp) (AllReadyH.cons rfl (fun K hK => ?_) AllReadyH.nil)
          have hcA := below_al v3 (.cells #[.slice e0 l0 d0, .slice e1 l1 d1, .slice e2 l2 d2] 52)
          refine step_valW (w' := v3.alloc (.cells #[.slice e0 l0 d0, .slice e1 l1 d1, .slice e2 l2 d2] 52)) (by rfl) (some 28) rfl (.slice (some ⟨v3.heap.size, 0, none⟩) 1 1) (by go_simp) (hK.out _ _ ?_ (fun hHeld => ?_))
          · exact cells3W (keep (keep (keep (keep HX2.out hc1) hc2) hc3) hcA)
          simp only [Act.put, List.setIfInBounds_toArray, List.set_cons_zero, List.set_cons_succ]
          have HT4 := hide ((((HTS.out.grow hc1).grow hc2).grow hc3).grow hcA)
          have HNW := hide (news3X v3 (.slice e0 l0 d0) (.slice e1 l1 d1) (.slice e2 l2 d2))
          have hss := HSS.out
          have hy1 := hc1.size
          have hy2 := hc2.size
          have hy3 := hc3.size
          refine wpAnyH_ready (rs := [13]) (by kernel_rfl) (by simp) (AllReadyH.cons rfl (fun K hK => ?_) AllReadyH.nil)
          refine step_appWd (some 29) rfl (by rfl) (.tmp 17) (.tmp 28) 24 (by rfl) (w.heap.size + 1 + 1 + 1) 52 i1 _ 3 72 Try.underlying24 hi1 hz0 hz1 hz2 (by rfl) (by decide) v k cells (by rfl) HT4.out.own ⟨v3.heap.size, 0, none⟩ 1 1 [.slice e0 l0 d0, .slice e1 l1 d1, .slice e2 l2 d2] (by rfl) (by rfl) HNW.out (by simp [Value.oneCell']) (by decide) (by unfold maxLen; omega) (by omega) (by simp; omega) (v3.heap.size + 1) (by simp) ?_
          intro gg cp W hown hgr hlies hglt
          have hVne : ∀ q, v.ownBlock = some q → w.heap.size + 1 + 1 + 1 ≤ q := fun q hq => (HT4.out.own.lt q hq).1
          have hX4 := keep (keep (keep (keep HX2.out hc1) hc2) hc3) hcA
          have hV4 := keep (keep (keep (keep HV2.out hc1) hc2) hc3) hcA
          have hXW := (hgr.block X (row_lt hX4) (fun e => HXN.out e)).trans hX4
          have hVW := (hgr.block (w.heap.size + 1 + 1) (row_lt hV4) (fun e => by have := hVne _ e.symm; omega)).trans hV4
          refine hK.out _ _ ?_ (fun hHeld => ?_)
          · exact cells3W hXW
          simp only [Act.put, List.setIfInBounds_toArray, List.set_cons_zero, List.set_cons_succ]
          refine take_yes (i := 14) (some 30) (.pointer (some ⟨w.heap.size + 1 + 1, 1, none⟩)) rfl rfl (by kernel_rfl) (by kernel_rfl) (by kernel_rfl) (fun _ _ _ h => h) (by rfl) ?_ (by assumption) ?_
          · intro W' hSw
            obtain ⟨hz0, hz1, hz2⟩ := hSw
            go_simp
          simp only [Act.put, List.setIfInBounds_toArray, List.set_cons_zero, List.set_cons_succ]
          have hXV : X ≠ w.heap.size + 1 + 1 := HXV.out
          refine store_one_next (i := 15) rfl rfl (by kernel_rfl) (by rfl) 24 _ _ rfl (w.heap.size + 1 + 1) 1 (some ⟨gg, 0, none⟩) (k + 1) cp rfl rfl #[.int .i64 p, v] 26 hVW (by simp) Try.size24 ?_ (fun hHeld => ?_)
          · exact cells3W ((Below.heap_setCell _ _ _ _ hXV).trans hXW)
          refine wpAnyH_done (by kernel_rfl) ?_ _
          have hpush := HTS.out.push (c0 := d0) (c1 := d1) (c2 := d2) (hc1.trans ((hc2.trans ((hc3.trans (hcA.mono hc3.size)).mono hc2.size)).mono hc1.size)) (by omega) (((ho0.grow hc2).grow hc3).grow hcA) ((ho1.grow hc3).grow hcA) (ho2.grow hcA) (fun _ => hg0) (fun _ => by omega) (fun _ => by omega) (fun hx _ => by have := ho0.ltX hx; omega) (fun hx _ => by have := ho0.ltX hx; omega) (fun hx _ => by have := ho1.ltX hx; omega) hown hgr (by simpa using hlies)
          have HI3 : Hid (OwInv w (W.setCell ⟨w.heap.size + 1 + 1, 1, none⟩ (.slice (some ⟨gg, 0, none⟩) (k + 1) cp)) p (some ⟨b, off, none⟩) n c (.slice (some ⟨gg, 0, none⟩) (k + 1) cp) (k + 1) L) := by
            refine ⟨by rw [heap_setCell_same _ _ _ _ _ _ hVW]; rfl, ?_, ?_⟩
            · rw [take3_succ HL.out.1 hlt]; exact hpush.low (by omega) 1 _
            · exact (((((HBZ.out.trans (hc1.mono (by omega))).trans (hc2.mono (by omega))).trans (hc3.mono (by omega))).trans (hcA.mono (by omega))).grown hgr (by first | omega | (simp; omega)) (fun q hq => by have := hVne q hq; omega)).setCell (Nat.le_refl _) _
          clear hown hgr hlies hglt hpush hXW hVW hX4 hV4 ho0 ho1 ho2 hg0 hg1 hg2 hc1 hc2 hc3 hcA hHeld HT4 HNW hVne hss hy1 hy2 hy3
          go_wp2_with fail
          go_roundw
          case rel => exact ⟨k + 1, _, by omega, by go_num, HI3⟩
          case measure => simp [intOf]; omega
        · refine step_callWd (some 26) rfl (by rfl) 51 _ _ _ rfl Try.func51 (by decide) rfl #[.slice a2 l2 q2] (mapw1 _ _ _ rfl) _ (own5_any a2 l2 q2 _ _ (((HR2.out).below hc1).below hc2) hm2) ?_
          rintro e v3 ⟨e2, g2, d2, rfl, hg2, ho2, hc3⟩
          refine ⟨_, rfl, hK.out _ _ ?_ (fun hHeld => ?_)⟩
          · exact cells3W (keep (keep (keep HX2.out hc1) hc2) hc3)
          simp only [Act.put, List.setIfInBounds_toArray, List.set_cons_zero, List.set_cons_succ]
          refine take_yes (i := 11) (some 27) (.agg #[.slice e0 l0 d0, .slice e1 l1 d1, .slice e2 l2 d2]) rfl rfl (by kernel_rfl) (by kernel_rfl) (by kernel_rfl) (fun _ _ _ h => h) (by rfl) ?_ (by assumption) ?_
          · intro W' hSw
            obtain ⟨hz0, hz1, hz2⟩ := hSw
            go_simp
          simp only [Act.put, List.setIfInBounds_toArray, List.set_cons_zero, List.set_cons_succ]
          refine wpAnyH_ready (rs := [1, 12]) (by kernel_rfl) (by simp) (AllReadyH.cons rfl (fun K hK => ?_) (AllReadyH.cons rfl (fun K hK => ?_) AllReadyH.nil))
          · refine step_valW (w' := v3) (by rfl) (some 17) rfl v (by have hv := (cells2 (keep (keep (keep HV2.out hc1) hc2) hc3)).2; go_simp) (hK.out _ _ ?_ (fun hHeld => ?_))
            · exact cells3W (keep (keep (keep HX2.out hc1) hc2) hc3)
            simp only [Act.put, List.setIfInBounds_toArray, List.set_cons_zero, List.set_cons_succ]
            refine wpAnyH_ready (rs := [12]) (by kernel_rfl) (by simp) (AllReadyH.cons rfl (fun K hK => ?_) AllReadyH.nil)
            have hcA := below_al v3 (.cells #[.slice e0 l0 d0, .slice e1 l1 d1, .slice e2 l2 d2] 52)
            refine step_valW (w' := v3.alloc (.cells #[.slice e0 l0 d0, .slice e1 l1 d1, .slice e2 l2 d2] 52)) (by rfl) (some 28) rfl (.slice (some ⟨v3.heap.size, 0, none⟩) 1 1) (by go_simp) (hK.out _ _ ?_ (fun hHeld => ?_))
            · exact cells3W (keep (keep (keep (keep HX2.out hc1) hc2) hc3) hcA)
            simp only [Act.put, List.setIfInBounds_toArray, List.set_cons_zero, List.set_cons_succ]
            have HT4 := hide ((((HTS.out.grow hc1).grow hc2).grow hc3).grow hcA)
            have HNW := hide (news3X v3 (.slice e0 l0 d0) (.slice e1 l1 d1) (.slice e2 l2 d2))
            have hss := HSS.out
            have hy1 := hc1.size
            have hy2 := hc2.size
            have hy3 := hc3.size
            refine wpAnyH_ready (rs := [13]) (by kernel_rfl) (by simp) (AllReadyH.cons rfl (fun K hK => ?_) AllReadyH.nil)
            refine step_appWd (some 29) rfl (by rfl) (.tmp 17) (.tmp 28) 24 (by rfl) (w.heap.size + 1 + 1 + 1) 52 i1 _ 3 72 Try.underlying24 hi1 hz0 hz1 hz2 (by rfl) (by decide) v k cells (by rfl) HT4.out.own ⟨v3.heap.size, 0, none⟩ 1 1 [.slice e0 l0 d0, .slice e1 l1 d1, .slice e2 l2 d2] (by rfl) (by rfl) HNW.out (by simp [Value.oneCell']) (by decide) (by unfold maxLen; omega) (by omega) (by simp; omega) (v3.heap.size + 1) (by simp) ?_
            intro gg cp W hown hgr hlies hglt
            have hVne : ∀ q, v.ownBlock = some q → w.heap.size + 1 + 1 + 1 ≤ q := fun q hq => (HT4.out.own.lt q hq).1
            have hX4 := keep (keep (keep (keep HX2.out hc1) hc2) hc3) hcA
            have hV4 := keep (keep (keep (keep HV2.out hc1) hc2) hc3) hcA
            have hXW := (hgr.block X (row_lt hX4) (fun e => HXN.out e)).trans hX4
            have hVW := (hgr.block (w.heap.size + 1 + 1) (row_lt hV4) (fun e => by have := hVne _ e.symm; omega)).trans hV4
            refine hK.out _ _ ?_ (fun hHeld => ?_)
            · exact cells3W hXW
            simp only [Act.put, List.setIfInBounds_toArray, List.set_cons_zero, List.set_cons_succ]
            refine take_yes (i := 14) (some 30) (.pointer (some ⟨w.heap.size + 1 + 1, 1, none⟩)) rfl rfl (by kernel_rfl) (by kernel_rfl) (by kernel_rfl) (fun _ _ _ h => h) (by rfl) ?_ (by assumption) ?_
            · intro W' hSw
              obtain ⟨hz0, hz1, hz2⟩ := hSw
              go_simp
            simp only [Act.put, List.setIfInBounds_toArray, List.set_cons_zero, List.set_cons_succ]
            have hXV : X ≠ w.heap.size + 1 + 1 := HXV.out
            refine store_one_next (i := 15) rfl rfl (by kernel_rfl) (by rfl) 24 _ _ rfl (w.heap.size + 1 + 1) 1 (some ⟨gg, 0, none⟩) (k + 1) cp rfl rfl #[.int .i64 p, v] 26 hVW (by simp) Try.size24 ?_ (fun hHeld => ?_)
            · exact cells3W ((Below.heap_setCell _ _ _ _ hXV).trans hXW)
            refine wpAnyH_done (by kernel_rfl) ?_ _
            have hpush := HTS.out.push (c0 := d0) (c1 := d1) (c2 := d2) (hc1.trans ((hc2.trans ((hc3.trans (hcA.mono hc3.size)).mono hc2.size)).mono hc1.size)) (by omega) (((ho0.grow hc2).grow hc3).grow hcA) ((ho1.grow hc3).grow hcA) (ho2.grow hcA) (fun _ => hg0) (fun _ => by omega) (fun _ => by omega) (fun hx _ => by have := ho0.ltX hx; omega) (fun hx _ => by have := ho0.ltX hx; omega) (fun hx _ => by have := ho1.ltX hx; omega) hown hgr (by simpa using hlies)
            have HI3 : Hid (OwInv w (W.setCell ⟨w.heap.size + 1 + 1, 1, none⟩ (.slice (some ⟨gg, 0, none⟩) (k + 1) cp)) p (some ⟨b, off, none⟩) n c (.slice (some ⟨gg, 0, none⟩) (k + 1) cp) (k + 1) L) := by
              refine ⟨by rw [heap_setCell_same _ _ _ _ _ _ hVW]; rfl, ?_, ?_⟩
              · rw [take3_succ HL.out.1 hlt]; exact hpush.low (by omega) 1 _
              · exact (((((HBZ.out.trans (hc1.mono (by omega))).trans (hc2.mono (by omega))).trans (hc3.mono (by omega))).trans (hcA.mono (by omega))).grown hgr (by first | omega | (simp; omega)) (fun q hq => by have := hVne q hq; omega)).setCell (Nat.le_refl _) _
            clear hown hgr hlies hglt hpush hXW hVW hX4 hV4 ho0 ho1 ho2 hg0 hg1 hg2 hc1 hc2 hc3 hcA hHeld HT4 HNW hVne hss hy1 hy2 hy3
            go_wp2_with fail
            go_roundw
            case rel => exact ⟨k + 1, _, by omega, by go_num, HI3⟩
            case measure => simp [intOf]; omega
          · have hcA := below_al v3 (.cells #[.slice e0 l0 d0, .slice e1 l1 d1, .slice e2 l2 d2] 52)
            refine step_valW (w' := v3.alloc (.cells #[.slice e0 l0 d0, .slice e1 l1 d1, .slice e2 l2 d2] 52)) (by rfl) (some 28) rfl (.slice (some ⟨v3.heap.size, 0, none⟩) 1 1) (by go_simp) (hK.out _ _ ?_ (fun hHeld => ?_))
            · exact cells3W (keep (keep (keep (keep HX2.out hc1) hc2) hc3) hcA)
            simp only [Act.put, List.setIfInBounds_toArray, List.set_cons_zero, List.set_cons_succ]
            refine wpAnyH_ready (rs := [1]) (by kernel_rfl) (by simp) (AllReadyH.cons rfl (fun K hK => ?_) AllReadyH.nil)
            refine step_valW (w' := v3.alloc (.cells #[.slice e0 l0 d0, .slice e1 l1 d1, .slice e2 l2 d2] 52)) (by rfl) (some 17) rfl v (by have hv := (cells2 (keep (keep (keep (keep HV2.out hc1) hc2) hc3) hcA)).2; go_simp) (hK.out _ _ ?_ (fun hHeld => ?_))
            · exact cells3W (keep (keep (keep (keep HX2.out hc1) hc2) hc3) hcA)
            simp only [Act.put, List.setIfInBounds_toArray, List.set_cons_zero, List.set_cons_succ]
            have HT4 := hide ((((HTS.out.grow hc1).grow hc2).grow hc3).grow hcA)
            have HNW := hide (news3X v3 (.slice e0 l0 d0) (.slice e1 l1 d1) (.slice e2 l2 d2))
            have hss := HSS.out
            have hy1 := hc1.size
            have hy2 := hc2.size
            have hy3 := hc3.size
            refine wpAnyH_ready (rs := [13]) (by kernel_rfl) (by simp) (AllReadyH.cons rfl (fun K hK => ?_) AllReadyH.nil)
            refine step_appWd (some 29) rfl (by rfl) (.tmp 17) (.tmp 28) 24 (by rfl) (w.heap.size + 1 + 1 + 1) 52 i1 _ 3 72 Try.underlying24 hi1 hz0 hz1 hz2 (by rfl) (by decide) v k cells (by rfl) HT4.out.own ⟨v3.heap.size, 0, none⟩ 1 1 [.slice e0 l0 d0, .slice e1 l1 d1, .slice e2 l2 d2] (by rfl) (by rfl) HNW.out (by simp [Value.oneCell']) (by decide) (by unfold maxLen; omega) (by omega) (by simp; omega) (v3.heap.size + 1) (by simp) ?_
            intro gg cp W hown hgr hlies hglt
            have hVne : ∀ q, v.ownBlock = some q → w.heap.size + 1 + 1 + 1 ≤ q := fun q hq => (HT4.out.own.lt q hq).1
            have hX4 := keep (keep (keep (keep HX2.out hc1) hc2) hc3) hcA
            have hV4 := keep (keep (keep (keep HV2.out hc1) hc2) hc3) hcA
            have hXW := (hgr.block X (row_lt hX4) (fun e => HXN.out e)).trans hX4
            have hVW := (hgr.block (w.heap.size + 1 + 1) (row_lt hV4) (fun e => by have := hVne _ e.symm; omega)).trans hV4
            refine hK.out _ _ ?_ (fun hHeld => ?_)
            · exact cells3W hXW
            simp only [Act.put, List.setIfInBounds_toArray, List.set_cons_zero, List.set_cons_succ]
            refine take_yes (i := 14) (some 30) (.pointer (some ⟨w.heap.size + 1 + 1, 1, none⟩)) rfl rfl (by kernel_rfl) (by kernel_rfl) (by kernel_rfl) (fun _ _ _ h => h) (by rfl) ?_ (by assumption) ?_
            · intro W' hSw
              obtain ⟨hz0, hz1, hz2⟩ := hSw
              go_simp
            simp only [Act.put, List.setIfInBounds_toArray, List.set_cons_zero, List.set_cons_succ]
            have hXV : X ≠ w.heap.size + 1 + 1 := HXV.out
            refine store_one_next (i := 15) rfl rfl (by kernel_rfl) (by rfl) 24 _ _ rfl (w.heap.size + 1 + 1) 1 (some ⟨gg, 0, none⟩) (k + 1) cp rfl rfl #[.int .i64 p, v] 26 hVW (by simp) Try.size24 ?_ (fun hHeld => ?_)
            · exact cells3W ((Below.heap_setCell _ _ _ _ hXV).trans hXW)
            refine wpAnyH_done (by kernel_rfl) ?_ _
            have hpush := HTS.out.push (c0 := d0) (c1 := d1) (c2 := d2) (hc1.trans ((hc2.trans ((hc3.trans (hcA.mono hc3.size)).mono hc2.size)).mono hc1.size)) (by omega) (((ho0.grow hc2).grow hc3).grow hcA) ((ho1.grow hc3).grow hcA) (ho2.grow hcA) (fun _ => hg0) (fun _ => by omega) (fun _ => by omega) (fun hx _ => by have := ho0.ltX hx; omega) (fun hx _ => by have := ho0.ltX hx; omega) (fun hx _ => by have := ho1.ltX hx; omega) hown hgr (by simpa using hlies)
            have HI3 : Hid (OwInv w (W.setCell ⟨w.heap.size + 1 + 1, 1, none⟩ (.slice (some ⟨gg, 0, none⟩) (k + 1) cp)) p (some ⟨b, off, none⟩) n c (.slice (some ⟨gg, 0, none⟩) (k + 1) cp) (k + 1) L) := by
              refine ⟨by rw [heap_setCell_same _ _ _ _ _ _ hVW]; rfl, ?_, ?_⟩
              · rw [take3_succ HL.out.1 hlt]; exact hpush.low (by omega) 1 _
              · exact (((((HBZ.out.trans (hc1.mono (by omega))).trans (hc2.mono (by omega))).trans (hc3.mono (by omega))).trans (hcA.mono (by omega))).grown hgr (by first | omega | (simp; omega)) (fun q hq => by have := hVne q hq; omega)).setCell (Nat.le_refl _) _
            clear hown hgr hlies hglt hpush hXW hVW hX4 hV4 ho0 ho1 ho2 hg0 hg1 hg2 hc1 hc2 hc3 hcA hHeld HT4 HNW hVne hss hy1 hy2 hy3
            go_wp2_with fail
            go_roundw
            case rel => exact ⟨k + 1, _, by omega, by go_num, HI3⟩
            case measure => simp [intOf]; omega
end Go.Proofs.Ytbhhpfiolombcaa


/- ShortNet of the specification. -/
namespace Go.Proofs.Ytbhhpfiolombcaa
open Go.RowKit
set_option maxRecDepth 10000

/-- How the specification's ShortNet ends: it can be read. -/
def ShS (g : Bool) (p : Int) (n : Nat) (K : List (List Int)) (w : World) (e : Ending) (w' : World) : Prop :=
  ∃ (a : Option Addr) (c : Nat), e = .returned (.tuple #[.agg #[.int .i64 (if g then p else 0), .slice a (if g then n else 0) c], .bool g]) ∧ (g = true → Lists w' a (3 * n) K) ∧ Below w.heap.size w w'

theorem shS_no {p : Int} {n : Nat} {K : List (List Int)} {w w' : World} (hb : Below w.heap.size w w') : ShS false p n K w (.returned (.tuple #[.agg #[.int .i64 0, .slice none 0 0], .bool false])) w' :=
  ⟨none, 0, rfl, fun h => by simp at h, hb⟩

set_option maxHeartbeats 4000000 in
theorem shortS_any (p s t : Int) (a : Option Addr) (n c : Nat) (L : List (List Int)) (w : World) (h : Lists w a (3 * n) L) (hs : sizeN n L ≤ 1048576) :
    Calls Try.prog 8 #[.agg #[.int .i64 p, .slice a n c, .int .i64 s, .int .i64 t]] w fun e w' => ShS (shortOk p n L s t) p (n + 1) (shortL L s t) w e w' := by
  have HA := hide (below_two w (.cells #[.int .i64 p, .slice a n c, .int .i64 s, .int .i64 t] 28) (.cells #[.int .i64 0, .slice none 0 0] 26))
  have HP0 := hide (keep (heap_alloc_new w (.cells #[.int .i64 p, .slice a n c, .int .i64 s, .int .i64 t] 28)) (below_al _ (.cells #[.int .i64 0, .slice none 0 0] 26)))
  have HF := hide (goodFlowS_any p s t a n c L _ (h.below HA.out) hs)
  have HL := hide h.1
  have HLL := hide h
  have HR0 : Hid (((w.alloc (.cells #[.int .i64 p, .slice a n c, .int .i64 s, .int .i64 t] 28)).alloc (.cells #[.int .i64 0, .slice none 0 0] 26)).heap[w.heap.size + 1]? = some (.cells #[.int .i64 0, .slice none 0 0] 26 (0, 0))) := by
    have := heap_alloc_new (w.alloc (.cells #[.int .i64 p, .slice a n c, .int .i64 s, .int .i64 t] 28)) (.cells #[.int .i64 0, .slice none 0 0] 26)
    rw [show (w.alloc (.cells #[.int .i64 p, .slice a n c, .int .i64 s, .int .i64 t] 28)).heap.size = w.heap.size + 1 by simp] at this
    exact this
  obtain ⟨i1, hi1, hz0, hz1, hz2⟩ := info_split2 Try.info52
  clear h
  go_enter Try.func8, Try.ntmps8
  go_wp2_with fail
  refine HF.out.mono ?_
  rintro e V ⟨rfl, hb⟩
  have HB := hide (HA.out.trans (hb.mono HA.out.size))
  have HR1 := hide (keep HR0.out hb)
  have HFV := hide (keep HP0.out hb)
  have hlr : w.heap.size + 1 < V.heap.size := row_lt HR1.out
  obtain ⟨hr0, hr1⟩ := cells2 HR1.out
  have hf0 : V.frozen? ⟨w.heap.size + 1, 0, none⟩ = false := frozen_of_row V _ 0 _ _ HR1.out
  have hf1 : V.frozen? ⟨w.heap.size + 1, 1, none⟩ = false := frozen_of_row V _ 1 _ _ HR1.out
  obtain ⟨⟨hp0, hp1, hp2, hp3⟩, _⟩ := cells4 HFV.out
  clear hb HF HA HR0 HP0
  by_cases hg : flowOk p n L s t = true
  rotate_left
  · have hg' : flowOk p n L s t = false := by simpa using hg
    have HN := hide (show shortOk p n L s t = false by unfold shortOk; rw [hg']; rfl)
    rw [hg']
    clear hg hg'
    go_wp2_with fail
    refine bodyPost_ret (v := .tuple #[.agg #[.int .i64 0, .slice none 0 0], .bool false]) (by simp [results, Try.results8, go_sem, hr0, hr1]) rfl ?_
    rw [HN.out]
    exact shS_no ((HB.out.setCell (by simp) _).setCell (by simp) _)
  have hgn := (wayOk_parts (flowOk_parts hg).1).1
  have hn24 := (netOk_parts hgn).2.1
  have HG := hide hg
  have HSZ := hide (shortSize (s := s) (t := t) hgn HL.out)
  have HO := hide (own3S_any p a n c L V (HLL.out.below HB.out) hs (by omega))
  rw [hg]
  clear hg hgn
  go_wp2_with fail
  refine HO.out.mono ?_
  rintro e w2 ⟨v, rfl, htri, hb⟩
  obtain ⟨av, cv, hev, _⟩ := htri.lists hs
  subst hev
  clear hr0 hr1 hf0 hf1 hp0 hp1 hp2 hp3 HO
  have hA3 := below_al w2 (.cells #[.int .i64 p, .slice av n cv] 26)
  have hb2 := hb.trans (hA3.mono hb.size)
  have HB2 := hide (HB.out.trans (hb2.mono HB.out.size))
  have HR2 := hide (keep HR1.out hb2)
  have HT0 := hide htri
  have HT2 := hide (htri.grow hA3)
  have HN2 := hide (heap_alloc_new w2 (.cells #[.int .i64 p, .slice av n cv] 26))
  have HVW := hide (show V.heap.size ≤ w2.heap.size from hb.size)
  have HLR := hide hlr
  have hXw : w.heap.size < w2.heap.size := by have := HVW.out; omega
  obtain ⟨⟨hqa0, hqa1, hqa2, hqa3⟩, _⟩ := cells4 (keep HFV.out hb)
  clear hb hb2 htri hA3 HFV HR1 hlr
  obtain ⟨cells, A, f, cap, hts⟩ := HT2.out
  have z0 : (w2.alloc (.cells #[.int .i64 p, .slice av n cv] 26)).heap.size = w2.heap.size + 1 := by simp
  have z1 : ((w2.alloc (.cells #[.int .i64 p, .slice av n cv] 26)).alloc (.cells #[.int .i64 t] 3)).heap.size = w2.heap.size + 1 + 1 := by simp
  have z2 : (((w2.alloc (.cells #[.int .i64 p, .slice av n cv] 26)).alloc (.cells #[.int .i64 t] 3)).alloc (.cells #[.int .i64 s] 3)).heap.size = w2.heap.size + 1 + 1 + 1 := by simp
  have z3 : ((((w2.alloc (.cells #[.int .i64 p, .slice av n cv] 26)).alloc (.cells #[.int .i64 t] 3)).alloc (.cells #[.int .i64 s] 3)).alloc (.cells #[.slice (some ⟨w2.heap.size + 1, 0, none⟩) 1 1, .slice (some ⟨w2.heap.size + 1 + 1, 0, none⟩) 1 1, .slice none 0 0] 52)).heap.size = w2.heap.size + 1 + 1 + 1 + 1 := by simp
  have hk1 := below_al (w2.alloc (.cells #[.int .i64 p, .slice av n cv] 26)) (.cells #[.int .i64 t] 3)
  have hk2 := below_al ((w2.alloc (.cells #[.int .i64 p, .slice av n cv] 26)).alloc (.cells #[.int .i64 t] 3)) (.cells #[.int .i64 s] 3)
  have hk3 := below_al (((w2.alloc (.cells #[.int .i64 p, .slice av n cv] 26)).alloc (.cells #[.int .i64 t] 3)).alloc (.cells #[.int .i64 s] 3)) (.cells #[.slice (some ⟨w2.heap.size + 1, 0, none⟩) 1 1, .slice (some ⟨w2.heap.size + 1 + 1, 0, none⟩) 1 1, .slice none 0 0] 52)
  have hk13 := hk1.trans ((hk2.trans (hk3.mono hk2.size)).mono hk1.size)
  have HTS := hide (hts.grow hk13)
  have HTS0 := hide hts
  have HK13 := hide hk13
  have ho1 := obOne (w2.alloc (.cells #[.int .i64 p, .slice av n cv] 26)) t
  have ho2 := obOne ((w2.alloc (.cells #[.int .i64 p, .slice av n cv] 26)).alloc (.cells #[.int .i64 t] 3)) s
  rw [z0] at ho1
  rw [z1] at ho2
  have HO1 := hide ((ho1.grow hk2).grow hk3)
  have HO2 := hide (ho2.grow hk3)
  have hnw := news3X (((w2.alloc (.cells #[.int .i64 p, .slice av n cv] 26)).alloc (.cells #[.int .i64 t] 3)).alloc (.cells #[.int .i64 s] 3)) (.slice (some ⟨w2.heap.size + 1, 0, none⟩) 1 1) (.slice (some ⟨w2.heap.size + 1 + 1, 0, none⟩) 1 1) (.slice none 0 0)
  rw [z2] at hnw
  have HNW := hide hnw
  have HN3 := hide (keep HN2.out hk13)
  have HR3 := hide (keep HR2.out hk13)
  have HB3 := hide (HB2.out.trans (hk13.mono HB2.out.size))
  have HZ3 := hide z3
  have HZ0 := hide z0
  have HML := hide (show ∀ q, (Value.slice av n cv).ownBlock = some q → V.heap.size ≤ q ∧ q < w2.heap.size from fun q hq => by
    rcases HT0.out with ⟨cells0, A0, f0, cap0, ht0⟩
    exact ht0.own.lt q hq)
  clear hk1 hk2 hk3 hk13 hts ho1 ho2 hnw z0 z1 z2 z3 HN2 HR2 HB2
  go_wp2_with (refine wpList_append_lies _ rfl (.tmp 13) (.tmp 21) 24 rfl V.heap.size 52 i1 _ 3 72 Try.underlying24 hi1 hz0 hz1 hz2 rfl (by decide) (.slice av n cv) n cells rfl HTS.out.own ⟨w2.heap.size + 1 + 1 + 1, 0, none⟩ 1 1 [.slice (some ⟨w2.heap.size + 1, 0, none⟩) 1 1, .slice (some ⟨w2.heap.size + 1 + 1, 0, none⟩) 1 1, .slice none 0 0] rfl rfl HNW.out (by simp [Value.oneCell']) (by decide) (by unfold maxLen; omega) (by omega) (by rw [HZ3.out]; have := HVW.out; omega) (w2.heap.size + 1 + 1 + 1 + 1) HZ3.out ?_; intro g cp W hown hgr hlies hglt; have hWN := (hgr.block w2.heap.size (by rw [HZ3.out]; omega) (fun e => by have := (HML.out _ e.symm).2; omega)).trans HN3.out; obtain ⟨hn0, hn1⟩ := cells2 hWN; have hn2 : W.frozen? ⟨w2.heap.size, 1, none⟩ = false := frozen_of_row W w2.heap.size 1 _ _ hWN)
  have htx := HTS0.out.push (c0 := 1) (c1 := 1) (c2 := 0) (a2 := none) (b2 := 0) (m2 := 0) (X2 := []) HK13.out (by rw [HZ0.out]; have := HVW.out; omega) HO1.out HO2.out ⟨rfl, .inl rfl⟩ (fun _ => by rw [HZ0.out]; omega) (fun _ => by rw [HZ0.out]; omega) (fun h => absurd rfl h) (fun _ _ => by omega) (fun _ h => absurd rfl h) (fun _ h => absurd rfl h) hown hgr (by rw [HZ3.out]; exact hlies)
  have hn3 : (W.setCell ⟨w2.heap.size, 1, none⟩ (.slice (some ⟨g, 0, none⟩) (n + 1) cp)).heap[w2.heap.size]? = some (.cells #[.int .i64 p, .slice (some ⟨g, 0, none⟩) (n + 1) cp] 26 (0, 0)) := by
    rw [heap_setCell_same _ _ _ _ _ _ hWN]; rfl
  have HTX := hide (htx.other hWN (by decide) (by decide) 1 (.slice (some ⟨g, 0, none⟩) (n + 1) cp))
  have HBW := hide (show Below w.heap.size w (W.setCell ⟨w2.heap.size, 1, none⟩ (.slice (some ⟨g, 0, none⟩) (n + 1) cp)) from (HB3.out.grown hgr HB3.out.size (fun q hq => by have := (HML.out q hq).1; have := HB.out.size; omega)).setCell (by have := HVW.out; have := HB.out.size; simp; omega) _)
  have HRW := hide (show (W.setCell ⟨w2.heap.size, 1, none⟩ (.slice (some ⟨g, 0, none⟩) (n + 1) cp)).heap[w.heap.size + 1]? = some (.cells #[.int .i64 0, .slice none 0 0] 26 (0, 0)) from
    (Below.heap_setCell _ _ _ _ (show w.heap.size + 1 ≠ w2.heap.size by have := HVW.out; have := HLR.out; omega)).trans ((hgr.block (w.heap.size + 1) (row_lt HR3.out) (fun e => by have := (HML.out _ e.symm).1; have := HLR.out; omega)).trans HR3.out))
  have HNV := hide hn3
  obtain ⟨W2, hW2⟩ : ∃ W2, Hid (W.setCell ⟨w2.heap.size, 1, none⟩ (.slice (some ⟨g, 0, none⟩) (n + 1) cp) = W2) := ⟨_, rfl⟩
  rw [hW2.out] at HTX HBW HRW HNV ⊢
  obtain ⟨ax, cx, hex, hlx⟩ := HTX.out.lists HSZ.out
  obtain ⟨rfl, rfl⟩ : ax = some ⟨g, 0, none⟩ ∧ cx = cp := by simp at hex; exact ⟨hex.1.symm, hex.2.symm⟩
  have HGI := hide (goodNetS_any p (some ⟨g, 0, none⟩) (n + 1) cx (shortL L s t) W2 hlx HSZ.out)
  have HLE := hide (show w.heap.size ≤ V.heap.size from HB.out.size)
  have HNE := hide (show w2.heap.size ≠ w.heap.size + 1 by have := HVW.out; have := HLR.out; omega)
  clear hn0 hn1 hn2 hn3 hWN htx hlx hex hown hgr hlies hglt HTS HTS0 HO1 HO2 HNW HN3 HR3 HB3 HZ3 HZ0 HML hW2 HK13 HT0 HT2
  refine HGI.out.mono ?_
  rintro e w5 ⟨rfl, hb⟩
  have HB5 := hide (HBW.out.trans (hb.mono HBW.out.size))
  have HT5 := hide (HTX.out.grow hb)
  obtain ⟨hr0, hr1⟩ := cells2 (keep HRW.out hb)
  have hf0 : w5.frozen? ⟨w.heap.size + 1, 0, none⟩ = false := frozen_of_row w5 _ 0 _ _ (keep HRW.out hb)
  have hf1 : w5.frozen? ⟨w.heap.size + 1, 1, none⟩ = false := frozen_of_row w5 _ 1 _ _ (keep HRW.out hb)
  obtain ⟨hv0, hv1⟩ := cells2 (keep HNV.out hb)
  have HRR := hide (keep HRW.out hb)
  clear hb HGI HTX HBW HRW HNV
  cases hgt : netOk p (n + 1) (shortL L s t)
  · have HN := hide (show shortOk p n L s t = false by unfold shortOk; rw [hgt]; simp)
    go_wp2_with fail
    refine bodyPost_ret (v := .tuple #[.agg #[.int .i64 0, .slice none 0 0], .bool false]) (by simp [results, Try.results8, go_sem, hr0, hr1]) rfl ?_
    rw [HN.out]
    exact shS_no ((HB5.out.setCell (by simp) _).setCell (by simp) _)
  · have HY := hide (show shortOk p n L s t = true by unfold shortOk; rw [hgt, HG.out]; rfl)
    go_wp2_with fail
    refine bodyPost_ret (v := .tuple #[.agg #[.int .i64 p, .slice (some ⟨g, 0, none⟩) (n + 1) cx], .bool true]) (by simp [results, Try.results8, go_sem, hr0, hr1]) rfl ?_
    rw [HY.out]
    have hR1 : (w5.setCell ⟨w.heap.size + 1, 0, none⟩ (.int .i64 p)).heap[w.heap.size + 1]? = some (.cells #[.int .i64 p, .slice none 0 0] 26 (0, 0)) := by
      rw [heap_setCell_same _ _ _ _ _ _ HRR.out]; rfl
    obtain ⟨a6, c6, he6, hl6⟩ := ((HT5.out.other HRR.out (by decide) (by decide) 0 (.int .i64 p)).other hR1 (by decide) (by decide) 1 (.slice (some ⟨g, 0, none⟩) (n + 1) cx)).lists HSZ.out
    obtain ⟨rfl, rfl⟩ : a6 = some ⟨g, 0, none⟩ ∧ c6 = cx := by simp at he6; exact ⟨he6.1.symm, he6.2.symm⟩
    exact ⟨_, _, rfl, fun _ => hl6, (HB5.out.setCell (by simp) _).setCell (by simp) _⟩
end Go.Proofs.Ytbhhpfiolombcaa


/- What the second half of a law over a flow or a net keeps in mind, its answer being one list or two; markFlow. -/
namespace Go.Proofs.Ytbhhpfiolombcaa
open Go.RowKit
set_option maxRecDepth 10000

/-- w: the world ahead of the law; u: behind the specification's answer; v: now. -/
structure Sz (w u v : World) (Cp Cx : Array Value) (Tp Tx : TypeId) (n B hi bx : Nat) (M : Nat → List Int) (ag : Option Addr) (bg ng : Nat) (lg : List Int) (ah : Option Addr) (bh nh : Nat) (lh : List Int) : Prop where
  old : Below w.heap.size w v
  mid : Below u.heap.size u v
  par : v.heap[w.heap.size]? = some (.cells Cp Tp (0, 0))
  x0 : v.heap[bx]? = some (.cells Cx Tx (0, 0))
  net : PartF v B hi (3 * n) 52 M
  g : Ob v ag bg ng lg
  h : Ob v ah bh nh lh

section
variable {w u v v' : World} {Cp Cx : Array Value} {Tp Tx : TypeId} {n B hi bx : Nat} {M : Nat → List Int} {ag : Option Addr} {bg ng : Nat} {lg l : List Int} {ah : Option Addr} {bh nh : Nat} {lh : List Int}

theorem Sz.grow (h : Sz w u v Cp Cx Tp Tx n B hi bx M ag bg ng lg ah bh nh lh) (hb : Below v.heap.size v v') : Sz w u v' Cp Cx Tp Tx n B hi bx M ag bg ng lg ah bh nh lh :=
  ⟨h.old.trans (hb.mono h.old.size), h.mid.trans (hb.mono h.mid.size), keep h.par hb, keep h.x0 hb, h.net.grow hb, h.g.grow hb, h.h.grow hb⟩

theorem Sz.markN {M' : Nat → List Int} (h : Sz w u v Cp Cx Tp Tx n B hi bx M ag bg ng lg ah bh nh lh) (hm : PartF v' B hi (3 * n) 52 M') (hk : Keeps (B + 1) hi v v') (h1 : w.heap.size ≤ B) (h2 : u.heap.size ≤ B) (hx : hi ≤ bx) (hg : hi ≤ bg) (hh : hi ≤ bh) :
    Sz w u v' Cp Cx Tp Tx n B hi bx M' ag bg ng lg ah bh nh lh :=
  ⟨h.old.trans (hk.bel.mono (by omega)), h.mid.trans (hk.bel.mono (by omega)), (hk.bel.block _ (by omega)).trans h.par, (hk.top bx hx (row_lt h.x0)).trans h.x0, hm, h.g.keeps hk hg, h.h.keeps hk hh⟩

theorem Sz.markG (h : Sz w u v Cp Cx Tp Tx n B hi bx M ag bg ng lg ah bh nh lh) (hm : Ob v' ag bg ng l) (ho : Only bg v v') (h1 : w.heap.size < bg) (h2 : u.heap.size ≤ bg) (hb : hi ≤ bg) (hB : B ≠ bg) (hx : bx ≠ bg) (hy : bh ≠ bg) :
    Sz w u v' Cp Cx Tp Tx n B hi bx M ag bg ng l ah bh nh lh :=
  ⟨h.old.trans (ho.below (by omega)), h.mid.trans (ho.below h2), (ho.block _ (by omega)).trans h.par, (ho.block _ hx).trans h.x0, h.net.only ho hb hB, hm, h.h.only ho hy⟩

theorem Sz.markH (h : Sz w u v Cp Cx Tp Tx n B hi bx M ag bg ng lg ah bh nh lh) (hm : Ob v' ah bh nh l) (ho : Only bh v v') (h1 : w.heap.size < bh) (h2 : u.heap.size ≤ bh) (hb : hi ≤ bh) (hB : B ≠ bh) (hx : bx ≠ bh) (hy : bg ≠ bh) :
    Sz w u v' Cp Cx Tp Tx n B hi bx M ag bg ng lg ah bh nh l :=
  ⟨h.old.trans (ho.below (by omega)), h.mid.trans (ho.below h2), (ho.block _ (by omega)).trans h.par, (ho.block _ hx).trans h.x0, h.net.only ho hb hB, h.g.only ho hy, hm⟩
end

theorem cells4c {w : World} {b : Nat} {v0 v1 v2 v3 : Value} {T : TypeId} (h : w.heap[b]? = some (.cells #[v0, v1, v2, v3] T (0, 0))) :
    w.cell? ⟨b, 0, none⟩ = some v0 ∧ w.cell? ⟨b, 1, none⟩ = some v1 ∧ w.cell? ⟨b, 2, none⟩ = some v2 ∧ w.cell? ⟨b, 3, none⟩ = some v3 :=
  ⟨cell_of_row w b 0 _ _ _ h, cell_of_row w b 1 _ _ _ h, cell_of_row w b 2 _ _ _ h, cell_of_row w b 3 _ _ _ h⟩

end Go.Proofs.Ytbhhpfiolombcaa
