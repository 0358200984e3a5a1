/- Contracts that the proof stands on, one behind the other. -/
import Derived.Test.YtoijlepjnpdlkaaP8
import Derived.Deep.AppendLies
/- l1Own of whatever list; pick of one. -/
namespace Go.Proofs.Ytoijlepjnpdlkaa
open Go.RowKit
set_option maxRecDepth 10000

theorem run_append_none {P : Program} (w : World) (base : Nat) (t ty e : TypeId) (i : TypeInfo) (size : Nat) (ht : P.underlying t = some (.slice e)) (hi : P.info? e = some i)
    (v : Value) (n c : Nat) (xs : List Value) (hown : w.ownsRow base e size v n xs) :
    (Builtin.append_ #[t, t] ty #[v, .slice none 0 c]).run P w = .ok v w := by
  rcases hown.2 with ⟨rfl, rfl⟩ | ⟨g, cap, cur, rfl, _, _, hnc, _⟩
  · simp [Builtin.append_, run_underlying ht, sizeOf, typeInfo, hi, Builtin.lenOf, Builtin.firstCells]
  · simp [Builtin.append_, run_underlying ht, sizeOf, typeInfo, hi, Builtin.lenOf, Builtin.firstCells, hnc, storeCells]

/-- append, whatever is appended. -/
theorem wpList_append_any2 {P : Program} (w : World) {ops : Array Oper} {rest : List Oper} {o : Oper} {a : Act} {Q : Exit → Act → World → Prop} (hgd : o.guard = none) (s x : Operand) (t : TypeId)
    (ho : o.op = .call { callee := .builtin .append, args := #[s, x], argTypes := #[t, t] })
    (base : Nat) (e : TypeId) (i : TypeInfo) (z : Value) (size bytes : Nat) (ht : P.underlying t = some (.slice e)) (hi : P.info? e = some i) (hz : i.zero = some z)
    (hsize : i.size = size) (hby : i.bytes = bytes) (hzs : z.cells.size = size) (hsz : 0 < size)
    (v : Value) (n : Nat) (xs : List Value) (hs : a.eval s = v) (hown : w.ownsRow base e size v n xs)
    (ao : Option Addr) (m c : Nat) (news : List Value) (hx : a.eval x = .slice ao m c) (hl : news.length = m * size) (hnone : ao = none → m = 0)
    (hnews : ∀ ad, ao = some ad → ∀ j u, news[j]? = some u → w.cell? (ad.add j) = some u) (h1 : ∀ u ∈ news, u.oneCell' = true)
    (h63 : n + m ≤ maxLen) (hbytes : (n + m) * bytes ≤ 140737488355328) (hbase : base ≤ w.heap.size)
    (h : ∀ v' w', w'.ownsRow base e size v' (n + m) (xs ++ news) → w.grownBy w' v.ownBlock → wpList P ops Q rest (a.put o.dst v') w') : wpList P ops Q (o :: rest) a w := by
  cases ao with
  | some ad => exact wpList_append_own w hgd s x t ho base e i z size bytes ht hi hz hsize hby hzs hsz v n xs hs hown ad m c news hx hl (hnews ad rfl) h1 h63 hbytes hbase fun v' w' r1 r2 _ => h v' w' r1 r2
  | none =>
    obtain rfl := hnone rfl
    have hnews : news = [] := List.eq_nil_of_length_eq_zero (by simpa using hl)
    subst hnews
    refine wpList_plain hgd fun K hK' => ?_
    have hrun := run_append_none (P := P) w base t o.type e i size ht hi _ n c xs hown
    unfold Oper.wp
    simp [execOp, ho, resolve, invoke, builtin, hs, hx, hrun, Result.andThen]
    exact hK' _ _ (by simpa using h v w (by simpa using hown) (World.grownBy.refl _ _))

theorem Row.some_of {w : World} {a : Option Addr} {n : Nat} {xs : List Int} (h : Row w a n xs) : ∀ ad, a = some ad → ∀ j u, (xs.map (Value.int .i64))[j]? = some u → w.cell? (ad.add j) = some u := by
  have := cells_upto h (Nat.le_refl n)
  rw [List.take_of_length_le (by have := h.1; omega)] at this
  exact this

set_option maxHeartbeats 400000 in
theorem own3_any (a : Option Addr) (n c : Nat) (xs : List Int) (w : World) (ha : Row w a n xs) (hn : n ≤ 1048576) :
    Calls Try.prog 27 #[.slice a n c] w fun e w' => ∃ a' c', e = .returned (.slice a' n c') ∧ Row w' a' n xs ∧ (0 < n → ∀ x, a' = some x → w.heap.size ≤ x.block) ∧ Below w.heap.size w w' := by
  obtain ⟨i0, hi, hz0, hz1, hz2⟩ := info_split Try.info3
  have P0 := hide (PutSt.first w)
  have HA := hide (ha.below P0.out.bel)
  have HL := hide ha.1
  clear ha
  go_enter Try.func27, Try.ntmps27
  go_wp2_with (at_builtin; refine wpList_append_any2 _ rfl (.tmp 3) (.tmp 4) 42 rfl w.heap.size 3 i0 (.int .i64 0) 1 8 Try.underlying42 hi hz0 hz1 hz2 rfl (by decide) (.slice (some ⟨w.heap.size, 0, none⟩) 0 0) 0 [] rfl P0.out.own a n c (xs.map (Value.int .i64)) rfl (by rw [List.length_map, Nat.mul_one]; exact HL.out) (fun h => by (rcases HA.out.2 with h0 | ⟨b, off, e, _⟩; exact h0; rw [h] at e; cases e)) HA.out.some_of (ints_oneCell _ _) (by unfold maxLen; omega) (by omega) (by simp) ?_; intro u1 W1 r1 r2; have P1 := hide (P0.out.step (q := n) (zs := xs) r1 r2); clear r1 r2)
  go_ret
  have P2 := P1.out
  rw [Nat.zero_add, List.nil_append] at P2
  have hlt := P2.own.lt
  obtain ⟨a', c', rfl, hr⟩ := ownsRow_row2 P2.own
  exact ⟨a', c', rfl, hr, fun _ x hx => by subst hx; exact (hlt x.block rfl).1, P2.bel⟩

end Go.Proofs.Ytoijlepjnpdlkaa


/- l3Own of the specification: a net's own copy. -/
namespace Go.Proofs.Ytoijlepjnpdlkaa
open Go.RowKit
set_option maxRecDepth 10000

set_option maxHeartbeats 400000 in
theorem own5_any (a : Option Addr) (n c : Nat) (xs : List Int) (w : World) (ha : Row w a n xs) (hn : n ≤ 1048576) :
    Calls Try.prog 27 #[.slice a n c] w fun e w' => ∃ a' g c', e = .returned (.slice a' n c') ∧ w.heap.size ≤ g ∧ Ob w' a' g n xs ∧ Below w.heap.size w w' := by
  obtain ⟨i0, hi, hz0, hz1, hz2⟩ := info_split2 Try.info3
  have P0 := hide (PutSt.first w)
  have HA := hide (ha.below P0.out.bel)
  have HL := hide ha.1
  clear ha
  go_enter Try.func27, Try.ntmps27
  go_wp2_with (at_builtin; refine wpList_append_any2 _ rfl (.tmp 3) (.tmp 4) 42 rfl w.heap.size 3 i0 (.int .i64 0) 1 8 Try.underlying42 hi hz0 hz1 hz2 rfl (by decide) (.slice (some ⟨w.heap.size, 0, none⟩) 0 0) 0 [] rfl P0.out.own a n c (xs.map (Value.int .i64)) rfl (by rw [List.length_map, Nat.mul_one]; exact HL.out) (fun h => by (rcases HA.out.2 with h0 | ⟨b, off, e, _⟩; exact h0; rw [h] at e; cases e)) HA.out.some_of (ints_oneCell _ _) (by unfold maxLen; omega) (by omega) (by simp) ?_; intro u1 W1 r1 r2; have P1 := hide (P0.out.step (q := n) (zs := xs) r1 r2); clear r1 r2)
  go_ret
  have P2 := P1.out
  rw [Nat.zero_add, List.nil_append] at P2
  obtain ⟨a', g, c', e, hg, ho⟩ := own_ob2 P2.own
  subst e
  exact ⟨a', g, c', rfl, hg, ho, P2.bel⟩

/-- What l3Own keeps in mind. -/
structure OwInv (w wr : World) (p : Int) (a : Option Addr) (n c : Nat) (v : Value) (k : Nat) (L : List (List Int)) : Prop where
  var : wr.heap[w.heap.size + 1 + 1]? = some (.cells #[.int .i64 p, v] 30 (0, 0))
  tri : TriX wr (w.heap.size + 1 + 1 + 1) v k (L.take (3 * k))
  bel : Below (w.heap.size + 1 + 1) ((w.alloc (.cells #[.int .i64 p, .slice a n c] 30)).alloc (.cells #[.int .i64 0, .slice none 0 0] 30)) wr

theorem OwInv.grow {w wr wr' : World} {p : Int} {a : Option Addr} {n c : Nat} {v : Value} {k : Nat} {L : List (List Int)} (h : OwInv w wr p a n c v k L) (hb : Below wr.heap.size wr wr') : OwInv w wr' p a n c v k L :=
  ⟨keep h.var hb, h.tri.grow hb, h.bel.trans (hb.mono (by have := row_lt h.var; omega))⟩

theorem take3_succ {n k : Nat} {L : List (List Int)} (hl : L.length = 3 * n) (hk : k < n) : L.take (3 * (k + 1)) = L.take (3 * k) ++ [L.getD (3 * k) [], L.getD (3 * k + 1) [], L.getD (3 * k + 2) []] := by
  have e0 : L[3 * k]? = some (L.getD (3 * k) []) := by simp [List.getElem?_eq_getElem (show 3 * k < L.length by omega)]
  have e1 : L[3 * k + 1]? = some (L.getD (3 * k + 1) []) := by simp [List.getElem?_eq_getElem (show 3 * k + 1 < L.length by omega)]
  have e2 : L[3 * k + 2]? = some (L.getD (3 * k + 2) []) := by simp [List.getElem?_eq_getElem (show 3 * k + 2 < L.length by omega)]
  rw [show 3 * (k + 1) = 3 * k + 1 + 1 + 1 by omega, List.take_add_one, List.take_add_one, List.take_add_one, e0, show 3 * k + 1 + 1 = 3 * k + 2 by omega, e1, e2]
  simp

theorem Try.size28 : (Try.prog.info? 28).map (·.size) = some 1 := by kernel_rfl

/-- How l3Own ends. -/
def O3End (p : Int) (n : Nat) (L : List (List Int)) (w : World) (e : Ending) (w' : World) : Prop :=
  ∃ v, e = .returned (.agg #[.int .i64 p, v]) ∧ TriX w' w.heap.size v n L ∧ Below w.heap.size w w'

set_option maxHeartbeats 8000000 in
theorem own3S_any (p : Int) (a : Option Addr) (n c : Nat) (L : List (List Int)) (w : World) (h : Lists w a (3 * n) L) (hs : sizeN n L ≤ 1048576) (hn : n ≤ 1048576) :
    Calls Try.prog 13 #[.agg #[.int .i64 p, .slice a n c]] w fun e w' => O3End p n L w e w' := by
  have HL := hide h
  have hs' : n + sizeL L ≤ 1048576 := hs
  have hAA := below_two w (.cells #[.int .i64 p, .slice a n c] 30) (.cells #[.int .i64 0, .slice none 0 0] 30)
  have HBB := hide hAA
  have z2 : ((w.alloc (.cells #[.int .i64 p, .slice a n c] 30)).alloc (.cells #[.int .i64 0, .slice none 0 0] 30)).heap.size = w.heap.size + 1 + 1 := by simp
  have HI0 : Hid (OwInv w (((w.alloc (.cells #[.int .i64 p, .slice a n c] 30)).alloc (.cells #[.int .i64 0, .slice none 0 0] 30)).alloc (.cells #[.int .i64 p, .slice none 0 0] 30)) p a n c (.slice none 0 0) 0 L) := by
    have hv := heap_alloc_new ((w.alloc (.cells #[.int .i64 p, .slice a n c] 30)).alloc (.cells #[.int .i64 0, .slice none 0 0] 30)) (.cells #[.int .i64 p, .slice none 0 0] 30)
    rw [z2] at hv
    exact ⟨hv, by simpa using TriX.nil _ _, (below_al _ _).mono (by rw [z2]; omega)⟩
  have HRS : Hid (((w.alloc (.cells #[.int .i64 p, .slice a n c] 30)).alloc (.cells #[.int .i64 0, .slice none 0 0] 30)).heap[w.heap.size + 1]? = some (.cells #[.int .i64 0, .slice none 0 0] 30 (0, 0))) := by
    have := heap_alloc_new (w.alloc (.cells #[.int .i64 p, .slice a n c] 30)) (.cells #[.int .i64 0, .slice none 0 0] 30)
    rw [show (w.alloc (.cells #[.int .i64 p, .slice a n c] 30)).heap.size = w.heap.size + 1 by simp] at this
    exact this
  have HZ2 := hide z2
  obtain ⟨i1, hi1, hz0, hz1, hz2⟩ := info_split2 Try.info44
  clear h hAA z2
  go_enter Try.func13, Try.ntmps13
  go_wp2_with fail
  generalize (((w.alloc (.cells #[.int .i64 p, .slice a n c] 30)).alloc (.cells #[.int .i64 0, .slice none 0 0] 30)).alloc (.cells #[.int .i64 p, .slice none 0 0] 30)) = W0 at *
  go_loopw [12] (fun i wr => ∃ k v, k ≤ n ∧ i = .int .i64 (k : Nat) ∧ Hid (OwInv w wr p a n c v k L)) (fun i _ => n - (intOf i).toNat)
  case atStart => exact ⟨0, _, Nat.zero_le _, rfl, HI0⟩
  case round =>
    obtain ⟨k, v, hk, rfl, hin⟩ := hrel
    clear HI0
    have HBW := hide (HBB.out.trans (hin.out.bel.mono (by omega)))
    by_cases hlt : k < n
    rotate_left
    · have hk' : k = n := by omega
      subst hk'
      obtain ⟨hv0, hv1⟩ := cells2 hin.out.var
      have hRr := (hin.out.bel.block (w.heap.size + 1) (by omega)).trans HRS.out
      obtain ⟨hr0, hr1⟩ := cells2 hRr
      have hf0 : wr.frozen? ⟨w.heap.size + 1, 0, none⟩ = false := frozen_of_row wr _ 0 _ _ hRr
      have hf1 : wr.frozen? ⟨w.heap.size + 1, 1, none⟩ = false := frozen_of_row wr _ 1 _ _ hRr
      have HT := hide hin.out.tri
      rw [List.take_of_length_le (by have := HL.out.1; omega)] at HT
      obtain ⟨av, cv, hev, _⟩ := HT.out.lists hs
      subst hev
      clear hin hRr
      go_wp2_with fail
      refine bodyPost_ret (v := .agg #[.int .i64 p, .slice av k cv]) (by simp [results, Try.results13, go_sem, hr0, hr1]) rfl ?_
      exact ⟨_, rfl, ((HT.out.low (by omega) 0 _).low (by omega) 1 _).lower (by omega), (HBW.out.setCell (by simp) _).setCell (by simp) _⟩
    obtain ⟨b, off, a0, l0, q0, a1, l1, q1, a2, l2, q2, rfl, hb, hr, m0, m1, m2, r0, r1, r2⟩ := (HL.out.below HBW.out).tri hlt
    obtain ⟨hx0, hx1, hx2⟩ := rangeAt_cells3 hr
    have y0 := len_le L (3 * k)
    have y1 := len_le L (3 * k + 1)
    have y2 := len_le L (3 * k + 2)
    have hm0 : l0 ≤ 1048576 := by have := r0.1; omega
    have hm1 : l1 ≤ 1048576 := by have := r1.1; omega
    have hm2 : l2 ≤ 1048576 := by have := r2.1; omega
    have hA1 := below_al wr (.cells #[.slice a0 l0 q0, .slice a1 l1 q1, .slice a2 l2 q2] 44)
    have hI1 := hin.out.grow hA1
    have HVS := hide (row_lt hin.out.var)
    have HXq := hide (heap_alloc_new wr (.cells #[.slice a0 l0 q0, .slice a1 l1 q1, .slice a2 l2 q2] 44))
    have HXN : Hid (∀ cells A f cap, Tris wr (w.heap.size + 1 + 1 + 1) v k (L.take (3 * k)) cells A f cap → some wr.heap.size = v.ownBlock → False) := fun cells A f cap ht e => by
      have := (ht.own.lt _ e.symm).2; omega
    have HQ0 := hide (r0.below hA1)
    have HQ1 := hide (r1.below hA1)
    have HQ2 := hide (r2.below hA1)
    have HSW := hide (show (wr.alloc (.cells #[.slice a0 l0 q0, .slice a1 l1 q1, .slice a2 l2 q2] 44)).heap.size = wr.heap.size + 1 by simp)
    have HTin := hide hin.out.tri
    clear hr r0 r1 r2 m0 m1 m2 y0 y1 y2 hin
    go_wp2_with fail
    clear hx0 hx1 hx2
    obtain ⟨U, hU⟩ : ∃ U, Hid (wr.alloc (.cells #[.slice a0 l0 q0, .slice a1 l1 q1, .slice a2 l2 q2] 44) = U) := ⟨_, rfl⟩
    obtain ⟨X, hX⟩ : ∃ X, Hid (wr.heap.size = X) := ⟨_, rfl⟩
    obtain ⟨cells, A, f, cap, ht⟩ := HTin.out
    have hXN := HXN.out cells A f cap ht
    have HT1 := hide (ht.grow hA1)
    rw [hU.out] at hI1 HXq HQ0 HQ1 HQ2 HSW HT1 ⊢
    rw [hX.out] at HXq HVS HSW hXN ⊢
    have HXN2 : Hid (some X = v.ownBlock → False) := hXN
    have hdr := (Below.refl U.heap.size U).drew
    have HTS := hide (HT1.out.grow hdr)
    have HV2 := hide (keep hI1.var hdr)
    have HX2 := hide (keep HXq.out hdr)
    have HR0 := hide (HQ0.out.below hdr)
    have HR1 := hide (HQ1.out.below hdr)
    have HR2 := hide (HQ2.out.below hdr)
    have HBZ := hide (show Below (w.heap.size + 1 + 1) _ U.drew from (hI1.grow hdr).bel)
    have HSS := hide (show U.drew.heap.size = X + 1 ∧ w.heap.size + 1 + 1 < X from ⟨HSW.out, HVS.out⟩)
    have HXV := hide (show X ≠ w.heap.size + 1 + 1 by have := HVS.out; omega)
    clear HXN hA1 hI1 HXq HQ0 HQ1 HQ2 HTin ht hXN HT1 hdr hU hX
    rename Hid (some X = v.ownBlock → False) => HXN
    refine wp_region_held_drew (S := fun W => W.cell? ⟨X, 0, none⟩ = some (.slice a0 l0 q0) ∧ W.cell? ⟨X, 1, none⟩ = some (.slice a1 l1 q1) ∧ W.cell? ⟨X, 2, none⟩ = some (.slice a2 l2 q2)) (by kernel_rfl) ?_ (fun hHeld => ?_)
    · exact cells3W HX2.out
    refine take_yes (i := 0) (some 16) (.pointer (some ⟨w.heap.size + 1 + 1, 1, none⟩)) rfl rfl (by kernel_rfl) (by kernel_rfl) (by kernel_rfl) (fun _ _ _ h => h) (by rfl) ?_ (by assumption) ?_
    · intro W' hSw
      obtain ⟨hz0, hz1, hz2⟩ := hSw
      go_simp
    simp only [Act.put, List.setIfInBounds_toArray, List.set_cons_zero, List.set_cons_succ]
    refine take_yes (i := 2) (some 18) (.pointer (some ⟨X, 0, none⟩)) rfl rfl (by kernel_rfl) (by kernel_rfl) (by kernel_rfl) (fun _ _ _ h => h) (by rfl) ?_ (by assumption) ?_
    · intro W' hSw
      obtain ⟨hz0, hz1, hz2⟩ := hSw
      go_simp
    simp only [Act.put, List.setIfInBounds_toArray, List.set_cons_zero, List.set_cons_succ]
    refine take_yes (i := 3) (some 19) (.slice a0 l0 q0) rfl rfl (by kernel_rfl) (by kernel_rfl) (by kernel_rfl) (fun _ _ _ h => h) (by rfl) ?_ (by assumption) ?_
    · intro W' hSw
      obtain ⟨hz0, hz1, hz2⟩ := hSw
      go_simp
    simp only [Act.put, List.setIfInBounds_toArray, List.set_cons_zero, List.set_cons_succ]
    refine take_yes (i := 5) (some 21) (.pointer (some ⟨X, 1, none⟩)) rfl rfl (by kernel_rfl) (by kernel_rfl) (by kernel_rfl) (fun _ _ _ h => h) (by rfl) ?_ (by assumption) ?_
    · intro W' hSw
      obtain ⟨hz0, hz1, hz2⟩ := hSw
      go_simp
    simp only [Act.put, List.setIfInBounds_toArray, List.set_cons_zero, List.set_cons_succ]
    refine take_yes (i := 6) (some 22) (.slice a1 l1 q1) rfl rfl (by kernel_rfl) (by kernel_rfl) (by kernel_rfl) (fun _ _ _ h => h) (by rfl) ?_ (by assumption) ?_
    · intro W' hSw
      obtain ⟨hz0, hz1, hz2⟩ := hSw
      go_simp
    simp only [Act.put, List.setIfInBounds_toArray, List.set_cons_zero, List.set_cons_succ]
    refine take_yes (i := 8) (some 24) (.pointer (some ⟨X, 2, none⟩)) rfl rfl (by kernel_rfl) (by kernel_rfl) (by kernel_rfl) (fun _ _ _ h => h) (by rfl) ?_ (by assumption) ?_
    · intro W' hSw
      obtain ⟨hz0, hz1, hz2⟩ := hSw
      go_simp
    simp only [Act.put, List.setIfInBounds_toArray, List.set_cons_zero, List.set_cons_succ]
    refine take_yes (i := 9) (some 25) (.slice a2 l2 q2) rfl rfl (by kernel_rfl) (by kernel_rfl) (by kernel_rfl) (fun _ _ _ h => h) (by rfl) ?_ (by assumption) ?_
    · intro W' hSw
      obtain ⟨hz0, hz1, hz2⟩ := hSw
      go_simp
    simp only [Act.put, List.setIfInBounds_toArray, List.set_cons_zero, List.set_cons_succ]
    refine wpAnyH_ready (rs := [1, 4]) (by kernel_rfl) (by simp) (AllReadyH.cons rfl (fun K hK => ?_) (AllReadyH.cons rfl (fun K hK => ?_) AllReadyH.nil))
    · refine step_valW (w' := U.drew) (by rfl) (some 17) rfl v (by have hv := (cells2 (HV2.out)).2; go_simp) (hK.out _ _ ?_ (fun hHeld => ?_))
      · exact cells3W (HX2.out)
      simp only [Act.put, List.setIfInBounds_toArray, List.set_cons_zero, List.set_cons_succ]
      refine wpAnyH_ready (rs := [4]) (by kernel_rfl) (by simp) (AllReadyH.cons rfl (fun K hK => ?_) AllReadyH.nil)
      refine step_callWd (some 20) rfl (by rfl) 27 _ _ _ rfl Try.func27 (by decide) rfl #[.slice a0 l0 q0] (mapw1 _ _ _ rfl) _ (own5_any a0 l0 q0 _ _ (HR0.out) hm0) ?_
      rintro e v1 ⟨e0, g0, d0, rfl, hg0, ho0, hc1⟩
      refine ⟨_, rfl, hK.out _ _ ?_ (fun hHeld => ?_)⟩
      · exact cells3W (keep HX2.out hc1)
      simp only [Act.put, List.setIfInBounds_toArray, List.set_cons_zero, List.set_cons_succ]
      refine wpAnyH_ready (rs := [7]) (by kernel_rfl) (by simp) (AllReadyH.cons rfl (fun K hK => ?_) AllReadyH.nil)
      refine step_callWd (some 23) rfl (by rfl) 27 _ _ _ rfl Try.func27 (by decide) rfl #[.slice a1 l1 q1] (mapw1 _ _ _ rfl) _ (own5_any a1 l1 q1 _ _ ((HR1.out).below hc1) hm1) ?_
      rintro e v2 ⟨e1, g1, d1, rfl, hg1, ho1, hc2⟩
      refine ⟨_, rfl, hK.out _ _ ?_ (fun hHeld => ?_)⟩
      · exact cells3W (keep (keep HX2.out hc1) hc2)
      simp only [Act.put, List.setIfInBounds_toArray, List.set_cons_zero, List.set_cons_succ]
      refine wpAnyH_ready (rs := [10]) (by kernel_rfl) (by simp) (AllReadyH.cons rfl (fun K hK => ?_) AllReadyH.nil)
      refine step_callWd (some 26) rfl (by rfl) 27 _ _ _ rfl Try.func27 (by decide) rfl #[.slice a2 l2 q2] (mapw1 _ _ _ rfl) _ (own5_any a2 l2 q2 _ _ (((HR2.out).below hc1).below hc2) hm2) ?_
      rintro e v3 ⟨e2, g2, d2, rfl, hg2, ho2, hc3⟩
      refine ⟨_, rfl, hK.out _ _ ?_ (fun hHeld => ?_)⟩
      · exact cells3W (keep (keep (keep HX2.out hc1) hc2) hc3)
      simp only [Act.put, List.setIfInBounds_toArray, List.set_cons_zero, List.set_cons_succ]
      refine take_yes (i := 11) (some 27) (.agg #[.slice e0 l0 d0, .slice e1 l1 d1, .slice e2 l2 d2]) rfl rfl (by kernel_rfl) (by kernel_rfl) (by kernel_rfl) (fun _ _ _ h => h) (by rfl) ?_ (by assumption) ?_
      · intro W' hSw
        obtain ⟨hz0, hz1, hz2⟩ := hSw
        go_simp
      simp only [Act.put, List.setIfInBounds_toArray, List.set_cons_zero, List.set_cons_succ]
      refine wpAnyH_ready (rs := [12]) (by kernel_rfl) (by simp) (AllReadyH.cons rfl (fun K hK => ?_) AllReadyH.nil)
      have hcA := below_al v3 (.cells #[.slice e0 l0 d0, .slice e1 l1 d1, .slice e2 l2 d2] 44)
      refine step_valW (w' := v3.alloc (.cells #[.slice e0 l0 d0, .slice e1 l1 d1, .slice e2 l2 d2] 44)) (by rfl) (some 28) rfl (.slice (some ⟨v3.heap.size, 0, none⟩) 1 1) (by go_simp) (hK.out _ _ ?_ (fun hHeld => ?_))
      · exact cells3W (keep (keep (keep (keep HX2.out hc1) hc2) hc3) hcA)
      simp only [Act.put, List.setIfInBounds_toArray, List.set_cons_zero, List.set_cons_succ]
      have HT4 := hide ((((HTS.out.grow hc1).grow hc2).grow hc3).grow hcA)
      have HNW := hide (news3X v3 (.slice e0 l0 d0) (.slice e1 l1 d1) (.slice e2 l2 d2))
      have hss := HSS.out
      have hy1 := hc1.size
      have hy2 := hc2.size
      have hy3 := hc3.size
      refine wpAnyH_ready (rs := [13]) (by kernel_rfl) (by simp) (AllReadyH.cons rfl (fun K hK => ?_) AllReadyH.nil)
      refine step_appWd (some 29) rfl (by rfl) (.tmp 17) (.tmp 28) 28 (by rfl) (w.heap.size + 1 + 1 + 1) 44 i1 _ 3 72 Try.underlying28 hi1 hz0 hz1 hz2 (by rfl) (by decide) v k cells (by rfl) HT4.out.own ⟨v3.heap.size, 0, none⟩ 1 1 [.slice e0 l0 d0, .slice e1 l1 d1, .slice e2 l2 d2] (by rfl) (by rfl) HNW.out (by simp [Value.oneCell']) (by decide) (by unfold maxLen; omega) (by omega) (by simp; omega) (v3.heap.size + 1) (by simp) ?_
      intro gg cp W hown hgr hlies hglt
      have hVne : ∀ q, v.ownBlock = some q → w.heap.size + 1 + 1 + 1 ≤ q := fun q hq => (HT4.out.own.lt q hq).1
      have hX4 := keep (keep (keep (keep HX2.out hc1) hc2) hc3) hcA
      have hV4 := keep (keep (keep (keep HV2.out hc1) hc2) hc3) hcA
      have hXW := (hgr.block X (row_lt hX4) (fun e => HXN.out e)).trans hX4
      have hVW := (hgr.block (w.heap.size + 1 + 1) (row_lt hV4) (fun e => by have := hVne _ e.symm; omega)).trans hV4
      refine hK.out _ _ ?_ (fun hHeld => ?_)
      · exact cells3W hXW
      simp only [Act.put, List.setIfInBounds_toArray, List.set_cons_zero, List.set_cons_succ]
      refine take_yes (i := 14) (some 30) (.pointer (some ⟨w.heap.size + 1 + 1, 1, none⟩)) rfl rfl (by kernel_rfl) (by kernel_rfl) (by kernel_rfl) (fun _ _ _ h => h) (by rfl) ?_ (by assumption) ?_
      · intro W' hSw
        obtain ⟨hz0, hz1, hz2⟩ := hSw
        go_simp
      simp only [Act.put, List.setIfInBounds_toArray, List.set_cons_zero, List.set_cons_succ]
      have hXV : X ≠ w.heap.size + 1 + 1 := HXV.out
      refine store_one_next (i := 15) rfl rfl (by kernel_rfl) (by rfl) 28 _ _ rfl (w.heap.size + 1 + 1) 1 (some ⟨gg, 0, none⟩) (k + 1) cp rfl rfl #[.int .i64 p, v] 30 hVW (by simp) Try.size28 ?_ (fun hHeld => ?_)
      · exact cells3W ((Below.heap_setCell _ _ _ _ hXV).trans hXW)
      refine wpAnyH_done (by kernel_rfl) ?_ _
      have hpush := HTS.out.push (c0 := d0) (c1 := d1) (c2 := d2) (hc1.trans ((hc2.trans ((hc3.trans (hcA.mono hc3.size)).mono hc2.size)).mono hc1.size)) (by omega) (((ho0.grow hc2).grow hc3).grow hcA) ((ho1.grow hc3).grow hcA) (ho2.grow hcA) (fun _ => hg0) (fun _ => by omega) (fun _ => by omega) (fun hx _ => by have := ho0.ltX hx; omega) (fun hx _ => by have := ho0.ltX hx; omega) (fun hx _ => by have := ho1.ltX hx; omega) hown hgr (by simpa using hlies)
      have HI3 : Hid (OwInv w (W.setCell ⟨w.heap.size + 1 + 1, 1, none⟩ (.slice (some ⟨gg, 0, none⟩) (k + 1) cp)) p (some ⟨b, off, none⟩) n c (.slice (some ⟨gg, 0, none⟩) (k + 1) cp) (k + 1) L) := by
        refine ⟨by rw [heap_setCell_same _ _ _ _ _ _ hVW]; rfl, ?_, ?_⟩
        · rw [take3_succ HL.out.1 hlt]; exact hpush.low (by omega) 1 _
        · exact (((((HBZ.out.trans (hc1.mono (by omega))).trans (hc2.mono (by omega))).trans (hc3.mono (by omega))).trans (hcA.mono (by omega))).grown hgr (by first | omega | (simp; omega)) (fun q hq => by have := hVne q hq; omega)).setCell (Nat.le_refl _) _
      clear hown hgr hlies hglt hpush hXW hVW hX4 hV4 ho0 ho1 ho2 hg0 hg1 hg2 hc1 hc2 hc3 hcA hHeld HT4 HNW hVne hss hy1 hy2 hy3
      go_wp2_with fail
      go_roundw
      case rel => exact ⟨k + 1, _, by omega, by go_num, HI3⟩
      case measure => simp [intOf]; omega
    · refine step_callWd (some 20) rfl (by rfl) 27 _ _ _ rfl Try.func27 (by decide) rfl #[.slice a0 l0 q0] (mapw1 _ _ _ rfl) _ (own5_any a0 l0 q0 _ _ (HR0.out) hm0) ?_
      rintro e v1 ⟨e0, g0, d0, rfl, hg0, ho0, hc1⟩
      refine ⟨_, rfl, hK.out _ _ ?_ (fun hHeld => ?_)⟩
      · exact cells3W (keep HX2.out hc1)
      simp only [Act.put, List.setIfInBounds_toArray, List.set_cons_zero, List.set_cons_succ]
      refine wpAnyH_ready (rs := [1, 7]) (by kernel_rfl) (by simp) (AllReadyH.cons rfl (fun K hK => ?_) (AllReadyH.cons rfl (fun K hK => ?_) AllReadyH.nil))
      · refine step_valW (w' := v1) (by rfl) (some 17) rfl v (by have hv := (cells2 (keep HV2.out hc1)).2; go_simp) (hK.out _ _ ?_ (fun hHeld => ?_))
        · exact cells3W (keep HX2.out hc1)
        simp only [Act.put, List.setIfInBounds_toArray, List.set_cons_zero, List.set_cons_succ]
        refine wpAnyH_ready (rs := [7]) (by kernel_rfl) (by simp) (AllReadyH.cons rfl (fun K hK => ?_) AllReadyH.nil)
        refine step_callWd (some 23) rfl (by rfl) 27 _ _ _ rfl Try.func27 (by decide) rfl #[.slice a1 l1 q1] (mapw1 _ _ _ rfl) _ (own5_any a1 l1 q1 _ _ ((HR1.out).below hc1) hm1) ?_
        rintro e v2 ⟨e1, g1, d1, rfl, hg1, ho1, hc2⟩
        refine ⟨_, rfl, hK.out _ _ ?_ (fun hHeld => ?_)⟩
        · exact cells3W (keep (keep HX2.out hc1) hc2)
        simp only [Act.put, List.setIfInBounds_toArray, List.set_cons_zero, List.set_cons_succ]
        refine wpAnyH_ready (rs := [10]) (by kernel_rfl) (by simp) (AllReadyH.cons rfl (fun K hK => ?_) AllReadyH.nil)
        refine step_callWd (some 26) rfl (by rfl) 27 _ _ _ rfl Try.func27 (by decide) rfl #[.slice a2 l2 q2] (mapw1 _ _ _ rfl) _ (own5_any a2 l2 q2 _ _ (((HR2.out).below hc1).below hc2) hm2) ?_
        rintro e v3 ⟨e2, g2, d2, rfl, hg2, ho2, hc3⟩
        refine ⟨_, rfl, hK.out _ _ ?_ (fun hHeld => ?_)⟩
        · exact cells3W (keep (keep (keep HX2.out hc1) hc2) hc3)
        simp only [Act.put, List.setIfInBounds_toArray, List.set_cons_zero, List.set_cons_succ]
        refine take_yes (i := 11) (some 27) (.agg #[.slice e0 l0 d0, .slice e1 l1 d1, .slice e2 l2 d2]) rfl rfl (by kernel_rfl) (by kernel_rfl) (by kernel_rfl) (fun _ _ _ h => h) (by rfl) ?_ (by assumption) ?_
        · intro W' hSw
          obtain ⟨hz0, hz1, hz2⟩ := hSw
          go_simp
        simp only [Act.put, List.setIfInBounds_toArray, List.set_cons_zero, List.set_cons_succ]
        refine wpAnyH_ready (rs := [12]) (by kernel_rfl) (by simp) (AllReadyH.cons rfl (fun K hK => ?_) AllReadyH.nil)
        have hcA := below_al v3 (.cells #[.slice e0 l0 d0, .slice e1 l1 d1, .slice e2 l2 d2] 44)
        refine step_valW (w' := v3.alloc (.cells #[.slice e0 l0 d0, .slice e1 l1 d1, .slice e2 l2 d2] 44)) (by rfl) (some 28) rfl (.slice (some ⟨v3.heap.size, 0, none⟩) 1 1) (by go_simp) (hK.out _ _ ?_ (fun hHeld => ?_))
        · exact cells3W (keep (keep (keep (keep HX2.out hc1) hc2) hc3) hcA)
        simp only [Act.put, List.setIfInBounds_toArray, List.set_cons_zero, List.set_cons_succ]
        have HT4 := hide ((((HTS.out.grow hc1).grow hc2).grow hc3).grow hcA)
        have HNW := hide (news3X v3 (.slice e0 l0 d0) (.slice e1 l1 d1) (.slice e2 l2 d2))
        have hss := HSS.out
        have hy1 := hc1.size
        have hy2 := hc2.size
        have hy3 := hc3.size
        refine wpAnyH_ready (rs := [13]) (by kernel_rfl) (by simp) (AllReadyH.cons rfl (fun K hK => ?_) AllReadyH.nil)
        refine step_appWd (some 29) rfl (by rfl) (.tmp 17) (.tmp 28) 28 (by rfl) (w.heap.size + 1 + 1 + 1) 44 i1 _ 3 72 Try.underlying28 hi1 hz0 hz1 hz2 (by rfl) (by decide) v k cells (by rfl) HT4.out.own ⟨v3.heap.size, 0, none⟩ 1 1 [.slice e0 l0 d0, .slice e1 l1 d1, .slice e2 l2 d2] (by rfl) (by rfl) HNW.out (by simp [Value.oneCell']) (by decide) (by unfold maxLen; omega) (by omega) (by simp; omega) (v3.heap.size + 1) (by simp) ?_
        intro gg cp W hown hgr hlies hglt
        have hVne : ∀ q, v.ownBlock = some q → w.heap.size + 1 + 1 + 1 ≤ q := fun q hq => (HT4.out.own.lt q hq).1
        have hX4 := keep (keep (keep (keep HX2.out hc1) hc2) hc3) hcA
        have hV4 := keep (keep (keep (keep HV2.out hc1) hc2) hc3) hcA
        have hXW := (hgr.block X (row_lt hX4) (fun e => HXN.out e)).trans hX4
        have hVW := (hgr.block (w.heap.size + 1 + 1) (row_lt hV4) (fun e => by have := hVne _ e.symm; omega)).trans hV4
        refine hK.out _ _ ?_ (fun hHeld => ?_)
        · exact cells3W hXW
        simp only [Act.put, List.setIfInBounds_toArray, List.set_cons_zero, List.set_cons_succ]
        refine take_yes (i := 14) (some 30) (.pointer (some ⟨w.heap.size + 1 + 1, 1, none⟩)) rfl rfl (by kernel_rfl) (by kernel_rfl) (by kernel_rfl) (fun _ _ _ h => h) (by rfl) ?_ (by assumption) ?_
        · intro W' hSw
          obtain ⟨hz0, hz1, hz2⟩ := hSw
          go_simp
        simp only [Act.put, List.setIfInBounds_toArray, List.set_cons_zero, List.set_cons_succ]
        have hXV : X ≠ w.heap.size + 1 + 1 := HXV.out
        refine store_one_next (i := 15) rfl rfl (by kernel_rfl) (by rfl) 28 _ _ rfl (w.heap.size + 1 + 1) 1 (some ⟨gg, 0, none⟩) (k + 1) cp rfl rfl #[.int .i64 p, v] 30 hVW (by simp) Try.size28 ?_ (fun hHeld => ?_)
        · exact cells3W ((Below.heap_setCell _ _ _ _ hXV).trans hXW)
        refine wpAnyH_done (by kernel_rfl) ?_ _
        have hpush := HTS.out.push (c0 := d0) (c1 := d1) (c2 := d2) (hc1.trans ((hc2.trans ((hc3.trans (hcA.mono hc3.size)).mono hc2.size)).mono hc1.size)) (by omega) (((ho0.grow hc2).grow hc3).grow hcA) ((ho1.grow hc3).grow hcA) (ho2.grow hcA) (fun _ => hg0) (fun _ => by omega) (fun _ => by omega) (fun hx _ => by have := ho0.ltX hx; omega) (fun hx _ => by have := ho0.ltX hx; omega) (fun hx _ => by have := ho1.ltX hx; omega) hown hgr (by simpa using hlies)
        have HI3 : Hid (OwInv w (W.setCell ⟨w.heap.size + 1 + 1, 1, none⟩ (.slice (some ⟨gg, 0, none⟩) (k + 1) cp)) p (some ⟨b, off, none⟩) n c (.slice (some ⟨gg, 0, none⟩) (k + 1) cp) (k + 1) L) := by
          refine ⟨by rw [heap_setCell_same _ _ _ _ _ _ hVW]; rfl, ?_, ?_⟩
          · rw [take3_succ HL.out.1 hlt]; exact hpush.low (by omega) 1 _
          · exact (((((HBZ.out.trans (hc1.mono (by omega))).trans (hc2.mono (by omega))).trans (hc3.mono (by omega))).trans (hcA.mono (by omega))).grown hgr (by first | omega | (simp; omega)) (fun q hq => by have := hVne q hq; omega)).setCell (Nat.le_refl _) _
        clear hown hgr hlies hglt hpush hXW hVW hX4 hV4 ho0 ho1 ho2 hg0 hg1 hg2 hc1 hc2 hc3 hcA hHeld HT4 HNW hVne hss hy1 hy2 hy3
        go_wp2_with fail
        go_roundw
        case rel => exact ⟨k + 1, _, by omega, by go_num, HI3⟩
        case measure => simp [intOf]; omega
      · refine step_callWd (some 23) rfl (by rfl) 27 _ _ _ rfl Try.func27 (by decide) rfl #[.slice a1 l1 q1] (mapw1 _ _ _ rfl) _ (own5_any a1 l1 q1 _ _ ((HR1.out).below hc1) hm1) ?_
        rintro e v2 ⟨e1, g1, d1, rfl, hg1, ho1, hc2⟩
        refine ⟨_, rfl, hK.out _ _ ?_ (fun hHeld => ?_)⟩
        · exact cells3W (keep (keep HX2.out hc1) hc2)
        simp only [Act.put, List.setIfInBounds_toArray, List.set_cons_zero, List.set_cons_succ]
        refine wpAnyH_ready (rs := [1, 10]) (by kernel_rfl) (by simp) (AllReadyH.cons rfl (fun K hK => ?_) (AllReadyH.cons rfl (fun K hK => ?_) AllReadyH.nil))
        · refine step_valW (w' := v2) (by rfl) (some 17) rfl v (by have hv := (cells2 (keep (keep HV2.out hc1) hc2)).2; go_simp) (hK.out _ _ ?_ (fun hHeld => ?_))
          · exact cells3W (keep (keep HX2.out hc1) hc2)
          simp only [Act.put, List.setIfInBounds_toArray, List.set_cons_zero, List.set_cons_succ]
          refine wpAnyH_ready (rs := [10]) (by kernel_rfl) (by simp) (AllReadyH.cons rfl (fun K hK => ?_) AllReadyH.nil)
          refine step_callWd (some 26) rfl (by rfl) 27 _ _ _ rfl Try.func27 (by decide) rfl #[.slice a2 l2 q2] (mapw1 _ _ _ rfl) _ (own5_any a2 l2 q2 _ _ (((HR2.out).below hc1).below hc2) hm2) ?_
          rintro e v3 ⟨e2, g2, d2, rfl, hg2, ho2, hc3⟩
          refine ⟨_, rfl, hK.out _ _ ?_ (fun hHeld => ?_)⟩
          · exact cells3W (keep (keep (keep HX2.out hc1) hc2) hc3)
          simp only [Act.put, List.setIfInBounds_toArray, List.set_cons_zero, List.set_cons_succ]
          refine take_yes (i := 11) (some 27) (.agg #[.slice e0 l0 d0, .slice e1 l1 d1, .slice e2 l2 d2]) rfl rfl (by kernel_rfl) (by kernel_rfl) (by kernel_rfl) (fun _ _ _ h => h) (by rfl) ?_ (by assumption) ?_
          · intro W' hSw
            obtain ⟨hz0, hz1, hz2⟩ := hSw
            go_simp
          simp only [Act.put, List.setIfInBounds_toArray, List.set_cons_zero, List.set_cons_succ]
          refine wpAnyH_ready (rs := [12]) (by kernel_rfl) (by simp) (AllReadyH.cons rfl (fun K hK => ?_) AllReadyH.nil)
          have hcA := below_al v3 (.cells #[.slice e0 l0 d0, .slice e1 l1 d1, .slice e2 l2 d2] 44)
          refine step_valW (w' := v3.alloc (.cells #[.slice e0 l0 d0, .slice e1 l1 d1, .slice e2 l2 d2] 44)) (by rfl) (some 28) rfl (.slice (some ⟨v3.heap.size, 0, none⟩) 1 1) (by go_simp) (hK.out _ _ ?_ (fun hHeld => ?_))
          · exact cells3W (keep (keep (keep (keep HX2.out hc1) hc2) hc3) hcA)
          simp only [Act.put, List.setIfInBounds_toArray, List.set_cons_zero, List.set_cons_succ]
          have HT4 := hide ((((HTS.out.grow hc1).grow hc2).grow hc3).grow hcA)
          have HNW := hide (news3X v3 (.slice e0 l0 d0) (.slice e1 l1 d1) (.slice e2 l2 d2))
          have hss := HSS.out
          have hy1 := hc1.size
          have hy2 := hc2.size
          have hy3 := hc3.size
          refine wpAnyH_ready (rs := [13]) (by kernel_rfl) (by simp) (AllReadyH.cons rfl (fun K hK => ?_) AllReadyH.nil)
          refine step_appWd (some 29) rfl (by rfl) (.tmp 17) (.tmp 28) 28 (by rfl) (w.heap.size + 1 + 1 + 1) 44 i1 _ 3 72 Try.underlying28 hi1 hz0 hz1 hz2 (by rfl) (by decide) v k cells (by rfl) HT4.out.own ⟨v3.heap.size, 0, none⟩ 1 1 [.slice e0 l0 d0, .slice e1 l1 d1, .slice e2 l2 d2] (by rfl) (by rfl) HNW.out (by simp [Value.oneCell']) (by decide) (by unfold maxLen; omega) (by omega) (by simp; omega) (v3.heap.size + 1) (by simp) ?_
          intro gg cp W hown hgr hlies hglt
          have hVne : ∀ q, v.ownBlock = some q → w.heap.size + 1 + 1 + 1 ≤ q := fun q hq => (HT4.out.own.lt q hq).1
          have hX4 := keep (keep (keep (keep HX2.out hc1) hc2) hc3) hcA
          have hV4 := keep (keep (keep (keep HV2.out hc1) hc2) hc3) hcA
          have hXW := (hgr.block X (row_lt hX4) (fun e => HXN.out e)).trans hX4
          have hVW := (hgr.block (w.heap.size + 1 + 1) (row_lt hV4) (fun e => by have := hVne _ e.symm; omega)).trans hV4
          refine hK.out _ _ ?_ (fun hHeld => ?_)
          · exact cells3W hXW
          simp only [Act.put, List.setIfInBounds_toArray, List.set_cons_zero, List.set_cons_succ]
          refine take_yes (i := 14) (some 30) (.pointer (some ⟨w.heap.size + 1 + 1, 1, none⟩)) rfl rfl (by kernel_rfl) (by kernel_rfl) (by kernel_rfl) (fun _ _ _ h => h) (by rfl) ?_ (by assumption) ?_
          · intro W' hSw
            obtain ⟨hz0, hz1, hz2⟩ := hSw
            go_simp
          simp only [Act.put, List.setIfInBounds_toArray, List.set_cons_zero, List.set_cons_succ]
          have hXV : X ≠ w.heap.size + 1 + 1 := HXV.out
          refine store_one_next (i := 15) rfl rfl (by kernel_rfl) (by rfl) 28 _ _ rfl (w.heap.size + 1 + 1) 1 (some ⟨gg, 0, none⟩) (k + 1) cp rfl rfl #[.int .i64 p, v] 30 hVW (by simp) Try.size28 ?_ (fun hHeld => ?_)
          · exact cells3W ((Below.heap_setCell _ _ _ _ hXV).trans hXW)
          refine wpAnyH_done (by kernel_rfl) ?_ _
          have hpush := HTS.out.push (c0 := d0) (c1 := d1) (c2 := d2) (hc1.trans ((hc2.trans ((hc3.trans (hcA.mono hc3.size)).mono hc2.size)).mono hc1.size)) (by omega) (((ho0.grow hc2).grow hc3).grow hcA) ((ho1.grow hc3).grow hcA) (ho2.grow hcA) (fun _ => hg0) (fun _ => by omega) (fun _ => by omega) (fun hx _ => by have := ho0.ltX hx; omega) (fun hx _ => by have := ho0.ltX hx; omega) (fun hx _ => by have := ho1.ltX hx; omega) hown hgr (by simpa using hlies)
          have HI3 : Hid (OwInv w (W.setCell ⟨w.heap.size + 1 + 1, 1, none⟩ (.slice (some ⟨gg, 0, none⟩) (k + 1) cp)) p (some ⟨b, off, none⟩) n c (.slice (some ⟨gg, 0, none⟩) (k + 1) cp) (k + 1) L) := by
            refine ⟨by rw [heap_setCell_same _ _ _ _ _ _ hVW]; rfl, ?_, ?_⟩
            · rw [take3_succ HL.out.1 hlt]; exact hpush.low (by omega) 1 _
            · exact (((((HBZ.out.trans (hc1.mono (by omega))).trans (hc2.mono (by omega))).trans (hc3.mono (by omega))).trans (hcA.mono (by omega))).grown hgr (by first | omega | (simp; omega)) (fun q hq => by have := hVne q hq; omega)).setCell (Nat.le_refl _) _
          clear hown hgr hlies hglt hpush hXW hVW hX4 hV4 ho0 ho1 ho2 hg0 hg1 hg2 hc1 hc2 hc3 hcA hHeld HT4 HNW hVne hss hy1 hy2 hy3
          go_wp2_with fail
          go_roundw
          case rel => exact ⟨k + 1, _, by omega, by go_num, HI3⟩
          case measure => simp [intOf]; omega
        · refine step_callWd (some 26) rfl (by rfl) 27 _ _ _ rfl Try.func27 (by decide) rfl #[.slice a2 l2 q2] (mapw1 _ _ _ rfl) _ (own5_any a2 l2 q2 _ _ (((HR2.out).below hc1).below hc2) hm2) ?_
          rintro e v3 ⟨e2, g2, d2, rfl, hg2, ho2, hc3⟩
          refine ⟨_, rfl, hK.out _ _ ?_ (fun hHeld => ?_)⟩
          · exact cells3W (keep (keep (keep HX2.out hc1) hc2) hc3)
          simp only [Act.put, List.setIfInBounds_toArray, List.set_cons_zero, List.set_cons_succ]
          refine take_yes (i := 11) (some 27) (.agg #[.slice e0 l0 d0, .slice e1 l1 d1, .slice e2 l2 d2]) rfl rfl (by kernel_rfl) (by kernel_rfl) (by kernel_rfl) (fun _ _ _ h => h) (by rfl) ?_ (by assumption) ?_
          · intro W' hSw
            obtain ⟨hz0, hz1, hz2⟩ := hSw
            go_simp
          simp only [Act.put, List.setIfInBounds_toArray, List.set_cons_zero, List.set_cons_succ]
          refine wpAnyH_ready (rs := [1, 12]) (by kernel_rfl) (by simp) (AllReadyH.cons rfl (fun K hK => ?_) (AllReadyH.cons rfl (fun K hK => ?_) AllReadyH.nil))
          · refine step_valW (w' := v3) (by rfl) (some 17) rfl v (by have hv := (cells2 (keep (keep (keep HV2.out hc1) hc2) hc3)).2; go_simp) (hK.out _ _ ?_ (fun hHeld => ?_))
            · exact cells3W (keep (keep (keep HX2.out hc1) hc2) hc3)
            simp only [Act.put, List.setIfInBounds_toArray, List.set_cons_zero, List.set_cons_succ]
            refine wpAnyH_ready (rs := [12]) (by kernel_rfl) (by simp) (AllReadyH.cons rfl (fun K hK => ?_) AllReadyH.nil)
            have hcA := below_al v3 (.cells #[.slice e0 l0 d0, .slice e1 l1 d1, .slice e2 l2 d2] 44)
            refine step_valW (w' := v3.alloc (.cells #[.slice e0 l0 d0, .slice e1 l1 d1, .slice e2 l2 d2] 44)) (by rfl) (some 28) rfl (.slice (some ⟨v3.heap.size, 0, none⟩) 1 1) (by go_simp) (hK.out _ _ ?_ (fun hHeld => ?_))
            · exact cells3W (keep (keep (keep (keep HX2.out hc1) hc2) hc3) hcA)
            simp only [Act.put, List.setIfInBounds_toArray, List.set_cons_zero, List.set_cons_succ]
            have HT4 := hide ((((HTS.out.grow hc1).grow hc2).grow hc3).grow hcA)
            have HNW := hide (news3X v3 (.slice e0 l0 d0) (.slice e1 l1 d1) (.slice e2 l2 d2))
            have hss := HSS.out
            have hy1 := hc1.size
            have hy2 := hc2.size
            have hy3 := hc3.size
            refine wpAnyH_ready (rs := [13]) (by kernel_rfl) (by simp) (AllReadyH.cons rfl (fun K hK => ?_) AllReadyH.nil)
            refine step_appWd (some 29) rfl (by rfl) (.tmp 17) (.tmp 28) 28 (by rfl) (w.heap.size + 1 + 1 + 1) 44 i1 _ 3 72 Try.underlying28 hi1 hz0 hz1 hz2 (by rfl) (by decide) v k cells (by rfl) HT4.out.own ⟨v3.heap.size, 0, none⟩ 1 1 [.slice e0 l0 d0, .slice e1 l1 d1, .slice e2 l2 d2] (by rfl) (by rfl) HNW.out (by simp [Value.oneCell']) (by decide) (by unfold maxLen; omega) (by omega) (by simp; omega) (v3.heap.size + 1) (by simp) ?_
            intro gg cp W hown hgr hlies hglt
            have hVne : ∀ q, v.ownBlock = some q → w.heap.size + 1 + 1 + 1 ≤ q := fun q hq => (HT4.out.own.lt q hq).1
            have hX4 := keep (keep (keep (keep HX2.out hc1) hc2) hc3) hcA
            have hV4 := keep (keep (keep (keep HV2.out hc1) hc2) hc3) hcA
            have hXW := (hgr.block X (row_lt hX4) (fun e => HXN.out e)).trans hX4
            have hVW := (hgr.block (w.heap.size + 1 + 1) (row_lt hV4) (fun e => by have := hVne _ e.symm; omega)).trans hV4
            refine hK.out _ _ ?_ (fun hHeld => ?_)
            · exact cells3W hXW
            simp only [Act.put, List.setIfInBounds_toArray, List.set_cons_zero, List.set_cons_succ]
            refine take_yes (i := 14) (some 30) (.pointer (some ⟨w.heap.size + 1 + 1, 1, none⟩)) rfl rfl (by kernel_rfl) (by kernel_rfl) (by kernel_rfl) (fun _ _ _ h => h) (by rfl) ?_ (by assumption) ?_
            · intro W' hSw
              obtain ⟨hz0, hz1, hz2⟩ := hSw
              go_simp
            simp only [Act.put, List.setIfInBounds_toArray, List.set_cons_zero, List.set_cons_succ]
            have hXV : X ≠ w.heap.size + 1 + 1 := HXV.out
            refine store_one_next (i := 15) rfl rfl (by kernel_rfl) (by rfl) 28 _ _ rfl (w.heap.size + 1 + 1) 1 (some ⟨gg, 0, none⟩) (k + 1) cp rfl rfl #[.int .i64 p, v] 30 hVW (by simp) Try.size28 ?_ (fun hHeld => ?_)
            · exact cells3W ((Below.heap_setCell _ _ _ _ hXV).trans hXW)
            refine wpAnyH_done (by kernel_rfl) ?_ _
            have hpush := HTS.out.push (c0 := d0) (c1 := d1) (c2 := d2) (hc1.trans ((hc2.trans ((hc3.trans (hcA.mono hc3.size)).mono hc2.size)).mono hc1.size)) (by omega) (((ho0.grow hc2).grow hc3).grow hcA) ((ho1.grow hc3).grow hcA) (ho2.grow hcA) (fun _ => hg0) (fun _ => by omega) (fun _ => by omega) (fun hx _ => by have := ho0.ltX hx; omega) (fun hx _ => by have := ho0.ltX hx; omega) (fun hx _ => by have := ho1.ltX hx; omega) hown hgr (by simpa using hlies)
            have HI3 : Hid (OwInv w (W.setCell ⟨w.heap.size + 1 + 1, 1, none⟩ (.slice (some ⟨gg, 0, none⟩) (k + 1) cp)) p (some ⟨b, off, none⟩) n c (.slice (some ⟨gg, 0, none⟩) (k + 1) cp) (k + 1) L) := by
              refine ⟨by rw [heap_setCell_same _ _ _ _ _ _ hVW]; rfl, ?_, ?_⟩
              · rw [take3_succ HL.out.1 hlt]; exact hpush.low (by omega) 1 _
              · exact (((((HBZ.out.trans (hc1.mono (by omega))).trans (hc2.mono (by omega))).trans (hc3.mono (by omega))).trans (hcA.mono (by omega))).grown hgr (by first | omega | (simp; omega)) (fun q hq => by have := hVne q hq; omega)).setCell (Nat.le_refl _) _
            clear hown hgr hlies hglt hpush hXW hVW hX4 hV4 ho0 ho1 ho2 hg0 hg1 hg2 hc1 hc2 hc3 hcA hHeld HT4 HNW hVne hss hy1 hy2 hy3
            go_wp2_with fail
            go_roundw
            case rel => exact ⟨k + 1, _, by omega, by go_num, HI3⟩
            case measure => simp [intOf]; omega
          · have hcA := below_al v3 (.cells #[.slice e0 l0 d0, .slice e1 l1 d1, .slice e2 l2 d2] 44)
            refine step_valW (w' := v3.alloc (.cells #[.slice e0 l0 d0, .slice e1 l1 d1, .slice e2 l2 d2] 44)) (by rfl) (some 28) rfl (.slice (some ⟨v3.heap.size, 0, none⟩) 1 1) (by go_simp) (hK.out _ _ ?_ (fun hHeld => ?_))
            · exact cells3W (keep (keep (keep (keep HX2.out hc1) hc2) hc3) hcA)
            simp only [Act.put, List.setIfInBounds_toArray, List.set_cons_zero, List.set_cons_succ]
            refine wpAnyH_ready (rs := [1]) (by kernel_rfl) (by simp) (AllReadyH.cons rfl (fun K hK => ?_) AllReadyH.nil)
            refine step_valW (w' := v3.alloc (.cells #[.slice e0 l0 d0, .slice e1 l1 d1, .slice e2 l2 d2] 44)) (by rfl) (some 17) rfl v (by have hv := (cells2 (keep (keep (keep (keep HV2.out hc1) hc2) hc3) hcA)).2; go_simp) (hK.out _ _ ?_ (fun hHeld => ?_))
            · exact cells3W (keep (keep (keep (keep HX2.out hc1) hc2) hc3) hcA)
            simp only [Act.put, List.setIfInBounds_toArray, List.set_cons_zero, List.set_cons_succ]
            have HT4 := hide ((((HTS.out.grow hc1).grow hc2).grow hc3).grow hcA)
            have HNW := hide (news3X v3 (.slice e0 l0 d0) (.slice e1 l1 d1) (.slice e2 l2 d2))
            have hss := HSS.out
            have hy1 := hc1.size
            have hy2 := hc2.size
            have hy3 := hc3.size
            refine wpAnyH_ready (rs := [13]) (by kernel_rfl) (by simp) (AllReadyH.cons rfl (fun K hK => ?_) AllReadyH.nil)
            refine step_appWd (some 29) rfl (by rfl) (.tmp 17) (.tmp 28) 28 (by rfl) (w.heap.size + 1 + 1 + 1) 44 i1 _ 3 72 Try.underlying28 hi1 hz0 hz1 hz2 (by rfl) (by decide) v k cells (by rfl) HT4.out.own ⟨v3.heap.size, 0, none⟩ 1 1 [.slice e0 l0 d0, .slice e1 l1 d1, .slice e2 l2 d2] (by rfl) (by rfl) HNW.out (by simp [Value.oneCell']) (by decide) (by unfold maxLen; omega) (by omega) (by simp; omega) (v3.heap.size + 1) (by simp) ?_
            intro gg cp W hown hgr hlies hglt
            have hVne : ∀ q, v.ownBlock = some q → w.heap.size + 1 + 1 + 1 ≤ q := fun q hq => (HT4.out.own.lt q hq).1
            have hX4 := keep (keep (keep (keep HX2.out hc1) hc2) hc3) hcA
            have hV4 := keep (keep (keep (keep HV2.out hc1) hc2) hc3) hcA
            have hXW := (hgr.block X (row_lt hX4) (fun e => HXN.out e)).trans hX4
            have hVW := (hgr.block (w.heap.size + 1 + 1) (row_lt hV4) (fun e => by have := hVne _ e.symm; omega)).trans hV4
            refine hK.out _ _ ?_ (fun hHeld => ?_)
            · exact cells3W hXW
            simp only [Act.put, List.setIfInBounds_toArray, List.set_cons_zero, List.set_cons_succ]
            refine take_yes (i := 14) (some 30) (.pointer (some ⟨w.heap.size + 1 + 1, 1, none⟩)) rfl rfl (by kernel_rfl) (by kernel_rfl) (by kernel_rfl) (fun _ _ _ h => h) (by rfl) ?_ (by assumption) ?_
            · intro W' hSw
              obtain ⟨hz0, hz1, hz2⟩ := hSw
              go_simp
            simp only [Act.put, List.setIfInBounds_toArray, List.set_cons_zero, List.set_cons_succ]
            have hXV : X ≠ w.heap.size + 1 + 1 := HXV.out
            refine store_one_next (i := 15) rfl rfl (by kernel_rfl) (by rfl) 28 _ _ rfl (w.heap.size + 1 + 1) 1 (some ⟨gg, 0, none⟩) (k + 1) cp rfl rfl #[.int .i64 p, v] 30 hVW (by simp) Try.size28 ?_ (fun hHeld => ?_)
            · exact cells3W ((Below.heap_setCell _ _ _ _ hXV).trans hXW)
            refine wpAnyH_done (by kernel_rfl) ?_ _
            have hpush := HTS.out.push (c0 := d0) (c1 := d1) (c2 := d2) (hc1.trans ((hc2.trans ((hc3.trans (hcA.mono hc3.size)).mono hc2.size)).mono hc1.size)) (by omega) (((ho0.grow hc2).grow hc3).grow hcA) ((ho1.grow hc3).grow hcA) (ho2.grow hcA) (fun _ => hg0) (fun _ => by omega) (fun _ => by omega) (fun hx _ => by have := ho0.ltX hx; omega) (fun hx _ => by have := ho0.ltX hx; omega) (fun hx _ => by have := ho1.ltX hx; omega) hown hgr (by simpa using hlies)
            have HI3 : Hid (OwInv w (W.setCell ⟨w.heap.size + 1 + 1, 1, none⟩ (.slice (some ⟨gg, 0, none⟩) (k + 1) cp)) p (some ⟨b, off, none⟩) n c (.slice (some ⟨gg, 0, none⟩) (k + 1) cp) (k + 1) L) := by
              refine ⟨by rw [heap_setCell_same _ _ _ _ _ _ hVW]; rfl, ?_, ?_⟩
              · rw [take3_succ HL.out.1 hlt]; exact hpush.low (by omega) 1 _
              · exact (((((HBZ.out.trans (hc1.mono (by omega))).trans (hc2.mono (by omega))).trans (hc3.mono (by omega))).trans (hcA.mono (by omega))).grown hgr (by first | omega | (simp; omega)) (fun q hq => by have := hVne q hq; omega)).setCell (Nat.le_refl _) _
            clear hown hgr hlies hglt hpush hXW hVW hX4 hV4 ho0 ho1 ho2 hg0 hg1 hg2 hc1 hc2 hc3 hcA hHeld HT4 HNW hVne hss hy1 hy2 hy3
            go_wp2_with fail
            go_roundw
            case rel => exact ⟨k + 1, _, by omega, by go_num, HI3⟩
            case measure => simp [intOf]; omega
end Go.Proofs.Ytoijlepjnpdlkaa
