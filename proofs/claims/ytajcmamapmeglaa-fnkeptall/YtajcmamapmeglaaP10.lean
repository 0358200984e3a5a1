/- Contracts that the proof stands on, one behind the other. -/
import Derived.Test.YtajcmamapmeglaaP9
/- The specification's BigTrap and BigSiphon. -/
namespace Go.Proofs.Ytajcmamapmeglaa
open Go.RowKit
set_option maxRecDepth 10000

theorem run_append_none8 {P : Program} (w : World) (base : Nat) (t ty e : TypeId) (i : TypeInfo) (size : Nat) (ht : P.underlying t = some (.slice e)) (hi : P.info? e = some i)
    (v : Value) (n c : Nat) (xs : List Value) (hown : w.ownsRow base e size v n xs) :
    (Builtin.append_ #[t, t] ty #[v, .slice none 0 c]).run P w = .ok v w := by
  rcases hown.2 with ⟨rfl, rfl⟩ | ⟨g, cap, cur, rfl, _, _, hnc, _⟩
  · simp [Builtin.append_, run_underlying ht, sizeOf, typeInfo, hi, Builtin.lenOf, Builtin.firstCells]
  · simp [Builtin.append_, run_underlying ht, sizeOf, typeInfo, hi, Builtin.lenOf, Builtin.firstCells, hnc, storeCells]

/-- append, whatever is appended. -/
theorem wpList_append_any8 {P : Program} (w : World) {ops : Array Oper} {rest : List Oper} {o : Oper} {a : Act} {Q : Exit → Act → World → Prop} (hgd : o.guard = none) (s x : Operand) (t : TypeId)
    (ho : o.op = .call { callee := .builtin .append, args := #[s, x], argTypes := #[t, t] })
    (base : Nat) (e : TypeId) (i : TypeInfo) (z : Value) (size bytes : Nat) (ht : P.underlying t = some (.slice e)) (hi : P.info? e = some i) (hz : i.zero = some z)
    (hsize : i.size = size) (hby : i.bytes = bytes) (hzs : z.cells.size = size) (hsz : 0 < size)
    (v : Value) (n : Nat) (xs : List Value) (hs : a.eval s = v) (hown : w.ownsRow base e size v n xs)
    (ao : Option Addr) (m c : Nat) (news : List Value) (hx : a.eval x = .slice ao m c) (hl : news.length = m * size) (hnone : ao = none → m = 0)
    (hnews : ∀ ad, ao = some ad → ∀ j u, news[j]? = some u → w.cell? (ad.add j) = some u) (h1 : ∀ u ∈ news, u.oneCell' = true)
    (h63 : n + m ≤ maxLen) (hbytes : (n + m) * bytes ≤ 140737488355328) (hbase : base ≤ w.heap.size)
    (h : ∀ v' w', w'.ownsRow base e size v' (n + m) (xs ++ news) → w.grownBy w' v.ownBlock → wpList P ops Q rest (a.put o.dst v') w') : wpList P ops Q (o :: rest) a w := by
  cases ao with
  | some ad => exact wpList_append_own w hgd s x t ho base e i z size bytes ht hi hz hsize hby hzs hsz v n xs hs hown ad m c news hx hl (hnews ad rfl) h1 h63 hbytes hbase fun v' w' r1 r2 _ => h v' w' r1 r2
  | none =>
    obtain rfl := hnone rfl
    have hnews : news = [] := List.eq_nil_of_length_eq_zero (by simpa using hl)
    subst hnews
    refine wpList_plain hgd fun K hK' => ?_
    have hrun := run_append_none8 (P := P) w base t o.type e i size ht hi _ n c xs hown
    unfold Oper.wp
    simp [execOp, ho, resolve, invoke, builtin, hs, hx, hrun, Result.andThen]
    exact hK' _ _ (by simpa using h v w (by simpa using hown) (World.grownBy.refl _ _))

theorem rowSome8 {w : World} {a : Option Addr} {n : Nat} {xs : List Int} (h : Row w a n xs) : ∀ ad, a = some ad → ∀ j u, (xs.map (Value.int .i64))[j]? = some u → w.cell? (ad.add j) = some u := by
  intro ad e j u hu
  simp only [List.getElem?_map, Option.map_eq_some_iff] at hu
  obtain ⟨x, hx, rfl⟩ := hu
  have hj := (List.getElem?_eq_some_iff.mp hx).1
  have hl := h.1
  obtain ⟨b1, o1, y, he, _, hc, H⟩ := h.at (show j < n by omega)
  rw [e] at he
  injection he with he
  subst he
  rw [Addr.add_mid, hc]
  have := H.out
  rw [hx] at this
  simp at this
  rw [this]

theorem Ob.loc8 {w : World} {a : Option Addr} {b n B : Nat} {xs : List Int} (h : Ob w a b n xs) (hb : B ≤ b) : 0 < n → ∀ x, a = some x → B ≤ x.block := fun h0 x hx => by
  rcases h.2 with e | ⟨e, _⟩
  · omega
  · rw [e] at hx; injection hx with hx; subst hx; exact hb

set_option maxHeartbeats 400000 in
theorem own8_any (a : Option Addr) (n c : Nat) (xs : List Int) (w : World) (ha : Row w a n xs) (hn : n ≤ 1048576) :
    Calls Try.prog 97 #[.slice a n c] w fun e w' => ∃ a' c', e = .returned (.slice a' n c') ∧ Row w' a' n xs ∧ (0 < n → ∀ x, a' = some x → w.heap.size ≤ x.block) ∧ Below w.heap.size w w' := by
  obtain ⟨i0, hi, hz0, hz1, hz2⟩ := info_split2 Try.info3
  have HA := hide (ha.alloc (.cells #[] 3))
  have HL := hide ha.1
  clear ha
  have HO : Hid ((w.alloc (.cells #[] 3)).ownsRow w.heap.size 3 1 (.slice (some ⟨w.heap.size, 0, none⟩) 0 0) 0 []) :=
    ⟨rfl, .inr ⟨w.heap.size, 0, #[], rfl, Nat.le_refl _, heap_alloc_new _ _, Nat.le_refl _, Nat.zero_le _, rfl, rfl⟩⟩
  have HN := hide (show (xs.map (Value.int .i64)).length = n * 1 by rw [List.length_map, Nat.mul_one]; exact HL.out)
  have H1 := hide (show ∀ u ∈ xs.map (Value.int .i64), u.oneCell' = true by intro u hu; simp at hu; obtain ⟨x, _, rfl⟩ := hu; rfl)
  go_enter Try.func97, Try.ntmps97
  go_wp2_with (at_builtin; refine wpList_append_any8 _ rfl (.tmp 3) (.tmp 4) 27 rfl w.heap.size 3 i0 (.int .i64 0) 1 8 Try.underlying27 hi hz0 hz1 hz2 rfl (by decide) (.slice (some ⟨w.heap.size, 0, none⟩) 0 0) 0 [] rfl HO.out a n c (xs.map (Value.int .i64)) rfl HN.out (fun h => by (rcases HA.out.2 with h0 | ⟨b, off, e, _⟩; exact h0; rw [h] at e; cases e)) (rowSome8 HA.out) H1.out (by unfold maxLen; omega) (by omega) (by simp) ?_; intro v' W' r1 r2)
  go_ret
  rw [Nat.zero_add, List.nil_append] at r1
  obtain ⟨a', g, c', rfl, hg, hout⟩ := own_ob2 r1
  exact ⟨a', c', rfl, hout.row, hout.loc8 hg, (below_al w _).grown r2 (by simp) (fun k hk => by simp [Value.ownBlock] at hk; omega)⟩

/-- Those of xs that are not among ys. -/
def woL (xs ys : List Int) : List Int := xs.filter fun x => !hasB ys x

theorem woL_yes {xs ys : List Int} {k : Nat} {x : Int} (hx : xs[k]? = some x) (h : hasB ys x = false) : woL (xs.take (k + 1)) ys = woL (xs.take k) ys ++ [x] := by
  unfold woL
  rw [List.take_add_one, hx, List.filter_append]; simp [h]
theorem woL_no {xs ys : List Int} {k : Nat} {x : Int} (hx : xs[k]? = some x) (h : hasB ys x = true) : woL (xs.take (k + 1)) ys = woL (xs.take k) ys := by
  unfold woL
  rw [List.take_add_one, hx, List.filter_append]; simp [h]
theorem woL_len (xs ys : List Int) : (woL xs ys).length ≤ xs.length := List.length_filter_le _ _

set_option maxHeartbeats 1000000 in
theorem without_any (a ay : Option Addr) (n c ny cy : Nat) (xs ys : List Int) (w : World) (ha : Row w a n xs) (hy : Row w ay ny ys) (hn : n ≤ 1000) (hny : ny ≤ 1048576) :
    Calls Try.prog 99 #[.slice a n c, .slice ay ny cy] w fun e w' => ∃ a' m c', e = .returned (.slice a' m c') ∧ Row w' a' m (woL xs ys) ∧ (0 < m → ∀ x, a' = some x → w.heap.size ≤ x.block) ∧ Below w.heap.size w w' := by
  obtain ⟨i0, hi, hz0, hz1, hz2⟩ := info_split2 Try.info3
  have HA := hide ha
  have HY := hide hy
  have hxl : xs.length = n := ha.1
  clear ha hy
  go_enter Try.func99, Try.ntmps99
  go_wp2_with fail
  go_loopw [5, 10] (fun o i wr => ∃ k m : Nat, k ≤ n ∧ i = .int .i64 k ∧ Hid (m ≤ k) ∧ Hid (wr.ownsRow w.heap.size 3 1 o m ((woL (xs.take k) ys).map (Value.int .i64))) ∧ Hid (Below w.heap.size w wr)) (fun _ i _ => n - (intOf i).toNat)
  case atStart => exact ⟨0, 0, Nat.zero_le _, rfl, Nat.le_refl _, World.ownsRow_nil _ _ _ _, Below.refl _ _⟩
  case round =>
    obtain ⟨k, m, hk, rfl, hmk, hown, hbw⟩ := hrel
    by_cases hlt : k < n
    rotate_left
    · have hk' : n = k := by omega
      subst hk'
      obtain ⟨av, bv, cv, hv, hbv, hob⟩ := own_ob2 hown.out
      subst hv
      rw [List.take_of_length_le (by omega)] at hob
      have HE := hide (And.intro hob.row (And.intro (hob.loc8 hbv) hbw.out))
      clear hown hob hbv
      go_wp2_with fail
      go_ret
      exact ⟨av, m, cv, rfl, HE.out⟩
    obtain ⟨b1, o1, x, rfl, hl1, hc1, H1⟩ := (HA.out.below hbw.out).at hlt
    have HS := hide (has_any ay ny cy ys x wr (HY.out.below hbw.out) hny)
    cases hh : hasB ys x
    case true =>
      have HN := hide (woL_no H1.out hh)
      rw [hh] at HS
      go_wp2_with fail
      refine HS.out.mono ?_
      rintro e w2 ⟨rfl, rfl⟩
      clear HS
      go_wp2_with fail
      go_roundw
      case rel => exact ⟨k + 1, m, by omega, by go_num, Nat.le_succ_of_le hmk.out, by rw [HN.out]; exact hown, hbw⟩
      case measure => simp [intOf]; omega
    have HN := hide (woL_yes H1.out hh)
    rw [hh] at HS
    have hA2 := below_al wr (.cells #[.int .i64 x] 3)
    have HO2 := hide (hown.out.alloc (.cells #[.int .i64 x] 3))
    have HB2 := hide (hbw.out.trans (hA2.mono hbw.out.size))
    have HCE : Hid (∀ j u, ([.int .i64 x] : List Value)[j]? = some u → (wr.alloc (.cells #[.int .i64 x] 3)).cell? ((⟨wr.heap.size, 0, none⟩ : Addr).add j) = some u) := one_cell2 wr _
    have H1c : Hid (∀ u ∈ ([.int .i64 x] : List Value), u.oneCell' = true) := fun u hu => by simp at hu; subst hu; rfl
    have HX := hide (show m + 1 ≤ maxLen by have := hmk.out; unfold maxLen; omega)
    have HY2 := hide (show (m + 1) * 8 ≤ 140737488355328 by have := hmk.out; omega)
    have HZ := hide HB2.out.size
    clear hA2 hown hbw
    go_wp2_with fail
    refine HS.out.mono ?_
    rintro e w2 ⟨rfl, rfl⟩
    clear HS
    go_wp2_with (refine wpList_append_own _ rfl (.tmp 18) (.tmp 20) 27 rfl w.heap.size 3 i0 (.int .i64 0) 1 8 Try.underlying27 hi hz0 hz1 hz2 rfl (by decide) _ m _ rfl HO2.out ⟨_, 0, none⟩ 1 1 [.int .i64 x] rfl rfl HCE.out H1c.out HX.out HY2.out HZ.out ?_; intro v' W' r1 r2 r3)
    have HR1 : Hid (W'.ownsRow w.heap.size 3 1 v' (m + 1) ((woL (xs.take (k + 1)) ys).map (Value.int .i64))) := by
      show World.ownsRow _ _ _ _ _ _ _
      rw [HN.out, List.map_append]; exact r1
    have HB3 := hide (own_below2 HO2.out r2 HB2.out HB2.out.size (Nat.le_refl _))
    clear r1 r2 r3
    go_wp2_with fail
    go_roundw
    case rel => exact ⟨k + 1, m + 1, by omega, by go_num, Nat.succ_le_succ hmk.out, HR1, HB3⟩
    case measure => simp [intOf]; omega

theorem woL_rise {xs ys : List Int} {lo hi : Int} (h : riseB xs lo hi = true) : riseB (woL xs ys) lo hi = true := by
  induction xs generalizing lo with
  | nil => rfl
  | cons x r ih =>
    simp only [riseB, Bool.and_eq_true, decide_eq_true_eq] at h
    unfold woL
    rw [List.filter_cons]
    split
    · simp only [riseB, Bool.and_eq_true, decide_eq_true_eq]
      exact ⟨h.1, ih h.2⟩
    · have h2 := ih h.2
      unfold woL at h2
      have key : ∀ (l : List Int) (a b : Int), a ≤ b → riseB l b hi = true → riseB l a hi = true := by
        intro l a b hab hb
        cases l with
        | nil => rfl
        | cons z t => simp only [riseB, Bool.and_eq_true, decide_eq_true_eq] at hb ⊢; exact ⟨⟨by omega, hb.1.2⟩, hb.2⟩
      exact key _ _ _ (by omega) h2

theorem woL_mask {xs ys : List Int} {p : Int} (hx : riseB xs 0 (p - 1) = true) (hy : riseB ys 0 (p - 1) = true) : maskL (woL xs ys) = subN (maskL xs) (maskL ys) := by
  apply Nat.eq_of_testBit_eq; intro i
  rw [subN_bit, maskL_bit _ _ (fun z hz => (riseB_mem (woL_rise hx) z hz).1), maskL_bit _ _ (fun z hz => (riseB_mem hx z hz).1), maskL_bit _ _ (fun z hz => (riseB_mem hy z hz).1)]
  unfold woL hasB
  by_cases h1 : (i : Int) ∈ xs <;> by_cases h2 : (i : Int) ∈ ys <;> simp [h1, h2]

theorem woL_same {xs ys : List Int} (h : (woL xs ys).length = xs.length) : meetB xs ys = false := by
  unfold woL at h
  rw [List.length_filter_eq_length_iff] at h
  unfold meetB
  rw [List.any_eq_false]
  intro z hz
  have := h z hz
  simpa using this

/-- One pass over the steps: what is left of xs, ys; how it came. -/
structure PassAt (b : Bool) (p : Int) (n : Nat) (L : List (List Int)) (s : Nat) (xs ys : List Int) (k : Nat) : Prop where
  rise : riseB ys 0 (p - 1) = true
  hold : Holds b n L s (maskL ys)
  len : ys.length ≤ xs.length
  same : ys.length = xs.length → ys = xs ∧ slips b (maskL xs) k L = false

theorem PassAt.start {b : Bool} {p : Int} {n : Nat} {L : List (List Int)} {s : Nat} {xs : List Int} (h : riseB xs 0 (p - 1) = true) (hh : Holds b n L s (maskL xs)) : PassAt b p n L s xs xs 0 := ⟨h, hh, Nat.le_refl _, fun _ => ⟨rfl, rfl⟩⟩

theorem PassAt.stay {b : Bool} {p : Int} {n k : Nat} {L : List (List Int)} {s : Nat} {xs ys : List Int} (h : PassAt b p n L s xs ys k) (hs : slipAt b (maskL ys) k L = false) : PassAt b p n L s xs ys (k + 1) :=
  ⟨h.rise, h.hold, h.len, fun e => by obtain ⟨e1, e2⟩ := h.same e; exact ⟨e1, slips_step e2 (by rw [← e1]; exact hs)⟩⟩

theorem PassAt.cut {b : Bool} {p : Int} {n k : Nat} {L : List (List Int)} {s : Nat} {xs ys zs : List Int} (h : PassAt b p n L s xs ys k) (hs : slipAt b (maskL ys) k L = true) (hk : k < n) (hz : riseB zs 0 (p - 1) = true)
    (hm : maskL zs = sideB b (maskL (L.getD (3 * k) [])) (maskL (L.getD (3 * k + 1) []))) : PassAt b p n L s xs (woL ys zs) (k + 1) := by
  refine ⟨woL_rise h.rise, ?_, Nat.le_trans (woL_len _ _) h.len, fun e => ?_⟩
  · rw [woL_mask h.rise hz, hm]; exact h.hold.take hk hs
  · have h1 := woL_len ys zs
    have h2 := woL_same (xs := ys) (ys := zs) (by have := h.len; omega)
    rw [meet_mask h.rise hz] at h2
    unfold slipAt slipB at hs
    rw [← hm] at hs
    simp only [Bool.and_eq_true, Bool.not_eq_true', decide_eq_false_iff_not] at hs
    simp only [Bool.not_eq_false', decide_eq_true_eq] at h2
    rw [Nat.and_comm] at h2
    exact absurd h2 hs.1

/-- How the search for the greatest set within one ends. -/
def GtEnd (b : Bool) (p : Int) (n : Nat) (L : List (List Int)) (s : Nat) (w : World) (e : Ending) (w' : World) : Prop :=
  ∃ a m c zs, e = .returned (.slice a m c) ∧ Row w' a m zs ∧ (0 < m → ∀ x, a = some x → w.heap.size ≤ x.block) ∧ riseB zs 0 (p - 1) = true ∧ IsG b n L s (maskL zs) ∧ Below w.heap.size w w'

/-- How many a slice has. -/
def lenOfV (v : Value) : Nat := match v with | .slice _ n _ => n | _ => 0

set_option maxHeartbeats 4000000 in
theorem l8BigTrap_any (P : Nat) (a ax : Option Addr) (n c nx cx : Nat) (L : List (List Int)) (xs : List Int) (w : World) (h : Lists w a (3 * n) L) (rx : Row w ax nx xs) (hx16 : nx ≤ 16) (hg : netOk (P : Int) n L = true) (hx : riseB xs 0 ((P : Int) - 1) = true) :
    Calls Try.prog 95 #[.agg #[.int .i64 (P : Int), .slice a n c], .slice ax nx cx] w fun e w' => GtEnd false (P : Int) n L (maskL xs) w e w' := by
  have hAl := below_al w (.cells #[.int .i64 (P : Int), .slice a n c] 26)
  have hn := netN hg
  have hP : P ≤ 16 := by unfold netOk at hg; simp [inB] at hg; omega
  have HL := hide h
  have HG := hide hg
  have HX := hide hx
  have HV := hide (heap_alloc_new w (.cells #[.int .i64 (P : Int), .slice a n c] 26))
  have HO := hide (own8_any ax nx cx xs (w.alloc (.cells #[.int .i64 (P : Int), .slice a n c] 26)) (rx.below hAl) (by omega))
  have HB0 := hide hAl
  have hxl : xs.length = nx := rx.1
  obtain ⟨s, hs⟩ : ∃ s, Hid (maskL xs = s) := ⟨_, rfl⟩
  have HH0 : Hid (Holds false n L s (maskL xs)) := by show Holds _ _ _ _ _; rw [hs.out]; exact Holds.start
  rw [hs.out]
  clear h rx hg hx hAl
  go_enter Try.func95, Try.ntmps95
  go_wp2_with fail
  refine HO.out.mono ?_
  rintro e w1 ⟨a1, c1, rfl, hr1, hl1, hb⟩
  have HLO1 : Hid (0 < nx → ∀ x, a1 = some x → w.heap.size ≤ x.block) := fun h0 x hx => Nat.le_trans HB0.out.size (hl1 h0 x hx)
  have HR1 := hide hr1
  have HV1 := hide (keep HV.out hb)
  have HB1 := hide (HB0.out.trans (hb.mono HB0.out.size))
  clear hr1 hl1 hb HO HV HB0 hs hxl
  go_wp2_with fail
  go_loopw [1] (fun sv wr => ∃ (a1 : Option Addr) (m1 c1 : Nat) (ys : List Int), sv = .slice a1 m1 c1 ∧ m1 ≤ 16 ∧ Hid (Row wr a1 m1 ys) ∧ Hid (0 < m1 → ∀ x, a1 = some x → w.heap.size ≤ x.block) ∧ Hid (riseB ys 0 ((P : Int) - 1) = true) ∧ Hid (Holds false n L s (maskL ys)) ∧ Hid (wr.heap[w.heap.size]? = some (.cells #[.int .i64 (P : Int), .slice a n c] 26 (0, 0))) ∧ Hid (Below w.heap.size w wr)) (fun sv _ => lenOfV sv)
  case atStart => exact ⟨a1, nx, c1, xs, rfl, hx16, HR1, HLO1, HX, HH0, HV1, HB1⟩
  case round =>
    clear HR1 HX HH0 HV1 HB1 HLO1
    obtain ⟨a1, m1, c1, ys, rfl, hm16, hr, hlo, hx, hh, hv, hbel⟩ := hrel
    obtain ⟨hc0, hc1⟩ := cells2 hv.out
    have hlt := row_lt hv.out
    have hyl : ys.length = m1 := hr.out.1
    have HT := hide (l8Trap_any P a a1 n c m1 c1 L ys wr (HL.out.below hbel.out) hr.out (by omega) HG.out hx.out)
    go_wp2_with fail
    refine HT.out.mono ?_
    rintro e w2 ⟨rfl, hb⟩
    have HR2 := hide (hr.out.below hb)
    have HV2 := hide (keep hv.out hb)
    have HB2 := hide (hbel.out.trans (hb.mono hbel.out.size))
    clear hb HT hr hv hbel hc0 hc1 hlt
    cases hsl : slips false (maskL ys) n L
    case false =>
      have HE := hide (hh.out.done hsl)
      go_wp2_with fail
      go_ret
      exact ⟨a1, m1, c1, ys, rfl, HR2.out, hlo.out, hx.out, HE.out, HB2.out⟩
    have HSL := hide hsl
    clear hsl
    obtain ⟨hc0, hc1⟩ := cells2 HV2.out
    have hlt := row_lt HV2.out
    have HP0 := hide (PassAt.start hx.out hh.out)
    clear hx hh
    go_wp2_with fail
    clear hc0 hc1 hlt
    go_loopw [1, 16, 6] (fun sv i _ wr => ∃ (k : Nat) (a2 : Option Addr) (m2 c2 : Nat) (zs : List Int), sv = .slice a2 m2 c2 ∧ k ≤ n ∧ i = .int .i64 k ∧ m2 ≤ 16 ∧ Hid (Row wr a2 m2 zs) ∧ Hid (0 < m2 → ∀ x, a2 = some x → w.heap.size ≤ x.block) ∧ Hid (PassAt false (P : Int) n L s ys zs k) ∧ Hid (wr.heap[w.heap.size]? = some (.cells #[.int .i64 (P : Int), .slice a n c] 26 (0, 0))) ∧ Hid (Below w.heap.size w wr)) (fun _ i _ _ => n - (intOf i).toNat)
    case atStart => exact ⟨0, a1, m1, c1, ys, rfl, Nat.zero_le _, rfl, hm16, HR2, hlo, HP0, HV2, HB2⟩
    case round =>
      clear HR2 HP0 HV2 HB2
      obtain ⟨k, a2, m2, c2, zs, rfl, hk, rfl, hm2, hr, hlo2, hp, hv, hbel⟩ := hrel
      have hzl : zs.length = m2 := hr.out.1
      by_cases hlt : k < n
      rotate_left
      · have hk' : n = k := by omega
        have hlen : m2 < m1 := by
          have h1 := hp.out.len
          rcases Nat.lt_or_ge m2 m1 with h | h
          · exact h
          · obtain ⟨e1, e2⟩ := hp.out.same (by omega)
            rw [← hk'] at e2
            rw [HSL.out] at e2; cases e2
        have HRI := hide hp.out.rise
        have HHO := hide hp.out.hold
        clear hp HSL
        have hlt' : ¬ k < n := hlt
        go_wp2_with fail
        go_roundw
        case rel => exact ⟨a2, m2, c2, zs, rfl, hm2, hr, hlo2, HRI, HHO, hv, hbel⟩
        case measure => simp only [lenOfV]; exact hlen
      obtain ⟨b0, off, a0, n0, c0, a3, n3, c3, a4, n4, c4, rfl, hb, hrr, m0, m3, m4, r0, r3, r4⟩ := (HL.out.below hbel.out).tri hlt
      obtain ⟨hc0, hc1, hc2⟩ := rangeAt_cells3 hrr
      have hri := net_rises HG.out hlt
      have hA1 := below_al wr (.cells #[.slice a0 n0 c0, .slice a3 n3 c3, .slice a4 n4 c4] 106)
      have HB1 := hide (hbel.out.trans (hA1.mono hbel.out.size))
      have HV1 := hide (heap_alloc_new wr (.cells #[.slice a0 n0 c0, .slice a3 n3 c3, .slice a4 n4 c4] 106))
      have HVN := hide (keep hv.out hA1)
      have q0 : n0 ≤ 1048576 := by have h1 := r0.1; rcases rise_len hri.1 with e | e; omega; rw [e] at h1; simp at h1; omega
      have q3 : n3 ≤ 1048576 := by have h1 := r3.1; rcases rise_len hri.2.1 with e | e; omega; rw [e] at h1; simp at h1; omega
      have HRZ := hide (hr.out.below hA1)
      have HN0 := hide (r0.below hA1)
      have H0 := hide (meet_any a0 a2 n0 m2 c0 c2 _ zs _ (r0.below hA1) (hr.out.below hA1) q0 (by omega))
      have H1 := hide (meet_any a3 a2 n3 m2 c3 c2 _ zs _ (r3.below hA1) (hr.out.below hA1) q3 (by omega))
      have HS := hide (slipAt_meet (b := false) HG.out hlt hp.out.rise)
      simp only [Bool.false_eq_true, if_false] at HS
      simp only [Nat.add_zero] at HS
      have HSTAY : Hid (slipAt false (maskL zs) k L = false → PassAt false (P : Int) n L s ys zs (k + 1)) := fun h => hp.out.stay h
      have HCUT : Hid (slipAt false (maskL zs) k L = true → PassAt false (P : Int) n L s ys (woL zs (L.getD (3 * k) [])) (k + 1)) := fun h => hp.out.cut h hlt hri.1 (by simp [sideB])
      rw [HS.out] at HSTAY HCUT
      obtain ⟨t0, ht0⟩ : ∃ t, Hid (meetB (L.getD (3 * k) []) zs = t) := ⟨_, rfl⟩
      obtain ⟨t1, ht1⟩ : ∃ t, Hid (meetB (L.getD (3 * k + 1) []) zs = t) := ⟨_, rfl⟩
      rw [ht0.out] at H0 HSTAY HCUT
      rw [ht1.out] at H1 HSTAY HCUT
      obtain ⟨nl, hnl⟩ : ∃ nl, Hid ((L.getD (3 * k) []) = nl) := ⟨_, rfl⟩
      rw [hnl.out] at HCUT HN0
      have HW := hide (fun (W : World) (hW : Below (wr.alloc (.cells #[.slice a0 n0 c0, .slice a3 n3 c3, .slice a4 n4 c4] 106)).heap.size (wr.alloc (.cells #[.slice a0 n0 c0, .slice a3 n3 c3, .slice a4 n4 c4] 106)) W) => without_any a2 a0 m2 c2 n0 c0 zs nl W (HRZ.out.below hW) (HN0.out.below hW) (by omega) q0)
      clear hrr m0 m3 m4 r0 r3 r4 hri hA1 HS ht0 ht1 hbel hr hv hp hnl
      go_wp2_with fail
      clear hc0 hc1 hc2
      generalize wr.alloc (.cells #[.slice a0 n0 c0, .slice a3 n3 c3, .slice a4 n4 c4] 106) = W1 at *
      generalize wr.heap.size = q at *
      obtain ⟨hv0, hv1, hv2⟩ := cells3E HV1.out
      have hvl := (Array.getElem?_eq_some_iff.mp HV1.out).1
      go_wp2_with fail
      refine H0.out.mono ?_
      rintro e w3 ⟨rfl, rfl⟩
      cases t0
      · have HU := hide (HSTAY.out rfl)
        clear HSTAY HCUT H1 H0 HW HN0
        go_wp2_with fail
        go_roundw
        case rel => exact ⟨k + 1, a2, m2, c2, zs, rfl, by omega, by go_num, hm2, HRZ, hlo2, HU, HVN, HB1⟩
        case measure => simp [intOf]; omega
      cases t1
      case true =>
        have HU := hide (HSTAY.out rfl)
        clear HSTAY HCUT H0 HW HN0
        go_wp2_with fail
        refine H1.out.mono ?_
        rintro e w3 ⟨rfl, rfl⟩
        go_wp2_with fail
        go_roundw
        case rel => exact ⟨k + 1, a2, m2, c2, zs, rfl, by omega, by go_num, hm2, HRZ, hlo2, HU, HVN, HB1⟩
        case measure => simp [intOf]; omega
      have HU := hide (HCUT.out rfl)
      clear HSTAY HCUT H0
      go_wp2_with fail
      refine H1.out.mono ?_
      rintro e w3 ⟨rfl, rfl⟩
      clear H1
      go_wp2_with fail
      refine (HW.out _ (Below.refl _ _)).mono ?_
      rintro e w4 ⟨a5, m5, c5, rfl, hr5, hl5, hb5⟩
      have HL5 : Hid (0 < m5 → ∀ x, a5 = some x → w.heap.size ≤ x.block) := fun h0 x hx => Nat.le_trans HB1.out.size (hl5 h0 x hx)
      have HR5 := hide hr5
      have HV5 := hide (keep HVN.out hb5)
      have HB5 := hide (HB1.out.trans (hb5.mono HB1.out.size))
      have hm5 : m5 ≤ 16 := by have h1 := hr5.1; have h2 := woL_len zs nl; omega
      clear hr5 hb5 hl5 HW HVN HB1 HV1 hv0 hv1 hv2 hvl HN0 HRZ
      go_wp2_with fail
      go_roundw
      case rel => exact ⟨k + 1, a5, m5, c5, _, rfl, by omega, by go_num, hm5, HR5, HL5, HU, HV5, HB5⟩
      case measure => simp [intOf]; omega

/-- What is told: of a net and a set as the chapter asks the members of the greatest set; else none. -/
def bgZ (b : Bool) (p : Int) (n : Nat) (L : List (List Int)) (xs zs : List Int) : Prop := (ssOk p n L xs = true → ∃ r, r < 2 ^ 16 ∧ IsG b n L (maskL xs) r ∧ zs = nums2 r.testBit 16) ∧ (ssOk p n L xs = false → zs = [])

/-- How BigTrap and BigSiphon of the specification end. -/
def BgS (b : Bool) (p : Int) (n : Nat) (L : List (List Int)) (xs : List Int) (w : World) (e : Ending) (w' : World) : Prop :=
  ∃ a m c zs, e = .returned (.tuple #[.slice a m c, .bool (ssOk p n L xs)]) ∧ Row w' a m zs ∧ (0 < m → ∀ x, a = some x → w.heap.size ≤ x.block) ∧ bgZ b p n L xs zs ∧ Below w.heap.size w w'

theorem bgS_no {b : Bool} {p : Int} {n : Nat} {L : List (List Int)} {xs : List Int} {w w' : World} (h : ssOk p n L xs = false) (hb : Below w.heap.size w w') : BgS b p n L xs w (.returned (.tuple #[.slice none 0 0, .bool false])) w' :=
  ⟨none, 0, 0, [], by rw [h], ⟨rfl, .inl rfl⟩, fun h0 => absurd h0 (Nat.lt_irrefl 0), ⟨fun e => (by rw [h] at e; cases e), fun _ => rfl⟩, hb⟩

theorem bgS_yes {b : Bool} {p : Int} {n : Nat} {L : List (List Int)} {xs : List Int} {w w1 w' : World} {e : Ending} (h : ssOk p n L xs = true) (hb : Below w.heap.size w w1) (hg : GtEnd b p n L (maskL xs) w1 e w') :
    ∃ a m c, e = .returned (.slice a m c) ∧ BgS b p n L xs w (.returned (.tuple #[.slice a m c, .bool true])) w' := by
  obtain ⟨a, m, c, zs, rfl, hr, hlo, hz, hi, hb2⟩ := hg
  obtain ⟨_, hp1, hp2, hri⟩ := ss_parts h
  have hlt := rise_lt hz hp2
  refine ⟨a, m, c, rfl, a, m, c, zs, by rw [h], hr, fun h0 x hx => Nat.le_trans hb.size (hlo h0 x hx), ?_, hb.trans (hb2.mono hb.size)⟩
  refine ⟨fun _ => ⟨maskL zs, hlt, hi, (nums2_mask hp2 hz).symm⟩, fun e => ?_⟩
  rw [h] at e
  cases e

theorem ss_len {p : Int} {n : Nat} {L : List (List Int)} {xs : List Int} (h : ssOk p n L xs = true) : xs.length ≤ 16 := by
  obtain ⟨_, hp1, hp2, hri⟩ := ss_parts h
  rcases rise_len hri with e | e
  · omega
  · rw [e]; simp

set_option maxHeartbeats 1000000 in
theorem bigTrapS_any (p : Int) (a ax : Option Addr) (n c nx cx : Nat) (L : List (List Int)) (xs : List Int) (w : World) (h : Lists w a (3 * n) L) (rx : Row w ax nx xs) (hs : sizeN n L ≤ 1048576) (hx : nx ≤ 1048576) :
    Calls Try.prog 37 #[.agg #[.int .i64 p, .slice a n c], .slice ax nx cx] w fun e w' => BgS false p n L xs w e w' := by
  have hAl := below_al w (.cells #[.int .i64 p, .slice a n c] 26)
  have hN := heap_alloc_new w (.cells #[.int .i64 p, .slice a n c] 26)
  have HT := hide (l8Asked_any p a ax n c nx cx L xs _ (h.below hAl) (rx.below hAl) hs hx)
  have HL := hide (h.below hAl)
  have HRX := hide (rx.below hAl)
  have HB0 := hide hAl
  have hxl : xs.length = nx := rx.1
  clear h rx
  go_enter Try.func37, Try.ntmps37
  go_wp2_with fail
  refine HT.out.mono ?_
  rintro e w1 ⟨rfl, hb⟩
  have HB1 := hide (HB0.out.trans (hb.mono HB0.out.size))
  obtain ⟨hc0, hc1⟩ := cells2 (keep hN hb)
  have hlt := row_lt (keep hN hb)
  cases hok : ssOk p n L xs
  · have HE := hide (bgS_no (b := false) hok HB1.out)
    clear HT hb hok HB0 hAl hN HRX HL
    go_wp2_with fail
    go_ret2
    exact HE.out
  obtain ⟨hgn, hp1, hp2, hri⟩ := ss_parts hok
  have h16 := ss_len hok
  obtain ⟨P, rfl⟩ : ∃ P : Nat, p = (P : Int) := ⟨p.toNat, by omega⟩
  have HQ := hide (l8BigTrap_any P a ax n c nx cx L xs w1 (HL.out.below hb) (HRX.out.below hb) (by omega) hgn hri)
  have HE : Hid (∀ e W, GtEnd false (P : Int) n L (maskL xs) w1 e W → ∃ a m c, e = .returned (.slice a m c) ∧ BgS false (P : Int) n L xs w (.returned (.tuple #[.slice a m c, .bool true])) W) := fun e W hW => bgS_yes hok HB1.out hW
  clear HT hb hok HB0 hAl hN HRX HL hgn hri
  go_wp2_with fail
  refine HQ.out.mono ?_
  intro e w2 hge
  obtain ⟨a2, m2, c2, rfl, hfin⟩ := HE.out e w2 hge
  have HF := hide hfin
  clear hge HQ hc0 hc1 HB1 hlt hfin
  go_wp2_with fail
  go_ret2
  exact HF.out

set_option maxHeartbeats 4000000 in
theorem bigSiphonS_any (p : Int) (a ax : Option Addr) (n c nx cx : Nat) (L : List (List Int)) (xs : List Int) (w : World) (h : Lists w a (3 * n) L) (rx : Row w ax nx xs) (hsz : sizeN n L ≤ 1048576) (hx : nx ≤ 1048576) :
    Calls Try.prog 39 #[.agg #[.int .i64 p, .slice a n c], .slice ax nx cx] w fun e w' => BgS true p n L xs w e w' := by
  have hAl := below_al w (.cells #[.int .i64 p, .slice a n c] 26)
  have hN := heap_alloc_new w (.cells #[.int .i64 p, .slice a n c] 26)
  have HT := hide (l8Asked_any p a ax n c nx cx L xs _ (h.below hAl) (rx.below hAl) hsz hx)
  have HL := hide h
  have HRX := hide (rx.below hAl)
  have HB0 := hide hAl
  have hxl : xs.length = nx := rx.1
  clear h rx
  by_cases hok : ssOk p n L xs = true
  rotate_left
  · have hok' : ssOk p n L xs = false := by simpa using hok
    rw [hok'] at HT
    have HE := hide (fun (W : World) (hW : Below w.heap.size w W) => bgS_no (b := true) hok' hW)
    clear hok hok' hAl hN HRX HL
    go_enter Try.func39, Try.ntmps39
    go_wp2_with fail
    refine HT.out.mono ?_
    rintro e w1 ⟨rfl, hb⟩
    have HB1 := hide (HB0.out.trans (hb.mono HB0.out.size))
    clear HT hb HB0
    go_wp2_with fail
    go_ret2
    exact HE.out _ HB1.out
  obtain ⟨hgn, hp1, hp2, hri⟩ := ss_parts hok
  have h16 := ss_len hok
  obtain ⟨P, rfl⟩ : ∃ P : Nat, p = (P : Int) := ⟨p.toNat, by omega⟩
  have hx16 : nx ≤ 16 := by omega
  have hP : P ≤ 16 := by omega
  have hn := netN hgn
  have HG := hide hgn
  have HX := hide hri
  have HE : Hid (∀ e W, GtEnd true (P : Int) n L (maskL xs) w e W → ∃ a m c, e = .returned (.slice a m c) ∧ BgS true (P : Int) n L xs w (.returned (.tuple #[.slice a m c, .bool true])) W) := fun e W hW => bgS_yes hok (Below.refl _ w) hW
  obtain ⟨s, hs⟩ : ∃ s, Hid (maskL xs = s) := ⟨_, rfl⟩
  have HH0 : Hid (Holds true n L s (maskL xs)) := by show Holds _ _ _ _ _; rw [hs.out]; exact Holds.start
  rw [hs.out] at HE
  rw [hok] at HT
  have HNN := hide hN
  clear hok hgn hri hAl h16 hs hN
  go_enter Try.func39, Try.ntmps39
  go_wp2_with fail
  refine HT.out.mono ?_
  rintro e w0 ⟨rfl, hb⟩
  have HV0 := hide (keep HNN.out hb)
  have HBZ := hide (HB0.out.trans (hb.mono HB0.out.size))
  have HO := hide (own8_any ax nx cx xs w0 (HRX.out.below hb) (by omega))
  clear HT hb HB0 HNN HRX
  go_wp2_with fail
  refine HO.out.mono ?_
  rintro e w1 ⟨a1, c1, rfl, hr1, hl1, hb⟩
  have HLO1 : Hid (0 < nx → ∀ x, a1 = some x → w.heap.size ≤ x.block) := fun h0 x hx => Nat.le_trans HBZ.out.size (hl1 h0 x hx)
  have HR1 := hide hr1
  have HV1 := hide (keep HV0.out hb)
  have HB1 := hide (HBZ.out.trans (hb.mono HBZ.out.size))
  clear hr1 hl1 hb HO HV0 HBZ hxl
  go_wp2_with fail
  go_loopw [6] (fun sv wr => ∃ (a1 : Option Addr) (m1 c1 : Nat) (ys : List Int), sv = .slice a1 m1 c1 ∧ m1 ≤ 16 ∧ Hid (Row wr a1 m1 ys) ∧ Hid (0 < m1 → ∀ x, a1 = some x → w.heap.size ≤ x.block) ∧ Hid (riseB ys 0 ((P : Int) - 1) = true) ∧ Hid (Holds true n L s (maskL ys)) ∧ Hid (wr.heap[w.heap.size]? = some (.cells #[.int .i64 (P : Int), .slice a n c] 26 (0, 0))) ∧ Hid (Below w.heap.size w wr)) (fun sv _ => lenOfV sv)
  case atStart => exact ⟨a1, nx, c1, xs, rfl, hx16, HR1, HLO1, HX, HH0, HV1, HB1⟩
  case round =>
    clear HR1 HX HH0 HV1 HB1 HLO1
    obtain ⟨a1, m1, c1, ys, rfl, hm16, hr, hlo, hx, hh, hv, hbel⟩ := hrel
    obtain ⟨hc0, hc1⟩ := cells2 hv.out
    have hlt := row_lt hv.out
    have hyl : ys.length = m1 := hr.out.1
    have HT := hide (l8Siphon_any P a a1 n c m1 c1 L ys wr (HL.out.below hbel.out) hr.out (by omega) HG.out hx.out)
    go_wp2_with fail
    refine HT.out.mono ?_
    rintro e w2 ⟨rfl, hb⟩
    have HR2 := hide (hr.out.below hb)
    have HV2 := hide (keep hv.out hb)
    have HB2 := hide (hbel.out.trans (hb.mono hbel.out.size))
    clear hb HT hr hv hbel hc0 hc1 hlt
    cases hsl : slips true (maskL ys) n L
    case false =>
      have HE0 := HE
      have HE := hide (hh.out.done hsl)
      go_wp2_with fail
      obtain ⟨a9, m9, c9, e9, HF⟩ := HE0.out _ w2 ⟨a1, m1, c1, ys, rfl, HR2.out, hlo.out, hx.out, HE.out, HB2.out⟩
      injection e9 with e9
      injection e9 with e91 e92 e93
      subst e91 e92 e93
      go_ret2
      exact HF
    have HSL := hide hsl
    clear hsl
    obtain ⟨hc0, hc1⟩ := cells2 HV2.out
    have hlt := row_lt HV2.out
    have HP0 := hide (PassAt.start hx.out hh.out)
    clear hx hh
    go_wp2_with fail
    clear hc0 hc1 hlt
    go_loopw [6, 22, 8] (fun sv i _ wr => ∃ (k : Nat) (a2 : Option Addr) (m2 c2 : Nat) (zs : List Int), sv = .slice a2 m2 c2 ∧ k ≤ n ∧ i = .int .i64 k ∧ m2 ≤ 16 ∧ Hid (Row wr a2 m2 zs) ∧ Hid (0 < m2 → ∀ x, a2 = some x → w.heap.size ≤ x.block) ∧ Hid (PassAt true (P : Int) n L s ys zs k) ∧ Hid (wr.heap[w.heap.size]? = some (.cells #[.int .i64 (P : Int), .slice a n c] 26 (0, 0))) ∧ Hid (Below w.heap.size w wr)) (fun _ i _ _ => n - (intOf i).toNat)
    case atStart => exact ⟨0, a1, m1, c1, ys, rfl, Nat.zero_le _, rfl, hm16, HR2, hlo, HP0, HV2, HB2⟩
    case round =>
      clear HR2 HP0 HV2 HB2
      obtain ⟨k, a2, m2, c2, zs, rfl, hk, rfl, hm2, hr, hlo2, hp, hv, hbel⟩ := hrel
      have hzl : zs.length = m2 := hr.out.1
      by_cases hlt : k < n
      rotate_left
      · have hk' : n = k := by omega
        have hlen : m2 < m1 := by
          have h1 := hp.out.len
          rcases Nat.lt_or_ge m2 m1 with h | h
          · exact h
          · obtain ⟨e1, e2⟩ := hp.out.same (by omega)
            rw [← hk'] at e2
            rw [HSL.out] at e2; cases e2
        have HRI := hide hp.out.rise
        have HHO := hide hp.out.hold
        clear hp HSL
        have hlt' : ¬ k < n := hlt
        go_wp2_with fail
        go_roundw
        case rel => exact ⟨a2, m2, c2, zs, rfl, hm2, hr, hlo2, HRI, HHO, hv, hbel⟩
        case measure => simp only [lenOfV]; exact hlen
      obtain ⟨b0, off, a0, n0, c0, a3, n3, c3, a4, n4, c4, rfl, hb, hrr, m0, m3, m4, r0, r3, r4⟩ := (HL.out.below hbel.out).tri hlt
      obtain ⟨hc0, hc1, hc2⟩ := rangeAt_cells3 hrr
      have hri := net_rises HG.out hlt
      have hA1 := below_al wr (.cells #[.slice a0 n0 c0, .slice a3 n3 c3, .slice a4 n4 c4] 106)
      have HB1 := hide (hbel.out.trans (hA1.mono hbel.out.size))
      have HV1 := hide (heap_alloc_new wr (.cells #[.slice a0 n0 c0, .slice a3 n3 c3, .slice a4 n4 c4] 106))
      have HVN := hide (keep hv.out hA1)
      have q0 : n0 ≤ 1048576 := by have h1 := r0.1; rcases rise_len hri.1 with e | e; omega; rw [e] at h1; simp at h1; omega
      have q3 : n3 ≤ 1048576 := by have h1 := r3.1; rcases rise_len hri.2.1 with e | e; omega; rw [e] at h1; simp at h1; omega
      have HRZ := hide (hr.out.below hA1)
      have HN0 := hide (r3.below hA1)
      have H0 := hide (meet_any a3 a2 n3 m2 c3 c2 _ zs _ (r3.below hA1) (hr.out.below hA1) q3 (by omega))
      have H1 := hide (meet_any a0 a2 n0 m2 c0 c2 _ zs _ (r0.below hA1) (hr.out.below hA1) q0 (by omega))
      have HS := hide (slipAt_meet (b := true) HG.out hlt hp.out.rise)
      simp only [if_true] at HS
      simp only [Nat.add_zero] at HS
      have HSTAY : Hid (slipAt true (maskL zs) k L = false → PassAt true (P : Int) n L s ys zs (k + 1)) := fun h => hp.out.stay h
      have HCUT : Hid (slipAt true (maskL zs) k L = true → PassAt true (P : Int) n L s ys (woL zs (L.getD (3 * k + 1) [])) (k + 1)) := fun h => hp.out.cut h hlt hri.2.1 (by simp [sideB])
      rw [HS.out] at HSTAY HCUT
      obtain ⟨t0, ht0⟩ : ∃ t, Hid (meetB (L.getD (3 * k + 1) []) zs = t) := ⟨_, rfl⟩
      obtain ⟨t1, ht1⟩ : ∃ t, Hid (meetB (L.getD (3 * k) []) zs = t) := ⟨_, rfl⟩
      rw [ht0.out] at H0 HSTAY HCUT
      rw [ht1.out] at H1 HSTAY HCUT
      obtain ⟨nl, hnl⟩ : ∃ nl, Hid ((L.getD (3 * k + 1) []) = nl) := ⟨_, rfl⟩
      rw [hnl.out] at HCUT HN0
      have HW := hide (fun (W : World) (hW : Below (wr.alloc (.cells #[.slice a0 n0 c0, .slice a3 n3 c3, .slice a4 n4 c4] 106)).heap.size (wr.alloc (.cells #[.slice a0 n0 c0, .slice a3 n3 c3, .slice a4 n4 c4] 106)) W) => without_any a2 a3 m2 c2 n3 c3 zs nl W (HRZ.out.below hW) (HN0.out.below hW) (by omega) q3)
      clear hrr m0 m3 m4 r0 r3 r4 hri hA1 HS ht0 ht1 hbel hr hv hp hnl
      go_wp2_with fail
      clear hc0 hc1 hc2
      generalize wr.alloc (.cells #[.slice a0 n0 c0, .slice a3 n3 c3, .slice a4 n4 c4] 106) = W1 at *
      generalize wr.heap.size = q at *
      obtain ⟨hv0, hv1, hv2⟩ := cells3E HV1.out
      have hvl := (Array.getElem?_eq_some_iff.mp HV1.out).1
      go_wp2_with fail
      refine H0.out.mono ?_
      rintro e w3 ⟨rfl, rfl⟩
      cases t0
      · have HU := hide (HSTAY.out rfl)
        clear HSTAY HCUT H1 H0 HW HN0
        go_wp2_with fail
        go_roundw
        case rel => exact ⟨k + 1, a2, m2, c2, zs, rfl, by omega, by go_num, hm2, HRZ, hlo2, HU, HVN, HB1⟩
        case measure => simp [intOf]; omega
      cases t1
      case true =>
        have HU := hide (HSTAY.out rfl)
        clear HSTAY HCUT H0 HW HN0
        go_wp2_with fail
        refine H1.out.mono ?_
        rintro e w3 ⟨rfl, rfl⟩
        go_wp2_with fail
        go_roundw
        case rel => exact ⟨k + 1, a2, m2, c2, zs, rfl, by omega, by go_num, hm2, HRZ, hlo2, HU, HVN, HB1⟩
        case measure => simp [intOf]; omega
      have HU := hide (HCUT.out rfl)
      clear HSTAY HCUT H0
      go_wp2_with fail
      refine H1.out.mono ?_
      rintro e w3 ⟨rfl, rfl⟩
      clear H1
      go_wp2_with fail
      refine (HW.out _ (Below.refl _ _)).mono ?_
      rintro e w4 ⟨a5, m5, c5, rfl, hr5, hl5, hb5⟩
      have HL5 : Hid (0 < m5 → ∀ x, a5 = some x → w.heap.size ≤ x.block) := fun h0 x hx => Nat.le_trans HB1.out.size (hl5 h0 x hx)
      have HR5 := hide hr5
      have HV5 := hide (keep HVN.out hb5)
      have HB5 := hide (HB1.out.trans (hb5.mono HB1.out.size))
      have hm5 : m5 ≤ 16 := by have h1 := hr5.1; have h2 := woL_len zs nl; omega
      clear hr5 hb5 hl5 HW HVN HB1 HV1 hv0 hv1 hv2 hvl HN0 HRZ
      go_wp2_with fail
      go_roundw
      case rel => exact ⟨k + 1, a5, m5, c5, _, rfl, by omega, by go_num, hm5, HR5, HL5, HU, HV5, HB5⟩
      case measure => simp [intOf]; omega
end Go.Proofs.Ytajcmamapmeglaa


/- BigTrap and BigSiphon of the program; both sides told alike. -/
namespace Go.Proofs.Ytajcmamapmeglaa
open Go.RowKit
set_option maxRecDepth 10000

/-- How BigTrap and BigSiphon of the program end. -/
def BgI (b : Bool) (p : Int) (n : Nat) (L : List (List Int)) (xs : List Int) (w : World) (e : Ending) (w' : World) : Prop :=
  ∃ a B m c zs, e = .returned (.tuple #[.slice a m c, .bool (ssOk p n L xs)]) ∧ Ob w' a B m zs ∧ w.heap.size ≤ B ∧ bgZ b p n L xs zs ∧ Below w.heap.size w w'

theorem isG_zero {b : Bool} {n : Nat} {L : List (List Int)} {r : Nat} (h : IsG b n L 0 r) : r = 0 := by
  have := h.1
  rw [Nat.and_zero] at this
  exact this.symm

theorem nums2_zero : nums2 (0 : Nat).testBit 16 = [] := by
  unfold nums2
  rw [List.map_eq_nil_iff, List.filter_eq_nil_iff]
  intro a _; simp

set_option maxHeartbeats 2000000 in
theorem bigTrapI_any (p : Int) (a ax : Option Addr) (n c nx cx : Nat) (L : List (List Int)) (xs : List Int) (w : World) (h : Lists w a (3 * n) L) (rx : Row w ax nx xs) (hs : sizeN n L ≤ 1048576) (hx : nx ≤ 1048576) (hpm : p ≤ 9223372036854775807) :
    Calls Try.prog 36 #[.agg #[.int .i64 p, .slice a n c], .slice ax nx cx] w fun e w' => BgI false p n L xs w e w' := by
  have hAl := below_al w (.cells #[.int .i64 p, .slice a n c] 26)
  have HT := hide (netAndSet_any p a ax n c nx cx L xs _ (h.below hAl) (rx.below hAl) hs hx hpm)
  have HB0 := hide hAl
  have HLl := hide h.1
  clear h rx hAl
  go_enter Try.func36, Try.ntmps36
  go_wp2_with fail
  refine HT.out.mono ?_
  rintro e w1 ⟨p', a', m, c', s, rfl, hyes, hno, hb⟩
  have HB1 := hide (HB0.out.trans (hb.mono HB0.out.size))
  have hA1 := below_al w1 (.cells #[.int .i64 p', .slice a' m c'] 59)
  have HB2 := hide (HB1.out.trans (hA1.mono HB1.out.size))
  obtain ⟨hc0, hc1⟩ := cells2 (heap_alloc_new w1 (.cells #[.int .i64 p', .slice a' m c'] 59))
  have hlt := row_lt (heap_alloc_new w1 (.cells #[.int .i64 p', .slice a' m c'] 59))
  have HQ : Hid (Calls Try.prog 93 #[.agg #[.int .i64 p', .slice a' m c'], .int .u16 (s : Int)] (w1.alloc (.cells #[.int .i64 p', .slice a' m c'] 59)) fun e w' => (∃ r : Nat, e = .returned (.int .u16 (r : Int)) ∧ r < 2 ^ 16 ∧ bgZ false p n L xs (nums2 r.testBit 16)) ∧ Below (w1.alloc (.cells #[.int .i64 p', .slice a' m c'] 59)).heap.size (w1.alloc (.cells #[.int .i64 p', .slice a' m c'] 59)) w') := by
    cases hok : ssOk p n L xs
    · obtain ⟨e1, e2, e3, e4, e5⟩ := hno.out hok
      subst e1 e2 e3 e4 e5
      refine (bigTrapP_any 0 none 0 0 0 [] _ (fun h => absurd rfl h) (by omega) (by omega) (fun i => by simp [maskL])).mono ?_
      rintro e w' ⟨⟨r, rfl, hg⟩, hb'⟩
      have hr0 := isG_zero hg
      subst hr0
      exact ⟨⟨0, rfl, by decide, fun e => (by rw [hok] at e; cases e), fun _ => nums2_zero⟩, hb'⟩
    · obtain ⟨e1, e2, e3, e4, B, rfl, hBs, hps⟩ := hyes.out hok
      subst e1 e2 e3 e4
      obtain ⟨hgn, hp1, hp2, hri⟩ := ss_parts hok
      have hst := rise_lt hri hp2
      refine (bigTrapP_any p' (some ⟨B, 0, none⟩) c' c' (maskL xs) L _ (fun _ => ⟨B, rfl, rfl, hps.grow hA1⟩) (netN hgn) hst (net_masks hgn HLl.out)).mono ?_
      rintro e w' ⟨⟨r, rfl, hg⟩, hb'⟩
      have hrl := within_lt hg.1 hst
      exact ⟨⟨r, rfl, hrl, fun _ => ⟨r, hrl, hg, rfl⟩, fun e => (by rw [hok] at e; cases e)⟩, hb'⟩
  clear HT hyes hno hb HB1 HB0 hA1 HLl
  go_wp2_with fail
  refine HQ.out.mono ?_
  rintro e w2 ⟨⟨r, rfl, hrl, hz⟩, hb⟩
  have HB3 := hide (HB2.out.trans (hb.mono HB2.out.size))
  have HZ := hide hz
  clear hb HQ hc0 hc1 HB2 hlt hz
  go_wp2_with fail
  refine (setList_any r w2 hrl).mono ?_
  rintro e w3 ⟨a3, b3, m3, c3, rfl, hb3, ho3, hb⟩
  have HE : Hid (BgI false p n L xs w (.returned (.tuple #[.slice a3 m3 c3, .bool (ssOk p n L xs)])) w3) := ⟨a3, b3, m3, c3, _, rfl, ho3, by have := HB3.out.size; omega, HZ.out, HB3.out.trans (hb.mono HB3.out.size)⟩
  clear hb HB3 HZ hb3 ho3
  generalize ssOk p n L xs = ok at *
  go_wp2_with fail
  go_ret2
  exact HE.out

set_option maxHeartbeats 2000000 in
theorem bigSiphonI_any (p : Int) (a ax : Option Addr) (n c nx cx : Nat) (L : List (List Int)) (xs : List Int) (w : World) (h : Lists w a (3 * n) L) (rx : Row w ax nx xs) (hs : sizeN n L ≤ 1048576) (hx : nx ≤ 1048576) (hpm : p ≤ 9223372036854775807) :
    Calls Try.prog 38 #[.agg #[.int .i64 p, .slice a n c], .slice ax nx cx] w fun e w' => BgI true p n L xs w e w' := by
  have hAl := below_al w (.cells #[.int .i64 p, .slice a n c] 26)
  have HT := hide (netAndSet_any p a ax n c nx cx L xs _ (h.below hAl) (rx.below hAl) hs hx hpm)
  have HB0 := hide hAl
  have HLl := hide h.1
  clear h rx hAl
  go_enter Try.func38, Try.ntmps38
  go_wp2_with fail
  refine HT.out.mono ?_
  rintro e w1 ⟨p', a', m, c', s, rfl, hyes, hno, hb⟩
  have HB1 := hide (HB0.out.trans (hb.mono HB0.out.size))
  have hA1 := below_al w1 (.cells #[.int .i64 p', .slice a' m c'] 59)
  have HB2 := hide (HB1.out.trans (hA1.mono HB1.out.size))
  obtain ⟨hc0, hc1⟩ := cells2 (heap_alloc_new w1 (.cells #[.int .i64 p', .slice a' m c'] 59))
  have hlt := row_lt (heap_alloc_new w1 (.cells #[.int .i64 p', .slice a' m c'] 59))
  have HQ : Hid (Calls Try.prog 96 #[.agg #[.int .i64 p', .slice a' m c'], .int .u16 (s : Int)] (w1.alloc (.cells #[.int .i64 p', .slice a' m c'] 59)) fun e w' => (∃ r : Nat, e = .returned (.int .u16 (r : Int)) ∧ r < 2 ^ 16 ∧ bgZ true p n L xs (nums2 r.testBit 16)) ∧ Below (w1.alloc (.cells #[.int .i64 p', .slice a' m c'] 59)).heap.size (w1.alloc (.cells #[.int .i64 p', .slice a' m c'] 59)) w') := by
    cases hok : ssOk p n L xs
    · obtain ⟨e1, e2, e3, e4, e5⟩ := hno.out hok
      subst e1 e2 e3 e4 e5
      refine (bigSiphonP_any 0 none 0 0 0 [] _ (fun h => absurd rfl h) (by omega) (by omega) (fun i => by simp [maskL])).mono ?_
      rintro e w' ⟨⟨r, rfl, hg⟩, hb'⟩
      have hr0 := isG_zero hg
      subst hr0
      exact ⟨⟨0, rfl, by decide, fun e => (by rw [hok] at e; cases e), fun _ => nums2_zero⟩, hb'⟩
    · obtain ⟨e1, e2, e3, e4, B, rfl, hBs, hps⟩ := hyes.out hok
      subst e1 e2 e3 e4
      obtain ⟨hgn, hp1, hp2, hri⟩ := ss_parts hok
      have hst := rise_lt hri hp2
      refine (bigSiphonP_any p' (some ⟨B, 0, none⟩) c' c' (maskL xs) L _ (fun _ => ⟨B, rfl, rfl, hps.grow hA1⟩) (netN hgn) hst (net_masks hgn HLl.out)).mono ?_
      rintro e w' ⟨⟨r, rfl, hg⟩, hb'⟩
      have hrl := within_lt hg.1 hst
      exact ⟨⟨r, rfl, hrl, fun _ => ⟨r, hrl, hg, rfl⟩, fun e => (by rw [hok] at e; cases e)⟩, hb'⟩
  clear HT hyes hno hb HB1 HB0 hA1 HLl
  go_wp2_with fail
  refine HQ.out.mono ?_
  rintro e w2 ⟨⟨r, rfl, hrl, hz⟩, hb⟩
  have HB3 := hide (HB2.out.trans (hb.mono HB2.out.size))
  have HZ := hide hz
  clear hb HQ hc0 hc1 HB2 hlt hz
  go_wp2_with fail
  refine (setList_any r w2 hrl).mono ?_
  rintro e w3 ⟨a3, b3, m3, c3, rfl, hb3, ho3, hb⟩
  have HE : Hid (BgI true p n L xs w (.returned (.tuple #[.slice a3 m3 c3, .bool (ssOk p n L xs)])) w3) := ⟨a3, b3, m3, c3, _, rfl, ho3, by have := HB3.out.size; omega, HZ.out, HB3.out.trans (hb.mono HB3.out.size)⟩
  clear hb HB3 HZ hb3 ho3
  generalize ssOk p n L xs = ok at *
  go_wp2_with fail
  go_ret2
  exact HE.out

theorem bigTrap_pack (p : Int) (n : Nat) (L : List (List Int)) (xs : List Int) (hs : sizeN n L ≤ 1048576) (hpm : p ≤ 9223372036854775807) : ∃ (g : Bool) (r : List Int), r.length ≤ 1048576 ∧
    Hid (∀ (a ax : Option Addr) (c nx cx : Nat) (w : World), Lists w a (3 * n) L → Row w ax nx xs → nx ≤ 1048576 → Calls Try.prog 37 #[.agg #[.int .i64 p, .slice a n c], .slice ax nx cx] w fun e w' => ∃ a m c, e = .returned (.tuple #[.slice a m c, .bool g]) ∧ Row w' a m r ∧ Below w.heap.size w w') ∧
    Hid (∀ (a ax : Option Addr) (c nx cx : Nat) (w : World), Lists w a (3 * n) L → Row w ax nx xs → nx ≤ 1048576 → Calls Try.prog 36 #[.agg #[.int .i64 p, .slice a n c], .slice ax nx cx] w fun e w' => ∃ a B m c, e = .returned (.tuple #[.slice a m c, .bool g]) ∧ Ob w' a B m r ∧ w.heap.size ≤ B ∧ Below w.heap.size w w') := by
  obtain ⟨r, hr1, hr2⟩ : ∃ r : List Int, r.length ≤ 1048576 ∧ ∀ zs, bgZ false p n L xs zs → zs = r := by
    by_cases h : ∃ zs, bgZ false p n L xs zs
    · obtain ⟨zs, hz⟩ := h
      cases hok : ssOk p n L xs
      · exact ⟨[], by simp, fun ys hy => hy.2 hok⟩
      · obtain ⟨r, hrl, hg, rfl⟩ := hz.1 hok
        refine ⟨nums2 r.testBit 16, by have := nums_len r.testBit 16; omega, fun ys hy => ?_⟩
        obtain ⟨r', _, hg', rfl⟩ := hy.1 hok
        rw [hg.unique hg']
    · exact ⟨[], by simp, fun ys hy => absurd ⟨ys, hy⟩ h⟩
  refine ⟨ssOk p n L xs, r, hr1, fun a ax c nx cx w hl hx hn => ?_, fun a ax c nx cx w hl hx hn => ?_⟩
  · refine (bigTrapS_any p a ax n c nx cx L xs w hl hx hs hn).mono ?_
    rintro e w' ⟨a, m, c, zs, rfl, h1, _, h2, h3⟩
    exact ⟨a, m, c, rfl, by rw [← hr2 zs h2]; exact h1, h3⟩
  · refine (bigTrapI_any p a ax n c nx cx L xs w hl hx hs hn hpm).mono ?_
    rintro e w' ⟨a, B, m, c, zs, rfl, h1, h2, h3, h4⟩
    exact ⟨a, B, m, c, rfl, by rw [← hr2 zs h3]; exact h1, h2, h4⟩

theorem bigSiphon_pack (p : Int) (n : Nat) (L : List (List Int)) (xs : List Int) (hs : sizeN n L ≤ 1048576) (hpm : p ≤ 9223372036854775807) : ∃ (g : Bool) (r : List Int), r.length ≤ 1048576 ∧
    Hid (∀ (a ax : Option Addr) (c nx cx : Nat) (w : World), Lists w a (3 * n) L → Row w ax nx xs → nx ≤ 1048576 → Calls Try.prog 39 #[.agg #[.int .i64 p, .slice a n c], .slice ax nx cx] w fun e w' => ∃ a m c, e = .returned (.tuple #[.slice a m c, .bool g]) ∧ Row w' a m r ∧ Below w.heap.size w w') ∧
    Hid (∀ (a ax : Option Addr) (c nx cx : Nat) (w : World), Lists w a (3 * n) L → Row w ax nx xs → nx ≤ 1048576 → Calls Try.prog 38 #[.agg #[.int .i64 p, .slice a n c], .slice ax nx cx] w fun e w' => ∃ a B m c, e = .returned (.tuple #[.slice a m c, .bool g]) ∧ Ob w' a B m r ∧ w.heap.size ≤ B ∧ Below w.heap.size w w') := by
  obtain ⟨r, hr1, hr2⟩ : ∃ r : List Int, r.length ≤ 1048576 ∧ ∀ zs, bgZ true p n L xs zs → zs = r := by
    by_cases h : ∃ zs, bgZ true p n L xs zs
    · obtain ⟨zs, hz⟩ := h
      cases hok : ssOk p n L xs
      · exact ⟨[], by simp, fun ys hy => hy.2 hok⟩
      · obtain ⟨r, hrl, hg, rfl⟩ := hz.1 hok
        refine ⟨nums2 r.testBit 16, by have := nums_len r.testBit 16; omega, fun ys hy => ?_⟩
        obtain ⟨r', _, hg', rfl⟩ := hy.1 hok
        rw [hg.unique hg']
    · exact ⟨[], by simp, fun ys hy => absurd ⟨ys, hy⟩ h⟩
  refine ⟨ssOk p n L xs, r, hr1, fun a ax c nx cx w hl hx hn => ?_, fun a ax c nx cx w hl hx hn => ?_⟩
  · refine (bigSiphonS_any p a ax n c nx cx L xs w hl hx hs hn).mono ?_
    rintro e w' ⟨a, m, c, zs, rfl, h1, _, h2, h3⟩
    exact ⟨a, m, c, rfl, by rw [← hr2 zs h2]; exact h1, h3⟩
  · refine (bigSiphonI_any p a ax n c nx cx L xs w hl hx hs hn hpm).mono ?_
    rintro e w' ⟨a, B, m, c, zs, rfl, h1, h2, h3, h4⟩
    exact ⟨a, B, m, c, rfl, by rw [← hr2 zs h3]; exact h1, h2, h4⟩

end Go.Proofs.Ytajcmamapmeglaa
