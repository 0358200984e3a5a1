/- Contracts that the proof stands on, one behind the other. -/
import Derived.Test.YtmhgdhkpceggkabP7
/- The specification's BigTrap and BigSiphon. -/
namespace Go.Proofs.Ytmhgdhkpceggkab
open Go.RowKit
set_option maxRecDepth 10000

theorem run_append_none8 {P : Program} (w : World) (base : Nat) (t ty e : TypeId) (i : TypeInfo) (size : Nat) (ht : P.underlying t = some (.slice e)) (hi : P.info? e = some i)
    (v : Value) (n c : Nat) (xs : List Value) (hown : w.ownsRow base e size v n xs) :
    (Builtin.append_ #[t, t] ty #[v, .slice none 0 c]).run P w = .ok v w := by
  rcases hown.2 with ⟨rfl, rfl⟩ | ⟨g, cap, cur, rfl, _, _, hnc, _⟩
  · simp [Builtin.append_, run_underlying ht, sizeOf, typeInfo, hi, Builtin.lenOf, Builtin.firstCells]
  · simp [Builtin.append_, run_underlying ht, sizeOf, typeInfo, hi, Builtin.lenOf, Builtin.firstCells, hnc, storeCells]

/-- append, whatever is appended. -/
theorem wpList_append_any8 {P : Program} (w : World) {ops : Array Oper} {rest : List Oper} {o : Oper} {a : Act} {Q : Exit → Act → World → Prop} (hgd : o.guard = none) (s x : Operand) (t : TypeId)
    (ho : o.op = .call { callee := .builtin .append, args := #[s, x], argTypes := #[t, t] })
    (base : Nat) (e : TypeId) (i : TypeInfo) (z : Value) (size bytes : Nat) (ht : P.underlying t = some (.slice e)) (hi : P.info? e = some i) (hz : i.zero = some z)
    (hsize : i.size = size) (hby : i.bytes = bytes) (hzs : z.cells.size = size) (hsz : 0 < size)
    (v : Value) (n : Nat) (xs : List Value) (hs : a.eval s = v) (hown : w.ownsRow base e size v n xs)
    (ao : Option Addr) (m c : Nat) (news : List Value) (hx : a.eval x = .slice ao m c) (hl : news.length = m * size) (hnone : ao = none → m = 0)
    (hnews : ∀ ad, ao = some ad → ∀ j u, news[j]? = some u → w.cell? (ad.add j) = some u) (h1 : ∀ u ∈ news, u.oneCell' = true)
    (h63 : n + m ≤ maxLen) (hbytes : (n + m) * bytes ≤ 140737488355328) (hbase : base ≤ w.heap.size)
    (h : ∀ v' w', w'.ownsRow base e size v' (n + m) (xs ++ news) → w.grownBy w' v.ownBlock → wpList P ops Q rest (a.put o.dst v') w') : wpList P ops Q (o :: rest) a w := by
  cases ao with
  | some ad => exact wpList_append_own w hgd s x t ho base e i z size bytes ht hi hz hsize hby hzs hsz v n xs hs hown ad m c news hx hl (hnews ad rfl) h1 h63 hbytes hbase fun v' w' r1 r2 _ => h v' w' r1 r2
  | none =>
    obtain rfl := hnone rfl
    have hnews : news = [] := List.eq_nil_of_length_eq_zero (by simpa using hl)
    subst hnews
    refine wpList_plain hgd fun K hK' => ?_
    have hrun := run_append_none8 (P := P) w base t o.type e i size ht hi _ n c xs hown
    unfold Oper.wp
    simp [execOp, ho, resolve, invoke, builtin, hs, hx, hrun, Result.andThen]
    exact hK' _ _ (by simpa using h v w (by simpa using hown) (World.grownBy.refl _ _))

theorem rowSome8 {w : World} {a : Option Addr} {n : Nat} {xs : List Int} (h : Row w a n xs) : ∀ ad, a = some ad → ∀ j u, (xs.map (Value.int .i64))[j]? = some u → w.cell? (ad.add j) = some u := by
  intro ad e j u hu
  simp only [List.getElem?_map, Option.map_eq_some_iff] at hu
  obtain ⟨x, hx, rfl⟩ := hu
  have hj := (List.getElem?_eq_some_iff.mp hx).1
  have hl := h.1
  obtain ⟨b1, o1, y, he, _, hc, H⟩ := h.at (show j < n by omega)
  rw [e] at he
  injection he with he
  subst he
  rw [Addr.add_mid, hc]
  have := H.out
  rw [hx] at this
  simp at this
  rw [this]

set_option maxHeartbeats 400000 in
theorem own8_any (a : Option Addr) (n c : Nat) (xs : List Int) (w : World) (ha : Row w a n xs) (hn : n ≤ 1048576) :
    Calls Try.prog 51 #[.slice a n c] w fun e w' => ∃ a' c', e = .returned (.slice a' n c') ∧ Row w' a' n xs ∧ Below w.heap.size w w' := by
  obtain ⟨i0, hi, hz0, hz1, hz2⟩ := info_split2 Try.info3
  have HA := hide (ha.alloc (.cells #[] 3))
  have HL := hide ha.1
  clear ha
  have HO : Hid ((w.alloc (.cells #[] 3)).ownsRow w.heap.size 3 1 (.slice (some ⟨w.heap.size, 0, none⟩) 0 0) 0 []) :=
    ⟨rfl, .inr ⟨w.heap.size, 0, #[], rfl, Nat.le_refl _, heap_alloc_new _ _, Nat.le_refl _, Nat.zero_le _, rfl, rfl⟩⟩
  have HN := hide (show (xs.map (Value.int .i64)).length = n * 1 by rw [List.length_map, Nat.mul_one]; exact HL.out)
  have H1 := hide (show ∀ u ∈ xs.map (Value.int .i64), u.oneCell' = true by intro u hu; simp at hu; obtain ⟨x, _, rfl⟩ := hu; rfl)
  go_enter Try.func51, Try.ntmps51
  go_wp2_with (at_builtin; refine wpList_append_any8 _ rfl (.tmp 3) (.tmp 4) 38 rfl w.heap.size 3 i0 (.int .i64 0) 1 8 Try.underlying38 hi hz0 hz1 hz2 rfl (by decide) (.slice (some ⟨w.heap.size, 0, none⟩) 0 0) 0 [] rfl HO.out a n c (xs.map (Value.int .i64)) rfl HN.out (fun h => by (rcases HA.out.2 with h0 | ⟨b, off, e, _⟩; exact h0; rw [h] at e; cases e)) (rowSome8 HA.out) H1.out (by unfold maxLen; omega) (by omega) (by simp) ?_; intro v' W' r1 r2)
  go_ret
  rw [Nat.zero_add, List.nil_append] at r1
  obtain ⟨a', g, c', rfl, hg, hout⟩ := own_ob2 r1
  exact ⟨a', c', rfl, hout.row, (below_al w _).grown r2 (by simp) (fun k hk => by simp [Value.ownBlock] at hk; omega)⟩

/-- Those of xs that are not among ys. -/
def woL (xs ys : List Int) : List Int := xs.filter fun x => !hasB ys x

theorem woL_yes {xs ys : List Int} {k : Nat} {x : Int} (hx : xs[k]? = some x) (h : hasB ys x = false) : woL (xs.take (k + 1)) ys = woL (xs.take k) ys ++ [x] := by
  unfold woL
  rw [List.take_add_one, hx, List.filter_append]; simp [h]
theorem woL_no {xs ys : List Int} {k : Nat} {x : Int} (hx : xs[k]? = some x) (h : hasB ys x = true) : woL (xs.take (k + 1)) ys = woL (xs.take k) ys := by
  unfold woL
  rw [List.take_add_one, hx, List.filter_append]; simp [h]
theorem woL_len (xs ys : List Int) : (woL xs ys).length ≤ xs.length := List.length_filter_le _ _

set_option maxHeartbeats 1000000 in
theorem without_any (a ay : Option Addr) (n c ny cy : Nat) (xs ys : List Int) (w : World) (ha : Row w a n xs) (hy : Row w ay ny ys) (hn : n ≤ 1000) (hny : ny ≤ 1048576) :
    Calls Try.prog 54 #[.slice a n c, .slice ay ny cy] w fun e w' => ∃ a' m c', e = .returned (.slice a' m c') ∧ Row w' a' m (woL xs ys) ∧ Below w.heap.size w w' := by
  obtain ⟨i0, hi, hz0, hz1, hz2⟩ := info_split2 Try.info3
  have HA := hide ha
  have HY := hide hy
  have hxl : xs.length = n := ha.1
  clear ha hy
  go_enter Try.func54, Try.ntmps54
  go_wp2_with fail
  go_loopw [5, 10] (fun o i wr => ∃ k m : Nat, k ≤ n ∧ i = .int .i64 k ∧ Hid (m ≤ k) ∧ Hid (wr.ownsRow w.heap.size 3 1 o m ((woL (xs.take k) ys).map (Value.int .i64))) ∧ Hid (Below w.heap.size w wr)) (fun _ i _ => n - (intOf i).toNat)
  case atStart => exact ⟨0, 0, Nat.zero_le _, rfl, Nat.le_refl _, World.ownsRow_nil _ _ _ _, Below.refl _ _⟩
  case round =>
    obtain ⟨k, m, hk, rfl, hmk, hown, hbw⟩ := hrel
    by_cases hlt : k < n
    rotate_left
    · have hk' : n = k := by omega
      subst hk'
      obtain ⟨av, bv, cv, hv, hbv, hob⟩ := own_ob2 hown.out
      subst hv
      rw [List.take_of_length_le (by omega)] at hob
      have HE := hide (And.intro hob.row hbw.out)
      clear hown hob hbv
      go_wp2_with fail
      go_ret
      exact ⟨av, m, cv, rfl, HE.out⟩
    obtain ⟨b1, o1, x, rfl, hl1, hc1, H1⟩ := (HA.out.below hbw.out).at hlt
    have HS := hide (has_any ay ny cy ys x wr (HY.out.below hbw.out) hny)
    cases hh : hasB ys x
    case true =>
      have HN := hide (woL_no H1.out hh)
      rw [hh] at HS
      go_wp2_with fail
      refine HS.out.mono ?_
      rintro e w2 ⟨rfl, rfl⟩
      clear HS
      go_wp2_with fail
      go_roundw
      case rel => exact ⟨k + 1, m, by omega, by go_num, Nat.le_succ_of_le hmk.out, by rw [HN.out]; exact hown, hbw⟩
      case measure => simp [intOf]; omega
    have HN := hide (woL_yes H1.out hh)
    rw [hh] at HS
    have hA2 := below_al wr (.cells #[.int .i64 x] 3)
    have HO2 := hide (hown.out.alloc (.cells #[.int .i64 x] 3))
    have HB2 := hide (hbw.out.trans (hA2.mono hbw.out.size))
    have HCE : Hid (∀ j u, ([.int .i64 x] : List Value)[j]? = some u → (wr.alloc (.cells #[.int .i64 x] 3)).cell? ((⟨wr.heap.size, 0, none⟩ : Addr).add j) = some u) := one_cell2 wr _
    have H1c : Hid (∀ u ∈ ([.int .i64 x] : List Value), u.oneCell' = true) := fun u hu => by simp at hu; subst hu; rfl
    have HX := hide (show m + 1 ≤ maxLen by have := hmk.out; unfold maxLen; omega)
    have HY2 := hide (show (m + 1) * 8 ≤ 140737488355328 by have := hmk.out; omega)
    have HZ := hide HB2.out.size
    clear hA2 hown hbw
    go_wp2_with fail
    refine HS.out.mono ?_
    rintro e w2 ⟨rfl, rfl⟩
    clear HS
    go_wp2_with (refine wpList_append_own _ rfl (.tmp 18) (.tmp 20) 38 rfl w.heap.size 3 i0 (.int .i64 0) 1 8 Try.underlying38 hi hz0 hz1 hz2 rfl (by decide) _ m _ rfl HO2.out ⟨_, 0, none⟩ 1 1 [.int .i64 x] rfl rfl HCE.out H1c.out HX.out HY2.out HZ.out ?_; intro v' W' r1 r2 r3)
    have HR1 : Hid (W'.ownsRow w.heap.size 3 1 v' (m + 1) ((woL (xs.take (k + 1)) ys).map (Value.int .i64))) := by
      show World.ownsRow _ _ _ _ _ _ _
      rw [HN.out, List.map_append]; exact r1
    have HB3 := hide (own_below2 HO2.out r2 HB2.out HB2.out.size (Nat.le_refl _))
    clear r1 r2 r3
    go_wp2_with fail
    go_roundw
    case rel => exact ⟨k + 1, m + 1, by omega, by go_num, Nat.succ_le_succ hmk.out, HR1, HB3⟩
    case measure => simp [intOf]; omega

theorem woL_rise {xs ys : List Int} {lo hi : Int} (h : riseB xs lo hi = true) : riseB (woL xs ys) lo hi = true := by
  induction xs generalizing lo with
  | nil => rfl
  | cons x r ih =>
    simp only [riseB, Bool.and_eq_true, decide_eq_true_eq] at h
    unfold woL
    rw [List.filter_cons]
    split
    · simp only [riseB, Bool.and_eq_true, decide_eq_true_eq]
      exact ⟨h.1, ih h.2⟩
    · have h2 := ih h.2
      unfold woL at h2
      have key : ∀ (l : List Int) (a b : Int), a ≤ b → riseB l b hi = true → riseB l a hi = true := by
        intro l a b hab hb
        cases l with
        | nil => rfl
        | cons z t => simp only [riseB, Bool.and_eq_true, decide_eq_true_eq] at hb ⊢; exact ⟨⟨by omega, hb.1.2⟩, hb.2⟩
      exact key _ _ _ (by omega) h2

theorem woL_mask {xs ys : List Int} {p : Int} (hx : riseB xs 0 (p - 1) = true) (hy : riseB ys 0 (p - 1) = true) : maskL (woL xs ys) = subN (maskL xs) (maskL ys) := by
  apply Nat.eq_of_testBit_eq; intro i
  rw [subN_bit, maskL_bit _ _ (fun z hz => (riseB_mem (woL_rise hx) z hz).1), maskL_bit _ _ (fun z hz => (riseB_mem hx z hz).1), maskL_bit _ _ (fun z hz => (riseB_mem hy z hz).1)]
  unfold woL hasB
  by_cases h1 : (i : Int) ∈ xs <;> by_cases h2 : (i : Int) ∈ ys <;> simp [h1, h2]

theorem woL_same {xs ys : List Int} (h : (woL xs ys).length = xs.length) : meetB xs ys = false := by
  unfold woL at h
  rw [List.length_filter_eq_length_iff] at h
  unfold meetB
  rw [List.any_eq_false]
  intro z hz
  have := h z hz
  simpa using this

/-- One pass over the steps: what is left of xs, ys; how it came. -/
structure PassAt (b : Bool) (p : Int) (n : Nat) (L : List (List Int)) (s : Nat) (xs ys : List Int) (k : Nat) : Prop where
  rise : riseB ys 0 (p - 1) = true
  hold : Holds b n L s (maskL ys)
  len : ys.length ≤ xs.length
  same : ys.length = xs.length → ys = xs ∧ slips b (maskL xs) k L = false

theorem PassAt.start {b : Bool} {p : Int} {n : Nat} {L : List (List Int)} {s : Nat} {xs : List Int} (h : riseB xs 0 (p - 1) = true) (hh : Holds b n L s (maskL xs)) : PassAt b p n L s xs xs 0 := ⟨h, hh, Nat.le_refl _, fun _ => ⟨rfl, rfl⟩⟩

theorem PassAt.stay {b : Bool} {p : Int} {n k : Nat} {L : List (List Int)} {s : Nat} {xs ys : List Int} (h : PassAt b p n L s xs ys k) (hs : slipAt b (maskL ys) k L = false) : PassAt b p n L s xs ys (k + 1) :=
  ⟨h.rise, h.hold, h.len, fun e => by obtain ⟨e1, e2⟩ := h.same e; exact ⟨e1, slips_step e2 (by rw [← e1]; exact hs)⟩⟩

theorem PassAt.cut {b : Bool} {p : Int} {n k : Nat} {L : List (List Int)} {s : Nat} {xs ys zs : List Int} (h : PassAt b p n L s xs ys k) (hs : slipAt b (maskL ys) k L = true) (hk : k < n) (hz : riseB zs 0 (p - 1) = true)
    (hm : maskL zs = sideB b (maskL (L.getD (3 * k) [])) (maskL (L.getD (3 * k + 1) []))) : PassAt b p n L s xs (woL ys zs) (k + 1) := by
  refine ⟨woL_rise h.rise, ?_, Nat.le_trans (woL_len _ _) h.len, fun e => ?_⟩
  · rw [woL_mask h.rise hz, hm]; exact h.hold.take hk hs
  · have h1 := woL_len ys zs
    have h2 := woL_same (xs := ys) (ys := zs) (by have := h.len; omega)
    rw [meet_mask h.rise hz] at h2
    unfold slipAt slipB at hs
    rw [← hm] at hs
    simp only [Bool.and_eq_true, Bool.not_eq_true', decide_eq_false_iff_not] at hs
    simp only [Bool.not_eq_false', decide_eq_true_eq] at h2
    rw [Nat.and_comm] at h2
    exact absurd h2 hs.1

/-- How the search for the greatest set within one ends. -/
def GrEnd (b : Bool) (p : Int) (n : Nat) (L : List (List Int)) (s : Nat) (w : World) (e : Ending) (w' : World) : Prop :=
  ∃ a m c zs, e = .returned (.slice a m c) ∧ Row w' a m zs ∧ riseB zs 0 (p - 1) = true ∧ IsG b n L s (maskL zs) ∧ Below w.heap.size w w'

/-- How many a slice has. -/
def lenOfV (v : Value) : Nat := match v with | .slice _ n _ => n | _ => 0

set_option maxHeartbeats 4000000 in
theorem l8BigTrap_any (P : Nat) (a ax : Option Addr) (n c nx cx : Nat) (L : List (List Int)) (xs : List Int) (w : World) (h : Lists w a (3 * n) L) (rx : Row w ax nx xs) (hx16 : nx ≤ 16) (hg : netOk (P : Int) n L = true) (hx : riseB xs 0 ((P : Int) - 1) = true) :
    Calls Try.prog 30 #[.agg #[.int .i64 (P : Int), .slice a n c], .slice ax nx cx] w fun e w' => GrEnd false (P : Int) n L (maskL xs) w e w' := by
  have hAl := below_al w (.cells #[.int .i64 (P : Int), .slice a n c] 31)
  have hn := netN hg
  have hP : P ≤ 16 := by unfold netOk at hg; simp [inB] at hg; omega
  have HL := hide h
  have HG := hide hg
  have HX := hide hx
  have HV := hide (heap_alloc_new w (.cells #[.int .i64 (P : Int), .slice a n c] 31))
  have HO := hide (own8_any ax nx cx xs (w.alloc (.cells #[.int .i64 (P : Int), .slice a n c] 31)) (rx.below hAl) (by omega))
  have HB0 := hide hAl
  have hxl : xs.length = nx := rx.1
  obtain ⟨s, hs⟩ : ∃ s, Hid (maskL xs = s) := ⟨_, rfl⟩
  have HH0 : Hid (Holds false n L s (maskL xs)) := by show Holds _ _ _ _ _; rw [hs.out]; exact Holds.start
  rw [hs.out]
  clear h rx hg hx hAl
  go_enter Try.func30, Try.ntmps30
  go_wp2_with fail
  refine HO.out.mono ?_
  rintro e w1 ⟨a1, c1, rfl, hr1, hb⟩
  have HR1 := hide hr1
  have HV1 := hide (keep HV.out hb)
  have HB1 := hide (HB0.out.trans (hb.mono HB0.out.size))
  clear hr1 hb HO HV HB0 hs hxl
  go_wp2_with fail
  go_loopw [1] (fun sv wr => ∃ (a1 : Option Addr) (m1 c1 : Nat) (ys : List Int), sv = .slice a1 m1 c1 ∧ m1 ≤ 16 ∧ Hid (Row wr a1 m1 ys) ∧ Hid (riseB ys 0 ((P : Int) - 1) = true) ∧ Hid (Holds false n L s (maskL ys)) ∧ Hid (wr.heap[w.heap.size]? = some (.cells #[.int .i64 (P : Int), .slice a n c] 31 (0, 0))) ∧ Hid (Below w.heap.size w wr)) (fun sv _ => lenOfV sv)
  case atStart => exact ⟨a1, nx, c1, xs, rfl, hx16, HR1, HX, HH0, HV1, HB1⟩
  case round =>
    clear HR1 HX HH0 HV1 HB1
    obtain ⟨a1, m1, c1, ys, rfl, hm16, hr, hx, hh, hv, hbel⟩ := hrel
    obtain ⟨hc0, hc1⟩ := cells2 hv.out
    have hlt := row_lt hv.out
    have hyl : ys.length = m1 := hr.out.1
    have HT := hide (l8Trap_any P a a1 n c m1 c1 L ys wr (HL.out.below hbel.out) hr.out (by omega) HG.out hx.out)
    go_wp2_with fail
    refine HT.out.mono ?_
    rintro e w2 ⟨rfl, hb⟩
    have HR2 := hide (hr.out.below hb)
    have HV2 := hide (keep hv.out hb)
    have HB2 := hide (hbel.out.trans (hb.mono hbel.out.size))
    clear hb HT hr hv hbel hc0 hc1 hlt
    cases hsl : slips false (maskL ys) n L
    case false =>
      have HE := hide (hh.out.done hsl)
      go_wp2_with fail
      go_ret
      exact ⟨a1, m1, c1, ys, rfl, HR2.out, hx.out, HE.out, HB2.out⟩
    have HSL := hide hsl
    clear hsl
    obtain ⟨hc0, hc1⟩ := cells2 HV2.out
    have hlt := row_lt HV2.out
    have HP0 := hide (PassAt.start hx.out hh.out)
    clear hx hh
    go_wp2_with fail
    clear hc0 hc1 hlt
    go_loopw [1, 16, 6] (fun sv i _ wr => ∃ (k : Nat) (a2 : Option Addr) (m2 c2 : Nat) (zs : List Int), sv = .slice a2 m2 c2 ∧ k ≤ n ∧ i = .int .i64 k ∧ m2 ≤ 16 ∧ Hid (Row wr a2 m2 zs) ∧ Hid (PassAt false (P : Int) n L s ys zs k) ∧ Hid (wr.heap[w.heap.size]? = some (.cells #[.int .i64 (P : Int), .slice a n c] 31 (0, 0))) ∧ Hid (Below w.heap.size w wr)) (fun _ i _ _ => n - (intOf i).toNat)
    case atStart => exact ⟨0, a1, m1, c1, ys, rfl, Nat.zero_le _, rfl, hm16, HR2, HP0, HV2, HB2⟩
    case round =>
      clear HR2 HP0 HV2 HB2
      obtain ⟨k, a2, m2, c2, zs, rfl, hk, rfl, hm2, hr, hp, hv, hbel⟩ := hrel
      have hzl : zs.length = m2 := hr.out.1
      by_cases hlt : k < n
      rotate_left
      · have hk' : n = k := by omega
        have hlen : m2 < m1 := by
          have h1 := hp.out.len
          rcases Nat.lt_or_ge m2 m1 with h | h
          · exact h
          · obtain ⟨e1, e2⟩ := hp.out.same (by omega)
            rw [← hk'] at e2
            rw [HSL.out] at e2; cases e2
        have HRI := hide hp.out.rise
        have HHO := hide hp.out.hold
        clear hp HSL
        have hlt' : ¬ k < n := hlt
        go_wp2_with fail
        go_roundw
        case rel => exact ⟨a2, m2, c2, zs, rfl, hm2, hr, HRI, HHO, hv, hbel⟩
        case measure => simp only [lenOfV]; exact hlen
      obtain ⟨b0, off, a0, n0, c0, a3, n3, c3, a4, n4, c4, rfl, hb, hrr, m0, m3, m4, r0, r3, r4⟩ := (HL.out.below hbel.out).tri hlt
      obtain ⟨hc0, hc1, hc2⟩ := rangeAt_cells3 hrr
      have hri := net_rises HG.out hlt
      have hA1 := below_al wr (.cells #[.slice a0 n0 c0, .slice a3 n3 c3, .slice a4 n4 c4] 77)
      have HB1 := hide (hbel.out.trans (hA1.mono hbel.out.size))
      have HV1 := hide (heap_alloc_new wr (.cells #[.slice a0 n0 c0, .slice a3 n3 c3, .slice a4 n4 c4] 77))
      have HVN := hide (keep hv.out hA1)
      have q0 : n0 ≤ 1048576 := by have h1 := r0.1; rcases rise_len hri.1 with e | e; omega; rw [e] at h1; simp at h1; omega
      have q3 : n3 ≤ 1048576 := by have h1 := r3.1; rcases rise_len hri.2.1 with e | e; omega; rw [e] at h1; simp at h1; omega
      have HRZ := hide (hr.out.below hA1)
      have HN0 := hide (r0.below hA1)
      have H0 := hide (meet_any a0 a2 n0 m2 c0 c2 _ zs _ (r0.below hA1) (hr.out.below hA1) q0 (by omega))
      have H1 := hide (meet_any a3 a2 n3 m2 c3 c2 _ zs _ (r3.below hA1) (hr.out.below hA1) q3 (by omega))
      have HS := hide (slipAt_meet (b := false) HG.out hlt hp.out.rise)
      simp only [Bool.false_eq_true, if_false] at HS
      simp only [Nat.add_zero] at HS
      have HSTAY : Hid (slipAt false (maskL zs) k L = false → PassAt false (P : Int) n L s ys zs (k + 1)) := fun h => hp.out.stay h
      have HCUT : Hid (slipAt false (maskL zs) k L = true → PassAt false (P : Int) n L s ys (woL zs (L.getD (3 * k) [])) (k + 1)) := fun h => hp.out.cut h hlt hri.1 (by simp [sideB])
      rw [HS.out] at HSTAY HCUT
      obtain ⟨t0, ht0⟩ : ∃ t, Hid (meetB (L.getD (3 * k) []) zs = t) := ⟨_, rfl⟩
      obtain ⟨t1, ht1⟩ : ∃ t, Hid (meetB (L.getD (3 * k + 1) []) zs = t) := ⟨_, rfl⟩
      rw [ht0.out] at H0 HSTAY HCUT
      rw [ht1.out] at H1 HSTAY HCUT
      obtain ⟨nl, hnl⟩ : ∃ nl, Hid ((L.getD (3 * k) []) = nl) := ⟨_, rfl⟩
      rw [hnl.out] at HCUT HN0
      have HW := hide (fun (W : World) (hW : Below (wr.alloc (.cells #[.slice a0 n0 c0, .slice a3 n3 c3, .slice a4 n4 c4] 77)).heap.size (wr.alloc (.cells #[.slice a0 n0 c0, .slice a3 n3 c3, .slice a4 n4 c4] 77)) W) => without_any a2 a0 m2 c2 n0 c0 zs nl W (HRZ.out.below hW) (HN0.out.below hW) (by omega) q0)
      clear hrr m0 m3 m4 r0 r3 r4 hri hA1 HS ht0 ht1 hbel hr hv hp hnl
      go_wp2_with fail
      clear hc0 hc1 hc2
      generalize wr.alloc (.cells #[.slice a0 n0 c0, .slice a3 n3 c3, .slice a4 n4 c4] 77) = W1 at *
      generalize wr.heap.size = q at *
      obtain ⟨hv0, hv1, hv2⟩ := cells3E HV1.out
      have hvl := (Array.getElem?_eq_some_iff.mp HV1.out).1
      go_wp2_with fail
      refine H0.out.mono ?_
      rintro e w3 ⟨rfl, rfl⟩
      cases t0
      · have HU := hide (HSTAY.out rfl)
        clear HSTAY HCUT H1 H0 HW HN0
        go_wp2_with fail
        go_roundw
        case rel => exact ⟨k + 1, a2, m2, c2, zs, rfl, by omega, by go_num, hm2, HRZ, HU, HVN, HB1⟩
        case measure => simp [intOf]; omega
      cases t1
      case true =>
        have HU := hide (HSTAY.out rfl)
        clear HSTAY HCUT H0 HW HN0
        go_wp2_with fail
        refine H1.out.mono ?_
        rintro e w3 ⟨rfl, rfl⟩
        go_wp2_with fail
        go_roundw
        case rel => exact ⟨k + 1, a2, m2, c2, zs, rfl, by omega, by go_num, hm2, HRZ, HU, HVN, HB1⟩
        case measure => simp [intOf]; omega
      have HU := hide (HCUT.out rfl)
      clear HSTAY HCUT H0
      go_wp2_with fail
      refine H1.out.mono ?_
      rintro e w3 ⟨rfl, rfl⟩
      clear H1
      go_wp2_with fail
      refine (HW.out _ (Below.refl _ _)).mono ?_
      rintro e w4 ⟨a5, m5, c5, rfl, hr5, hb5⟩
      have HR5 := hide hr5
      have HV5 := hide (keep HVN.out hb5)
      have HB5 := hide (HB1.out.trans (hb5.mono HB1.out.size))
      have hm5 : m5 ≤ 16 := by have h1 := hr5.1; have h2 := woL_len zs nl; omega
      clear hr5 hb5 HW HVN HB1 HV1 hv0 hv1 hv2 hvl HN0 HRZ
      go_wp2_with fail
      go_roundw
      case rel => exact ⟨k + 1, a5, m5, c5, _, rfl, by omega, by go_num, hm5, HR5, HU, HV5, HB5⟩
      case measure => simp [intOf]; omega

/-- What is told: of a net and a set as the chapter asks the members of the greatest set; else none. -/
def bgZ (b : Bool) (p : Int) (n : Nat) (L : List (List Int)) (xs zs : List Int) : Prop := (ssOk p n L xs = true → ∃ r, r < 2 ^ 16 ∧ IsG b n L (maskL xs) r ∧ zs = nums2 r.testBit 16) ∧ (ssOk p n L xs = false → zs = [])

/-- How BigTrap and BigSiphon of the specification end. -/
def BgS (b : Bool) (p : Int) (n : Nat) (L : List (List Int)) (xs : List Int) (w : World) (e : Ending) (w' : World) : Prop :=
  ∃ a m c zs, e = .returned (.tuple #[.slice a m c, .bool (ssOk p n L xs)]) ∧ Row w' a m zs ∧ bgZ b p n L xs zs ∧ Below w.heap.size w w'

theorem bgS_no {b : Bool} {p : Int} {n : Nat} {L : List (List Int)} {xs : List Int} {w w' : World} (h : ssOk p n L xs = false) (hb : Below w.heap.size w w') : BgS b p n L xs w (.returned (.tuple #[.slice none 0 0, .bool false])) w' :=
  ⟨none, 0, 0, [], by rw [h], ⟨rfl, .inl rfl⟩, ⟨fun e => (by rw [h] at e; cases e), fun _ => rfl⟩, hb⟩

theorem bgS_yes {b : Bool} {p : Int} {n : Nat} {L : List (List Int)} {xs : List Int} {w w1 w' : World} {e : Ending} (h : ssOk p n L xs = true) (hb : Below w.heap.size w w1) (hg : GrEnd b p n L (maskL xs) w1 e w') :
    ∃ a m c, e = .returned (.slice a m c) ∧ BgS b p n L xs w (.returned (.tuple #[.slice a m c, .bool true])) w' := by
  obtain ⟨a, m, c, zs, rfl, hr, hz, hi, hb2⟩ := hg
  obtain ⟨_, hp1, hp2, hri⟩ := ss_parts h
  have hlt := rise_lt hz hp2
  refine ⟨a, m, c, rfl, a, m, c, zs, by rw [h], hr, ?_, hb.trans (hb2.mono hb.size)⟩
  refine ⟨fun _ => ⟨maskL zs, hlt, hi, (nums2_mask hp2 hz).symm⟩, fun e => ?_⟩
  rw [h] at e
  cases e

theorem ss_len {p : Int} {n : Nat} {L : List (List Int)} {xs : List Int} (h : ssOk p n L xs = true) : xs.length ≤ 16 := by
  obtain ⟨_, hp1, hp2, hri⟩ := ss_parts h
  rcases rise_len hri with e | e
  · omega
  · rw [e]; simp


end Go.Proofs.Ytmhgdhkpceggkab


/- The specification's l1Set, l7Row, l7Small. -/
namespace Go.Proofs.Ytmhgdhkpceggkab
open Go.RowKit
set_option maxRecDepth 10000

theorem wraps_i64 (n : Int) (h₀ : 0 ≤ n) (h₁ : n < 2 ^ 62) : IntKind.i64.wrap n = n := by
  simp [IntKind.wrap, IntKind.bits, IntKind.signed]; omega

theorem and_i64 (a b : Nat) (ha : a < 2 ^ 62) (hb : b < 2 ^ 62) : bits .and .i64 (a : Int) (b : Int) = ((a &&& b : Nat) : Int) := (bits_nat .i64 62 (by decide) wraps_i64 a b ha hb).1

theorem bit_ofI (s k : Nat) (hs : s < 2 ^ 16) : (bits .and .i64 ((s : Int) / 2 ^ k) 1 == 1) = s.testBit k := by
  have h1 : ((s : Int) / 2 ^ k) = ((s / 2 ^ k : Nat) : Int) := by simp
  have h2 : s / 2 ^ k < 2 ^ 62 := Nat.lt_of_le_of_lt (Nat.div_le_self _ _) (Nat.lt_of_lt_of_le hs (by decide))
  have h3 := and_i64 (s / 2 ^ k) 1 h2 (by decide)
  rw [h1]
  rw [show ((1 : Nat) : Int) = (1 : Int) from rfl] at h3
  rw [h3, Nat.and_one_is_mod, Nat.testBit_eq_decide_div_mod_eq]
  by_cases h : s / 2 ^ k % 2 = 1
  · rw [h]; rfl
  · have h4 : s / 2 ^ k % 2 = 0 := by omega
    rw [h4]; rfl

theorem nums2_up {f : Nat → Bool} {k m : Nat} (hk : k ≤ m) (h : ∀ i, k ≤ i → f i = false) : nums2 f m = nums2 f k := by
  induction m with
  | zero => have : k = 0 := by omega
            subst this; rfl
  | succ m ih =>
    by_cases e : k = m + 1
    · subst e; rfl
    · rw [nums2_no (h m (by omega)), ih (by omega)]

theorem nums2_len (f : Nat → Bool) (k : Nat) : (nums2 f k).length ≤ k := by
  unfold nums2
  rw [List.length_map]
  have := List.length_filter_le f (List.range k)
  rwa [List.length_range] at this

/-- The list of a set, of the call's own. -/
def SetEnd (s : Nat) (w : World) (e : Ending) (w' : World) : Prop :=
  ∃ v m, e = .returned v ∧ w'.ownsRow w.heap.size 3 1 v m ((nums2 s.testBit 16).map (Value.int .i64)) ∧ Below w.heap.size w w'

set_option maxHeartbeats 2000000 in
theorem setS_any (s : Nat) (w : World) (hs : s < 1024) :
    Calls Try.prog 40 #[.int .i64 (s : Int)] w fun e w' => SetEnd s w e w' := by
  obtain ⟨i0, hi, hz0, hz1, hz2⟩ := info_split2 Try.info3
  go_enter Try.func40, Try.ntmps40
  go_wp2_with fail
  go_loopw [3, 4] (fun o i wr => ∃ k m : Nat, k ≤ 10 ∧ i = .int .i64 k ∧ Hid (m ≤ k) ∧ Hid (wr.ownsRow w.heap.size 3 1 o m ((nums2 s.testBit k).map (Value.int .i64))) ∧ Hid (Below w.heap.size w wr)) (fun _ i _ => 16 - (intOf i).toNat)
  case atStart => exact ⟨0, 0, Nat.zero_le _, rfl, Nat.le_refl _, World.ownsRow_nil _ _ _ _, Below.refl _ _⟩
  case round =>
    obtain ⟨k, m, hk, rfl, hmk, hown, hbw⟩ := hrel
    have hk0 : (0 : Int) ≤ (k : Int) := by omega
    by_cases hz : s / 2 ^ k = 0
    · have hd : ¬ (0 : Int) < (s : Int) / 2 ^ k := by
        have : ((s : Int) / 2 ^ k) = ((s / 2 ^ k : Nat) : Int) := by simp
        rw [this, hz]; decide
      have hlt : s < 2 ^ k := by rcases Nat.div_eq_zero_iff.mp hz with e | e; exact absurd e (by have := Nat.one_le_two_pow (n := k); omega); exact e
      have hn : nums2 s.testBit 16 = nums2 s.testBit k := nums2_up (by omega) fun i hi => Nat.testBit_lt_two_pow (Nat.lt_of_lt_of_le hlt (Nat.pow_le_pow_right (by decide) hi))
      have HE : Hid (SetEnd s w (.returned u3) wr) := ⟨_, m, rfl, by rw [hn]; exact hown.out, hbw.out⟩
      clear hn hlt hown hbw hmk hz
      go_wp2_with fail
      go_ret
      exact HE.out
    have hd : (0 : Int) < (s : Int) / 2 ^ k := by
      have : ((s : Int) / 2 ^ k) = ((s / 2 ^ k : Nat) : Int) := by simp
      rw [this]; exact Int.natCast_pos.mpr (Nat.pos_of_ne_zero hz)
    have hk10 : k < 10 := by
      rcases Nat.lt_or_ge k 10 with h | h
      · exact h
      · have : s < 2 ^ k := Nat.lt_of_lt_of_le (show s < 2 ^ 10 by omega) (Nat.pow_le_pow_right (by decide) h)
        exact absurd (Nat.div_eq_of_lt this) hz
    have hbit := bit_ofI s k (by omega)
    clear hz
    cases hh : s.testBit k
    · rw [hh] at hbit
      have HN := hide (nums2_no hh)
      clear hh
      go_wp2_with fail
      go_roundw
      case rel => exact ⟨k + 1, m, by omega, by go_num, Nat.le_succ_of_le hmk.out, by rw [HN.out]; exact hown, hbw⟩
      case measure => simp [intOf]; omega
    rw [hh] at hbit
    have HN := hide (nums2_yes hh)
    have hA2 := below_al wr (.cells #[.int .i64 (k : Int)] 3)
    have HO2 := hide (hown.out.alloc (.cells #[.int .i64 (k : Int)] 3))
    have HB2 := hide (hbw.out.trans (hA2.mono hbw.out.size))
    have HCE : Hid (∀ j u, ([.int .i64 (k : Int)] : List Value)[j]? = some u → (wr.alloc (.cells #[.int .i64 (k : Int)] 3)).cell? ((⟨wr.heap.size, 0, none⟩ : Addr).add j) = some u) := one_cell2 wr _
    have H1c : Hid (∀ u ∈ ([.int .i64 (k : Int)] : List Value), u.oneCell' = true) := fun u hu => by simp at hu; subst hu; rfl
    have HX := hide (show m + 1 ≤ maxLen by have := hmk.out; unfold maxLen; omega)
    have HY := hide (show (m + 1) * 8 ≤ 140737488355328 by have := hmk.out; omega)
    have HZ := hide HB2.out.size
    clear hA2 hown hbw hh
    go_wp2_with (refine wpList_append_own _ rfl (.tmp 18) (.tmp 20) 38 rfl w.heap.size 3 i0 (.int .i64 0) 1 8 Try.underlying38 hi hz0 hz1 hz2 rfl (by decide) u3 m _ rfl HO2.out ⟨_, 0, none⟩ 1 1 [.int .i64 (k : Int)] rfl rfl HCE.out H1c.out HX.out HY.out HZ.out ?_; intro v' W' r1 r2 r3)
    have HR1 : Hid (W'.ownsRow w.heap.size 3 1 v' (m + 1) ((nums2 s.testBit (k + 1)).map (Value.int .i64))) := by
      show World.ownsRow _ _ _ _ _ _ _
      rw [HN.out, List.map_append]; exact r1
    have HB3 := hide (own_below2 HO2.out r2 HB2.out HB2.out.size (Nat.le_refl _))
    clear r1 r2 r3
    go_wp2_with fail
    go_roundw
    case rel => exact ⟨k + 1, m + 1, by omega, by go_num, Nat.succ_le_succ hmk.out, HR1, HB3⟩
    case measure => simp [intOf]; omega

theorem mem_nums2 {s j : Nat} : (j : Int) ∈ nums2 s.testBit 16 ↔ j < 16 ∧ s.testBit j = true := by
  unfold nums2
  simp only [List.mem_map, List.mem_filter, List.mem_range]
  constructor
  · rintro ⟨i, ⟨h1, h2⟩, e⟩
    have : i = j := by omega
    subst this; exact ⟨h1, h2⟩
  · rintro ⟨h1, h2⟩; exact ⟨j, ⟨h1, h2⟩, rfl⟩

theorem nums2_lo {s : Nat} {x : Int} (h : x ∈ nums2 s.testBit 16) : 0 ≤ x ∧ x < 16 ∧ s.testBit x.toNat = true := by
  unfold nums2 at h
  simp only [List.mem_map, List.mem_filter, List.mem_range] at h
  obtain ⟨i, ⟨h1, h2⟩, rfl⟩ := h
  exact ⟨by omega, by omega, h2⟩

/-- A row of zeros in which the places xs have been set to 1. -/
def onesL (P : Nat) (xs : List Int) : List Int := updL (fun _ => 1) xs (List.replicate P 0)

theorem onesL_len (P : Nat) (xs : List Int) : (onesL P xs).length = P := by unfold onesL; rw [updL_len]; simp

theorem onesL_at {P : Nat} {xs : List Int} (h : ∀ x ∈ xs, 0 ≤ x) {i : Nat} (hi : i < P) : (onesL P xs).getD i 0 = if (i : Int) ∈ xs then 1 else 0 := by
  unfold onesL
  induction xs using snoc_ind with
  | h0 => show (List.replicate P (0 : Int)).getD i 0 = _; simp [List.getD_eq_getElem?_getD, hi]
  | h1 xs x ih =>
    have ih' := ih fun y hy => h y (by simp [hy])
    have hx := h x (by simp)
    rw [updL_snoc, List.getD_eq_getElem?_getD, List.getElem?_set, updL_len]
    by_cases e : x.toNat = i
    · rw [if_pos e, if_pos (by simp; omega), if_pos (by simp; right; omega)]; rfl
    · rw [if_neg e, ← List.getD_eq_getElem?_getD, ih']
      have hne : (i : Int) ≠ x := by omega
      by_cases hm : (i : Int) ∈ xs
      · rw [if_pos hm, if_pos (by simp [hm])]
      · rw [if_neg hm, if_neg (by simp [hm, hne])]

theorem ones_row {P s : Nat} (hP : P ≤ 10) : onesL P (nums2 s.testBit 16) = rowB s P := by
  apply list_byD
  · rw [onesL_len]; unfold rowB; rw [listF_len]
  · intro i hi
    unfold rowB at hi ⊢
    rw [listF_len] at hi
    rw [onesL_at (fun x hx => (nums2_lo hx).1) hi, listF_at _ _ _ hi]
    by_cases hb : s.testBit i = true
    · rw [if_pos (mem_nums2.mpr ⟨by omega, hb⟩), if_pos hb]
    · rw [if_neg (fun h => hb (mem_nums2.mp h).2), if_neg hb]

end Go.Proofs.Ytmhgdhkpceggkab


/- The specification's l7Small and SmallInvariants. -/
namespace Go.Proofs.Ytmhgdhkpceggkab
open Go.RowKit
set_option maxRecDepth 10000

theorem smallR_yes {f : Nat → Bool} {r : Nat} (hr : 1 ≤ r) (h1 : f r = true) (h2 : subA (smallN f (r - 1)) r = false) : smallN f r = smallN f (r - 1) ++ [r] := by
  obtain ⟨k, rfl⟩ : ∃ k, r = k + 1 := ⟨r - 1, by omega⟩
  exact smallN_yes h1 h2
theorem smallR_no {f : Nat → Bool} {r : Nat} (hr : 1 ≤ r) (h : (f r && !subA (smallN f (r - 1)) r) = false) : smallN f r = smallN f (r - 1) := by
  obtain ⟨k, rfl⟩ : ∃ k, r = k + 1 := ⟨r - 1, by omega⟩
  show (if _ then _ else _) = _
  have h' : (f (k + 1) && !(smallN f k).any (fun q => decide (q &&& (k + 1) = q))) = false := h
  rw [h']; rfl

def encI (l : List Nat) : List Value := l.map fun (s : Nat) => Value.int .i64 (s : Int)

/-- Lists that an append has piled up, each of them one that an append has made. -/
def LRow (w : World) (B : Nat) (v : Value) (K : List (List Int)) : Prop :=
  ∃ cs, w.ownsRow B 38 1 v K.length cs ∧ ∀ i, i < K.length → ∃ a b n c, cs[i]? = some (.slice a n c) ∧ Ob w a b n (K.getD i []) ∧ B ≤ b

theorem LRow.nil (w : World) (B : Nat) : LRow w B (.slice none 0 0) [] := ⟨[], World.ownsRow_nil _ _ _ _, fun i hi => absurd hi (by simp)⟩

theorem LRow.grow {w w' : World} {B : Nat} {v : Value} {K : List (List Int)} (h : LRow w B v K) (hb : Below w.heap.size w w') : LRow w' B v K := by
  obtain ⟨cs, h1, h2⟩ := h
  refine ⟨cs, own_growK h1 hb, fun i hi => ?_⟩
  obtain ⟨a, b, n, c, e, ho, hB⟩ := h2 i hi
  exact ⟨a, b, n, c, e, ho.grow hb, hB⟩

theorem own_kept {w w' : World} {B n : Nat} {v : Value} {T U : TypeId} {xs ys : List Value} {v2 : Value} {m : Nat} (h : w.ownsRow B T 1 v n xs) (h2 : w.ownsRow B U 1 v2 m ys) (hTU : T ≠ U) (hg : w.grownBy w' v2.ownBlock) : w'.ownsRow B T 1 v n xs := by
  refine ⟨h.1, ?_⟩
  rcases h.2 with h0 | ⟨g, cap, cur, e, a1, a2, a3⟩
  · exact .inl h0
  · refine .inr ⟨g, cap, cur, e, a1, ?_, a3⟩
    rw [hg.block g (Array.getElem?_eq_some_iff.mp a2).1 ?_]; exact a2
    intro hh
    rcases h2.2 with ⟨rfl, _⟩ | ⟨g2, cap2, cur2, rfl, b1, b2, _⟩
    · simp [Value.ownBlock] at hh
    · simp [Value.ownBlock] at hh
      subst hh
      rw [a2] at b2
      simp at b2
      exact hTU b2.2

theorem Ob.kept {w w' : World} {B : Nat} {a : Option Addr} {b n : Nat} {xs : List Int} {ys : List Value} {v2 : Value} {m : Nat} (h : Ob w a b n xs) (h2 : w.ownsRow B 38 1 v2 m ys) (hg : w.grownBy w' v2.ownBlock) : Ob w' a b n xs := by
  refine ⟨h.1, ?_⟩
  rcases h.2 with h0 | ⟨e, cur, a2, a3⟩
  · exact .inl h0
  · refine .inr ⟨e, cur, ?_, a3⟩
    rw [hg.block b (Array.getElem?_eq_some_iff.mp a2).1 ?_]; exact a2
    intro hh
    rcases h2.2 with ⟨rfl, _⟩ | ⟨g2, cap2, cur2, rfl, b1, b2, _⟩
    · simp [Value.ownBlock] at hh
    · simp [Value.ownBlock] at hh
      subst hh
      rw [a2] at b2
      simp at b2

theorem LRow.push {w w' : World} {B : Nat} {v v' : Value} {K : List (List Int)} {cs : List Value} {a : Option Addr} {b n c : Nat} {xs : List Int} (h1 : w.ownsRow B 38 1 v K.length cs) (h2 : ∀ i, i < K.length → ∃ a b n c, cs[i]? = some (.slice a n c) ∧ Ob w a b n (K.getD i []) ∧ B ≤ b)
    (ho : Ob w a b n xs) (hB : B ≤ b) (hown : w'.ownsRow B 38 1 v' (K.length + 1) (cs ++ [.slice a n c])) (hg : w.grownBy w' v.ownBlock) : LRow w' B v' (K ++ [xs]) := by
  have hcl : cs.length = K.length := by have := h1.1; omega
  refine ⟨cs ++ [.slice a n c], by rw [List.length_append]; exact hown, fun i hi => ?_⟩
  by_cases hi2 : i < K.length
  · obtain ⟨a1, b1, n1, c1, e, ho1, hB1⟩ := h2 i hi2
    refine ⟨a1, b1, n1, c1, by rw [List.getElem?_append_left (by omega)]; exact e, ?_, hB1⟩
    rw [List.getD_eq_getElem?_getD, List.getElem?_append_left hi2, ← List.getD_eq_getElem?_getD]
    exact ho1.kept h1 hg
  · rw [List.length_append, List.length_singleton] at hi
    have : i = K.length := by omega
    subst this
    refine ⟨a, b, n, c, by rw [List.getElem?_append_right (by omega), hcl]; simp, ?_, hB⟩
    rw [List.getD_eq_getElem?_getD, List.getElem?_append_right (Nat.le_refl _)]
    simp
    exact ho.kept h1 hg

theorem LRow.lists {w : World} {B : Nat} {v : Value} {K : List (List Int)} (h : LRow w B v K) (hl : ∀ i, (K.getD i []).length ≤ 16) : ∃ a c, v = .slice a K.length c ∧ Lists w a K.length K := by
  obtain ⟨cs, h1, h2⟩ := h
  rcases h1.2 with ⟨rfl, e0⟩ | ⟨g, cap, cur, rfl, hb, hh, hnc, _, hsz, ht⟩
  · exact ⟨none, 0, by rw [e0], rfl, .inl e0⟩
  · refine ⟨_, cap, rfl, rfl, .inr ⟨g, 0, rfl, (Array.getElem?_eq_some_iff.mp hh).1, fun j hj => ?_⟩⟩
    obtain ⟨a, b, n, c, e, ho, _⟩ := h2 j hj
    refine ⟨a, n, c, ?_, by have := ho.1; have := hl j; unfold maxLen; omega, ho.row⟩
    rw [cell_of_row w g (0 + j) cur _ _ hh, Nat.zero_add]
    have e2 : (cur.toList.take (K.length * 1))[j]? = cs[j]? := by rw [ht]
    rw [List.getElem?_take_of_lt (by omega), Array.getElem?_toList] at e2
    rw [e2]; exact e

theorem rowB_bound (s P : Nat) : ∀ i, -1000 ≤ (rowB s P).getD i 0 ∧ (rowB s P).getD i 0 ≤ 1000 := by
  intro i
  unfold rowB
  by_cases hi : i < P
  · rw [listF_at _ _ _ hi]; split <;> omega
  · rw [List.getD_eq_getElem?_getD, List.getElem?_eq_none (by rw [listF_len]; omega)]; simp

theorem numRow_at {w : World} {B n : Nat} {v : Value} {l : List Nat} (h : w.ownsRow B 3 1 v n (encI l)) {k : Nat} (hk : k < n) : ∃ g c, v = .slice (some ⟨g, 0, none⟩) n c ∧ g < w.heap.size ∧ w.cell? ⟨g, k, none⟩ = some (.int .i64 ((l.getD k 0 : Nat) : Int)) ∧ l[k]? = some (l.getD k 0) := by
  have hl : l.length = n := by have := h.1; simp [encI] at this; omega
  rcases h.2 with ⟨rfl, rfl⟩ | ⟨g, cap, cur, rfl, hb, hh, hnc, _, hsz, ht⟩
  · omega
  · refine ⟨g, cap, rfl, (Array.getElem?_eq_some_iff.mp hh).1, ?_, ?_⟩
    · rw [cell_of_row w g k cur _ _ hh]
      have e : (cur.toList.take (n * 1))[k]? = (encI l)[k]? := by rw [ht]
      rw [List.getElem?_take_of_lt (by omega), Array.getElem?_toList] at e
      rw [e]
      simp [encI, List.getElem?_eq_getElem (show k < l.length by omega), List.getD_eq_getElem?_getD]
    · rw [List.getD_eq_getElem?_getD, List.getElem?_eq_getElem (by omega)]; rfl

theorem Try.info38k : (Try.prog.info? 38).map (fun i => (i.zero, i.size, i.bytes)) = some (some (.slice none 0 0), 1, 24) := by kernel_rfl
theorem Try.und26k : Try.prog.underlying 26 = some (.slice 38) := by kernel_rfl

/-- The lists of some sets. -/
def listsN (l : List Nat) : List (List Int) := l.map fun s => nums2 s.testBit 16

theorem listsN_len (l : List Nat) : (listsN l).length = l.length := by simp [listsN]
theorem listsN_take {l : List Nat} {k s : Nat} (h : l[k]? = some s) : listsN (l.take (k + 1)) = listsN (l.take k) ++ [nums2 s.testBit 16] := by
  unfold listsN
  rw [List.take_add_one, h, List.map_append]; rfl
theorem listsN_at (l : List Nat) (i : Nat) : ((listsN l).getD i []).length ≤ 16 := by
  unfold listsN
  rw [List.getD_eq_getElem?_getD, List.getElem?_map]
  cases h : l[i]? with
  | none => simp
  | some s => simp; exact nums2_len _ _

end Go.Proofs.Ytmhgdhkpceggkab


/- The specification's SmallInvariants and IsKept. -/
namespace Go.Proofs.Ytmhgdhkpceggkab
open Go.RowKit
set_option maxRecDepth 10000

theorem LRow.low {w : World} {B C : Nat} {v : Value} {K : List (List Int)} (h : LRow w B v K) (hC : C ≤ B) : LRow w C v K := by
  obtain ⟨cs, h1, h2⟩ := h
  refine ⟨cs, ⟨h1.1, ?_⟩, fun i hi => ?_⟩
  · rcases h1.2 with h0 | ⟨g, cap, cur, e, a1, a2⟩
    · exact .inl h0
    · exact .inr ⟨g, cap, cur, e, by omega, a2⟩
  · obtain ⟨a, b, n, c, e, ho, hB⟩ := h2 i hi
    exact ⟨a, b, n, c, e, ho, by omega⟩


theorem LRow.at {w : World} {B : Nat} {v : Value} {K : List (List Int)} (h : LRow w B v K) {k : Nat} (hk : k < K.length) : ∃ g cap a n c, v = .slice (some ⟨g, 0, none⟩) K.length cap ∧ g < w.heap.size ∧ w.cell? ⟨g, k, none⟩ = some (.slice a n c) ∧ Row w a n (K.getD k []) := by
  obtain ⟨cs, h1, h2⟩ := h
  rcases h1.2 with ⟨rfl, e0⟩ | ⟨g, cap, cur, rfl, hb, hh, hnc, _, hsz, ht⟩
  · omega
  · obtain ⟨a, b, n, c, e, ho, _⟩ := h2 k hk
    refine ⟨g, cap, a, n, c, rfl, (Array.getElem?_eq_some_iff.mp hh).1, ?_, ho.row⟩
    rw [cell_of_row w g k cur _ _ hh]
    have e2 : (cur.toList.take (K.length * 1))[k]? = cs[k]? := by rw [ht]
    rw [List.getElem?_take_of_lt (by omega), Array.getElem?_toList] at e2
    rw [e2]; exact e

end Go.Proofs.Ytmhgdhkpceggkab


/- Slices of lists: what szIntSS, toIntSS, eqIntSS, markIntSS and heldIntSS answer, make and write. -/
namespace Go.Proofs.Ytmhgdhkpceggkab
open Go.RowKit
set_option maxRecDepth 10000

theorem Lists.at {w : World} {a : Option Addr} {n : Nat} {L : List (List Int)} (h : Lists w a n L) {k : Nat} (hk : k < n) :
    ∃ b off a' n' c', a = some ⟨b, off, none⟩ ∧ b < w.heap.size ∧ w.cell? ⟨b, off + k, none⟩ = some (.slice a' n' c') ∧ n' ≤ maxLen ∧ Row w a' n' (L.getD k []) := by
  rcases h.2 with h0 | ⟨b, off, e, hl, hc⟩
  · omega
  · obtain ⟨a', n', c', h1, h2, h3⟩ := hc k hk
    exact ⟨b, off, a', n', c', e, hl, h1, h2, h3⟩


theorem Try.info38 : (Try.prog.info? 38).map (fun i => (i.zero, i.size, i.bytes)) = some (some (.slice none 0 0), 1, 24) := by kernel_rfl

theorem PartL.step1 {v w : World} {B n k b0 : Nat} {T : TypeId} {L : List (List Int)} {x0 : List Int} (h : PartL v B n k T L) (hk : k < n) (hb : Below v.heap.size v w)
    (h0 : v.heap.size ≤ b0) (g0 : w.heap[b0]? = some (.cells (cellsOf x0) 3 (0, 0))) (e0 : L.getD k [] = x0) :
    PartL (w.setCell ⟨B, k, none⟩ (.slice (some ⟨b0, 0, none⟩) x0.length x0.length)) B n (k + 1) T L := by
  obtain ⟨C, f, h1, h2, h3, h4⟩ := h
  have hB := (Array.getElem?_eq_some_iff.mp h1).1
  have hold : ∀ j, j < k → f j < v.heap.size := fun j hj => (Array.getElem?_eq_some_iff.mp (h3 j hj).2.2).1
  refine ⟨_, fun j => if j < k then f j else b0, heap_setCell_same _ _ _ _ _ _ ((hb.block B hB).trans h1), by simp [h2], fun j hj => ?_, fun i j hij hj => ?_⟩
  · by_cases hj3 : j < k
    · obtain ⟨q1, q2, q3⟩ := h3 j hj3
      simp only [if_pos hj3]
      refine ⟨?_, q2, ?_⟩
      · rw [Array.getElem?_setIfInBounds_ne (by omega)]; exact q1
      · rw [Below.heap_setCell _ _ _ _ (show f j ≠ B by omega)]; exact (hb.block _ (hold j hj3)).trans q3
    · simp only [if_neg hj3]
      obtain rfl : j = k := by omega
      rw [e0]
      refine ⟨?_, by omega, ?_⟩
      · rw [Array.getElem?_setIfInBounds, if_pos rfl, if_pos (by omega)]
      · rw [Below.heap_setCell _ _ _ _ (show b0 ≠ B by omega)]; exact g0
  · have := h4 i j hij
    by_cases hi3 : i < k
    · have := hold i hi3
      simp only [if_pos hi3]
      split
      all_goals omega
    · omega

/-- The cell k of the row is there, and can be written. -/
theorem PartL.spot {w : World} {B n k : Nat} {T : TypeId} {L : List (List Int)} (h : PartL w B n k T L) {j : Nat} (hj : j < n) : ∃ v, w.cell? ⟨B, j, none⟩ = some v ∧ w.frozen? ⟨B, j, none⟩ = false := by
  obtain ⟨C, f, h1, h2, h3, h4⟩ := h
  exact ⟨_, by rw [cell_of_row w B j C _ _ h1]; exact Array.getElem?_eq_getElem (by omega), frozen_of_row w B j C _ h1⟩

theorem PartL.lists1 {w : World} {B n : Nat} {T : TypeId} {L : List (List Int)} (h : PartL w B n n T L) (hl : L.length = n) (hs : sizeN n L ≤ 1048576) : Lists w (some ⟨B, 0, none⟩) n L := by
  obtain ⟨C, f, h1, h2, h3, h4⟩ := h
  refine ⟨hl, .inr ⟨B, 0, rfl, (Array.getElem?_eq_some_iff.mp h1).1, fun j hj => ?_⟩⟩
  obtain ⟨e1, e2, e3⟩ := h3 j hj
  refine ⟨_, _, _, by rw [cell_of_row w B (0 + j) C T _ h1, Nat.zero_add]; exact e1, ?_, Own.row (B := 0) ⟨rfl, _, rfl, Nat.zero_le _, e3⟩⟩
  have := len_le L j
  unfold sizeN at hs; unfold maxLen; omega

/-- How a call that makes one list ends. -/
def NewRow (xs : List Int) (w : World) (e : Ending) (w' : World) : Prop :=
  ∃ b, e = .returned (.slice (some ⟨b, 0, none⟩) xs.length xs.length) ∧ w.heap.size ≤ b ∧ w'.heap[b]? = some (.cells (cellsOf xs) 3 (0, 0)) ∧ Below w.heap.size w w'

theorem toIntN_any (a : Option Addr) (n ca : Nat) (xs : List Int) (w : World) (ha : Row w a n xs) (hn : n ≤ 1048576) :
    Calls Try.prog 15 #[.slice a n ca] w fun e w' => NewRow xs w e w' := by
  obtain rfl := ha.1
  refine (toInt_any a _ ca xs w ha hn).mono ?_
  rintro e w' ⟨rfl, rfl⟩
  exact ⟨_, rfl, Nat.le_refl _, heap_alloc_new _ _, below_al _ _⟩


set_option maxHeartbeats 400000 in
theorem eqSS_any (a d : Option Addr) (n c e : Nat) (L : List (List Int)) (w : World) (h : Lists w a n L) (g : Lists w d n L) (hs : sizeN n L ≤ 1048576) :
    Calls Try.prog 9 #[.slice a n c, .slice d n e] w fun e w' => e = .returned (.bool true) ∧ Below w.heap.size w w' := by
  have hn : n ≤ 1048576 := by unfold sizeN at hs; omega
  have hne : ((n : Int) != (n : Int)) = false := by simp
  have HL := hide h
  have HG := hide g
  clear h g
  go_enter Try.func9, Try.ntmps9
  go_wp2_with fail
  go_loopw [5] (fun i wr => ∃ k : Nat, k ≤ n ∧ i = .int .i64 k ∧ Hid (Below w.heap.size w wr)) (fun i _ => n - (intOf i).toNat)
  case atStart => exact ⟨0, Nat.zero_le _, rfl, Below.refl _ _⟩
  case round =>
    obtain ⟨k, hk, rfl, hbw⟩ := hrel
    clear hne
    by_cases hlt : k < n
    · obtain ⟨b, off, a0, n0, c0, rfl, hb, hc0, m0, r0⟩ := (HL.out.below hbw.out).at hlt
      obtain ⟨b', off', a0', n0', c0', rfl, hb', hc0', m0', r0'⟩ := (HG.out.below hbw.out).at hlt
      have hl0 := len_le L k
      have hs' : n + sizeL L ≤ 1048576 := hs
      have q0 : n0 ≤ 1048576 := by have := r0.1; omega
      have HT := hide (fun q => eq_any a0 a0' n0 n0' c0 c0' _ _ (wr.drewN q) (r0.drewN q) (r0'.drewN q) q0)
      have hsm := sameB_self (L.getD k [])
      generalize L.getD k [] = x0 at *
      clear r0 hl0 q0 hs' r0' m0 m0'
      go_wp2_with fail
      go_region_with (go_at_call 17; refine (HT.out 1).mono ?_; rintro e w1 ⟨rfl, q, rfl⟩)
      all_goals
        have HB := hide (hbw.out.trans ((below_drewN' wr (1 + q)).mono hbw.out.size))
        clear HT
        go_wp2_with fail
        go_roundw
        case rel => exact ⟨k + 1, by omega, by go_num, HB⟩
        case measure => simp [intOf]; omega
    · have hk' : k = n := by omega
      subst hk'
      go_wp2_with fail
      go_ret
      exact ⟨rfl, hbw.out⟩

set_option maxHeartbeats 1000000 in
theorem markSF_any (B hi n c k0 : Nat) (T : TypeId) (M : Nat → List Int) (w : World) (h : PartF w B hi n T M) (hs : cntF M n ≤ 1048576) (hn : n ≤ 1048576) (hk0 : k0 ≤ 2097152) :
    Calls Try.prog 12 #[.slice (some ⟨B, 0, none⟩) n c, .int .i64 (k0 : Int)] w fun e w' => e = .returned (.int .i64 ((k0 + cntF M n : Nat) : Int)) ∧ PartF w' B hi n T (markedF k0 M n) ∧ Keeps (B + 1) hi w w' := by
  have HP := hide h
  clear h
  go_enter Try.func12, Try.ntmps12
  go_wp2_with fail
  go_loopw [1, 5] (fun t i wr => ∃ k t' : Nat, k ≤ n ∧ i = .int .i64 k ∧ t = .int .i64 (t' : Int) ∧ Hid (t' = k0 + cntF M k) ∧ Hid (PartF wr B hi n T (markedF k0 M k)) ∧ Hid (Keeps (B + 1) hi w wr)) (fun _ i _ => n - (intOf i).toNat)
  case atStart => exact ⟨0, k0, Nat.zero_le _, rfl, rfl, rfl, by have := HP.out; exact (show markedF k0 M 0 = M from by funext j; unfold markedF; rw [if_neg (by omega)]) ▸ this, Keeps.refl _ _ _⟩
  case round =>
    obtain ⟨k, t0, hk, rfl, rfl, ht0, hp, hkp⟩ := hrel
    clear HP
    by_cases hlt : k < n
    rotate_left
    · have hk' : k = n := by omega
      subst hk'
      have HT := hide ht0.out.symm
      go_wp2_with fail
      go_ret
      exact ⟨by rw [HT.out]; rfl, hp.out, hkp.out⟩
    have HQ := hide (And.intro (cntF_mono (M := M) (show k + 1 ≤ n by omega)) (show cntF M (k + 1) = cntF M k + (M k).length from rfl))
    obtain ⟨b0, l0, hl0, hc0, hb0, st0⟩ := mark_step hp.out hlt k rfl
    have HM0 := hide (mark_any _ b0 _ l0 t0 _ wr hb0.out (by have := HQ.out; have := hl0.out; omega) (by have := HQ.out; have := ht0.out; omega))
    go_wp2_with fail
    refine HM0.out.mono ?_
    rintro e w1 ⟨rfl, hbk, ho⟩
    rw [ht0.out] at hbk
    obtain ⟨p1, kp1⟩ := st0.out w1 hbk ho
    have HP1 := hide p1
    have HK1 := hide (hkp.out.trans kp1)
    obtain ⟨t1, ht1⟩ : ∃ t, Hid (t0 + l0 = t) := ⟨_, rfl⟩
    rw [ht1.out]
    have HT1 : Hid (t1 = k0 + cntF M (k + 1)) := by show _ = _; have := HQ.out; have := hl0.out; have := ht0.out; have := ht1.out; omega
    clear st0 HM0 hc0 hbk ho p1 kp1 hp hkp hb0
    go_wp2_with fail
    go_roundw
    case rel => exact ⟨k + 1, t1, by omega, by go_num, rfl, HT1, HP1, HK1⟩
    case measure => simp [intOf]; omega

/-- Lists that were made: none, or behind a block that leads to them. -/
def NetF (w : World) (a : Option Addr) (B hi n : Nat) (M : Nat → List Int) : Prop := n = 0 ∨ (a = some ⟨B, 0, none⟩ ∧ PartF w B hi n 38 M)

set_option maxHeartbeats 400000 in
theorem markSS_any (a : Option Addr) (B hi n c k0 : Nat) (M : Nat → List Int) (w : World) (h : NetF w a B hi n M) (hs : cntF M n ≤ 1048576) (hn : n ≤ 1048576) (hk0 : k0 ≤ 2097152) :
    Calls Try.prog 12 #[.slice a n c, .int .i64 (k0 : Int)] w fun e w' => e = .returned (.int .i64 ((k0 + cntF M n : Nat) : Int)) ∧ NetF w' a B hi n (markedF k0 M n) ∧ Keeps (B + 1) hi w w' := by
  rcases h with h0 | ⟨rfl, hp⟩
  · subst h0
    go_enter Try.func12, Try.ntmps12
    go_wp2_with fail
    go_loop [1, 5] (fun t i => i = .int .i64 0 ∧ t = .int .i64 (k0 : Int)) (fun _ _ => 0)
    case atStart => exact ⟨rfl, rfl⟩
    case round =>
      obtain ⟨rfl, rfl⟩ := hrel
      go_wp2_with fail
      go_ret
      exact ⟨rfl, .inl rfl, Keeps.refl _ _ _⟩
  · refine (markSF_any B hi n c k0 _ M w hp hs hn hk0).mono fun e w' ⟨q1, q2, q3⟩ => ⟨q1, .inr ⟨rfl, q2⟩, q3⟩

theorem NetF.seq1 {w : World} {a : Option Addr} {B hi n k0 : Nat} {M : Nat → List Int} (h : NetF w a B hi n (markedF k0 M n)) {k : Nat} (hk : k < n) :
    ∃ b l, a = some ⟨B, 0, none⟩ ∧ w.cell? ⟨B, k, none⟩ = some (.slice (some ⟨b, 0, none⟩) l l) ∧ Hid ((M k).length = l) ∧ Hid (Row w (some ⟨b, 0, none⟩) l (seqL (k0 + cntF M k) l)) := by
  rcases h with h0 | ⟨rfl, hp⟩
  · omega
  · obtain ⟨b, h1, h2, h3, h4, _⟩ := hp.one hk
    have hm : markedF k0 M n k = seqL (k0 + cntF M k) (M k).length := by unfold markedF; rw [if_pos hk]
    rw [hm, seqL_len] at h1 h4
    exact ⟨b, _, rfl, h1, rfl, h4.row⟩

set_option maxHeartbeats 400000 in
theorem heldSS_any (a : Option Addr) (B hi n c k0 : Nat) (M : Nat → List Int) (w : World) (h : NetF w a B hi n (markedF k0 M n)) (hs : cntF M n ≤ 1048576) (hn : n ≤ 1048576) (hk0 : k0 ≤ 2097152) :
    Calls Try.prog 13 #[.slice a n c, .int .i64 (k0 : Int)] w fun e w' => e = .returned (.int .i64 ((k0 + cntF M n : Nat) : Int)) ∧ w' = w := by
  have HP := hide h
  clear h
  go_enter Try.func13, Try.ntmps13
  go_wp2_with fail
  go_loop [1, 5] (fun t i => ∃ k t' : Nat, k ≤ n ∧ i = .int .i64 k ∧ t = .int .i64 (t' : Int) ∧ Hid (t' = k0 + cntF M k)) (fun _ i => n - (intOf i).toNat)
  case atStart => exact ⟨0, k0, Nat.zero_le _, rfl, rfl, rfl⟩
  case round =>
    obtain ⟨k, t0, hk, rfl, rfl, ht0⟩ := hrel
    by_cases hlt : k < n
    rotate_left
    · have hk' : k = n := by omega
      subst hk'
      have HT := hide ht0.out.symm
      go_wp2_with fail
      go_ret
      exact ⟨ret_int (by have := HT.out; omega), rfl⟩
    have HQ := hide (And.intro (cntF_mono (M := M) (show k + 1 ≤ n by omega)) (show cntF M (k + 1) = cntF M k + (M k).length from rfl))
    obtain ⟨b, l, rfl, hc0, hl, r0⟩ := HP.out.seq1 hlt
    have r0' := r0.out
    rw [← ht0.out] at r0'
    have HM0 := hide (held_any _ _ l t0 w r0' (by have := HQ.out; have := hl.out; omega) (by have := HQ.out; have := ht0.out; omega))
    obtain ⟨t1, ht1⟩ : ∃ t, Hid (t0 + l = t) := ⟨_, rfl⟩
    have HT1 : Hid (t1 = k0 + cntF M (k + 1)) := by show _ = _; have := HQ.out; have := hl.out; have := ht0.out; have := ht1.out; omega
    rw [ht1.out] at HM0
    have hp1 : (0 : Int) ≤ (t1 : Int) := by omega
    clear hl r0 r0' HQ
    go_wp2_with fail
    refine HM0.out.mono ?_
    rintro e w' ⟨rfl, rfl⟩
    go_wp2_with fail
    go_round
    case rel => exact ⟨k + 1, t1, by omega, by go_num, rfl, HT1⟩
    case measure => simp [intOf]; omega
end Go.Proofs.Ytmhgdhkpceggkab
