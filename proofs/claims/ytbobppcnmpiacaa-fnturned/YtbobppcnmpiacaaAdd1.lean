/- What both AddMarks answer, for every number of places and every two lists: the sums in new memory and true, where both are good marks and the sums are one, else nothing and false; nothing that was there is written. -/
import Derived.Test.YtbobppcnmpiacaaMk1
import Derived.Test.YtbobppcnmpiacaaCov
import Derived.Deep.RegionLaw
namespace Go.Proofs.Ytbobppcnmpiacaa
open Go.RowKit
set_option maxRecDepth 10000

/-- How a call ends that answers a list in new memory and a bool: the list lies alone in its block. -/
def ListEnd (ok : Bool) (r : List Int) (w : World) (e : Ending) (w' : World) : Prop :=
  ∃ a b n, e = .returned (.tuple #[.slice a n n, .bool ok]) ∧ Blk w' a b n r ∧ w.heap.size ≤ b ∧ Below w.heap.size w w'

/-- .. and where of the list's room nothing is said. -/
def ReadEnd (ok : Bool) (r : List Int) (w : World) (e : Ending) (w' : World) : Prop :=
  ∃ a n c, e = .returned (.tuple #[.slice a n c, .bool ok]) ∧ Row w' a n r ∧ Below w.heap.size w w'

def sumL (xs ys : List Int) : List Int := (List.range xs.length).map fun i => getF xs i + getF ys i
def addOk (p : Int) (xs ys : List Int) : Bool := goodB p xs && goodB p ys && goodB p (sumL xs ys)
def addR (p : Int) (xs ys : List Int) : List Int := if addOk p xs ys then sumL xs ys else []

theorem sumL_len (xs ys : List Int) : (sumL xs ys).length = xs.length := by simp [sumL]

theorem addEnd_no {p : Int} {xs ys : List Int} {w w' : World} (h : addOk p xs ys = false) (hb : Below w.heap.size w w') : ListEnd (addOk p xs ys) (addR p xs ys) w (.returned (.tuple #[.slice none 0 0, .bool false])) w' := by
  refine ⟨none, w.heap.size, 0, by rw [h], ⟨?_, .inl rfl⟩, Nat.le_refl _, hb⟩
  unfold addR; rw [h]; rfl

theorem addEnd_yes {p : Int} {xs ys : List Int} {w w' : World} {b n : Nat} (h : addOk p xs ys = true) (hn : xs.length = n) (hh : w'.heap[b]? = some (.cells (cellsOf (sumL xs ys)) 3 (0, 0))) (hB : w.heap.size ≤ b) (hb : Below w.heap.size w w') :
    ListEnd (addOk p xs ys) (addR p xs ys) w (.returned (.tuple #[.slice (some ⟨b, 0, none⟩) n n, .bool true])) w' := by
  have hr : addR p xs ys = sumL xs ys := by unfold addR; rw [h]; rfl
  refine ⟨_, b, n, by rw [h], ⟨?_, .inr ⟨rfl, ?_⟩⟩, hB, hb⟩
  · rw [hr, sumL_len, hn]
  · rw [hr]; exact hh

/-- The first k numbers are sums. -/
def addF (f g : Nat → Int) (k : Nat) : Nat → Int := fun i => if i < k then f i + g i else f i

theorem addF_set (f g : Nat → Int) (k : Nat) : (tokF (addF f g k)).setIfInBounds k (.int .u8 (f k + g k)) = tokF (addF f g (k + 1)) := by
  refine tokF_set _ _ k _ ?_ fun i hi => ?_
  · unfold addF; rw [if_pos (by omega)]
  · unfold addF
    by_cases h : i < k
    · rw [if_pos h, if_pos (by omega)]
    · rw [if_neg h, if_neg (by omega)]

theorem addF_zero (f g : Nat → Int) : addF f g 0 = f := by
  funext i; unfold addF; rw [if_neg (by omega)]

def SumUpto (f g : Nat → Int) (k : Nat) : Prop := ∀ i, i < k → f i + g i ≤ 50

theorem SumUpto.step {f g : Nat → Int} {k : Nat} (h : SumUpto f g k) (hk : f k + g k ≤ 50) : SumUpto f g (k + 1) := by
  intro i hi
  by_cases e : i = k
  · subst e; exact hk
  · exact h i (by omega)

theorem list_sum (xs ys : List Int) (n : Nat) (hx : xs.length = n) (hn : n ≤ 16) : listF (addF (fOf xs n) (fOf ys n) 16) n = sumL xs ys := by
  unfold listF sumL
  rw [hx]
  apply List.map_congr_left
  intro i hi
  have hi' : i < n := by simpa using hi
  unfold addF fOf getF
  rw [if_pos (by omega), if_pos hi', if_pos hi']

theorem good_sum {p : Int} {xs ys : List Int} (hg : (goodB p xs && goodB p ys) = true) (h : ∀ i, i < xs.length → getF xs i + getF ys i ≤ 50) : addOk p xs ys = true := by
  have hg' := hg
  rw [Bool.and_eq_true] at hg'
  have h1 := good_parts hg'.1
  have h2 := good_parts hg'.2
  unfold addOk
  rw [hg, Bool.true_and]
  unfold goodB at *
  simp only [Bool.and_eq_true] at hg' ⊢
  refine ⟨⟨hg'.1.1.1, by rw [sumL_len]; exact hg'.1.1.2⟩, ?_⟩
  unfold allB
  rw [List.all_eq_true]
  intro x hx
  simp only [sumL, List.mem_map, List.mem_range] at hx
  obtain ⟨i, hi, rfl⟩ := hx
  have a1 := h1.1 i
  have a2 := h2.1 i
  have a3 := h i hi
  simp [inB]; omega

theorem not_sum {p : Int} {xs ys : List Int} {k : Nat} (hk : k < xs.length) (h : 50 < getF xs k + getF ys k) : addOk p xs ys = false := by
  unfold addOk
  have : goodB p (sumL xs ys) = false := by
    unfold goodB
    have : allB (sumL xs ys) 0 50 = false := by
      unfold allB
      rw [List.all_eq_false]
      exact ⟨_, List.mem_map.mpr ⟨k, List.mem_range.mpr hk, rfl⟩, by simp [inB]; omega⟩
    rw [this, Bool.and_false]
  rw [this, Bool.and_false]

theorem not_both {p : Int} {xs ys : List Int} (h : (goodB p xs && goodB p ys) = false) : addOk p xs ys = false := by unfold addOk; rw [h]; rfl

set_option maxHeartbeats 1000000 in
theorem addI_any (p : Int) (a b : Option Addr) (n m ca cb : Nat) (xs ys : List Int) (w : World) (ha : Row w a n xs) (hb : Row w b m ys) (hn : n ≤ 1048576) (hm : m ≤ 1048576) :
    Calls Try.prog 33 #[.int .i64 p, .slice a n ca, .slice b m cb] w fun e w' => ListEnd (addOk p xs ys) (addR p xs ys) w e w' := by
  have ht := both_any p a b n m ca cb xs ys w ha hb hn hm
  obtain ⟨g, hg⟩ : ∃ g, Hid ((goodB p xs && goodB p ys) = g) := ⟨_, rfl⟩
  rw [hg.out] at ht
  have HT := hide ht
  have hla := hide ha.1
  have hlb := hide hb.1
  clear ht ha hb
  go_enter Try.func33, Try.ntmps33
  go_wp2_with fail
  refine HT.out.mono ?_
  rintro e w1 ⟨k, l, rfl, hkl, hb1⟩
  have hg0 := heap_alloc2_old w1 (.cells #[.int .u8 0, .int .u8 0, .int .u8 0, .int .u8 0, .int .u8 0, .int .u8 0, .int .u8 0, .int .u8 0, .int .u8 0, .int .u8 0, .int .u8 0, .int .u8 0, .int .u8 0, .int .u8 0, .int .u8 0, .int .u8 0] 68) (.cells #[.int .u8 0, .int .u8 0, .int .u8 0, .int .u8 0, .int .u8 0, .int .u8 0, .int .u8 0, .int .u8 0, .int .u8 0, .int .u8 0, .int .u8 0, .int .u8 0, .int .u8 0, .int .u8 0, .int .u8 0, .int .u8 0] 68)
  have hg1 : (((w1.alloc (.cells #[.int .u8 0, .int .u8 0, .int .u8 0, .int .u8 0, .int .u8 0, .int .u8 0, .int .u8 0, .int .u8 0, .int .u8 0, .int .u8 0, .int .u8 0, .int .u8 0, .int .u8 0, .int .u8 0, .int .u8 0, .int .u8 0] 68)).alloc (.cells #[.int .u8 0, .int .u8 0, .int .u8 0, .int .u8 0, .int .u8 0, .int .u8 0, .int .u8 0, .int .u8 0, .int .u8 0, .int .u8 0, .int .u8 0, .int .u8 0, .int .u8 0, .int .u8 0, .int .u8 0, .int .u8 0] 68)).setRow w1.heap.size (packOf xs k)).heap[w1.heap.size + 1]? = some (.cells #[.int .u8 0, .int .u8 0, .int .u8 0, .int .u8 0, .int .u8 0, .int .u8 0, .int .u8 0, .int .u8 0, .int .u8 0, .int .u8 0, .int .u8 0, .int .u8 0, .int .u8 0, .int .u8 0, .int .u8 0, .int .u8 0] 68 (0, 0)) := by
    rw [setRow_other _ _ _ _ (by omega)]; exact heap_alloc2_new _ _ _
  have hg3 := setRow_same hg1 (packOf ys l)
  have hg2 := (setRow_other (((w1.alloc (.cells #[.int .u8 0, .int .u8 0, .int .u8 0, .int .u8 0, .int .u8 0, .int .u8 0, .int .u8 0, .int .u8 0, .int .u8 0, .int .u8 0, .int .u8 0, .int .u8 0, .int .u8 0, .int .u8 0, .int .u8 0, .int .u8 0] 68)).alloc (.cells #[.int .u8 0, .int .u8 0, .int .u8 0, .int .u8 0, .int .u8 0, .int .u8 0, .int .u8 0, .int .u8 0, .int .u8 0, .int .u8 0, .int .u8 0, .int .u8 0, .int .u8 0, .int .u8 0, .int .u8 0, .int .u8 0] 68)).setRow w1.heap.size (packOf xs k)) (w1.heap.size + 1) w1.heap.size (packOf ys l) (by omega)).trans (setRow_same hg0 (packOf xs k))
  have hbW := below_setRow (below_setRow (((hb1.alloc hb1.size (.cells #[.int .u8 0, .int .u8 0, .int .u8 0, .int .u8 0, .int .u8 0, .int .u8 0, .int .u8 0, .int .u8 0, .int .u8 0, .int .u8 0, .int .u8 0, .int .u8 0, .int .u8 0, .int .u8 0, .int .u8 0, .int .u8 0] 68)).alloc (by have := hb1.size; simp; omega) (.cells #[.int .u8 0, .int .u8 0, .int .u8 0, .int .u8 0, .int .u8 0, .int .u8 0, .int .u8 0, .int .u8 0, .int .u8 0, .int .u8 0, .int .u8 0, .int .u8 0, .int .u8 0, .int .u8 0, .int .u8 0, .int .u8 0] 68))) w1.heap.size hb1.size (packOf xs k)) (w1.heap.size + 1) (by have := hb1.size; omega) (packOf ys l)
  obtain ⟨W, hW⟩ : ∃ W, Hid (W = ((((w1.alloc (.cells #[.int .u8 0, .int .u8 0, .int .u8 0, .int .u8 0, .int .u8 0, .int .u8 0, .int .u8 0, .int .u8 0, .int .u8 0, .int .u8 0, .int .u8 0, .int .u8 0, .int .u8 0, .int .u8 0, .int .u8 0, .int .u8 0] 68)).alloc (.cells #[.int .u8 0, .int .u8 0, .int .u8 0, .int .u8 0, .int .u8 0, .int .u8 0, .int .u8 0, .int .u8 0, .int .u8 0, .int .u8 0, .int .u8 0, .int .u8 0, .int .u8 0, .int .u8 0, .int .u8 0, .int .u8 0] 68)).setRow w1.heap.size (packOf xs k)).setRow (w1.heap.size + 1) (packOf ys l))) := ⟨_, rfl⟩
  rw [← hW.out] at hg2 hg3 hbW
  have HW := hide hbW
  have hb1s := hb1.size
  clear hb1 hbW HT
  have hbs : w.heap.size ≤ w1.heap.size := hb1s
  cases g
  · go_wp2_with (first
      | refine wpList_store_row rfl 68 (.tmp 8) _ rfl _ _ rfl rfl 68 _ hg0 (by rw [packOf_size]; exact Try.size68) (by rw [packOf_size]; rfl) (packOf_one _ _) ?_
      | (refine wpList_store_row rfl 68 (.tmp 9) _ rfl _ _ rfl rfl 68 _ hg1 (by rw [packOf_size]; exact Try.size68) (by rw [packOf_size]; rfl) (packOf_one _ _) ?_; rw [← hW.out]; clear hg0 hg1))
    go_ret2
    exact addEnd_no (not_both hg.out) HW.out
  · have hl := two_len hg.out
    have hgg := hg.out
    rw [Bool.and_eq_true] at hgg
    have hp1 := good_parts hgg.1
    have hp2 := good_parts hgg.2
    obtain ⟨rfl, rfl⟩ := hkl.out rfl
    have e1 := hla.out
    have e2 := hlb.out
    obtain rfl : k = l := by omega
    obtain rfl : p = (k : Int) := by omega
    have hk16 : k ≤ 16 := by omega
    have hs1 := small_fOf hp1.1 k
    have hs2 := small_fOf hp2.1 k
    have HL := hide e1
    clear e1 e2 hp1 hp2 hgg hl hkl hla hlb hn hm
    go_wp2_with (first
      | refine wpList_store_row rfl 68 (.tmp 8) _ rfl _ _ rfl rfl 68 _ hg0 (by rw [packOf_size]; exact Try.size68) (by rw [packOf_size]; rfl) (packOf_one _ _) ?_
      | (refine wpList_store_row rfl 68 (.tmp 9) _ rfl _ _ rfl rfl 68 _ hg1 (by rw [packOf_size]; exact Try.size68) (by rw [packOf_size]; rfl) (packOf_one _ _) ?_; rw [← hW.out]; clear hg0 hg1))
    clear hW hb1s
    generalize w1.heap.size = B at *
    clear w1
    go_loopw [22] (fun i wr => ∃ j : Nat, j ≤ 16 ∧ i = .int .i64 j ∧ SumUpto (fOf xs k) (fOf ys k) j ∧ wr.heap[B]? = some (.cells (tokF (addF (fOf xs k) (fOf ys k) j)) 68 (0, 0)) ∧ wr.heap[B + 1]? = some (.cells (tokF (fOf ys k)) 68 (0, 0)) ∧ Hid (Below w.heap.size w wr)) (fun i _ => 16 - (intOf i).toNat)
    case atStart => exact ⟨0, Nat.zero_le _, rfl, fun i hi => absurd hi (by omega), by rw [addF_zero]; exact hg2, hg3, HW⟩
    case round =>
      obtain ⟨j, hj, rfl, hu, h8, h9, hbw⟩ := hrel
      clear hg2 hg3 HW
      by_cases hlt : j < 16
      · have c8 : wr.cell? ⟨B, j, none⟩ = some (.int .u8 (fOf xs k j)) := by
          rw [cell_of_row wr B j _ _ _ h8, tokF_at _ _ hlt]; unfold addF; rw [if_neg (by omega)]
        have c9 : wr.cell? ⟨B + 1, j, none⟩ = some (.int .u8 (fOf ys k j)) := by
          rw [cell_of_row wr (B + 1) j _ _ _ h9, tokF_at _ _ hlt]
        have z8 := frozen_of_row wr B j _ _ h8
        have b1 := hs1 j
        have b2 := hs2 j
        have hi1 : ((j : Int)) < 16 := by omega
        by_cases hsum : 50 < fOf xs k j + fOf ys k j
        · have HN := hide (show addOk (k : Int) xs ys = false from by
            have hjk : j < k := by
              rcases Nat.lt_or_ge j k with h | h
              · exact h
              · exfalso; unfold fOf at hsum; rw [if_neg (by omega), if_neg (by omega)] at hsum; omega
            refine not_sum (k := j) (by rw [HL.out]; exact hjk) ?_
            unfold fOf at hsum; rw [if_pos hjk, if_pos hjk] at hsum; exact hsum)
          obtain ⟨x, hx⟩ : ∃ x, Hid (fOf xs k j = x) := ⟨_, rfl⟩
          obtain ⟨y, hy⟩ : ∃ y, Hid (fOf ys k j = y) := ⟨_, rfl⟩
          rw [hx.out] at c8 b1 hsum
          rw [hy.out] at c9 b2 hsum
          have HB2 := hide ((hbw.out.setCell (p := ⟨B, j, none⟩) hbs (.int .u8 (x + y))).drew)
          clear hu h8 h9 hbw hs1 hs2
          go_wp2
          go_region
          all_goals go_wp2
          all_goals go_ret2
          all_goals exact addEnd_no HN.out HB2.out
        · have HU := hide (hu.step (by omega))
          have hh8 := heap_setCell_same wr B j _ _ (.int .u8 (fOf xs k j + fOf ys k j)) h8
          rw [addF_set] at hh8
          have hh9 : (wr.setCell ⟨B, j, none⟩ (.int .u8 (fOf xs k j + fOf ys k j))).heap[B + 1]? = some (.cells (tokF (fOf ys k)) 68 (0, 0)) := (Below.heap_setCell _ _ _ _ (by simp)).trans h9
          obtain ⟨x, hx⟩ : ∃ x, Hid (fOf xs k j = x) := ⟨_, rfl⟩
          obtain ⟨y, hy⟩ : ∃ y, Hid (fOf ys k j = y) := ⟨_, rfl⟩
          rw [hx.out] at c8 b1 hsum hh8 hh9
          rw [hy.out] at c9 b2 hsum hh8 hh9
          have HH8 := hide hh8
          have HH9 := hide hh9
          have HB2 := hide ((hbw.out.setCell (p := ⟨B, j, none⟩) hbs (.int .u8 (x + y))).drew)
          clear hu h8 h9 hbw hs1 hs2 hh8 hh9
          go_wp2
          go_region
          all_goals go_wp2
          all_goals
            go_roundw
            case rel => exact ⟨j + 1, by omega, by go_num, HU.out, HH8.out, HH9.out, HB2⟩
            case measure => simp [intOf]; omega
      · have hj' : j = 16 := by omega
        subst hj'
        have HA := hide (show addOk (k : Int) xs ys = true from good_sum hg.out (by
          intro i hi
          rw [HL.out] at hi
          have := hu i (by omega)
          unfold fOf at this; rw [if_pos hi, if_pos hi] at this; exact this))
        have hsm : ∀ i, 0 ≤ addF (fOf xs k) (fOf ys k) 16 i ∧ addF (fOf xs k) (fOf ys k) 16 i ≤ 255 := by
          intro i; have := hs1 i; have := hs2 i; unfold addF; split <;> omega
        have HC := hide (list_any (addF (fOf xs k) (fOf ys k) 16) k wr hk16 hsm)
        rw [list_sum xs ys k HL.out hk16] at HC
        clear hu hs1 hs2 h9 hsm
        go_wp2_with (refine wpList_load_row rfl 68 (.tmp 8) rfl _ rfl 68 (tokF (addF (fOf xs k) (fOf ys k) 16)) (0, 0) _ h8 Try.underlying68 rfl (by rw [tokF_size]; exact Try.size68) ?_)
        refine HC.out.mono ?_
        rintro e w2 ⟨rfl, rfl⟩
        clear h8
        go_wp2
        go_ret2
        exact addEnd_yes HA.out HL.out (heap_alloc2_new _ _ _) (by have := hbw.out.size; omega) (hbw.out.trans ((below_two _ _ _).mono hbw.out.size))
/-- append to a row of the call's own, as one step of a region that draws its order. -/
theorem step_append_own {P : Program} {ops : Array Oper} {o : Oper} {a : Act} {w : World} {K : Act → World → Prop} {Q : Exit → Act → World → Prop} {E : Prop}
    (hg : o.guard = none) (s x : Operand) (t : TypeId) (hop : o.op = Op.call { callee := Callee.builtin Builtin.append, args := #[s, x], argTypes := #[t, t] })
    (base : Nat) (e : TypeId) (i : TypeInfo) (z : Value) (size bytes : Nat) (h1 : P.underlying t = some (.slice e)) (h2 : P.info? e = some i) (h3 : i.zero = some z) (h4 : i.size = size) (h5 : i.bytes = bytes) (h6 : z.cells.size = size) (h7 : 0 < size)
    (v : Value) (n : Nat) (olds : List Value) (hs : a.eval s = v) (hown : w.ownsRow base e size v n olds)
    (ad : Addr) (m c : Nat) (news : List Value) (hx : a.eval x = .slice (some ad) m c) (hn : news.length = m * size) (hc : ∀ j u, news[j]? = some u → w.cell? (ad.add j) = some u) (h1c : ∀ u ∈ news, u.oneCell' = true)
    (b1 : n + m ≤ maxLen) (b2 : (n + m) * bytes ≤ 140737488355328) (hB : base ≤ w.heap.size)
    (hK : ∀ v' w', w'.ownsRow base e size v' (n + m) (olds ++ news) → w.grownBy w' v.ownBlock → K (a.put o.dst v') w') :
    if Region.wanted o (yielded ops a.tmps) = true then Oper.wp P o a w K Q else E := by
  have hw : Region.wanted o (yielded ops a.tmps) = true := by simp [Region.wanted, hg]
  rw [if_pos hw]
  obtain ⟨v', w', hrun, r1, r2, _⟩ := run_append_own (P := P) w base t o.type e i z size bytes h1 h2 h3 h4 h5 h6 h7 v n olds hown ad m c news hn hc h1c b1 b2 hB
  unfold Oper.wp
  simp [execOp, hop, resolve, invoke, builtin, hs, hx, hrun, Result.andThen]
  exact hK v' w' r1 r2

theorem wrap_in (n : Int) (h : 0 ≤ n ∧ n ≤ 1000000) : IntKind.i64.wrap n = n := by rw [IntKind.wrap_i64]; omega

theorem readEnd_no {p : Int} {xs ys : List Int} {w w' : World} (h : addOk p xs ys = false) (hb : Below w.heap.size w w') : ReadEnd (addOk p xs ys) (addR p xs ys) w (.returned (.tuple #[.slice none 0 0, .bool false])) w' := by
  refine ⟨none, 0, 0, by rw [h], ⟨?_, .inl rfl⟩, hb⟩
  unfold addR; rw [h]; rfl

theorem readEnd_yes {p : Int} {xs ys : List Int} {w w' : World} {a : Option Addr} {n c : Nat} (h : addOk p xs ys = true) (hr : Row w' a n (sumL xs ys)) (hb : Below w.heap.size w w') : ReadEnd (addOk p xs ys) (addR p xs ys) w (.returned (.tuple #[.slice a n c, .bool true])) w' := by
  refine ⟨a, n, c, by rw [h], ?_, hb⟩
  unfold addR; rw [h]; exact hr

def sumU (xs ys : List Int) (k : Nat) : List Int := (List.range k).map fun i => getF xs i + getF ys i

theorem sumU_all (xs ys : List Int) : sumU xs ys xs.length = sumL xs ys := rfl

theorem sumU_succ (xs ys : List Int) (k : Nat) : (sumU xs ys (k + 1)).map (Value.int .i64) = (sumU xs ys k).map (Value.int .i64) ++ [.int .i64 (getF xs k + getF ys k)] := by
  simp [sumU, List.range_succ]

theorem ownsRow_below {B : Nat} {w w' : World} {v : Value} {n : Nat} {l : List Value} (hown : w.ownsRow B 3 1 v n l) (hg : w.grownBy w' v.ownBlock) {a : World} {C : Nat} (h : Below C a w) (hC : C ≤ w.heap.size) (hB : C ≤ B) : Below C a w' := by
  refine h.grown hg hC fun k hk => ?_
  rcases hown.2 with ⟨rfl, _⟩ | ⟨g, cap, cur, rfl, hb, _⟩
  · simp [Value.ownBlock] at hk
  · simp [Value.ownBlock] at hk; omega

theorem ownsRow_row {B : Nat} {w : World} {v : Value} {n : Nat} {l : List Int} (hown : w.ownsRow B 3 1 v n (l.map (Value.int .i64))) : ∃ a c, v = .slice a n c ∧ Row w a n l := by
  have hl : l.length = n := by have := hown.1; simpa using this
  rcases hown.2 with ⟨rfl, rfl⟩ | ⟨g, cap, cur, rfl, hb, hh, hnc, _, hsz, ht⟩
  · exact ⟨none, 0, rfl, hl, .inl rfl⟩
  · refine ⟨_, cap, rfl, hl, .inr ⟨g, 0, rfl, (Array.getElem?_eq_some_iff.mp hh).1, fun i hi => ?_⟩⟩
    rw [cell_of_row w g (0 + i) _ _ _ hh, Nat.zero_add]
    have e1 : (cur.toList.take (n * 1))[i]? = some (.int .i64 (l.getD i 0)) := by
      rw [ht]; simp [List.getElem?_map, List.getElem?_eq_getElem (show i < l.length by omega)]
    rw [List.getElem?_take_of_lt (by omega)] at e1
    simpa using e1

end Go.Proofs.Ytbobppcnmpiacaa
