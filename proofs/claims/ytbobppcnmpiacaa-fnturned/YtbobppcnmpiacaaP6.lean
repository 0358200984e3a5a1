/- Contracts that the proof stands on, one behind the other. -/
import Derived.Test.YtbobppcnmpiacaaP5
import Derived.Deep.RegionLaw
/- What both AddMarks answer, for every number of places and every two lists: the sums in new memory and true, where both are good marks and the sums are one, else nothing and false; nothing that was there is written. -/
namespace Go.Proofs.Ytbobppcnmpiacaa
open Go.RowKit
set_option maxRecDepth 10000

/-- How a call ends that answers a list in new memory and a bool: the list lies alone in its block. -/
def ListEnd (ok : Bool) (r : List Int) (w : World) (e : Ending) (w' : World) : Prop :=
  ∃ a b n, e = .returned (.tuple #[.slice a n n, .bool ok]) ∧ Blk w' a b n r ∧ w.heap.size ≤ b ∧ Below w.heap.size w w'

/-- .. and where of the list's room nothing is said. -/
def ReadEnd (ok : Bool) (r : List Int) (w : World) (e : Ending) (w' : World) : Prop :=
  ∃ a n c, e = .returned (.tuple #[.slice a n c, .bool ok]) ∧ Row w' a n r ∧ Below w.heap.size w w'

def sumL (xs ys : List Int) : List Int := (List.range xs.length).map fun i => getF xs i + getF ys i
def addOk (p : Int) (xs ys : List Int) : Bool := goodB p xs && goodB p ys && goodB p (sumL xs ys)
def addR (p : Int) (xs ys : List Int) : List Int := if addOk p xs ys then sumL xs ys else []

theorem sumL_len (xs ys : List Int) : (sumL xs ys).length = xs.length := by simp [sumL]

theorem addEnd_no {p : Int} {xs ys : List Int} {w w' : World} (h : addOk p xs ys = false) (hb : Below w.heap.size w w') : ListEnd (addOk p xs ys) (addR p xs ys) w (.returned (.tuple #[.slice none 0 0, .bool false])) w' := by
  refine ⟨none, w.heap.size, 0, by rw [h], ⟨?_, .inl rfl⟩, Nat.le_refl _, hb⟩
  unfold addR; rw [h]; rfl

theorem addEnd_yes {p : Int} {xs ys : List Int} {w w' : World} {b n : Nat} (h : addOk p xs ys = true) (hn : xs.length = n) (hh : w'.heap[b]? = some (.cells (cellsOf (sumL xs ys)) 3 (0, 0))) (hB : w.heap.size ≤ b) (hb : Below w.heap.size w w') :
    ListEnd (addOk p xs ys) (addR p xs ys) w (.returned (.tuple #[.slice (some ⟨b, 0, none⟩) n n, .bool true])) w' := by
  have hr : addR p xs ys = sumL xs ys := by unfold addR; rw [h]; rfl
  refine ⟨_, b, n, by rw [h], ⟨?_, .inr ⟨rfl, ?_⟩⟩, hB, hb⟩
  · rw [hr, sumL_len, hn]
  · rw [hr]; exact hh

/-- The first k numbers are sums. -/
def addF (f g : Nat → Int) (k : Nat) : Nat → Int := fun i => if i < k then f i + g i else f i

theorem addF_set (f g : Nat → Int) (k : Nat) : (tokF (addF f g k)).setIfInBounds k (.int .u8 (f k + g k)) = tokF (addF f g (k + 1)) := by
  refine tokF_set _ _ k _ ?_ fun i hi => ?_
  · unfold addF; rw [if_pos (by omega)]
  · unfold addF
    by_cases h : i < k
    · rw [if_pos h, if_pos (by omega)]
    · rw [if_neg h, if_neg (by omega)]

theorem addF_zero (f g : Nat → Int) : addF f g 0 = f := by
  funext i; unfold addF; rw [if_neg (by omega)]

def SumUpto (f g : Nat → Int) (k : Nat) : Prop := ∀ i, i < k → f i + g i ≤ 50

theorem SumUpto.step {f g : Nat → Int} {k : Nat} (h : SumUpto f g k) (hk : f k + g k ≤ 50) : SumUpto f g (k + 1) := by
  intro i hi
  by_cases e : i = k
  · subst e; exact hk
  · exact h i (by omega)

theorem list_sum (xs ys : List Int) (n : Nat) (hx : xs.length = n) (hn : n ≤ 16) : listF (addF (fOf xs n) (fOf ys n) 16) n = sumL xs ys := by
  unfold listF sumL
  rw [hx]
  apply List.map_congr_left
  intro i hi
  have hi' : i < n := by simpa using hi
  unfold addF fOf getF
  rw [if_pos (by omega), if_pos hi', if_pos hi']

theorem good_sum {p : Int} {xs ys : List Int} (hg : (goodB p xs && goodB p ys) = true) (h : ∀ i, i < xs.length → getF xs i + getF ys i ≤ 50) : addOk p xs ys = true := by
  have hg' := hg
  rw [Bool.and_eq_true] at hg'
  have h1 := good_parts hg'.1
  have h2 := good_parts hg'.2
  unfold addOk
  rw [hg, Bool.true_and]
  unfold goodB at *
  simp only [Bool.and_eq_true] at hg' ⊢
  refine ⟨⟨hg'.1.1.1, by rw [sumL_len]; exact hg'.1.1.2⟩, ?_⟩
  unfold allB
  rw [List.all_eq_true]
  intro x hx
  simp only [sumL, List.mem_map, List.mem_range] at hx
  obtain ⟨i, hi, rfl⟩ := hx
  have a1 := h1.1 i
  have a2 := h2.1 i
  have a3 := h i hi
  simp [inB]; omega

theorem not_sum {p : Int} {xs ys : List Int} {k : Nat} (hk : k < xs.length) (h : 50 < getF xs k + getF ys k) : addOk p xs ys = false := by
  unfold addOk
  have : goodB p (sumL xs ys) = false := by
    unfold goodB
    have : allB (sumL xs ys) 0 50 = false := by
      unfold allB
      rw [List.all_eq_false]
      exact ⟨_, List.mem_map.mpr ⟨k, List.mem_range.mpr hk, rfl⟩, by simp [inB]; omega⟩
    rw [this, Bool.and_false]
  rw [this, Bool.and_false]

theorem not_both {p : Int} {xs ys : List Int} (h : (goodB p xs && goodB p ys) = false) : addOk p xs ys = false := by unfold addOk; rw [h]; rfl

set_option maxHeartbeats 1000000 in
theorem addI_any (p : Int) (a b : Option Addr) (n m ca cb : Nat) (xs ys : List Int) (w : World) (ha : Row w a n xs) (hb : Row w b m ys) (hn : n ≤ 1048576) (hm : m ≤ 1048576) :
    Calls Try.prog 33 #[.int .i64 p, .slice a n ca, .slice b m cb] w fun e w' => ListEnd (addOk p xs ys) (addR p xs ys) w e w' := by
  have ht := both_any p a b n m ca cb xs ys w ha hb hn hm
  obtain ⟨g, hg⟩ : ∃ g, Hid ((goodB p xs && goodB p ys) = g) := ⟨_, rfl⟩
  rw [hg.out] at ht
  have HT := hide ht
  have hla := hide ha.1
  have hlb := hide hb.1
  clear ht ha hb
  go_enter Try.func33, Try.ntmps33
  go_wp2_with fail
  refine HT.out.mono ?_
  rintro e w1 ⟨k, l, rfl, hkl, hb1⟩
  have hg0 := heap_alloc2_old w1 (.cells #[.int .u8 0, .int .u8 0, .int .u8 0, .int .u8 0, .int .u8 0, .int .u8 0, .int .u8 0, .int .u8 0, .int .u8 0, .int .u8 0, .int .u8 0, .int .u8 0, .int .u8 0, .int .u8 0, .int .u8 0, .int .u8 0] 68) (.cells #[.int .u8 0, .int .u8 0, .int .u8 0, .int .u8 0, .int .u8 0, .int .u8 0, .int .u8 0, .int .u8 0, .int .u8 0, .int .u8 0, .int .u8 0, .int .u8 0, .int .u8 0, .int .u8 0, .int .u8 0, .int .u8 0] 68)
  have hg1 : (((w1.alloc (.cells #[.int .u8 0, .int .u8 0, .int .u8 0, .int .u8 0, .int .u8 0, .int .u8 0, .int .u8 0, .int .u8 0, .int .u8 0, .int .u8 0, .int .u8 0, .int .u8 0, .int .u8 0, .int .u8 0, .int .u8 0, .int .u8 0] 68)).alloc (.cells #[.int .u8 0, .int .u8 0, .int .u8 0, .int .u8 0, .int .u8 0, .int .u8 0, .int .u8 0, .int .u8 0, .int .u8 0, .int .u8 0, .int .u8 0, .int .u8 0, .int .u8 0, .int .u8 0, .int .u8 0, .int .u8 0] 68)).setRow w1.heap.size (packOf xs k)).heap[w1.heap.size + 1]? = some (.cells #[.int .u8 0, .int .u8 0, .int .u8 0, .int .u8 0, .int .u8 0, .int .u8 0, .int .u8 0, .int .u8 0, .int .u8 0, .int .u8 0, .int .u8 0, .int .u8 0, .int .u8 0, .int .u8 0, .int .u8 0, .int .u8 0] 68 (0, 0)) := by
    rw [setRow_other _ _ _ _ (by omega)]; exact heap_alloc2_new _ _ _
  have hg3 := setRow_same hg1 (packOf ys l)
  have hg2 := (setRow_other (((w1.alloc (.cells #[.int .u8 0, .int .u8 0, .int .u8 0, .int .u8 0, .int .u8 0, .int .u8 0, .int .u8 0, .int .u8 0, .int .u8 0, .int .u8 0, .int .u8 0, .int .u8 0, .int .u8 0, .int .u8 0, .int .u8 0, .int .u8 0] 68)).alloc (.cells #[.int .u8 0, .int .u8 0, .int .u8 0, .int .u8 0, .int .u8 0, .int .u8 0, .int .u8 0, .int .u8 0, .int .u8 0, .int .u8 0, .int .u8 0, .int .u8 0, .int .u8 0, .int .u8 0, .int .u8 0, .int .u8 0] 68)).setRow w1.heap.size (packOf xs k)) (w1.heap.size + 1) w1.heap.size (packOf ys l) (by omega)).trans (setRow_same hg0 (packOf xs k))
  have hbW := below_setRow (below_setRow (((hb1.alloc hb1.size (.cells #[.int .u8 0, .int .u8 0, .int .u8 0, .int .u8 0, .int .u8 0, .int .u8 0, .int .u8 0, .int .u8 0, .int .u8 0, .int .u8 0, .int .u8 0, .int .u8 0, .int .u8 0, .int .u8 0, .int .u8 0, .int .u8 0] 68)).alloc (by have := hb1.size; simp; omega) (.cells #[.int .u8 0, .int .u8 0, .int .u8 0, .int .u8 0, .int .u8 0, .int .u8 0, .int .u8 0, .int .u8 0, .int .u8 0, .int .u8 0, .int .u8 0, .int .u8 0, .int .u8 0, .int .u8 0, .int .u8 0, .int .u8 0] 68))) w1.heap.size hb1.size (packOf xs k)) (w1.heap.size + 1) (by have := hb1.size; omega) (packOf ys l)
  obtain ⟨W, hW⟩ : ∃ W, Hid (W = ((((w1.alloc (.cells #[.int .u8 0, .int .u8 0, .int .u8 0, .int .u8 0, .int .u8 0, .int .u8 0, .int .u8 0, .int .u8 0, .int .u8 0, .int .u8 0, .int .u8 0, .int .u8 0, .int .u8 0, .int .u8 0, .int .u8 0, .int .u8 0] 68)).alloc (.cells #[.int .u8 0, .int .u8 0, .int .u8 0, .int .u8 0, .int .u8 0, .int .u8 0, .int .u8 0, .int .u8 0, .int .u8 0, .int .u8 0, .int .u8 0, .int .u8 0, .int .u8 0, .int .u8 0, .int .u8 0, .int .u8 0] 68)).setRow w1.heap.size (packOf xs k)).setRow (w1.heap.size + 1) (packOf ys l))) := ⟨_, rfl⟩
  rw [← hW.out] at hg2 hg3 hbW
  have HW := hide hbW
  have hb1s := hb1.size
  clear hb1 hbW HT
  have hbs : w.heap.size ≤ w1.heap.size := hb1s
  cases g
  · go_wp2_with (first
      | refine wpList_store_row rfl 68 (.tmp 8) _ rfl _ _ rfl rfl 68 _ hg0 (by rw [packOf_size]; exact Try.size68) (by rw [packOf_size]; rfl) (packOf_one _ _) ?_
      | (refine wpList_store_row rfl 68 (.tmp 9) _ rfl _ _ rfl rfl 68 _ hg1 (by rw [packOf_size]; exact Try.size68) (by rw [packOf_size]; rfl) (packOf_one _ _) ?_; rw [← hW.out]; clear hg0 hg1))
    go_ret2
    exact addEnd_no (not_both hg.out) HW.out
  · have hl := two_len hg.out
    have hgg := hg.out
    rw [Bool.and_eq_true] at hgg
    have hp1 := good_parts hgg.1
    have hp2 := good_parts hgg.2
    obtain ⟨rfl, rfl⟩ := hkl.out rfl
    have e1 := hla.out
    have e2 := hlb.out
    obtain rfl : k = l := by omega
    obtain rfl : p = (k : Int) := by omega
    have hk16 : k ≤ 16 := by omega
    have hs1 := small_fOf hp1.1 k
    have hs2 := small_fOf hp2.1 k
    have HL := hide e1
    clear e1 e2 hp1 hp2 hgg hl hkl hla hlb hn hm
    go_wp2_with (first
      | refine wpList_store_row rfl 68 (.tmp 8) _ rfl _ _ rfl rfl 68 _ hg0 (by rw [packOf_size]; exact Try.size68) (by rw [packOf_size]; rfl) (packOf_one _ _) ?_
      | (refine wpList_store_row rfl 68 (.tmp 9) _ rfl _ _ rfl rfl 68 _ hg1 (by rw [packOf_size]; exact Try.size68) (by rw [packOf_size]; rfl) (packOf_one _ _) ?_; rw [← hW.out]; clear hg0 hg1))
    clear hW hb1s
    generalize w1.heap.size = B at *
    clear w1
    go_loopw [22] (fun i wr => ∃ j : Nat, j ≤ 16 ∧ i = .int .i64 j ∧ SumUpto (fOf xs k) (fOf ys k) j ∧ wr.heap[B]? = some (.cells (tokF (addF (fOf xs k) (fOf ys k) j)) 68 (0, 0)) ∧ wr.heap[B + 1]? = some (.cells (tokF (fOf ys k)) 68 (0, 0)) ∧ Hid (Below w.heap.size w wr)) (fun i _ => 16 - (intOf i).toNat)
    case atStart => exact ⟨0, Nat.zero_le _, rfl, fun i hi => absurd hi (by omega), by rw [addF_zero]; exact hg2, hg3, HW⟩
    case round =>
      obtain ⟨j, hj, rfl, hu, h8, h9, hbw⟩ := hrel
      clear hg2 hg3 HW
      by_cases hlt : j < 16
      · have c8 : wr.cell? ⟨B, j, none⟩ = some (.int .u8 (fOf xs k j)) := by
          rw [cell_of_row wr B j _ _ _ h8, tokF_at _ _ hlt]; unfold addF; rw [if_neg (by omega)]
        have c9 : wr.cell? ⟨B + 1, j, none⟩ = some (.int .u8 (fOf ys k j)) := by
          rw [cell_of_row wr (B + 1) j _ _ _ h9, tokF_at _ _ hlt]
        have z8 := frozen_of_row wr B j _ _ h8
        have b1 := hs1 j
        have b2 := hs2 j
        have hi1 : ((j : Int)) < 16 := by omega
        by_cases hsum : 50 < fOf xs k j + fOf ys k j
        · have HN := hide (show addOk (k : Int) xs ys = false from by
            have hjk : j < k := by
              rcases Nat.lt_or_ge j k with h | h
              · exact h
              · exfalso; unfold fOf at hsum; rw [if_neg (by omega), if_neg (by omega)] at hsum; omega
            refine not_sum (k := j) (by rw [HL.out]; exact hjk) ?_
            unfold fOf at hsum; rw [if_pos hjk, if_pos hjk] at hsum; exact hsum)
          obtain ⟨x, hx⟩ : ∃ x, Hid (fOf xs k j = x) := ⟨_, rfl⟩
          obtain ⟨y, hy⟩ : ∃ y, Hid (fOf ys k j = y) := ⟨_, rfl⟩
          rw [hx.out] at c8 b1 hsum
          rw [hy.out] at c9 b2 hsum
          have HB2 := hide ((hbw.out.setCell (p := ⟨B, j, none⟩) hbs (.int .u8 (x + y))).drew)
          clear hu h8 h9 hbw hs1 hs2
          go_wp2
          go_region
          all_goals go_wp2
          all_goals go_ret2
          all_goals exact addEnd_no HN.out HB2.out
        · have HU := hide (hu.step (by omega))
          have hh8 := heap_setCell_same wr B j _ _ (.int .u8 (fOf xs k j + fOf ys k j)) h8
          rw [addF_set] at hh8
          have hh9 : (wr.setCell ⟨B, j, none⟩ (.int .u8 (fOf xs k j + fOf ys k j))).heap[B + 1]? = some (.cells (tokF (fOf ys k)) 68 (0, 0)) := (Below.heap_setCell _ _ _ _ (by simp)).trans h9
          obtain ⟨x, hx⟩ : ∃ x, Hid (fOf xs k j = x) := ⟨_, rfl⟩
          obtain ⟨y, hy⟩ : ∃ y, Hid (fOf ys k j = y) := ⟨_, rfl⟩
          rw [hx.out] at c8 b1 hsum hh8 hh9
          rw [hy.out] at c9 b2 hsum hh8 hh9
          have HH8 := hide hh8
          have HH9 := hide hh9
          have HB2 := hide ((hbw.out.setCell (p := ⟨B, j, none⟩) hbs (.int .u8 (x + y))).drew)
          clear hu h8 h9 hbw hs1 hs2 hh8 hh9
          go_wp2
          go_region
          all_goals go_wp2
          all_goals
            go_roundw
            case rel => exact ⟨j + 1, by omega, by go_num, HU.out, HH8.out, HH9.out, HB2⟩
            case measure => simp [intOf]; omega
      · have hj' : j = 16 := by omega
        subst hj'
        have HA := hide (show addOk (k : Int) xs ys = true from good_sum hg.out (by
          intro i hi
          rw [HL.out] at hi
          have := hu i (by omega)
          unfold fOf at this; rw [if_pos hi, if_pos hi] at this; exact this))
        have hsm : ∀ i, 0 ≤ addF (fOf xs k) (fOf ys k) 16 i ∧ addF (fOf xs k) (fOf ys k) 16 i ≤ 255 := by
          intro i; have := hs1 i; have := hs2 i; unfold addF; split <;> omega
        have HC := hide (list_any (addF (fOf xs k) (fOf ys k) 16) k wr hk16 hsm)
        rw [list_sum xs ys k HL.out hk16] at HC
        clear hu hs1 hs2 h9 hsm
        go_wp2_with (refine wpList_load_row rfl 68 (.tmp 8) rfl _ rfl 68 (tokF (addF (fOf xs k) (fOf ys k) 16)) (0, 0) _ h8 Try.underlying68 rfl (by rw [tokF_size]; exact Try.size68) ?_)
        refine HC.out.mono ?_
        rintro e w2 ⟨rfl, rfl⟩
        clear h8
        go_wp2
        go_ret2
        exact addEnd_yes HA.out HL.out (heap_alloc2_new _ _ _) (by have := hbw.out.size; omega) (hbw.out.trans ((below_two _ _ _).mono hbw.out.size))
/-- append to a row of the call's own, as one step of a region that draws its order. -/
theorem step_append_own {P : Program} {ops : Array Oper} {o : Oper} {a : Act} {w : World} {K : Act → World → Prop} {Q : Exit → Act → World → Prop} {E : Prop}
    (hg : o.guard = none) (s x : Operand) (t : TypeId) (hop : o.op = Op.call { callee := Callee.builtin Builtin.append, args := #[s, x], argTypes := #[t, t] })
    (base : Nat) (e : TypeId) (i : TypeInfo) (z : Value) (size bytes : Nat) (h1 : P.underlying t = some (.slice e)) (h2 : P.info? e = some i) (h3 : i.zero = some z) (h4 : i.size = size) (h5 : i.bytes = bytes) (h6 : z.cells.size = size) (h7 : 0 < size)
    (v : Value) (n : Nat) (olds : List Value) (hs : a.eval s = v) (hown : w.ownsRow base e size v n olds)
    (ad : Addr) (m c : Nat) (news : List Value) (hx : a.eval x = .slice (some ad) m c) (hn : news.length = m * size) (hc : ∀ j u, news[j]? = some u → w.cell? (ad.add j) = some u) (h1c : ∀ u ∈ news, u.oneCell' = true)
    (b1 : n + m ≤ maxLen) (b2 : (n + m) * bytes ≤ 140737488355328) (hB : base ≤ w.heap.size)
    (hK : ∀ v' w', w'.ownsRow base e size v' (n + m) (olds ++ news) → w.grownBy w' v.ownBlock → K (a.put o.dst v') w') :
    if Region.wanted o (yielded ops a.tmps) = true then Oper.wp P o a w K Q else E := by
  have hw : Region.wanted o (yielded ops a.tmps) = true := by simp [Region.wanted, hg]
  rw [if_pos hw]
  obtain ⟨v', w', hrun, r1, r2, _⟩ := run_append_own (P := P) w base t o.type e i z size bytes h1 h2 h3 h4 h5 h6 h7 v n olds hown ad m c news hn hc h1c b1 b2 hB
  unfold Oper.wp
  simp [execOp, hop, resolve, invoke, builtin, hs, hx, hrun, Result.andThen]
  exact hK v' w' r1 r2

theorem wrap_in (n : Int) (h : 0 ≤ n ∧ n ≤ 1000000) : IntKind.i64.wrap n = n := by rw [IntKind.wrap_i64]; omega

theorem readEnd_no {p : Int} {xs ys : List Int} {w w' : World} (h : addOk p xs ys = false) (hb : Below w.heap.size w w') : ReadEnd (addOk p xs ys) (addR p xs ys) w (.returned (.tuple #[.slice none 0 0, .bool false])) w' := by
  refine ⟨none, 0, 0, by rw [h], ⟨?_, .inl rfl⟩, hb⟩
  unfold addR; rw [h]; rfl

theorem readEnd_yes {p : Int} {xs ys : List Int} {w w' : World} {a : Option Addr} {n c : Nat} (h : addOk p xs ys = true) (hr : Row w' a n (sumL xs ys)) (hb : Below w.heap.size w w') : ReadEnd (addOk p xs ys) (addR p xs ys) w (.returned (.tuple #[.slice a n c, .bool true])) w' := by
  refine ⟨a, n, c, by rw [h], ?_, hb⟩
  unfold addR; rw [h]; exact hr

def sumU (xs ys : List Int) (k : Nat) : List Int := (List.range k).map fun i => getF xs i + getF ys i

theorem sumU_all (xs ys : List Int) : sumU xs ys xs.length = sumL xs ys := rfl

theorem sumU_succ (xs ys : List Int) (k : Nat) : (sumU xs ys (k + 1)).map (Value.int .i64) = (sumU xs ys k).map (Value.int .i64) ++ [.int .i64 (getF xs k + getF ys k)] := by
  simp [sumU, List.range_succ]

theorem ownsRow_below {B : Nat} {w w' : World} {v : Value} {n : Nat} {l : List Value} (hown : w.ownsRow B 3 1 v n l) (hg : w.grownBy w' v.ownBlock) {a : World} {C : Nat} (h : Below C a w) (hC : C ≤ w.heap.size) (hB : C ≤ B) : Below C a w' := by
  refine h.grown hg hC fun k hk => ?_
  rcases hown.2 with ⟨rfl, _⟩ | ⟨g, cap, cur, rfl, hb, _⟩
  · simp [Value.ownBlock] at hk
  · simp [Value.ownBlock] at hk; omega

theorem ownsRow_row {B : Nat} {w : World} {v : Value} {n : Nat} {l : List Int} (hown : w.ownsRow B 3 1 v n (l.map (Value.int .i64))) : ∃ a c, v = .slice a n c ∧ Row w a n l := by
  have hl : l.length = n := by have := hown.1; simpa using this
  rcases hown.2 with ⟨rfl, rfl⟩ | ⟨g, cap, cur, rfl, hb, hh, hnc, _, hsz, ht⟩
  · exact ⟨none, 0, rfl, hl, .inl rfl⟩
  · refine ⟨_, cap, rfl, hl, .inr ⟨g, 0, rfl, (Array.getElem?_eq_some_iff.mp hh).1, fun i hi => ?_⟩⟩
    rw [cell_of_row w g (0 + i) _ _ _ hh, Nat.zero_add]
    have e1 : (cur.toList.take (n * 1))[i]? = some (.int .i64 (l.getD i 0)) := by
      rw [ht]; simp [List.getElem?_map, List.getElem?_eq_getElem (show i < l.length by omega)]
    rw [List.getElem?_take_of_lt (by omega)] at e1
    simpa using e1

end Go.Proofs.Ytbobppcnmpiacaa


/- l2Fire and the specification's Fire, for every net and mark in memory. -/
namespace Go.Proofs.Ytbobppcnmpiacaa
open Go.RowKit

/-- The numbers at the places xs are changed by g, one behind the other. -/
def updL (g : Int → Int) (xs ys : List Int) : List Int := xs.foldl (fun l p => l.set p.toNat (g (l.getD p.toNat 0))) ys

theorem updL_snoc (g : Int → Int) (xs ys : List Int) (x : Int) : updL g (xs ++ [x]) ys = (updL g xs ys).set x.toNat (g ((updL g xs ys).getD x.toNat 0)) := by simp [updL, List.foldl_append]

theorem updL_take (g : Int → Int) (xs ys : List Int) (k : Nat) (x : Int) (h : xs[k]? = some x) : updL g (xs.take (k + 1)) ys = (updL g (xs.take k) ys).set x.toNat (g ((updL g (xs.take k) ys).getD x.toNat 0)) := by
  rw [List.take_add_one, h]; exact updL_snoc _ _ _ _

theorem updL_len (g : Int → Int) (xs ys : List Int) : (updL g xs ys).length = ys.length := by
  induction xs using snoc_ind with
  | h0 => rfl
  | h1 xs x ih => rw [updL_snoc, List.length_set, ih]

theorem riseB_snoc {xs : List Int} {x lo hi : Int} (h : riseB (xs ++ [x]) lo hi = true) : riseB xs lo hi = true ∧ x ∉ xs := by
  induction xs generalizing lo with
  | nil => exact ⟨rfl, by simp⟩
  | cons y r ih =>
    simp only [List.cons_append, riseB, Bool.and_eq_true, decide_eq_true_eq] at h ⊢
    obtain ⟨h1, h2⟩ := h
    have := ih h2
    refine ⟨⟨h1, this.1⟩, ?_⟩
    intro hm
    rcases List.mem_cons.mp hm with e | hm
    · have := riseB_mem h2 x (by simp); omega
    · exact this.2 hm

theorem updL_at (g : Int → Int) {xs : List Int} (ys : List Int) (hi : Int) (h : riseB xs 0 hi = true) (hl : hi < ys.length) (i : Nat) : (updL g xs ys).getD i 0 = if (i : Int) ∈ xs then g (ys.getD i 0) else ys.getD i 0 := by
  induction xs using snoc_ind with
  | h0 => simp [updL]
  | h1 xs x ih =>
    have hs := riseB_snoc h
    have hx := riseB_mem h x (by simp)
    have ih' := ih hs.1
    rw [updL_snoc, List.getD_eq_getElem?_getD, List.getElem?_set, updL_len]
    by_cases e : x.toNat = i
    · subst e
      rw [if_pos rfl, if_pos (by omega), ih', Int.toNat_of_nonneg hx.1, if_neg hs.2, if_pos (by simp)]
      rfl
    · rw [if_neg e, ← List.getD_eq_getElem?_getD, ih']
      have hne : (i : Int) ≠ x := by omega
      by_cases hm : (i : Int) ∈ xs
      · rw [if_pos hm, if_pos (by simp [hm])]
      · rw [if_neg hm, if_neg (by simp [hm, hne])]

theorem bound3 (g : Int → Int) {xs : List Int} (ys : List Int) (hi : Int) (h : riseB xs 0 hi = true) (hl : hi < ys.length) (i : Nat) (hb : -60 ≤ ys.getD i 0 ∧ ys.getD i 0 ≤ 60) (hg : -60 ≤ g (ys.getD i 0) ∧ g (ys.getD i 0) ≤ 60) : -60 ≤ (updL g xs ys).getD i 0 ∧ (updL g xs ys).getD i 0 ≤ 60 := by
  rw [updL_at g ys hi h hl i]; split
  · exact hg
  · exact hb

def fireL (x0 x1 x2 ys : List Int) : List Int := updL (· + 1) x1 (updL (fun _ => 0) x2 (updL (· - 1) x0 ys))

set_option maxHeartbeats 1000000 in
theorem fireS_any (a0 a1 a2 : Option Addr) (n0 n1 n2 c0 c1 c2 nm bm om cm : Nat) (x0 x1 x2 ys : List Int) (w : World) (r0 : Row w a0 n0 x0) (r1 : Row w a1 n1 x1) (r2 : Row w a2 n2 x2) (rm : Row w (some ⟨bm, om, none⟩) nm ys)
    (h0 : n0 ≤ 1048576) (h1 : n1 ≤ 1048576) (h2 : n2 ≤ 1048576) (hm : nm ≤ 16) (hr0 : riseB x0 0 ((nm : Int) - 1) = true) (hr1 : riseB x1 0 ((nm : Int) - 1) = true) (hr2 : riseB x2 0 ((nm : Int) - 1) = true) (hys : ∀ i, 0 ≤ ys.getD i 0 ∧ ys.getD i 0 ≤ 50) :
    Calls Try.prog 55 #[.agg #[.slice a0 n0 c0, .slice a1 n1 c1, .slice a2 n2 c2], .slice (some ⟨bm, om, none⟩) nm cm] w fun e w' => ∃ g c, e = .returned (.slice (some ⟨g, 0, none⟩) nm c) ∧ w.heap.size ≤ g ∧ OutR w' g nm (fireL x0 x1 x2 ys) ∧ Below w.heap.size w w' := by
  have hAl := below_al w (.cells #[.slice a0 n0 c0, .slice a1 n1 c1, .slice a2 n2 c2] 39)
  have R0 := hide (r0.below hAl)
  have R1 := hide (r1.below hAl)
  have R2 := hide (r2.below hAl)
  have RM := hide (rm.below hAl)
  have HB := hide hAl
  have HV := hide (heap_alloc_new w (.cells #[.slice a0 n0 c0, .slice a1 n1 c1, .slice a2 n2 c2] 39))
  clear r0 r1 r2 rm hAl
  go_enter Try.func55, Try.ntmps55
  go_wp2_with fail
  have HR := hide (And.intro hr0 (And.intro hr1 hr2))
  generalize w.alloc (.cells #[.slice a0 n0 c0, .slice a1 n1 c1, .slice a2 n2 c2] 39) = v at *
  refine (own_any _ _ _ _ ys _ RM.out (by omega)).mono ?_
  rintro e w1 ⟨g, c, rfl, hg, hc, hout, hb⟩
  have hly := hide hout.1
  have HBV := hide hb
  have HO := hide hout
  clear RM hout hb
  have hv0 := cell_of_row w1 w.heap.size 0 _ _ _ (keep HV.out HBV.out)
  simp at hv0
  go_wp2_with fail
  clear hv0
  go_loopw [17] (fun i wr => ∃ k : Nat, k ≤ n0 ∧ i = .int .i64 k ∧ Hid (OutR wr g nm (updL (· - 1) (x0.take k) ys)) ∧ Hid (Below v.heap.size v wr)) (fun i _ => n0 - (intOf i).toNat)
  case atStart => exact ⟨0, Nat.zero_le _, rfl, HO, HBV⟩
  case round =>
    obtain ⟨k, hk, rfl, ho, hbw⟩ := hrel
    by_cases hlt : k < n0
    · obtain ⟨b1, o1, x, rfl, hl1, hc1, H1⟩ := (R0.out.below hbw.out).at hlt
      have hxm := riseB_mem HR.out.1 x (List.mem_of_getElem? H1.out)
      obtain ⟨j, rfl⟩ : ∃ j : Nat, x = (j : Int) := ⟨x.toNat, by omega⟩
      have hjn : (j : Int) < (nm : Int) := by omega
      have HU := hide (updL_take (· - 1) x0 ys k _ H1.out)
      rw [Int.toNat_natCast] at HU
      obtain ⟨hle, cur, hh, hcs, hcell⟩ := ho.out
      have hy := hcell j (by omega)
      have hfr := frozen_of_row wr g j cur _ hh
      have hcy := cell_of_row wr g j cur _ _ hh
      rw [hy] at hcy
      have hyb : -60 ≤ (updL (· - 1) (x0.take k) ys).getD j 0 ∧ (updL (· - 1) (x0.take k) ys).getD j 0 ≤ 60 := bound3 (fun y => y - 1) ys ((nm : Int) - 1) (riseB_take (k := k) HR.out.1) (by have := hly.out; omega) j (by have := hys j; omega) (by have := hys j; omega)
      obtain ⟨y, hyy⟩ : ∃ y, Hid ((updL (· - 1) (x0.take k) ys).getD j 0 = y) := ⟨_, rfl⟩
      rw [hyy.out] at hcy hyb HU
      have HN : Hid (OutR (wr.setCell ⟨g, j, none⟩ (.int .i64 (y - 1))) g nm (updL (· - 1) (x0.take (k + 1)) ys)) := by
        show OutR _ _ _ _
        rw [HU.out]; exact ho.out.set j (by omega) _
      have HBN := hide (hbw.out.setCell (p := ⟨g, j, none⟩) hg (.int .i64 (y - 1)))
      clear ho hbw hh hcell hy hxm HU H1 hcs hle hyy
      go_wp2_with fail
      go_roundw
      case rel => exact ⟨k + 1, by omega, by go_num, HN, HBN⟩
      case measure => simp [intOf]; omega
    · have hk' : k = n0 := by omega
      subst hk'
      have HO2 : Hid (OutR wr g nm (updL (· - 1) x0 ys)) := by have := ho.out; rwa [List.take_of_length_le (by have := R0.out.1; omega)] at this
      have HBV2 := hbw
      clear ho hbw HO HBV
      have HO := HO2
      have HBV := HBV2
      clear HO2 HBV2
      have hv1 := cell_of_row wr w.heap.size 1 _ _ _ (keep HV.out HBV.out)
      have hv2 := cell_of_row wr w.heap.size 2 _ _ _ (keep HV.out HBV.out)
      simp at hv1 hv2
      go_wp2_with fail
      go_loopw [31] (fun i wr => ∃ k : Nat, k ≤ n2 ∧ i = .int .i64 k ∧ Hid (OutR wr g nm (updL (fun _ => 0) (x2.take k) (updL (· - 1) x0 ys))) ∧ Hid (Below v.heap.size v wr)) (fun i _ => n2 - (intOf i).toNat)
      case atStart => exact ⟨0, Nat.zero_le _, rfl, HO, HBV⟩
      case round =>
        obtain ⟨k, hk, rfl, ho, hbw⟩ := hrel
        by_cases hlt : k < n2
        · obtain ⟨b1, o1, x, rfl, hl1, hc1, H1⟩ := (R2.out.below hbw.out).at hlt
          have hxm := riseB_mem HR.out.2.2 x (List.mem_of_getElem? H1.out)
          obtain ⟨j, rfl⟩ : ∃ j : Nat, x = (j : Int) := ⟨x.toNat, by omega⟩
          have hjn : (j : Int) < (nm : Int) := by omega
          have HU := hide (updL_take (fun _ => 0) x2 (updL (· - 1) x0 ys) k _ H1.out)
          rw [Int.toNat_natCast] at HU
          obtain ⟨hle, cur, hh, hcs, hcell⟩ := ho.out
          have hy := hcell j (by omega)
          have hfr := frozen_of_row wr g j cur _ hh
          have hcy := cell_of_row wr g j cur _ _ hh
          rw [hy] at hcy
          have hyb : -60 ≤ (updL (fun _ => 0) (x2.take k) (updL (· - 1) x0 ys)).getD j 0 ∧ (updL (fun _ => 0) (x2.take k) (updL (· - 1) x0 ys)).getD j 0 ≤ 60 := by
            have hb1 := bound3 (fun y => y - 1) (xs := x0) ys ((nm : Int) - 1) HR.out.1 (by have := hly.out; omega) j (by have := hys j; omega) (by have := hys j; omega)
            exact bound3 (fun _ => 0) _ ((nm : Int) - 1) (riseB_take (k := k) HR.out.2.2) (by rw [updL_len]; have := hly.out; omega) j hb1 (by omega)
          obtain ⟨y, hyy⟩ : ∃ y, Hid ((updL (fun _ => 0) (x2.take k) (updL (· - 1) x0 ys)).getD j 0 = y) := ⟨_, rfl⟩
          rw [hyy.out] at hcy hyb
          have HN : Hid (OutR (wr.setCell ⟨g, j, none⟩ (.int .i64 (0))) g nm (updL (fun _ => 0) (x2.take (k + 1)) (updL (· - 1) x0 ys))) := by
            show OutR _ _ _ _
            rw [HU.out]; exact ho.out.set j (by omega) _
          have HBN := hide (hbw.out.setCell (p := ⟨g, j, none⟩) hg (.int .i64 (0)))
          clear ho hbw hh hcell hy hxm HU H1 hcs hle hyy
          go_wp2_with fail
          go_roundw
          case rel => exact ⟨k + 1, by omega, by go_num, HN, HBN⟩
          case measure => simp [intOf]; omega
        · have hk' : k = n2 := by omega
          subst hk'
          have HO2 : Hid (OutR wr g nm (updL (fun _ => 0) x2 (updL (· - 1) x0 ys))) := by have := ho.out; rwa [List.take_of_length_le (by have := R2.out.1; omega)] at this
          have HBV2 := hbw
          clear ho hbw HO HBV
          have HO := HO2
          have HBV := HBV2
          clear HO2 HBV2
          have hv1 := cell_of_row wr w.heap.size 1 _ _ _ (keep HV.out HBV.out)
          have hv2 := cell_of_row wr w.heap.size 2 _ _ _ (keep HV.out HBV.out)
          simp at hv1 hv2
          go_wp2_with fail
          go_loopw [42] (fun i wr => ∃ k : Nat, k ≤ n1 ∧ i = .int .i64 k ∧ Hid (OutR wr g nm (updL (· + 1) (x1.take k) (updL (fun _ => 0) x2 (updL (· - 1) x0 ys)))) ∧ Hid (Below v.heap.size v wr)) (fun i _ => n1 - (intOf i).toNat)
          case atStart => exact ⟨0, Nat.zero_le _, rfl, HO, HBV⟩
          case round =>
            obtain ⟨k, hk, rfl, ho, hbw⟩ := hrel
            by_cases hlt : k < n1
            · obtain ⟨b1, o1, x, rfl, hl1, hc1, H1⟩ := (R1.out.below hbw.out).at hlt
              have hxm := riseB_mem HR.out.2.1 x (List.mem_of_getElem? H1.out)
              obtain ⟨j, rfl⟩ : ∃ j : Nat, x = (j : Int) := ⟨x.toNat, by omega⟩
              have hjn : (j : Int) < (nm : Int) := by omega
              have HU := hide (updL_take (· + 1) x1 (updL (fun _ => 0) x2 (updL (· - 1) x0 ys)) k _ H1.out)
              rw [Int.toNat_natCast] at HU
              obtain ⟨hle, cur, hh, hcs, hcell⟩ := ho.out
              have hy := hcell j (by omega)
              have hfr := frozen_of_row wr g j cur _ hh
              have hcy := cell_of_row wr g j cur _ _ hh
              rw [hy] at hcy
              have hyb : -60 ≤ (updL (· + 1) (x1.take k) (updL (fun _ => 0) x2 (updL (· - 1) x0 ys))).getD j 0 ∧ (updL (· + 1) (x1.take k) (updL (fun _ => 0) x2 (updL (· - 1) x0 ys))).getD j 0 ≤ 60 := by
                have hb1 := updL_at (fun y => y - 1) (xs := x0) ys ((nm : Int) - 1) HR.out.1 (by have := hly.out; omega) j
                have hb2 := updL_at (fun _ => 0) (xs := x2) (updL (· - 1) x0 ys) ((nm : Int) - 1) HR.out.2.2 (by rw [updL_len]; have := hly.out; omega) j
                have hb3 := updL_at (fun y => y + 1) (xs := x1.take k) (updL (fun _ => 0) x2 (updL (· - 1) x0 ys)) ((nm : Int) - 1) (riseB_take (k := k) HR.out.2.1) (by rw [updL_len, updL_len]; have := hly.out; omega) j
                have := hys j
                rw [hb3, hb2, hb1]
                (repeat' split) <;> omega
              obtain ⟨y, hyy⟩ : ∃ y, Hid ((updL (· + 1) (x1.take k) (updL (fun _ => 0) x2 (updL (· - 1) x0 ys))).getD j 0 = y) := ⟨_, rfl⟩
              rw [hyy.out] at hcy hyb HU
              have HN : Hid (OutR (wr.setCell ⟨g, j, none⟩ (.int .i64 (y + 1))) g nm (updL (· + 1) (x1.take (k + 1)) (updL (fun _ => 0) x2 (updL (· - 1) x0 ys)))) := by
                show OutR _ _ _ _
                rw [HU.out]; exact ho.out.set j (by omega) _
              have HBN := hide (hbw.out.setCell (p := ⟨g, j, none⟩) hg (.int .i64 (y + 1)))
              clear ho hbw hh hcell hy hxm HU H1 hcs hle hyy
              go_wp2_with fail
              go_roundw
              case rel => exact ⟨k + 1, by omega, by go_num, HN, HBN⟩
              case measure => simp [intOf]; omega
            · have hk' : k = n1 := by omega
              subst hk'
              have HO2 : Hid (OutR wr g nm (updL (· + 1) x1 (updL (fun _ => 0) x2 (updL (· - 1) x0 ys)))) := by have := ho.out; rwa [List.take_of_length_le (by have := R1.out.1; omega)] at this
              have HBV2 := hbw
              clear ho hbw HO HBV
              have HO := HO2
              have HBV := HBV2
              clear HO2 HBV2
              have hv1 := cell_of_row wr w.heap.size 1 _ _ _ (keep HV.out HBV.out)
              have hv2 := cell_of_row wr w.heap.size 2 _ _ _ (keep HV.out HBV.out)
              simp at hv1 hv2
              go_wp2_with fail
              go_ret
              exact ⟨g, c, rfl, by have := HB.out.size; omega, HO.out, HB.out.trans (HBV.out.mono HB.out.size)⟩
end Go.Proofs.Ytbobppcnmpiacaa


/- l2Marked and the specification's Fire, for every net, mark and number in memory. -/
namespace Go.Proofs.Ytbobppcnmpiacaa
open Go.RowKit

theorem goodB_parts {p : Int} {ys : List Int} (h : goodB p ys = true) : (1 ≤ p ∧ p ≤ 16) ∧ (ys.length : Int) = p ∧ ∀ i, 0 ≤ ys.getD i 0 ∧ ys.getD i 0 ≤ 50 := by
  unfold goodB at h
  simp only [Bool.and_eq_true, decide_eq_true_eq] at h
  obtain ⟨⟨h1, h2⟩, h3⟩ := h
  refine ⟨by simpa [inB] using h1, h2, fun i => ?_⟩
  by_cases hi : i < ys.length
  · unfold allB at h3
    rw [List.all_eq_true] at h3
    have := h3 (ys.getD i 0) (by rw [List.getD_eq_getElem?_getD, List.getElem?_eq_getElem hi]; simp)
    simpa [inB] using this
  · rw [List.getD_eq_getElem?_getD, List.getElem?_eq_none (by omega)]; simp

set_option maxHeartbeats 400000 in
theorem marked_any (p : Int) (a am : Option Addr) (n c nm cm : Nat) (L : List (List Int)) (ys : List Int) (w : World) (h : Lists w a (3 * n) L) (rm : Row w am nm ys) (hs : sizeN n L ≤ 1048576) (hnm : nm ≤ 1048576) :
    Calls Try.prog 45 #[.agg #[.int .i64 p, .slice a n c], .slice am nm cm] w fun e w' => e = .returned (.bool (netOk p n L && goodB p ys)) ∧ Below w.heap.size w w' := by
  have hAl := below_al w (.cells #[.int .i64 p, .slice a n c] 26)
  have PAR := hide (heap_alloc_new w (.cells #[.int .i64 p, .slice a n c] 26))
  have HG := hide (goodNetS_any p a n c L _ (h.below hAl) hs)
  have RM := hide (rm.below hAl)
  have HB0 := hide hAl
  clear h rm hAl
  by_cases hg : netOk p n L = true
  · rw [hg] at HG
    rw [hg, Bool.true_and]
    clear hg
    go_enter Try.func45, Try.ntmps45
    go_wp2_with fail
    refine HG.out.mono ?_
    rintro e w1 ⟨rfl, hb⟩
    obtain ⟨hc0, hc1⟩ := cells2 (keep PAR.out hb)
    have HM := hide (goodS_any p am nm cm ys w1 (RM.out.below hb) hnm)
    have HB1 := hide (HB0.out.trans (hb.mono HB0.out.size))
    clear hb HG PAR HB0 RM
    go_wp2_with fail
    refine HM.out.mono ?_
    rintro e w2 ⟨rfl, rfl⟩
    obtain ⟨g, hgg⟩ : ∃ g, Hid (goodB p ys = g) := ⟨_, rfl⟩
    rw [hgg.out]
    go_wp2_with fail
    go_ret
    exact ⟨ret_bool hgg.out.symm, HB1.out⟩
  · have hg' : netOk p n L = false := by simpa using hg
    rw [hg'] at HG
    rw [hg', Bool.false_and]
    clear hg hg'
    go_enter Try.func45, Try.ntmps45
    go_wp2_with fail
    refine HG.out.mono ?_
    rintro e w1 ⟨rfl, hb⟩
    have HB1 := hide (HB0.out.trans (hb.mono HB0.out.size))
    clear hb HG
    go_wp2_with fail
    go_ret
    exact ⟨rfl, HB1.out⟩

/-- The lists of a transition, by its number. -/
def inOf (L : List (List Int)) (t : Int) : List Int := L.getD (3 * t.toNat) []
def outOf (L : List (List Int)) (t : Int) : List Int := L.getD (3 * t.toNat + 1) []
def resOf (L : List (List Int)) (t : Int) : List Int := L.getD (3 * t.toNat + 2) []

def firedL (L : List (List Int)) (ys : List Int) (t : Int) : List Int := fireL (inOf L t) (outOf L t) (resOf L t) ys

def fireOk (p : Int) (n : Nat) (L : List (List Int)) (ys : List Int) (t : Int) : Bool :=
  netOk p n L && goodB p ys && inB t 0 ((n : Int) - 1) && canB (inOf L t) ys && goodB p (firedL L ys t)

def fireR (p : Int) (n : Nat) (L : List (List Int)) (ys : List Int) (t : Int) : List Int := if fireOk p n L ys t then firedL L ys t else []

/-- A list and a bool; nothing that was there is written. -/
def REnd (g : Bool) (r : List Int) (w : World) (e : Ending) (w' : World) : Prop := ∃ a n c, e = .returned (.tuple #[.slice a n c, .bool g]) ∧ Row w' a n r ∧ Below w.heap.size w w'

theorem rend_no {p : Int} {n : Nat} {L : List (List Int)} {ys : List Int} {t : Int} {w w' : World} (h : fireOk p n L ys t = false) (hb : Below w.heap.size w w') : REnd (fireOk p n L ys t) (fireR p n L ys t) w (.returned (.tuple #[.slice none 0 0, .bool false])) w' := by
  refine ⟨none, 0, 0, by rw [h], ⟨?_, .inl rfl⟩, hb⟩
  unfold fireR; rw [h]; rfl

theorem rend_yes {p : Int} {n : Nat} {L : List (List Int)} {ys : List Int} {t : Int} {w w' : World} {a : Option Addr} {m c : Nat} (h : fireOk p n L ys t = true) (hr : Row w' a m (firedL L ys t)) (hb : Below w.heap.size w w') : REnd (fireOk p n L ys t) (fireR p n L ys t) w (.returned (.tuple #[.slice a m c, .bool true])) w' := by
  refine ⟨a, m, c, by rw [h], ?_, hb⟩
  unfold fireR; rw [h]; exact hr

theorem fireOk_no1 {p : Int} {n : Nat} {L : List (List Int)} {ys : List Int} {t : Int} (h : (netOk p n L && goodB p ys) = false) : fireOk p n L ys t = false := by unfold fireOk; rw [h]; rfl
theorem fireOk_no2 {p : Int} {n : Nat} {L : List (List Int)} {ys : List Int} {t : Int} (h : inB t 0 ((n : Int) - 1) = false) : fireOk p n L ys t = false := by unfold fireOk; rw [h]; simp
theorem fireOk_no3 {p : Int} {n : Nat} {L : List (List Int)} {ys : List Int} {t : Int} (h : canB (inOf L t) ys = false) : fireOk p n L ys t = false := by unfold fireOk; rw [h]; simp
theorem fireOk_no4 {p : Int} {n : Nat} {L : List (List Int)} {ys : List Int} {t : Int} (h : goodB p (firedL L ys t) = false) : fireOk p n L ys t = false := by unfold fireOk; rw [h]; simp
theorem fireOk_yes {p : Int} {n : Nat} {L : List (List Int)} {ys : List Int} {t : Int} (h : (netOk p n L && goodB p ys) = true) (h2 : inB t 0 ((n : Int) - 1) = true) (h3 : canB (inOf L t) ys = true) (h4 : goodB p (firedL L ys t) = true) : fireOk p n L ys t = true := by
  unfold fireOk; rw [h, h2, h3, h4]; rfl

theorem triOkOf {p : Int} {n i : Nat} {L : List (List Int)} (h : netOk p n L = true) (hi : i < n) : triOk p L i = true := by
  unfold netOk at h
  rw [Bool.and_eq_true] at h
  exact List.all_eq_true.mp h.2 i (by simpa using hi)

theorem tri_rise {p : Int} {L : List (List Int)} {i : Nat} (h : triOk p L i = true) : riseB (L.getD (3 * i) []) 0 (p - 1) = true ∧ riseB (L.getD (3 * i + 1) []) 0 (p - 1) = true ∧ riseB (L.getD (3 * i + 2) []) 0 (p - 1) = true := by
  unfold triOk at h
  simp only [Bool.and_eq_true] at h
  exact ⟨h.1.1.2, h.1.2, h.2⟩

theorem netOkN {p : Int} {n : Nat} {L : List (List Int)} (h : netOk p n L = true) : n ≤ 24 := by
  unfold netOk at h; simp at h; exact h.1.2

set_option maxHeartbeats 2000000 in
theorem specFire_any (p : Int) (a am : Option Addr) (n c nm cm : Nat) (L : List (List Int)) (ys : List Int) (t : Int) (w : World) (h : Lists w a (3 * n) L) (rm : Row w am nm ys) (hs : sizeN n L ≤ 1048576) (hnm : nm ≤ 1048576) :
    Calls Try.prog 17 #[.agg #[.int .i64 p, .slice a n c], .slice am nm cm, .int .i64 t] w fun e w' => REnd (fireOk p n L ys t) (fireR p n L ys t) w e w' := by
  have hAl := below_al w (.cells #[.int .i64 p, .slice a n c] 26)
  have PAR := hide (heap_alloc_new w (.cells #[.int .i64 p, .slice a n c] 26))
  have HG := hide (marked_any p a am n c nm cm L ys _ (h.below hAl) (rm.below hAl) hs hnm)
  have HL := hide (h.below hAl)
  have RM := hide (rm.below hAl)
  have HB0 := hide hAl
  clear h rm hAl
  have hs' : n + sizeL L ≤ 1048576 := hs
  go_enter Try.func17, Try.ntmps17
  go_wp2_with fail
  generalize w.alloc (.cells #[.int .i64 p, .slice a n c] 26) = v at *
  refine HG.out.mono ?_
  rintro e w1 ⟨rfl, hb⟩
  have PAR1 := hide (keep PAR.out hb)
  have HL1 := hide (HL.out.below hb)
  have RM1 := hide (RM.out.below hb)
  have HB1 := hide (HB0.out.trans (hb.mono HB0.out.size))
  obtain ⟨hc0, hc1⟩ := cells2 PAR1.out
  clear HG PAR HL RM HB0 hb v
  by_cases g1 : (netOk p n L && goodB p ys) = true
  rotate_left
  · have g1' : (netOk p n L && goodB p ys) = false := by simpa using g1
    have HN := hide (rend_no (w := w) (fireOk_no1 (t := t) g1') HB1.out)
    rw [g1']
    clear g1 g1'
    go_wp2_with fail
    go_ret2
    exact HN.out
  rw [g1]
  have HG1 := hide g1
  have hgg := g1
  rw [Bool.and_eq_true] at hgg
  have hn24 := netOkN hgg.1
  obtain ⟨⟨hp1, hp2⟩, hyl, hyb⟩ := goodB_parts hgg.2
  have hlm := RM1.out.1
  have HNET := hide hgg.1
  clear g1 hgg
  by_cases g2 : inB t 0 ((n : Int) - 1) = true
  rotate_left
  · have g2' : inB t 0 ((n : Int) - 1) = false := by simpa using g2
    have HN := hide (rend_no (w := w) (fireOk_no2 (p := p) (L := L) (ys := ys) g2') HB1.out)
    clear g2
    go_wp2_with (go_at_call 53; refine (in_any _ _ _ _).mono ?_; rintro e w' ⟨rfl, rfl⟩)
    go_ret2
    exact HN.out
  have ht : 0 ≤ t ∧ t ≤ (n : Int) - 1 := by simpa [inB] using g2
  have HG2 := hide g2
  obtain ⟨k, rfl⟩ : ∃ k : Nat, t = (k : Int) := ⟨t.toNat, by omega⟩
  have hkn : k < n := by omega
  have hkn' : (k : Int) < (n : Int) := by omega
  have hk0 : (0 : Int) ≤ (k : Int) := by omega
  obtain ⟨b, off, a0, n0, e0, a1, n1, e1, a2, n2, e2, rfl, hb, hr, m0, m1, m2, r0, r1, r2⟩ := HL1.out.tri hkn
  obtain ⟨hd0, hd1, hd2⟩ := rangeAt_cells3 hr
  have htri := tri_rise (triOkOf HNET.out hkn)
  obtain ⟨x0, hx0⟩ : ∃ x, Hid (L.getD (3 * k) [] = x) := ⟨_, rfl⟩
  obtain ⟨x1, hx1⟩ : ∃ x, Hid (L.getD (3 * k + 1) [] = x) := ⟨_, rfl⟩
  obtain ⟨x2, hx2⟩ : ∃ x, Hid (L.getD (3 * k + 2) [] = x) := ⟨_, rfl⟩
  have hl0 := len_le L (3 * k)
  have hl1 := len_le L (3 * k + 1)
  have hl2 := len_le L (3 * k + 2)
  rw [hx0.out] at r0 hl0 htri
  rw [hx1.out] at r1 hl1 htri
  rw [hx2.out] at r2 hl2 htri
  have q0 : n0 ≤ 1048576 := by have := r0.1; omega
  have q1 : n1 ≤ 1048576 := by have := r1.1; omega
  have q2 : n2 ≤ 1048576 := by have := r2.1; omega
  have hnmp : (nm : Int) = p := by omega
  have RR := hide (And.intro r0 (And.intro r1 r2))
  have HTR := hide htri
  have HIN : Hid (∀ x ∈ x0, 0 ≤ x ∧ x < (nm : Int)) := fun x hx => by have := riseB_mem htri.1 x hx; omega
  have HI0 : Hid (inOf L (k : Int) = x0) := hx0.out
  have HF0 : Hid (firedL L ys (k : Int) = fireL x0 x1 x2 ys) := by show fireL _ _ _ _ = _; unfold inOf outOf resOf; rw [Int.toNat_natCast, hx0.out, hx1.out, hx2.out]
  have HC := hide (can_any a0 a1 a2 am n0 n1 n2 e0 e1 e2 nm cm x0 ys w1 r0 RM1.out q0 HIN.out)
  clear hr r0 r1 r2 hl0 hl1 hl2 htri m0 m1 m2 hx0 hx1 hx2
  obtain ⟨bm, om, rfl⟩ : ∃ bm om, am = some ⟨bm, om, none⟩ := by
    obtain ⟨bm, om, y, he, _⟩ := RM1.out.at (show 0 < nm by omega)
    exact ⟨bm, om, he⟩
  go_wp2_with (go_at_call 53; refine (in_any _ _ _ _).mono ?_; rintro e w' ⟨rfl, rfl⟩)
  refine HC.out.mono ?_
  rintro e w2 ⟨rfl, hb2⟩
  have PAR2 := hide (keep PAR1.out hb2)
  have HB2 := hide (HB1.out.trans (hb2.mono HB1.out.size))
  obtain ⟨hc0, hc1⟩ := cells2 PAR2.out
  by_cases g3 : canB x0 ys = true
  rotate_left
  · have g3' : canB x0 ys = false := by simpa using g3
    have HN := hide (rend_no (w := w) (fireOk_no3 (p := p) (n := n) (L := L) (ys := ys) (t := (k : Int)) (by rw [HI0.out]; exact g3')) HB2.out)
    rw [g3']
    clear g3 g3' hb2
    go_wp2_with fail
    go_ret2
    exact HN.out
  rw [g3]
  have HG3 : Hid (canB (inOf L (k : Int)) ys = true) := by show _ = _; rw [HI0.out]; exact g3
  obtain ⟨_, _, f0, u0, i0, f1, u1, i1, f2, u2, i2, he, _, hr2, _, _, _, _, _, _⟩ := (HL1.out.below hb2).tri hkn
  have hq0 := hb2.cell (p := ⟨b, off + k * 3, none⟩) hb
  have hq1 := hb2.cell (p := ⟨b, off + k * 3 + 1, none⟩) hb
  have hq2 := hb2.cell (p := ⟨b, off + k * 3 + 2, none⟩) hb
  rw [hd0] at hq0
  rw [hd1] at hq1
  rw [hd2] at hq2
  have HFI := hide (fireS_any a0 a1 a2 n0 n1 n2 e0 e1 e2 nm bm om cm x0 x1 x2 ys w2 (RR.out.1.below hb2) (RR.out.2.1.below hb2) (RR.out.2.2.below hb2) (RM1.out.below hb2) q0 q1 q2 (by omega) (by rw [hnmp]; exact HTR.out.1) (by rw [hnmp]; exact HTR.out.2.1) (by rw [hnmp]; exact HTR.out.2.2) hyb)
  clear g3 hr2 he hb2 hd0 hd1 hd2 HC
  go_wp2_with fail
  refine HFI.out.mono ?_
  rintro e w3 ⟨g, cg, rfl, hg, hout, hb3⟩
  have PAR3 := hide (keep PAR2.out hb3)
  have HB3 := hide (HB2.out.trans (hb3.mono HB2.out.size))
  obtain ⟨hc0, hc1⟩ := cells2 PAR3.out
  have HM := hide (goodS_any p (some ⟨g, 0, none⟩) nm cg (fireL x0 x1 x2 ys) w3 hout.row hnm)
  have HOUT := hide hout.row
  clear hb3 hq0 hq1 hq2 HFI hout
  go_wp2_with fail
  refine HM.out.mono ?_
  rintro e w4 ⟨rfl, rfl⟩
  by_cases g4 : goodB p (fireL x0 x1 x2 ys) = true
  rotate_left
  · have g4' : goodB p (fireL x0 x1 x2 ys) = false := by simpa using g4
    have HN := hide (rend_no (w := w) (fireOk_no4 (p := p) (n := n) (L := L) (ys := ys) (t := (k : Int)) (by rw [HF0.out]; exact g4')) HB3.out)
    rw [g4']
    clear g4 g4'
    go_wp2_with fail
    go_ret2
    exact HN.out
  have HY : Hid (REnd (fireOk p n L ys (k : Int)) (fireR p n L ys (k : Int)) w (.returned (.tuple #[.slice (some ⟨g, 0, none⟩) nm cg, .bool true])) w4) :=
    rend_yes (fireOk_yes HG1.out HG2.out HG3.out (by rw [HF0.out]; exact g4)) (by rw [HF0.out]; exact HOUT.out) HB3.out
  rw [g4]
  clear g4
  go_wp2_with fail
  go_ret2
  exact HY.out
end Go.Proofs.Ytbobppcnmpiacaa
