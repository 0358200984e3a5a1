/- Contracts that the proof stands on, one behind the other. -/
import Derived.Test.YtajcmamapmeglaaP16
import Derived.Deep.AppendLies
/- l1Most and the cursor's markOf: a list in new memory, of as many numbers as the net has places, whatever the bytes; nothing that was there is written but the cursor. -/
namespace Go.Proofs.Ytajcmamapmeglaa
open Go.RowKit
set_option maxRecDepth 10000

def mostI (a b : Int) : Int := if b < a then a else b

theorem most_any (a b : Int) (w : World) : Calls Try.prog 76 #[.int .i64 a, .int .i64 b] w fun e w' => e = .returned (.int .i64 (mostI a b)) ∧ w' = w := by
  unfold mostI
  by_cases h : b < a
  · rw [if_pos h]
    go_enter Try.func76, Try.ntmps76
    go_wp2_with fail
    go_ret
    exact ⟨rfl, rfl⟩
  · rw [if_neg h]
    go_enter Try.func76, Try.ntmps76
    go_wp2_with fail
    go_ret
    exact ⟨rfl, rfl⟩

theorem MarkSt.form {w v : World} {bc : Nat} {ca : Option Addr} {cn cc p : Nat} {bs : List Int} {o : Value} {k : Nat} (h : MarkSt w v bc ca cn cc p bs o k) (hk : 0 < k) : ∃ g cap, o = .slice (some ⟨g, 0, none⟩) k cap ∧ w.heap.size ≤ g ∧ g < v.heap.size ∧ (∃ z, v.cell? ⟨g, 0, none⟩ = some z) ∧ v.frozen? ⟨g, 0, none⟩ = false := by
  obtain ⟨xs, hx⟩ := h.own
  rcases hx.2 with ⟨_, h0⟩ | ⟨g, cap, cur, e, hg, hh, _, _, hsz, _⟩
  · omega
  · refine ⟨g, cap, e, hg, (Array.getElem?_eq_some_iff.mp hh).1, ⟨cur[0]'(by omega), ?_⟩, frozen_of_row v g 0 _ _ hh⟩
    rw [cell_of_row v g 0 _ _ _ hh]
    exact Array.getElem?_eq_getElem (by omega)

theorem MarkSt.set0 {w v : World} {bc : Nat} {ca : Option Addr} {cn cc p : Nat} {bs : List Int} {g cap k : Nat} (h : MarkSt w v bc ca cn cc p bs (.slice (some ⟨g, 0, none⟩) k cap) k) (hg : w.heap.size ≤ g) (x : Int) (hb : bc < w.heap.size) (hfar : 0 < cn → ∀ y, ca = some y → y.block < w.heap.size) :
    MarkSt w (v.setCell ⟨g, 0, none⟩ (.int .i64 x)) bc ca cn cc p bs (.slice (some ⟨g, 0, none⟩) k cap) k := by
  have hset : ∀ q, q ≠ g → (v.setCell ⟨g, 0, none⟩ (.int .i64 x)).heap[q]? = v.heap[q]? := fun q hq => Below.heap_setCell _ _ _ _ hq
  have hbl : Below w.heap.size v (v.setCell ⟨g, 0, none⟩ (.int .i64 x)) := Below.setCell (p := ⟨g, 0, none⟩) (Below.refl _ _) (show _ ≤ g by omega) _
  obtain ⟨xs, hx⟩ := h.own
  refine ⟨⟨xs.set 0 x, ?_⟩, h.cur.below hbl hb, ?_, h.kept.trans (Kept.of_below hbl)⟩
  · refine ⟨by simpa using hx.1, ?_⟩
    rcases hx.2 with ⟨e, _⟩ | ⟨g', cp', cur, e, hg, hh, r1, r2, r3, r4⟩
    · simp at e
    · obtain ⟨rfl, rfl⟩ : g = g' ∧ cap = cp' := by simpa using e
      refine .inr ⟨g, cap, _, rfl, hg, heap_setCell_same v g 0 cur _ _ hh, r1, r2, by simpa using r3, ?_⟩
      rw [List.map_set, ← r4]
      simp [List.take_set]
  · refine ⟨h.bytes.1, h.bytes.2.1, ?_⟩
    rcases h.bytes.2.2 with h0 | ⟨b, off, e, hl, hc⟩
    · exact .inl h0
    · exact .inr ⟨b, off, e, Nat.lt_of_lt_of_le hl hbl.size, fun i hi => (World.cell?_of_block (hbl.block b (hfar (by omega) _ e))).trans (hc i hi)⟩

/-- How markOf ends. -/
def MarkEndN (bc : Nat) (ca : Option Addr) (cn cc p : Nat) (bs : List Int) (w : World) (e : Ending) (w' : World) : Prop :=
  ∃ a n c xs p', e = .returned (.slice a n c) ∧ n ≤ 18 ∧ p' ≤ p + 60 ∧ Row w' a n xs ∧ (0 < n → ∀ x, a = some x → w.heap.size ≤ x.block) ∧ Cur w' bc ca cn cc p' ∧ RowB w' ca cn bs ∧ Kept bc w.heap.size w w'

theorem MarkSt.doneN {w v : World} {bc : Nat} {ca : Option Addr} {cn cc p q : Nat} {bs : List Int} {o : Value} {k : Nat} (h : MarkSt w v bc ca cn cc q bs o k) (hk : k ≤ 18) (hq : q ≤ p + 60) : MarkEndN bc ca cn cc p bs w (.returned o) v := by
  obtain ⟨xs, hx⟩ := h.own
  have hlt := hx.lt
  obtain ⟨a, c, rfl, hr⟩ := ownsRow_row' hx
  refine ⟨a, k, c, xs, q, rfl, hk, hq, hr, fun _ x hx => ?_, h.cur, h.bytes, h.kept⟩
  subst hx
  exact (hlt x.block rfl).1

set_option maxHeartbeats 1000000 in
theorem markOf_draw (pl : Int) (ua : Option Addr) (un uc : Nat) (bc : Nat) (ca : Option Addr) (cn cc p : Nat) (bs : List Int) (w : World) (h : Cur w bc ca cn cc p) (hr : RowB w ca cn bs) (hap : Apart ca cn bc) (hp : p ≤ 900000) (hn : cn ≤ 1048576) (hpl : 0 ≤ pl ∧ pl ≤ 17) :
    Calls Try.prog 51 #[.pointer (some ⟨bc, 0, none⟩), .agg #[.int .i64 pl, .slice ua un uc]] w fun e w' => MarkEndN bc ca cn cc p bs w e w' := by
  obtain ⟨m, rfl⟩ : ∃ m : Nat, pl = (m : Int) := ⟨pl.toNat, by omega⟩
  have hm : m ≤ 17 := by omega
  have hA := below_al w (.cells #[.int .i64 (m : Int), .slice ua un uc] 26)
  have hbc0 := h.lt
  have hbc : bc < (w.alloc (.cells #[.int .i64 (m : Int), .slice ua un uc] 26)).heap.size := by simp; omega
  have ST := hide (MarkSt.mk (w := w.alloc (.cells #[.int .i64 (m : Int), .slice ua un uc] 26)) (o := .slice none 0 0) ⟨[], World.ownsRow_nil _ _ _ _⟩ (h.below hA hbc0) (hr.kept (Kept.of_below hA) hap) (Kept.refl bc _ _))
  have HF := hide (hr.kept (Kept.of_below hA) hap).far
  have HBX := hide (heap_alloc_new w (.cells #[.int .i64 (m : Int), .slice ua un uc] 26))
  have HEND : Hid (∀ e v, MarkEndN bc ca cn cc p bs (w.alloc (.cells #[.int .i64 (m : Int), .slice ua un uc] 26)) e v → MarkEndN bc ca cn cc p bs w e v) := by
    rintro e v ⟨a, n, c, xs, p', h1, h2, h3, h4, h5, h6, h7, h8⟩
    exact ⟨a, n, c, xs, p', h1, h2, h3, h4, fun h0 x hx => Nat.le_trans (by simp) (h5 h0 x hx), h6, h7, (Kept.of_below hA).trans (h8.mono (by simp))⟩
  have HAP := hide hap
  have hBb : Hid (w.heap.size ≠ bc ∧ w.heap.size < (w.alloc (.cells #[.int .i64 (m : Int), .slice ua un uc] 26)).heap.size) := ⟨by omega, by simp⟩
  clear h hr hA hpl hap
  obtain ⟨i0, hi, hz0, hz1, hz2⟩ := info_split Try.info3
  go_enter Try.func51, Try.ntmps51
  go_wp2_with fail
  generalize w.alloc (.cells #[.int .i64 (m : Int), .slice ua un uc] 26) = w1 at ST HF HBX HEND hbc hBb ⊢
  generalize w.heap.size = Bx at HBX hBb ⊢
  go_loopw [5, 6] (fun o i wr => ∃ k q : Nat, k ≤ m ∧ i = .int .i64 k ∧ q ≤ p + 3 * k ∧ Hid (MarkSt w1 wr bc ca cn cc q bs o k)) (fun _ i _ => m - (intOf i).toNat)
  case atStart => exact ⟨0, p, Nat.zero_le _, rfl, by omega, ST⟩
  case round =>
    obtain ⟨k, q, hk, rfl, hq, S0⟩ := hrel
    clear ST
    have hBx := (S0.out.kept.block Bx hBb.out.2 hBb.out.1).trans HBX.out
    have hB0 : wr.cell? ⟨Bx, 0, none⟩ = some (.int .i64 (m : Int)) := cell_of_row wr Bx 0 _ _ _ hBx
    clear hBx
    by_cases hlt : k < m
    · have hi1 : (k : Int) < (m : Int) := by omega
      go_wp2_with fail
      refine (pick_any 4 bc ca cn cc q bs _ S0.out.cur S0.out.bytes (by omega) hn (by omega) (by omega)).mono ?_
      rintro e v1 ⟨r, rfl, hr, hcur, ho⟩
      have S1 := hide (S0.out.only ho hcur HAP.out hbc)
      clear hcur ho S0 hB0
      go_wp2_with fail
      refine (most_any _ _ _).mono ?_
      rintro e v2 ⟨rfl, rfl⟩
      generalize mostI 0 ((r : Int) - 1) = x
      obtain ⟨xs, hown⟩ := S1.out.own
      have hsz := S1.out.kept.size
      have S3 := hide (fun v' W' (h1 : W'.ownsRow w1.heap.size 3 1 v' (k + 1) (xs.map (Value.int .i64) ++ [.int .i64 x])) (h2 : (v2.alloc (.cells #[.int .i64 x] 3)).grownBy W' u5.ownBlock) => (S1.out.alloc (.cells #[.int .i64 x] 3) HAP.out).append (hown.alloc _) h1 h2 hbc HF.out)
      have HO := hide (hown.alloc (.cells #[.int .i64 x] 3))
      clear hown S1
      go_wp2_with (at_builtin; refine wpList_append_own _ rfl (.tmp 13) (.tmp 18) 27 rfl w1.heap.size 3 i0 (.int .i64 0) 1 8 Try.underlying27 hi hz0 hz1 hz2 rfl (by decide) u5 k _ rfl HO.out ⟨v2.heap.size, 0, none⟩ 1 1 [.int .i64 x] rfl rfl (cell_one_new _ _ _) (by intro u hu; simp at hu; subst hu; rfl) (by unfold maxLen; omega) (by omega) (by simp; omega) ?_; intro v' W' r1 r2 _; have R := hide (S3.out v' W' r1 r2); clear r1 r2)
      go_roundw
      case rel => exact ⟨k + 1, q + 1, by omega, by go_num, by omega, R⟩
      case measure => simp [intOf]; omega
    · have hk' : k = m := by omega
      subst hk'
      go_wp2_with fail
      refine (one_any 30 bc ca cn cc q bs _ S0.out.cur S0.out.bytes (by omega) hn (by omega) (by omega)).mono ?_
      rintro e v2 ⟨b, rfl, hcur, ho⟩
      have S2 := hide (S0.out.only ho hcur HAP.out hbc)
      clear hcur ho S0 hB0
      by_cases hk0 : 0 < k
      rotate_left
      · have hkz : k = 0 := by omega
        subst hkz
        obtain ⟨xs, hown⟩ := S2.out.own
        have hu5 : Hid (u5 = .slice none 0 0 ∨ ∃ g c, u5 = .slice (some ⟨g, 0, none⟩) 0 c) := by
          rcases hown.2 with ⟨e, _⟩ | ⟨g, cap, cur, e, _⟩
          · exact .inl e
          · exact .inr ⟨g, cap, e⟩
        clear hown
        rcases hu5.out with rfl | ⟨g, c, rfl⟩
        all_goals cases b
        all_goals go_wp2_with fail
        all_goals go_ret
        all_goals exact HEND.out _ _ (S2.out.doneN (by omega) (by omega))
      · have hk1 : (0 : Int) < (k : Int) := by omega
        obtain ⟨g, cap, rfl, hg, hgl, ⟨z, hz⟩, hf⟩ := S2.out.form hk0
        cases b
        · go_wp2_with fail
          go_ret
          exact HEND.out _ _ (S2.out.doneN (by omega) (by omega))
        · go_wp2_with fail
          have S3 := hide (S2.out.alloc (.cells (cellsOf [50, 51, -1]) 3) HAP.out)
          refine (among_any 3 3 (some ⟨v2.heap.size, 0, none⟩) [50, 51, -1] bc ca cn cc (q + 1) bs (v2.alloc (.cells (cellsOf [50, 51, -1]) 3)) S3.out.cur S3.out.bytes (by omega) hn (by omega) (by omega) (row_new v2 _ 3 _ rfl rfl) (by intro _ x hx; obtain rfl := Option.some.inj hx; have := S2.out.cur.lt; simp; omega)).mono ?_
          rintro e v3 ⟨x, rfl, hx, hcur, ho⟩
          have S4 := hide (S3.out.only ho hcur HAP.out hbc)
          clear hz hf
          obtain ⟨g', cap', e', _, _, ⟨z, hz⟩, hf⟩ := S4.out.form hk0
          obtain ⟨rfl, rfl⟩ : g = g' ∧ cap = cap' := by simpa using e'
          have S5 := hide (S4.out.set0 hg x hbc HF.out)
          clear hcur ho S3 S2 hx e'
          go_wp2_with fail
          go_ret
          exact HEND.out _ _ (S5.out.doneN (by omega) (by omega))
end Go.Proofs.Ytajcmamapmeglaa


/- l1Own of whatever list; pick of one. -/
namespace Go.Proofs.Ytajcmamapmeglaa
open Go.RowKit
set_option maxRecDepth 10000

theorem run_append_none {P : Program} (w : World) (base : Nat) (t ty e : TypeId) (i : TypeInfo) (size : Nat) (ht : P.underlying t = some (.slice e)) (hi : P.info? e = some i)
    (v : Value) (n c : Nat) (xs : List Value) (hown : w.ownsRow base e size v n xs) :
    (Builtin.append_ #[t, t] ty #[v, .slice none 0 c]).run P w = .ok v w := by
  rcases hown.2 with ⟨rfl, rfl⟩ | ⟨g, cap, cur, rfl, _, _, hnc, _⟩
  · simp [Builtin.append_, run_underlying ht, sizeOf, typeInfo, hi, Builtin.lenOf, Builtin.firstCells]
  · simp [Builtin.append_, run_underlying ht, sizeOf, typeInfo, hi, Builtin.lenOf, Builtin.firstCells, hnc, storeCells]

/-- append, whatever is appended. -/
theorem wpList_append_any2 {P : Program} (w : World) {ops : Array Oper} {rest : List Oper} {o : Oper} {a : Act} {Q : Exit → Act → World → Prop} (hgd : o.guard = none) (s x : Operand) (t : TypeId)
    (ho : o.op = .call { callee := .builtin .append, args := #[s, x], argTypes := #[t, t] })
    (base : Nat) (e : TypeId) (i : TypeInfo) (z : Value) (size bytes : Nat) (ht : P.underlying t = some (.slice e)) (hi : P.info? e = some i) (hz : i.zero = some z)
    (hsize : i.size = size) (hby : i.bytes = bytes) (hzs : z.cells.size = size) (hsz : 0 < size)
    (v : Value) (n : Nat) (xs : List Value) (hs : a.eval s = v) (hown : w.ownsRow base e size v n xs)
    (ao : Option Addr) (m c : Nat) (news : List Value) (hx : a.eval x = .slice ao m c) (hl : news.length = m * size) (hnone : ao = none → m = 0)
    (hnews : ∀ ad, ao = some ad → ∀ j u, news[j]? = some u → w.cell? (ad.add j) = some u) (h1 : ∀ u ∈ news, u.oneCell' = true)
    (h63 : n + m ≤ maxLen) (hbytes : (n + m) * bytes ≤ 140737488355328) (hbase : base ≤ w.heap.size)
    (h : ∀ v' w', w'.ownsRow base e size v' (n + m) (xs ++ news) → w.grownBy w' v.ownBlock → wpList P ops Q rest (a.put o.dst v') w') : wpList P ops Q (o :: rest) a w := by
  cases ao with
  | some ad => exact wpList_append_own w hgd s x t ho base e i z size bytes ht hi hz hsize hby hzs hsz v n xs hs hown ad m c news hx hl (hnews ad rfl) h1 h63 hbytes hbase fun v' w' r1 r2 _ => h v' w' r1 r2
  | none =>
    obtain rfl := hnone rfl
    have hnews : news = [] := List.eq_nil_of_length_eq_zero (by simpa using hl)
    subst hnews
    refine wpList_plain hgd fun K hK' => ?_
    have hrun := run_append_none (P := P) w base t o.type e i size ht hi _ n c xs hown
    unfold Oper.wp
    simp [execOp, ho, resolve, invoke, builtin, hs, hx, hrun, Result.andThen]
    exact hK' _ _ (by simpa using h v w (by simpa using hown) (World.grownBy.refl _ _))

theorem Row.some_of {w : World} {a : Option Addr} {n : Nat} {xs : List Int} (h : Row w a n xs) : ∀ ad, a = some ad → ∀ j u, (xs.map (Value.int .i64))[j]? = some u → w.cell? (ad.add j) = some u := by
  have := cells_upto h (Nat.le_refl n)
  rw [List.take_of_length_le (by have := h.1; omega)] at this
  exact this

set_option maxHeartbeats 400000 in
theorem own3_any (a : Option Addr) (n c : Nat) (xs : List Int) (w : World) (ha : Row w a n xs) (hn : n ≤ 1048576) :
    Calls Try.prog 97 #[.slice a n c] w fun e w' => ∃ a' c', e = .returned (.slice a' n c') ∧ Row w' a' n xs ∧ (0 < n → ∀ x, a' = some x → w.heap.size ≤ x.block) ∧ Below w.heap.size w w' := by
  obtain ⟨i0, hi, hz0, hz1, hz2⟩ := info_split Try.info3
  have P0 := hide (PutSt.first w)
  have HA := hide (ha.below P0.out.bel)
  have HL := hide ha.1
  clear ha
  go_enter Try.func97, Try.ntmps97
  go_wp2_with (at_builtin; refine wpList_append_any2 _ rfl (.tmp 3) (.tmp 4) 27 rfl w.heap.size 3 i0 (.int .i64 0) 1 8 Try.underlying27 hi hz0 hz1 hz2 rfl (by decide) (.slice (some ⟨w.heap.size, 0, none⟩) 0 0) 0 [] rfl P0.out.own a n c (xs.map (Value.int .i64)) rfl (by rw [List.length_map, Nat.mul_one]; exact HL.out) (fun h => by (rcases HA.out.2 with h0 | ⟨b, off, e, _⟩; exact h0; rw [h] at e; cases e)) HA.out.some_of (ints_oneCell _ _) (by unfold maxLen; omega) (by omega) (by simp) ?_; intro u1 W1 r1 r2; have P1 := hide (P0.out.step (q := n) (zs := xs) r1 r2); clear r1 r2)
  go_ret
  have P2 := P1.out
  rw [Nat.zero_add, List.nil_append] at P2
  have hlt := P2.own.lt
  obtain ⟨a', c', rfl, hr⟩ := ownsRow_row2 P2.own
  exact ⟨a', c', rfl, hr, fun _ x hx => by subst hx; exact (hlt x.block rfl).1, P2.bel⟩

set_option maxHeartbeats 400000 in
theorem pickS_any (m : Nat) (bc : Nat) (ca : Option Addr) (cn cc p : Nat) (bs : List Int) (w : World) (h : Cur w bc ca cn cc p) (hr : RowB w ca cn bs) (hp : p ≤ 1000000) (hn : cn ≤ 1048576) (h1 : 1 ≤ m) (h200 : m ≤ 200) :
    Calls Try.prog 71 #[.pointer (some ⟨bc, 0, none⟩), .int .i64 (m : Int)] w fun e w' => ∃ r p' : Nat, e = .returned (.int .i64 (r : Int)) ∧ r < m ∧ p' ≤ p + 1 ∧ Cur w' bc ca cn cc p' ∧ OnlyC bc w w' := by
  by_cases h2 : 2 ≤ m
  · refine (pick_any m bc ca cn cc p bs w h hr hp hn h2 h200).mono ?_
    rintro e w' ⟨r, e1, hr, hc, ho⟩
    exact ⟨r, p + 1, e1, hr, Nat.le_refl _, hc, ho⟩
  · obtain rfl : m = 1 := by omega
    have HC := hide h
    clear h hr
    go_enter Try.func71, Try.ntmps71
    go_wp2_with fail
    go_ret
    exact ⟨0, p, rfl, by omega, by omega, HC.out, OnlyC.refl _ _⟩
end Go.Proofs.Ytajcmamapmeglaa


/- someOf of whatever bounds; l1Least. -/
namespace Go.Proofs.Ytajcmamapmeglaa
open Go.RowKit
set_option maxRecDepth 10000

def leastI (a b : Int) : Int := if a < b then a else b

theorem least_any (a b : Int) (w : World) : Calls Try.prog 111 #[.int .i64 a, .int .i64 b] w fun e w' => e = .returned (.int .i64 (leastI a b)) ∧ w' = w := by
  unfold leastI
  by_cases h : a < b
  · rw [if_pos h]
    go_enter Try.func111, Try.ntmps111
    go_wp2_with fail
    go_ret
    exact ⟨rfl, rfl⟩
  · rw [if_neg h]
    go_enter Try.func111, Try.ntmps111
    go_wp2_with fail
    go_ret
    exact ⟨rfl, rfl⟩

/-- How someOf ends, of whatever bounds. -/
def SomeEndG (hi bc : Nat) (ca : Option Addr) (cn cc p : Nat) (bs : List Int) (w : World) (e : Ending) (w' : World) : Prop :=
  ∃ a n c xs p', e = .returned (.slice a n c) ∧ n ≤ hi ∧ NewL w.heap.size w' a n c xs ∧ p' ≤ p + 1 + hi ∧ Cur w' bc ca cn cc p' ∧ RowB w' ca cn bs ∧ Kept bc w.heap.size w w'

theorem SomeSt.doneG {w v : World} {bc : Nat} {ca : Option Addr} {cn cc p q hi : Nat} {bs : List Int} {u : Value} {m : Nat} (h : SomeSt w v bc ca cn cc q bs u m) (hm : m ≤ hi) (hq : q ≤ p + 1 + hi) : SomeEndG hi bc ca cn cc p bs w (.returned u) v := by
  obtain ⟨a, n, c, xs, rfl, hn, hl⟩ := h.new
  exact ⟨a, n, c, xs, q, rfl, by omega, hl, hq, h.cur, h.bytes, h.kept⟩

set_option maxHeartbeats 1000000 in
theorem some_drawG (pl lo hi : Nat) (bc : Nat) (ca : Option Addr) (cn cc p : Nat) (bs : List Int) (w : World) (h : Cur w bc ca cn cc p) (hr : RowB w ca cn bs) (hap : Apart ca cn bc) (hp : p ≤ 900000) (hn : cn ≤ 1048576) (hpl : 1 ≤ pl) (hpl2 : pl ≤ 200) (hlo : lo ≤ hi) (hhi : hi ≤ 50) :
    Calls Try.prog 110 #[.pointer (some ⟨bc, 0, none⟩), .int .i64 (pl : Int), .int .i64 (lo : Int), .int .i64 (hi : Int)] w fun e w' => SomeEndG hi bc ca cn cc p bs w e w' := by
  have hbc := h.lt
  have ST := hide (SomeSt.mk (w := w) (u := .slice none 0 0) (m := 0) ⟨none, 0, 0, [], rfl, Nat.le_refl _, .inl ⟨rfl, rfl, rfl, rfl⟩⟩ h hr (Kept.refl bc _ w))
  have HP := hide (pickS_any (hi + 1 - lo) bc ca cn cc p bs w h hr (by omega) hn (by omega) (by omega))
  rw [show ((hi + 1 - lo : Nat) : Int) = (hi : Int) - (lo : Int) + 1 by omega] at HP
  clear h hr
  go_enter Try.func110, Try.ntmps110
  go_wp2_with fail
  refine HP.out.mono ?_
  rintro e v1 ⟨r, p1, rfl, hr, hp1, hcur, ho⟩
  have S1 := hide (ST.out.only ho hcur hap hbc)
  clear hcur ho ST HP
  go_wp2_with fail
  go_loopw [9, 10] (fun u i wr => ∃ k q m : Nat, i = .int .i64 k ∧ k + m ≤ hi ∧ q + k ≤ p + 1 + hi ∧ Hid (SomeSt w wr bc ca cn cc q bs u m)) (fun _ i _ => (intOf i).toNat)
  case atStart => exact ⟨lo + r, p1, 0, by go_num, by omega, by omega, S1⟩
  case round =>
    obtain ⟨k, q, m, rfl, hkm, hq, S0⟩ := hrel
    clear S1
    by_cases hlt : 0 < k
    · have hi1 : (0 : Int) < (k : Int) := by omega
      go_wp2_with fail
      refine (pickS_any pl bc ca cn cc q bs _ S0.out.cur S0.out.bytes (by omega) hn hpl hpl2).mono ?_
      rintro e v2 ⟨x, q2, rfl, hx, hq2, hcur, ho⟩
      have S2 := hide (S0.out.only ho hcur hap hbc)
      clear hcur ho S0
      go_wp2_with fail
      refine (S2.out.put (by omega) _ hap).mono ?_
      rintro e v3 ⟨u', rfl, S3'⟩
      have S3 := hide S3'
      clear S3' S2
      go_wp2_with fail
      go_roundw
      case rel => exact ⟨k - 1, q2, m + 1, by go_num, by omega, by omega, S3⟩
      case measure => simp [intOf]; omega
    · have hk0 : k = 0 := by omega
      subst hk0
      go_wp2_with fail
      go_ret
      exact S0.out.doneG (by omega) (by omega)

theorem NewL.cellR {B g : Nat} {v : World} {a : Option Addr} {n c : Nat} {xs : List Int} (h : NewL B v a n c xs) (hn : n ≤ 2) {B' : Nat} (hB : B' ≤ B) (hg : g < B) : ∃ a' n' c' xs', Value.slice a n c = .slice a' n' c' ∧ n' ≤ 2 ∧ n' ≤ c' ∧ c' ≤ maxLen ∧ Row v a' n' xs' ∧ (0 < n' → ∀ o, a' = some o → B' ≤ o.block ∧ o.block ≠ g) := by
  refine ⟨a, n, c, xs, rfl, hn, ?_, ?_, h.row, fun _ o ho => ?_⟩
  · rcases h with ⟨_, rfl, rfl, _⟩ | ⟨_, _, _, _, h2, _⟩
    · exact Nat.le_refl _
    · exact h2
  · rcases h with ⟨_, _, rfl, _⟩ | ⟨_, _, _, _, _, h2, _⟩
    · exact Nat.zero_le _
    · exact h2
  · have := (h.lt ho).1; omega
end Go.Proofs.Ytajcmamapmeglaa


/- A drawn flow's net: a list of transitions in a row of its own, each of its lists short; several transitions appended at once. -/
namespace Go.Proofs.Ytajcmamapmeglaa
open Go.RowKit
set_option maxRecDepth 10000

def TriW (M B : Nat) (v : World) (u : Value) (cells : List Value) (j : Nat) : Prop :=
  ∃ a n c xs, cells[j]? = some (.slice a n c) ∧ n ≤ M ∧ NewL B v a n c xs ∧ ∀ o, a = some o → u.ownBlock ≠ some o.block

structure NetW (M B : Nat) (v : World) (u : Value) (k : Nat) (cells : List Value) : Prop where
  own : v.ownsRow B 106 3 u k cells
  tris : ∀ j, j < 3 * k → TriW M B v u cells j

theorem NetW.nil {M : Nat} (B : Nat) (v : World) : NetW M B v (.slice none 0 0) 0 [] := ⟨World.ownsRow_nil _ _ _ _, fun j hj => absurd hj (by omega)⟩

theorem NetW.moved {M B : Nat} {v v' : World} {u : Value} {k : Nat} {cells : List Value} (h : NetW M B v u k cells) (hs : v.heap.size ≤ v'.heap.size) (hk : ∀ q, B ≤ q → q < v.heap.size → v'.heap[q]? = v.heap[q]?) : NetW M B v' u k cells := by
  refine ⟨⟨h.own.1, ?_⟩, fun j hj => ?_⟩
  · rcases h.own.2 with hn | ⟨g, cp, cur, e, hg, hh, r⟩
    · exact .inl hn
    · exact .inr ⟨g, cp, cur, e, hg, (hk g hg (Array.getElem?_eq_some_iff.mp hh).1).trans hh, r⟩
  · obtain ⟨a, n, c, xs, e, hn, hl, hd⟩ := h.tris j hj
    exact ⟨a, n, c, xs, e, hn, hl.keep hs fun g hg hlt _ => hk g hg hlt, hd⟩

theorem NetW.kept {M B bc C : Nat} {v v' : World} {u : Value} {k : Nat} {cells : List Value} (h : NetW M B v u k cells) (hk : Kept bc C v v') (hC : v.heap.size ≤ C) (hb : bc < B) : NetW M B v' u k cells :=
  h.moved hk.size fun q hq hl => hk.block q (by omega) (by omega)
theorem NetW.grow {M B : Nat} {v v' : World} {u : Value} {k : Nat} {cells : List Value} (h : NetW M B v u k cells) (hb : Below v.heap.size v v') : NetW M B v' u k cells :=
  h.moved hb.size fun q _ hl => hb.block q hl
theorem NetW.low {M B C : Nat} {v : World} {u : Value} {k : Nat} {cells : List Value} (h : NetW M B v u k cells) (hC : C ≤ B) : NetW M C v u k cells := by
  refine ⟨⟨h.own.1, ?_⟩, fun j hj => ?_⟩
  · rcases h.own.2 with hn | ⟨g, cp, cur, e, hg, r⟩
    · exact .inl hn
    · exact .inr ⟨g, cp, cur, e, by omega, r⟩
  · obtain ⟨a, n, c, xs, e, hn, hl, hd⟩ := h.tris j hj
    exact ⟨a, n, c, xs, e, hn, hl.mono hC, hd⟩

/-- m transitions more are appended. -/
theorem NetW.append {M B : Nat} {v W : World} {u : Value} {k m : Nat} {cells news : List Value} {g cp : Nat} (h : NetW M B v u k cells)
    (hnew : ∀ j, j < 3 * m → ∃ a n c xs, news[j]? = some (.slice a n c) ∧ n ≤ M ∧ NewL B v a n c xs ∧ ∀ o, a = some o → u.ownBlock ≠ some o.block)
    (hown : W.ownsRow B 106 3 (.slice (some ⟨g, 0, none⟩) (k + m) cp) (k + m) (cells ++ news)) (hgr : v.grownBy W u.ownBlock) (hl : u.ownBlock = some g ∨ g = v.heap.size) :
    NetW M B W (.slice (some ⟨g, 0, none⟩) (k + m) cp) (k + m) (cells ++ news) := by
  have hcl : cells.length = 3 * k := by have := h.own.1; omega
  have key : ∀ {a : Option Addr} {n c : Nat} {xs : List Int}, NewL B v a n c xs → (∀ o, a = some o → u.ownBlock ≠ some o.block) → NewL B W a n c xs ∧ ∀ o, a = some o → (Value.slice (some ⟨g, 0, none⟩) (k + m) cp).ownBlock ≠ some o.block := by
    intro a n c xs hn hd
    refine ⟨hn.keep hgr.size fun q hq hlt ⟨o, ho, hoq⟩ => hgr.block q hlt fun e => hd o ho (by rw [hoq]; exact e.symm), fun o ho e => ?_⟩
    have e' : g = o.block := by simpa [Value.ownBlock] using e
    have hlt := (hn.lt ho).2
    rcases hl with hl | hl
    · exact hd o ho (by rw [hl, e'])
    · omega
  refine ⟨hown, fun j hj => ?_⟩
  by_cases hlt : j < 3 * k
  · obtain ⟨a, n, c, xs, e, hn, hl', hd⟩ := h.tris j hlt
    obtain ⟨q1, q2⟩ := key hl' hd
    exact ⟨a, n, c, xs, by rw [List.getElem?_append_left (by omega)]; exact e, hn, q1, q2⟩
  · obtain ⟨a, n, c, xs, e, hn, hl', hd⟩ := hnew (j - 3 * k) (by omega)
    obtain ⟨q1, q2⟩ := key hl' hd
    exact ⟨a, n, c, xs, by rw [List.getElem?_append_right (by omega), hcl]; exact e, hn, q1, q2⟩

theorem NetW.set {M B : Nat} {v : World} {k : Nat} {cells : List Value} {g cp j : Nat} {a : Option Addr} {n c : Nat} {xs : List Int} (h : NetW M B v (.slice (some ⟨g, 0, none⟩) k cp) k cells) (hj : j < 3 * k)
    (hn : NewL B v a n c xs) (hn2 : n ≤ M) (hd : ∀ o, a = some o → o.block ≠ g) : NetW M B (v.setCell ⟨g, j, none⟩ (.slice a n c)) (.slice (some ⟨g, 0, none⟩) k cp) k (cells.set j (.slice a n c)) := by
  have hcl : cells.length = 3 * k := by have := h.own.1; omega
  have hoth : ∀ q, q ≠ g → (v.setCell ⟨g, j, none⟩ (.slice a n c)).heap[q]? = v.heap[q]? := fun q hq => Below.heap_setCell _ _ _ _ hq
  have hsz : v.heap.size ≤ (v.setCell ⟨g, j, none⟩ (.slice a n c)).heap.size := by simp [World.setCell]
  refine ⟨⟨by simpa using h.own.1, ?_⟩, fun i hi => ?_⟩
  · rcases h.own.2 with ⟨e, _⟩ | ⟨g', cp', cur, e, hg, hh, r1, r2, r3, r4⟩
    · simp at e
    · obtain ⟨rfl, rfl⟩ : g = g' ∧ cp = cp' := by simpa using e
      refine .inr ⟨g, cp, _, rfl, hg, heap_setCell_same v g j cur _ _ hh, r1, r2, by simpa using r3, ?_⟩
      rw [← r4]
      simp [List.take_set]
  · obtain ⟨a', n', c', xs', e, hn', hl', hd'⟩ := h.tris i hi
    by_cases hij : i = j
    · subst hij
      exact ⟨a, n, c, xs, by rw [List.getElem?_set_self (by omega)], hn2, hn.keep hsz fun q _ _ ⟨o, ho, hoq⟩ => hoth q (by have := hd o ho; omega), fun o ho e => hd o ho (by simpa [Value.ownBlock, eq_comm] using e)⟩
    · exact ⟨a', n', c', xs', by rw [List.getElem?_set_ne (fun e => hij e.symm)]; exact e, hn', hl'.keep hsz fun q _ _ ⟨o, ho, hoq⟩ => hoth q (by have := hd' o ho; simp [Value.ownBlock] at this; omega), hd'⟩

theorem NetW.wide {M M' B : Nat} {v : World} {u : Value} {k : Nat} {cells : List Value} (h : NetW M B v u k cells) (hM : M ≤ M') : NetW M' B v u k cells :=
  ⟨h.own, fun j hj => by obtain ⟨a, n, c, xs, e, hn, r⟩ := h.tris j hj; exact ⟨a, n, c, xs, e, Nat.le_trans hn hM, r⟩⟩

/-- It can be read. -/
theorem NetW.lists {M B : Nat} {v : World} {u : Value} {k : Nat} {cells : List Value} (h : NetW M B v u k cells) (hk : k ≤ 100) (hM : M ≤ 21) : ∃ a c L, u = .slice a k c ∧ Lists v a (3 * k) L ∧ sizeN k L ≤ 6400 ∧ (∀ o, a = some o → B ≤ o.block) := by
  have hcl : cells.length = 3 * k := by have := h.own.1; omega
  obtain ⟨L, hL, hP⟩ := exists_list (P := fun j x => ∃ a n c, cells[j]? = some (.slice a n c) ∧ n ≤ M ∧ NewL B v a n c x) (3 * k) fun j hj => by
    obtain ⟨a, n, c, xs, e, hn, hl, _⟩ := h.tris j hj
    exact ⟨xs, a, n, c, e, hn, hl⟩
  have hsz : ∀ q, q ≤ 3 * k → sizeL (L.take q) ≤ 21 * q := by
    intro q
    induction q with
    | zero => intro _; simp [sizeL]
    | succ q ih =>
      intro hq
      rw [sizeL_take_succ L q (by omega)]
      obtain ⟨a, n, c, _, hn, hl⟩ := hP q (by omega)
      have := hl.row.1
      have := ih (by omega)
      omega
  have hs : sizeN k L ≤ 6400 := by
    unfold sizeN
    have := hsz (3 * k) (Nat.le_refl _)
    rw [List.take_of_length_le (by omega)] at this
    omega
  rcases h.own.2 with ⟨e, h0⟩ | ⟨g, cp, cur, e, hg, hh, _, _, hsc, htk⟩
  · subst h0
    exact ⟨none, 0, L, e, ⟨hL, .inl rfl⟩, hs, fun o ho => by cases ho⟩
  · refine ⟨_, cp, L, e, ⟨hL, .inr ⟨g, 0, rfl, (Array.getElem?_eq_some_iff.mp hh).1, fun j hj => ?_⟩⟩, hs, fun o ho => by obtain rfl := Option.some.inj ho; exact hg⟩
    obtain ⟨a, n, c, e1, hn, hl⟩ := hP j hj
    refine ⟨a, n, c, ?_, by unfold maxLen; omega, hl.row⟩
    rw [cell_of_row v g (0 + j) cur _ _ hh, Nat.zero_add]
    have e2 : (cur.toList.take (k * 3))[j]? = cells[j]? := by rw [htk]
    rw [List.getElem?_take_of_lt (by omega), Array.getElem?_toList] at e2
    rw [e2, e1]
end Go.Proofs.Ytajcmamapmeglaa


/- What is there while a flow's net is grown. -/
namespace Go.Proofs.Ytajcmamapmeglaa
open Go.RowKit
set_option maxRecDepth 10000

/-- W: the world ahead of the net's variable, in the block V. -/
structure GrSt (W v : World) (bc : Nat) (ca : Option Addr) (cn cc p : Nat) (bs : List Int) (V : Nat) (pl : Int) (u : Value) (k : Nat) (cells : List Value) : Prop where
  var : v.heap[V]? = some (.cells #[.int .i64 pl, u] 26 (0, 0))
  hV : W.heap.size ≤ V
  hc : bc < W.heap.size
  net : NetW 20 (V + 1) v u k cells
  cur : Cur v bc ca cn cc p
  was : RowB W ca cn bs
  apart : Apart ca cn bc
  kept : Kept bc W.heap.size W v

section
variable {W v v' v2 X : World} {bc : Nat} {ca : Option Addr} {cn cc p p' : Nat} {bs : List Int} {V : Nat} {pl : Int} {u : Value} {k : Nat} {cells : List Value}

theorem GrSt.lt (h : GrSt W v bc ca cn cc p bs V pl u k cells) : V < v.heap.size := (Array.getElem?_eq_some_iff.mp h.var).1
theorem GrSt.bytes (h : GrSt W v bc ca cn cc p bs V pl u k cells) : RowB v ca cn bs := h.was.kept h.kept h.apart

/-- Behind a call that moves the cursor and makes memory. -/
theorem GrSt.go (h : GrSt W v bc ca cn cc p bs V pl u k cells) (hk : Kept bc v.heap.size v v') (hc : Cur v' bc ca cn cc p') : GrSt W v' bc ca cn cc p' bs V pl u k cells := by
  have hlt := h.lt
  have hV := h.hV
  have hb := h.hc
  exact ⟨(hk.block V hlt (by omega)).trans h.var, hV, hb, h.net.kept hk (Nat.le_refl _) (by omega), hc, h.was, h.apart, h.kept.trans (hk.mono h.kept.size)⟩

theorem GrSt.grow (h : GrSt W v bc ca cn cc p bs V pl u k cells) (hk : Below v.heap.size v v') : GrSt W v' bc ca cn cc p bs V pl u k cells :=
  h.go (Kept.of_below hk) (h.cur.below hk h.cur.lt)

theorem GrSt.places (h : GrSt W v bc ca cn cc p bs V pl u k cells) (x : Int) : GrSt W (v.setCell ⟨V, 0, none⟩ (.int .i64 x)) bc ca cn cc p bs V x u k cells := by
  have hV := h.hV
  have hb := h.hc
  have hset : ∀ q, q ≠ V → (v.setCell ⟨V, 0, none⟩ (.int .i64 x)).heap[q]? = v.heap[q]? := fun q hq => Below.heap_setCell _ _ _ _ hq
  have hs : v.heap.size ≤ (v.setCell ⟨V, 0, none⟩ (.int .i64 x)).heap.size := by simp [World.setCell]
  refine ⟨?_, hV, hb, h.net.moved hs fun q hq _ => hset q (by omega), ?_, h.was, h.apart, h.kept.trans (Kept.of_below ((Below.refl _ v).setCell (p := ⟨V, 0, none⟩) (show _ ≤ V by omega) _))⟩
  · rw [heap_setCell_same v V 0 _ _ _ h.var]; rfl
  · obtain ⟨s, hs⟩ := h.cur
    exact ⟨s, (hset bc (by omega)).trans hs⟩

/-- m transitions are appended: v2 is the world ahead of the append, X the one behind it. -/
theorem GrSt.append {m g cp : Nat} {news : List Value} (h : GrSt W v bc ca cn cc p bs V pl u k cells) (hv2 : Below v.heap.size v v2)
    (hnew : ∀ j, j < 3 * m → ∃ a n c xs, news[j]? = some (.slice a n c) ∧ n ≤ 20 ∧ NewL v.heap.size v2 a n c xs)
    (hown : X.ownsRow (V + 1) 106 3 (.slice (some ⟨g, 0, none⟩) (k + m) cp) (k + m) (cells ++ news)) (hgr : v2.grownBy X u.ownBlock) (hl : u.ownBlock = some g ∨ g = v2.heap.size) :
    GrSt W (X.setCell ⟨V, 1, none⟩ (.slice (some ⟨g, 0, none⟩) (k + m) cp)) bc ca cn cc p bs V pl (.slice (some ⟨g, 0, none⟩) (k + m) cp) (k + m) (cells ++ news) := by
  have hVl := h.lt
  have hV := h.hV
  have hb := h.hc
  have hbs := hv2.size
  have hob : ∀ q, u.ownBlock = some q → V + 1 ≤ q ∧ q < v.heap.size := h.net.own.lt
  have N := (h.net.grow hv2).append (m := m) (fun j hj => by
    obtain ⟨a, n, c, xs, e, hn, hl⟩ := hnew j hj
    exact ⟨a, n, c, xs, e, hn, hl.mono (by omega), fun o ho e => by have := (hl.lt ho).1; have := hob _ e; omega⟩) hown hgr hl
  have hset : ∀ q, q ≠ V → (X.setCell ⟨V, 1, none⟩ (.slice (some ⟨g, 0, none⟩) (k + m) cp)).heap[q]? = X.heap[q]? := fun q hq => Below.heap_setCell _ _ _ _ hq
  have hWs : X.heap.size ≤ (X.setCell ⟨V, 1, none⟩ (.slice (some ⟨g, 0, none⟩) (k + m) cp)).heap.size := by simp [World.setCell]
  have old : ∀ q, q ≤ V → X.heap[q]? = v.heap[q]? := fun q hq => (hgr.block q (by omega) fun e => by have := hob q e.symm; omega).trans (hv2.block q (by omega))
  have hBel : Below W.heap.size v2 (X.setCell ⟨V, 1, none⟩ (.slice (some ⟨g, 0, none⟩) (k + m) cp)) := by
    refine Below.setCell (p := ⟨V, 1, none⟩) ?_ (show _ ≤ V by omega) _
    exact (Below.refl W.heap.size v2).grown hgr (by omega) fun q hq => by have := hob q hq; omega
  refine ⟨?_, hV, hb, N.moved hWs fun q hq _ => hset q (by omega), ?_, h.was, h.apart, h.kept.trans (Kept.of_below ((hv2.mono (by omega)).trans hBel))⟩
  · rw [heap_setCell_same X V 1 _ _ _ ((old V (Nat.le_refl _)).trans h.var)]; rfl
  · obtain ⟨s, hs⟩ := h.cur
    exact ⟨s, (hset bc (by omega)).trans ((old bc (by omega)).trans hs)⟩

/-- What the walk reads. -/
theorem GrSt.c0 (h : GrSt W v bc ca cn cc p bs V pl u k cells) : v.cell? ⟨V, 0, none⟩ = some (.int .i64 pl) := cell_of_row v V 0 _ _ _ h.var
theorem GrSt.c1 (h : GrSt W v bc ca cn cc p bs V pl u k cells) : v.cell? ⟨V, 1, none⟩ = some u := cell_of_row v V 1 _ _ _ h.var
theorem GrSt.f0 (h : GrSt W v bc ca cn cc p bs V pl u k cells) : v.frozen? ⟨V, 0, none⟩ = false := frozen_of_row v V 0 _ _ h.var
theorem GrSt.f1 (h : GrSt W v bc ca cn cc p bs V pl u k cells) : v.frozen? ⟨V, 1, none⟩ = false := frozen_of_row v V 1 _ _ h.var
theorem GrSt.form (h : GrSt W v bc ca cn cc p bs V pl u k cells) : ∃ a c, u = .slice a k c := by
  rcases h.net.own.2 with ⟨e, h0⟩ | ⟨g, cp, cur, e, _⟩
  · subst h0; exact ⟨none, 0, e⟩
  · exact ⟨_, cp, e⟩
end

/-- A list of numbers made now. -/
theorem newL1 (w : World) (x : Int) : NewL w.heap.size (w.alloc (.cells #[.int .i64 x] 3)) (some ⟨w.heap.size, 0, none⟩) 1 1 [x] :=
  .inr ⟨w.heap.size, rfl, Nat.le_refl _, Nat.le_refl _, Nat.le_refl _, by decide, Blk.row (b := w.heap.size) ⟨rfl, .inr ⟨rfl, heap_alloc_new w _⟩⟩⟩
theorem newL2 (w : World) (x y : Int) : NewL w.heap.size (w.alloc (.cells #[.int .i64 x, .int .i64 y] 3)) (some ⟨w.heap.size, 0, none⟩) 2 2 [x, y] :=
  .inr ⟨w.heap.size, rfl, Nat.le_refl _, by decide, Nat.le_refl _, by decide, Blk.row (b := w.heap.size) ⟨rfl, .inr ⟨rfl, heap_alloc_new w _⟩⟩⟩

theorem NewL.grown {B : Nat} {w w' : World} {a : Option Addr} {n c : Nat} {xs : List Int} (h : NewL B w a n c xs) (hb : Below w.heap.size w w') : NewL B w' a n c xs :=
  h.keep hb.size fun g _ hlt _ => hb.block g hlt

/-- How much a flow's net grows. -/
def grT : Nat → Nat
  | 0 => 1
  | d + 1 => 2 + 2 * grT d
def grP : Nat → Nat
  | 0 => 0
  | d + 1 => 4 + 2 * grP d
def grC : Nat → Nat
  | 0 => 0
  | d + 1 => 1 + 2 * grC d

/-- How grow ends. -/
def GrEnd (W : World) (bc : Nat) (ca : Option Addr) (cn cc p : Nat) (bs : List Int) (V : Nat) (pl : Int) (k d m : Nat) (e : Ending) (v' : World) : Prop :=
  ∃ (p' : Nat) (pl' : Int) (u' : Value) (k' : Nat) (cells' : List Value), e = .returned (.tuple #[]) ∧ Hid (GrSt W v' bc ca cn cc p' bs V pl' u' k' cells') ∧ p ≤ p' ∧ p' ≤ p + grC d ∧ pl ≤ pl' ∧ pl' ≤ pl + grP d ∧ k + m ≤ k' ∧ k' ≤ k + grT d
end Go.Proofs.Ytajcmamapmeglaa


/- More steps of a region that draws its order, by hand. -/
namespace Go.Proofs.Ytajcmamapmeglaa
open Go.RowKit

/-- An operation that yields a value as one step of a region that draws its order. -/
theorem step_valW {P : Program} {ops : Array Oper} {o : Oper} {a : Act} {w w' : World} {K : Act → World → Prop} {Q : Exit → Act → World → Prop} {E : Prop}
    (hw : Region.wanted o (yielded ops a.tmps) = true) (d : Option Tmp) (hd : o.dst = d) (v : Value) (hr : (execOp a.eval o).run P w = .ok (.value v) w') (h : K (a.put d v) w') :
    if Region.wanted o (yielded ops a.tmps) = true then Oper.wp P o a w K Q else E := by
  subst hd
  rw [if_pos hw]
  unfold Oper.wp
  rw [hr]
  exact h

/-- A call that is wanted, its place named. -/
theorem step_callWd {P : Program} {ops : Array Oper} {o : Oper} {a : Act} {w : World} {K : Act → World → Prop} {Q : Exit → Act → World → Prop} {E : Prop} (d : Option Tmp) (hd : o.dst = d)
    (hw : Region.wanted o (yielded ops a.tmps) = true) (f : FuncId) (fn : Func) (xs : Array Operand) (ts : Array TypeId) (hop : o.op = Op.call { callee := Callee.value (Operand.func f), args := xs, argTypes := ts })
    (hfn : P.funcs[f]? = some fn) (hnm : (fn.name == "runtime.NumGoroutine") = false) (hbd : fn.body.isNone = false) (args : Array Value) (hargs : xs.map a.eval = args) (R : Ending → World → Prop) (hc : Calls P f args w R)
    (h : ∀ e w', R e w' → ∃ v, e = .returned v ∧ K (a.put d v) w') :
    if Region.wanted o (yielded ops a.tmps) = true then Oper.wp P o a w K Q else E := by
  subst hd
  exact step_callW hw f fn xs ts hop hfn hnm hbd args hargs R hc h

/-- An append, its place named. -/
theorem step_appWd {P : Program} {ops : Array Oper} {o : Oper} {a : Act} {w : World} {K : Act → World → Prop} {Q : Exit → Act → World → Prop} {E : Prop} (d : Option Tmp) (hd : o.dst = d) (hgd : o.guard = none) (s x : Operand) (t : TypeId)
    (ho : o.op = .call { callee := .builtin .append, args := #[s, x], argTypes := #[t, t] })
    (base : Nat) (e : TypeId) (i : TypeInfo) (z : Value) (size bytes : Nat) (ht : P.underlying t = some (.slice e)) (hi : P.info? e = some i) (hz : i.zero = some z)
    (hsize : i.size = size) (hby : i.bytes = bytes) (hzs : z.cells.size = size) (hsz : 0 < size)
    (v : Value) (n : Nat) (xs : List Value) (hs : a.eval s = v) (hown : w.ownsRow base e size v n xs)
    (ad : Addr) (m c : Nat) (news : List Value) (hx : a.eval x = .slice (some ad) m c) (hl : news.length = m * size) (hnews : ∀ j u, news[j]? = some u → w.cell? (ad.add j) = some u) (h1 : ∀ u ∈ news, u.oneCell' = true)
    (hm : 0 < m) (h63 : n + m ≤ maxLen) (hbytes : (n + m) * bytes ≤ 140737488355328) (hbase : base ≤ w.heap.size) (H : Nat) (hH : w.heap.size = H)
    (h : ∀ g cap w', w'.ownsRow base e size (.slice (some ⟨g, 0, none⟩) (n + m) cap) (n + m) (xs ++ news) → w.grownBy w' v.ownBlock → (v.ownBlock = some g ∨ g = H) → g < w'.heap.size → K (a.put d (.slice (some ⟨g, 0, none⟩) (n + m) cap)) w') :
    if Region.wanted o (yielded ops a.tmps) = true then Oper.wp P o a w K Q else E := by
  subst hd
  exact step_append_lies w hgd s x t ho base e i z size bytes ht hi hz hsize hby hzs hsz v n xs hs hown ad m c news hx hl hnews h1 hm h63 hbytes hbase H hH h

section
variable {P : Program} {ops : Array Oper} {Q : Exit → Act → World → Prop} {md : Region.Mode} {S : World → Prop}

/-- A store of one cell that must come up next. -/
theorem store_one_next {i : Nat} {oi : Oper} {fuel : Nat} {listed : Array Bool} {a : Act} {w : World} (hi : ops[i]? = some oi) (hd : oi.dst = none) (hr : Region.ready md ops listed = [i])
    (hw : Region.wanted oi (yielded ops a.tmps) = true) (ty : TypeId) (x y : Operand) (hop : oi.op = .store ty x y)
    (b o : Nat) (p : Option Addr) (l c : Nat) (hx : a.eval x = .pointer (some ⟨b, o, none⟩)) (hy : a.eval y = .slice p l c) (C : Array Value) (T : TypeId) (hb : w.heap[b]? = some (.cells C T (0, 0))) (ho : o < C.size) (hz : (P.info? ty).map (·.size) = some 1)
    (hS : S (w.setCell ⟨b, o, none⟩ (.slice p l c))) (h : S (w.setCell ⟨b, o, none⟩ (.slice p l c)) → wpAnyH P md ops Q S fuel (listed.setIfInBounds i true) a (w.setCell ⟨b, o, none⟩ (.slice p l c))) : wpAnyH P md ops Q S (fuel + 1) listed a w := by
  refine wpAnyH_ready hr (by simp) (AllReadyH.cons hi (fun K hK => ?_) AllReadyH.nil)
  rw [if_pos hw]
  have hc : w.cell? ⟨b, o, none⟩ = some (C[o]'ho) := by rw [cell_of_row w b o C T _ hb, Array.getElem?_eq_getElem ho]
  have hf : w.frozen? ⟨b, o, none⟩ = false := frozen_of_row w b o C _ hb
  have hrun : (execOp a.eval oi).run P w = .ok .skip (w.setCell ⟨b, o, none⟩ (.slice p l c)) := by
    unfold execOp
    simp only [hop, hx, hy]
    obtain ⟨inf, hinf, hsz⟩ := Option.map_eq_some_iff.1 hz
    simp [go_sem, sizeOf, typeInfo, hinf, hsz, hc, hf]
  unfold Oper.wp
  rw [hrun]
  show K (a.put oi.dst undef) _
  rw [hd]
  exact hK.out _ _ hS h

end
end Go.Proofs.Ytajcmamapmeglaa
