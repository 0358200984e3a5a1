/- Contracts that the proof stands on, one behind the other. -/
import Derived.Test.YtajcmamapmeglaaP13
/- The cursor that draws choices from bytes: next, pick, one, among, places and mark answer within their bounds, whatever the bytes, and write into nothing that was there but the cursor. -/
namespace Go.Proofs.Ytajcmamapmeglaa
open Go.RowKit

/-- A slice of bytes reads as the list bs. -/
def RowB (w : World) (a : Option Addr) (n : Nat) (bs : List Int) : Prop :=
  bs.length = n ∧ (∀ i, 0 ≤ bs.getD i 0 ∧ bs.getD i 0 ≤ 255) ∧ (n = 0 ∨ ∃ b off, a = some ⟨b, off, none⟩ ∧ b < w.heap.size ∧ ∀ i, i < n → w.cell? ⟨b, off + i, none⟩ = some (.int .u8 (bs.getD i 0)))

/-- The cursor lies in the block bc, over the bytes (ca, cn, cc), at the place p. -/
def Cur (w : World) (bc : Nat) (ca : Option Addr) (cn cc p : Nat) : Prop :=
  ∃ s : Int, w.heap[bc]? = some (.cells #[.slice ca cn cc, .int .i64 (p : Int), .int .u64 s] 54 (0, 0))

theorem cur_step {w : World} {bc : Nat} {t : TypeId} {A B C : Value} (h : w.heap[bc]? = some (.cells #[A, B, C] t (0, 0))) (q : Nat) (v u : Value) :
    (((w.drewN q).setCell ⟨bc, 1, none⟩ v).setCell ⟨bc, 2, none⟩ u).heap[bc]? = some (.cells #[A, v, u] t (0, 0)) := by
  have h1 := heap_setCell_same (w.drewN q) bc 1 _ _ v h
  have h2 := heap_setCell_same _ bc 2 _ _ u h1
  simpa using h2

/-- Nothing but the block b has turned, and no block is new. -/
structure OnlyC (b : Nat) (w w' : World) : Prop where
  os : w'.os = w.os
  tape : w'.tape = w.tape
  output : w'.output = w.output
  size : w'.heap.size = w.heap.size
  block : ∀ k, k ≠ b → w'.heap[k]? = w.heap[k]?

theorem OnlyC.refl (b : Nat) (w : World) : OnlyC b w w := ⟨rfl, rfl, rfl, rfl, fun _ _ => rfl⟩
theorem OnlyC.drewN {b : Nat} {w w' : World} (h : OnlyC b w w') (q : Nat) : OnlyC b w (w'.drewN q) := ⟨h.os, h.tape, h.output, h.size, h.block⟩
theorem OnlyC.setCell {b : Nat} {w w' : World} (h : OnlyC b w w') (o : Nat) (v : Value) : OnlyC b w (w'.setCell ⟨b, o, none⟩ v) :=
  ⟨h.os, h.tape, h.output, by rw [← h.size]; simp [World.setCell], fun k hk => (Below.heap_setCell _ _ _ _ hk).trans (h.block k hk)⟩

/-- How next ends. -/
def NextEnd (bc : Nat) (ca : Option Addr) (cn cc p : Nat) (w : World) (e : Ending) (w' : World) : Prop :=
  ∃ r : Int, e = .returned (.int .i64 r) ∧ (0 ≤ r ∧ r ≤ 255) ∧ Cur w' bc ca cn cc (p + 1) ∧ OnlyC bc w w'

theorem and255 (n : Int) : 0 ≤ wrap64 (bits .and .u64 n 255) ∧ wrap64 (bits .and .u64 n 255) ≤ 255 := by
  have h255 : (BitVec.ofInt 64 255).toNat = 2 ^ 8 - 1 := by decide
  have key : (BitVec.ofInt 64 n &&& BitVec.ofInt 64 255).toNat = (n % ((2 ^ 64 : Nat) : Int)).toNat % 2 ^ 8 := by
    rw [BitVec.toNat_and, BitVec.toNat_ofInt, h255, Nat.and_two_pow_sub_one_eq_mod]
  have e : bits .and .u64 n 255 = (((n % ((2 ^ 64 : Nat) : Int)).toNat % 2 ^ 8 : Nat) : Int) := by
    show IntKind.u64.wrap ((BitVec.ofInt 64 n &&& BitVec.ofInt 64 255).toNat : Nat) = _
    rw [key, IntKind.wrap_u64]
    omega
  rw [e]
  have : (n % ((2 ^ 64 : Nat) : Int)).toNat % 2 ^ 8 < 256 := Nat.mod_lt _ (by decide)
  generalize (n % ((2 ^ 64 : Nat) : Int)).toNat % 2 ^ 8 = m at *
  rw [IntWalk.wrap64_in _ ⟨by omega, by omega⟩]
  omega

set_option maxHeartbeats 1000000 in
theorem next_in (bc : Nat) (ca : Option Addr) (cn cc p : Nat) (s x : Int) (w : World)
    (h : w.heap[bc]? = some (.cells #[.slice ca cn cc, .int .i64 (p : Int), .int .u64 s] 54 (0, 0))) (hp : p ≤ 1000000) (_hn : cn ≤ 1048576)
    (hlt : p < cn) (b off : Nat) (ha : ca = some ⟨b, off, none⟩) (hx : w.cell? ⟨b, off + p, none⟩ = some (.int .u8 x)) (hx0 : 0 ≤ x ∧ x ≤ 255) :
    Calls Try.prog 123 #[.pointer (some ⟨bc, 0, none⟩)] w fun e w' => NextEnd bc ca cn cc p w e w' := by
  subst ha
  have c0 : w.cell? ⟨bc, 0, none⟩ = some (.slice (some ⟨b, off, none⟩) cn cc) := cell_of_row w bc 0 _ _ _ h
  have c1 : w.cell? ⟨bc, 1, none⟩ = some (.int .i64 (p : Int)) := cell_of_row w bc 1 _ _ _ h
  have c2 : w.cell? ⟨bc, 2, none⟩ = some (.int .u64 s) := cell_of_row w bc 2 _ _ _ h
  have f1 := frozen_of_row w bc 1 _ _ h
  have f2 := frozen_of_row w bc 2 _ _ h
  have hi : (p : Int) < (cn : Int) := by omega
  have HS := hide (fun q v u => cur_step h q v u)
  clear h
  go_enter Try.func123, Try.ntmps123
  go_wp2
  go_quiet (fail)
  go_wp2
  go_quiet (fail)
  go_wp2
  go_quiet (fail)
  go_wp2
  go_ret
  exact ⟨x, rfl, hx0, ⟨_, HS.out _ _ _⟩, ((((OnlyC.refl bc w).drewN _).setCell 1 _).setCell 2 _).drewN _⟩

set_option maxHeartbeats 1000000 in
theorem next_out (bc : Nat) (ca : Option Addr) (cn cc p : Nat) (s : Int) (w : World)
    (h : w.heap[bc]? = some (.cells #[.slice ca cn cc, .int .i64 (p : Int), .int .u64 s] 54 (0, 0))) (hp : p ≤ 1000000) (_hn : cn ≤ 1048576)
    (hlt : ¬ p < cn) :
    Calls Try.prog 123 #[.pointer (some ⟨bc, 0, none⟩)] w fun e w' => NextEnd bc ca cn cc p w e w' := by
  have c0 : w.cell? ⟨bc, 0, none⟩ = some (.slice ca cn cc) := cell_of_row w bc 0 _ _ _ h
  have c1 : w.cell? ⟨bc, 1, none⟩ = some (.int .i64 (p : Int)) := cell_of_row w bc 1 _ _ _ h
  have c2 : w.cell? ⟨bc, 2, none⟩ = some (.int .u64 s) := cell_of_row w bc 2 _ _ _ h
  have f1 := frozen_of_row w bc 1 _ _ h
  have f2 := frozen_of_row w bc 2 _ _ h
  have hi : ¬ (p : Int) < (cn : Int) := by omega
  have HS := hide (fun q v u => cur_step h q v u)
  clear h
  go_enter Try.func123, Try.ntmps123
  go_wp2
  go_quiet (fail)
  go_wp2
  go_quiet (fail)
  go_wp2
  go_ret
  exact ⟨_, rfl, and255 _, ⟨_, HS.out _ _ _⟩, ((((OnlyC.refl bc w).drewN _).setCell 1 _).setCell 2 _).drewN _⟩

/-- The bytes lie in another block than the cursor's. -/
def Apart (ca : Option Addr) (cn bc : Nat) : Prop := 0 < cn → ∀ x, ca = some x → x.block ≠ bc

theorem RowB.keep {w w' : World} {ca : Option Addr} {cn bc : Nat} {bs : List Int} (h : RowB w ca cn bs) (ho : OnlyC bc w w') (hap : Apart ca cn bc) : RowB w' ca cn bs := by
  refine ⟨h.1, h.2.1, ?_⟩
  rcases h.2.2 with h0 | ⟨b, off, e, hl, hc⟩
  · exact .inl h0
  · refine .inr ⟨b, off, e, by rw [ho.size]; exact hl, fun i hi => ?_⟩
    rw [World.cell?_of_block (ho.block b (hap (by omega) _ e))]
    exact hc i hi

theorem next_any (bc : Nat) (ca : Option Addr) (cn cc p : Nat) (bs : List Int) (w : World) (h : Cur w bc ca cn cc p) (hr : RowB w ca cn bs) (hp : p ≤ 1000000) (hn : cn ≤ 1048576) :
    Calls Try.prog 123 #[.pointer (some ⟨bc, 0, none⟩)] w fun e w' => NextEnd bc ca cn cc p w e w' := by
  obtain ⟨s, hs⟩ := h
  by_cases hlt : p < cn
  · rcases hr.2.2 with h0 | ⟨b, off, e, hl, hc⟩
    · omega
    · exact next_in bc ca cn cc p s _ w hs hp hn hlt b off e (hc p hlt) (hr.2.1 p)
  · exact next_out bc ca cn cc p s w hs hp hn hlt

/-- How pick ends. -/
def PickEnd (m : Nat) (bc : Nat) (ca : Option Addr) (cn cc p : Nat) (w : World) (e : Ending) (w' : World) : Prop :=
  ∃ r : Nat, e = .returned (.int .i64 (r : Int)) ∧ r < m ∧ Cur w' bc ca cn cc (p + 1) ∧ OnlyC bc w w'

set_option maxHeartbeats 400000 in
theorem pick_any (m : Nat) (bc : Nat) (ca : Option Addr) (cn cc p : Nat) (bs : List Int) (w : World) (h : Cur w bc ca cn cc p) (hr : RowB w ca cn bs) (hp : p ≤ 1000000) (hn : cn ≤ 1048576) (h2 : 2 ≤ m) (h200 : m ≤ 200) :
    Calls Try.prog 71 #[.pointer (some ⟨bc, 0, none⟩), .int .i64 (m : Int)] w fun e w' => PickEnd m bc ca cn cc p w e w' := by
  have HN := hide (next_any bc ca cn cc p bs w h hr hp hn)
  clear h hr
  go_enter Try.func71, Try.ntmps71
  go_wp2_with fail
  refine HN.out.mono ?_
  rintro e w1 ⟨r, rfl, hr, hcur, ho⟩
  have HC := hide hcur
  have HO := hide ho
  clear hcur ho
  have hm : (2 : Int) ≤ (m : Int) := by omega
  have hm2 : (m : Int) ≤ 200 := by omega
  go_wp2
  go_ret
  have hmod : r % (m : Int) = ((r % (m : Int)).toNat : Int) := by have := Int.emod_nonneg r (show (m : Int) ≠ 0 by omega); omega
  have hlt : (r % (m : Int)).toNat < m := by have := Int.emod_lt_of_pos r (show (0 : Int) < (m : Int) by omega); omega
  have e : Ending.returned (Value.int .i64 (r % (m : Int))) = .returned (.int .i64 (((r % (m : Int)).toNat : Nat) : Int)) := by rw [← hmod]
  exact ⟨_, e, hlt, HC.out, HO.out⟩

set_option maxHeartbeats 400000 in
theorem one_any (m : Nat) (bc : Nat) (ca : Option Addr) (cn cc p : Nat) (bs : List Int) (w : World) (h : Cur w bc ca cn cc p) (hr : RowB w ca cn bs) (hp : p ≤ 1000000) (hn : cn ≤ 1048576) (h2 : 2 ≤ m) (h200 : m ≤ 200) :
    Calls Try.prog 72 #[.pointer (some ⟨bc, 0, none⟩), .int .i64 (m : Int)] w fun e w' => ∃ b : Bool, e = .returned (.bool b) ∧ Cur w' bc ca cn cc (p + 1) ∧ OnlyC bc w w' := by
  have HN := hide (pick_any m bc ca cn cc p bs w h hr hp hn h2 h200)
  clear h hr
  go_enter Try.func72, Try.ntmps72
  go_wp2_with fail
  refine HN.out.mono ?_
  rintro e w1 ⟨r, rfl, hr, hcur, ho⟩
  have HC := hide hcur
  have HO := hide ho
  clear hcur ho
  go_wp2
  go_ret
  exact ⟨_, rfl, HC.out, HO.out⟩

set_option maxHeartbeats 400000 in
theorem among_any (m c : Nat) (al : Option Addr) (ls : List Int) (bc : Nat) (ca : Option Addr) (cn cc p : Nat) (bs : List Int) (w : World) (h : Cur w bc ca cn cc p) (hr : RowB w ca cn bs) (hp : p ≤ 1000000) (hn : cn ≤ 1048576) (h2 : 2 ≤ m) (h200 : m ≤ 200)
    (hl : Row w al m ls) (hap : Apart al m bc) :
    Calls Try.prog 73 #[.pointer (some ⟨bc, 0, none⟩), .slice al m c] w fun e w' => ∃ x, e = .returned (.int .i64 x) ∧ x ∈ ls ∧ Cur w' bc ca cn cc (p + 1) ∧ OnlyC bc w w' := by
  have HN := hide (pick_any m bc ca cn cc p bs w h hr hp hn h2 h200)
  clear h hr
  go_enter Try.func73, Try.ntmps73
  go_wp2_with fail
  refine HN.out.mono ?_
  rintro e w1 ⟨r, rfl, hr, hcur, ho⟩
  obtain ⟨b1, o1, x, rfl, hl1, hc1, H1⟩ := hl.at hr
  have hc2 : w1.cell? ⟨b1, o1 + r, none⟩ = some (.int .i64 x) := (World.cell?_of_block (ho.block b1 (hap (by omega) _ rfl))).trans hc1
  have HC := hide hcur
  have HO := hide ho
  have hri : (r : Int) < (m : Int) := by omega
  clear hcur ho hl hc1 hap
  go_wp2
  go_ret
  exact ⟨x, rfl, List.mem_of_getElem? H1.out, HC.out, HO.out⟩

/-- Behind a call that moves the cursor in bc and makes memory: no other block below B has turned. -/
structure Kept (bc B : Nat) (w w' : World) : Prop where
  os : w'.os = w.os
  tape : w'.tape = w.tape
  output : w'.output = w.output
  size : w.heap.size ≤ w'.heap.size
  block : ∀ k, k < B → k ≠ bc → w'.heap[k]? = w.heap[k]?

theorem Kept.refl (bc B : Nat) (w : World) : Kept bc B w w := ⟨rfl, rfl, rfl, Nat.le_refl _, fun _ _ _ => rfl⟩
theorem Kept.trans {bc B : Nat} {a b c : World} (h : Kept bc B a b) (k : Kept bc B b c) : Kept bc B a c :=
  ⟨k.os.trans h.os, k.tape.trans h.tape, k.output.trans h.output, Nat.le_trans h.size k.size, fun i hi hne => (k.block i hi hne).trans (h.block i hi hne)⟩
theorem Kept.of_only {bc B : Nat} {w w' : World} (h : OnlyC bc w w') : Kept bc B w w' := ⟨h.os, h.tape, h.output, Nat.le_of_eq h.size.symm, fun k _ hne => h.block k hne⟩
theorem Kept.of_below {bc B : Nat} {w w' : World} (h : Below B w w') : Kept bc B w w' := ⟨h.os, h.tape, h.output, h.size, fun k hk _ => h.block k hk⟩
theorem Kept.mono {bc B C : Nat} {w w' : World} (h : Kept bc B w w') (hC : C ≤ B) : Kept bc C w w' := ⟨h.os, h.tape, h.output, h.size, fun k hk hne => h.block k (by omega) hne⟩
theorem Kept.below {bc B : Nat} {w w' : World} (h : Kept bc B w w') (hB : B ≤ bc) : Below B w w' := ⟨h.os, h.tape, h.output, h.size, fun k hk => h.block k hk (by omega)⟩

theorem Cur.lt {w : World} {bc : Nat} {ca : Option Addr} {cn cc p : Nat} (h : Cur w bc ca cn cc p) : bc < w.heap.size := by
  obtain ⟨s, hs⟩ := h; exact (Array.getElem?_eq_some_iff.mp hs).1
theorem Cur.below {w w' : World} {bc B : Nat} {ca : Option Addr} {cn cc p : Nat} (h : Cur w bc ca cn cc p) (hb : Below B w w') (hB : bc < B) : Cur w' bc ca cn cc p := by
  obtain ⟨s, hs⟩ := h; exact ⟨s, (hb.block bc hB).trans hs⟩

theorem RowB.kept {w w' : World} {ca : Option Addr} {cn bc : Nat} {bs : List Int} (h : RowB w ca cn bs) (ho : Kept bc w.heap.size w w') (hap : Apart ca cn bc) : RowB w' ca cn bs := by
  refine ⟨h.1, h.2.1, ?_⟩
  rcases h.2.2 with h0 | ⟨b, off, e, hl, hc⟩
  · exact .inl h0
  · refine .inr ⟨b, off, e, Nat.lt_of_lt_of_le hl ho.size, fun i hi => ?_⟩
    rw [World.cell?_of_block (ho.block b hl (hap (by omega) _ e))]
    exact hc i hi

theorem Row.kept {w w' : World} {a : Option Addr} {n bc : Nat} {xs : List Int} (h : Row w a n xs) (ho : Kept bc w.heap.size w w') (hap : Apart a n bc) : Row w' a n xs := by
  refine ⟨h.1, ?_⟩
  rcases h.2 with h0 | ⟨b, off, e, hl, hc⟩
  · exact .inl h0
  · refine .inr ⟨b, off, e, Nat.lt_of_lt_of_le hl ho.size, fun i hi => ?_⟩
    rw [World.cell?_of_block (ho.block b hl (hap (by omega) _ e))]
    exact hc i hi

end Go.Proofs.Ytajcmamapmeglaa


/- What the laws' own sameInts, big and numberOf answer. -/
namespace Go.Proofs.Ytajcmamapmeglaa
open Go.RowKit
set_option maxRecDepth 10000

set_option maxHeartbeats 400000 in
theorem sameI_any (a b : Option Addr) (n m ca cb : Nat) (xs ys : List Int) (w : World) (ha : Row w a n xs) (hb : Row w b m ys) (hn : n ≤ 1048576) :
    Calls Try.prog 18 #[.slice a n ca, .slice b m cb] w fun e w' => e = .returned (.bool (sameB xs ys)) ∧ ∃ q, w' = w.drewN q := by
  by_cases hnm : n = m
  · subst hnm
    have hne : ((n : Int) != (n : Int)) = false := by simp
    go_enter Try.func18, Try.ntmps18
    go_wp2
    clear hne
    go_loopw [13] (fun i wr => ∃ k : Nat, k ≤ n ∧ i = .int .i64 k ∧ Upto xs ys k ∧ ∃ q, wr = w.drewN q) (fun i _ => n - (intOf i).toNat)
    case atStart => exact ⟨0, Nat.zero_le _, rfl, rfl, 0, rfl⟩
    case round =>
      obtain ⟨k, hk, rfl, hu, q, rfl⟩ := hrel
      by_cases hlt : k < n
      · obtain ⟨b1, o1, x, rfl, hl1, hc1, H1⟩ := ha.at hlt
        obtain ⟨b2, o2, y, rfl, hl2, hc2, H2⟩ := hb.at hlt
        have hi1 : ((k : Int)) < ((n : Int)) := by omega
        clear ha hb
        by_cases he : x = y
        · subst he
          have HU := hu.step H1 H2
          clear hu H1 H2
          go_wp2
          go_quiet (fail)
          go_wp2
          go_roundw
          case rel => exact ⟨k + 1, by omega, by go_num, HU, _, rfl⟩
          case measure => simp [intOf]; omega
        · have HS := sameB_ne H1 H2 he
          have hd : (x != y) = true := by simp [he]
          clear hu H1 H2 he
          go_wp2
          go_quiet (fail)
          go_wp2
          go_ret
          exact ⟨ret_bool HS.symm, _, drewN_two w _ _⟩
      · have hx := ha.1
        have hy := hb.1
        have HS := hu.done (by omega) (by omega)
        go_wp2
        go_ret
        exact ⟨ret_bool HS.symm, _, rfl⟩
  · have hx := ha.1
    have hy := hb.1
    have HS := sameB_len (show xs.length ≠ ys.length by omega)
    have hne : ((n : Int) != (m : Int)) = true := by simp; omega
    clear ha hb hx hy
    go_enter Try.func18, Try.ntmps18
    go_wp2
    go_ret
    exact ⟨ret_bool HS.symm, 0, rfl⟩


def BigEnd (n m : Nat) (w : World) (e : Ending) (w' : World) : Prop := ∃ r : Bool, e = .returned (.bool r) ∧ Hid (r = false → n ≤ 1048576 ∧ m ≤ 1048576) ∧ w' = w

set_option maxHeartbeats 400000 in
theorem big_any (a b : Option Addr) (n m ca cb : Nat) (w : World) (hn : n ≤ 9223372036854775807) (hm : m ≤ 9223372036854775807) :
    Calls Try.prog 7 #[.slice a n ca, .slice b m cb] w fun e w' => BigEnd n m w e w' := by
  by_cases h1 : 1048576 < n
  · go_enter Try.func7, Try.ntmps7
    go_wp2
    go_ret
    exact ⟨true, rfl, fun h => by simp at h, rfl⟩
  · have h1' : (n : Int) ≤ 1048576 := by omega
    by_cases h2 : (1048576 : Int) - (n : Int) < (m : Int)
    · go_enter Try.func7, Try.ntmps7
      go_wp2
      go_ret
      exact ⟨true, rfl, fun h => by simp at h, rfl⟩
    · go_enter Try.func7, Try.ntmps7
      go_wp2
      go_ret
      exact ⟨_, rfl, fun _ => by omega, rfl⟩

/-- Some slices read as some lists. -/
def Rs (v : World) (l : List (Option Addr × Nat × List Int)) : Prop := ∀ t ∈ l, Row v t.1 t.2.1 t.2.2

theorem Rs.nil (v : World) : Rs v [] := by intro t ht; simp at ht
theorem Rs.cons {v : World} {a : Option Addr} {n : Nat} {xs : List Int} {l : List (Option Addr × Nat × List Int)} (h : Row v a n xs) (hl : Rs v l) : Rs v ((a, n, xs) :: l) := by
  intro t ht
  rcases List.mem_cons.mp ht with rfl | ht
  · exact h
  · exact hl t ht
theorem Rs.below {v v' : World} {l : List (Option Addr × Nat × List Int)} (h : Rs v l) (hb : Below v.heap.size v v') : Rs v' l := fun t ht => (h t ht).below hb
theorem Rs.at {v : World} {l : List (Option Addr × Nat × List Int)} (h : Rs v l) (a : Option Addr) (n : Nat) (xs : List Int) (hm : (a, n, xs) ∈ l) : Row v a n xs := h _ hm


/-- How numberOf ends. -/
def NumEnd (w : World) (e : Ending) (w' : World) : Prop := ∃ z : Nat, e = .returned (.int .i64 (z : Int)) ∧ z < 1000003 ∧ w' = w

set_option maxHeartbeats 400000 in
theorem number_any (a : Option Addr) (n c : Nat) (bs : List Int) (w : World) (h : RowB w a n bs) (hn : n ≤ 1048576) :
    Calls Try.prog 13 #[.slice a n c] w fun e w' => NumEnd w e w' := by
  have HR := hide h
  clear h
  go_enter Try.func13, Try.ntmps13
  go_wp2_with fail
  go_loop [3, 8] (fun m i => ∃ k z : Nat, k ≤ n ∧ i = .int .i64 k ∧ m = .int .i64 (z : Int) ∧ z < 1000003) (fun _ i => n - (intOf i).toNat)
  case atStart => exact ⟨0, 0, Nat.zero_le _, rfl, rfl, by omega⟩
  case round =>
    obtain ⟨k, z, hk, rfl, rfl, hz⟩ := hrel
    by_cases hlt : k < n
    · have hi1 : (k : Int) < (n : Int) := by omega
      rcases HR.out.2.2 with h0 | ⟨b, off, rfl, hl, hc⟩
      · omega
      have hck := hc k hlt
      have hx := HR.out.2.1 k
      generalize bs.getD k 0 = x at hck hx
      clear hc HR
      have hz1 : (0 : Int) ≤ (z : Int) ∧ (z : Int) < 1000003 := by omega
      go_wp2_with fail
      go_round
      case rel => exact ⟨k + 1, ((31 * (z : Int) + x) % 1000003).toNat, by omega, by go_num, by have := Int.emod_nonneg (31 * (z : Int) + x) (show (1000003 : Int) ≠ 0 by omega); congr 1; omega, by have := Int.emod_lt_of_pos (31 * (z : Int) + x) (show (0 : Int) < 1000003 by omega); omega⟩
      case measure => simp [intOf]; omega
    · go_wp2_with fail
      go_ret
      exact ⟨z, rfl, hz, rfl⟩
end Go.Proofs.Ytajcmamapmeglaa


/- The laws' own has and within. -/
namespace Go.Proofs.Ytajcmamapmeglaa
open Go.RowKit
set_option maxRecDepth 10000

set_option maxHeartbeats 400000 in
theorem hasW_any (a : Option Addr) (n ca : Nat) (xs : List Int) (y : Int) (w : World) (ha : Row w a n xs) (hn : n ≤ 1048576) :
    Calls Try.prog 84 #[.slice a n ca, .int .i64 y] w fun e w' => e = .returned (.bool (hasB xs y)) ∧ w' = w := by
  go_enter Try.func84, Try.ntmps84
  go_wp2_with fail
  go_loop [9] (fun i => ∃ k : Nat, k ≤ n ∧ i = .int .i64 k ∧ Hid (hasB (xs.take k) y = false)) (fun i => n - (intOf i).toNat)
  case atStart => exact ⟨0, Nat.zero_le _, rfl, rfl⟩
  case round =>
    obtain ⟨k, hk, rfl, hu⟩ := hrel
    by_cases hlt : k < n
    · obtain ⟨b1, o1, x, rfl, hl1, hc1, H1⟩ := ha.at hlt
      clear ha
      by_cases he : x = y
      · subst he
        have HY := hide (hasB_yes H1.out)
        have hd : (x == x) = true := by simp
        clear H1 hu
        go_wp2_with fail
        go_ret
        exact ⟨ret_bool HY.out.symm, rfl⟩
      · have HU := hide (hasB_take hu.out H1.out he)
        have hd : (x == y) = false := by simp [he]
        clear H1 hu he
        go_wp2_with fail
        go_round
        case rel => exact ⟨k + 1, by omega, by go_num, HU⟩
        case measure => simp [intOf]; omega
    · have hk' : k = n := by omega
      subst hk'
      have HA : Hid (hasB xs y = false) := by have := hu.out; rwa [List.take_of_length_le (by have := ha.1; omega)] at this
      go_wp2_with fail
      go_ret
      exact ⟨ret_bool HA.out.symm, rfl⟩

/-- All of some lie in others. -/
def withB (xs ys : List Int) : Bool := xs.all fun x => hasB ys x

theorem withB_no {xs ys : List Int} {k : Nat} {x : Int} (h : xs[k]? = some x) (hn : hasB ys x = false) : withB xs ys = false := by
  cases e : withB xs ys
  · rfl
  · unfold withB at e
    rw [List.all_eq_true] at e
    have := e x (List.mem_of_getElem? h)
    rw [hn] at this; cases this

theorem withB_take {xs ys : List Int} {k : Nat} {x : Int} (hu : withB (xs.take k) ys = true) (h : xs[k]? = some x) (hy : hasB ys x = true) : withB (xs.take (k + 1)) ys = true := by
  have hk : k < xs.length := (List.getElem?_eq_some_iff.mp h).1
  have e : xs[k] = x := (List.getElem?_eq_some_iff.mp h).2
  unfold withB at *
  rw [List.take_succ_eq_append_getElem hk, List.all_append, hu, e]
  simp [hy]

set_option maxHeartbeats 400000 in
theorem within_any (a b : Option Addr) (n m ca cb : Nat) (xs ys : List Int) (w : World) (ha : Row w a n xs) (hb : Row w b m ys) (hn : n ≤ 1048576) (hm : m ≤ 1048576) :
    Calls Try.prog 29 #[.slice a n ca, .slice b m cb] w fun e w' => e = .returned (.bool (withB xs ys)) ∧ w' = w := by
  go_enter Try.func29, Try.ntmps29
  go_wp2_with fail
  go_loop [9] (fun i => ∃ k : Nat, k ≤ n ∧ i = .int .i64 k ∧ Hid (withB (xs.take k) ys = true)) (fun i => n - (intOf i).toNat)
  case atStart => exact ⟨0, Nat.zero_le _, rfl, rfl⟩
  case round =>
    obtain ⟨k, hk, rfl, hu⟩ := hrel
    by_cases hlt : k < n
    · obtain ⟨b1, o1, x, rfl, hl1, hc1, H1⟩ := ha.at hlt
      have HH := hide (hasW_any b m cb ys x w hb hm)
      clear ha
      cases he : hasB ys x
      · have HN := hide (withB_no H1.out he)
        rw [he] at HH
        clear H1 hu he
        go_wp2_with fail
        refine HH.out.mono ?_
        rintro e w' ⟨rfl, rfl⟩
        go_wp2_with fail
        go_ret
        exact ⟨ret_bool HN.out.symm, rfl⟩
      · have HU := hide (withB_take hu.out H1.out he)
        rw [he] at HH
        clear H1 hu he
        go_wp2_with fail
        refine HH.out.mono ?_
        rintro e w' ⟨rfl, rfl⟩
        go_wp2_with fail
        go_round
        case rel => exact ⟨k + 1, by omega, by go_num, HU⟩
        case measure => simp [intOf]; omega
    · have hk' : k = n := by omega
      subst hk'
      have HA : Hid (withB xs ys = true) := by have := hu.out; rwa [List.take_of_length_le (by have := ha.1; omega)] at this
      go_wp2_with fail
      go_ret
      exact ⟨ret_bool HA.out.symm, rfl⟩
end Go.Proofs.Ytajcmamapmeglaa


/- The program's fire and Fire, for every net, mark and number in memory. -/
namespace Go.Proofs.Ytajcmamapmeglaa
open Go.RowKit
set_option maxRecDepth 10000

/-- Whether a step of the net fires, by sets. -/
def fireB (n : Nat) (L : List (List Int)) (f : Nat → Int) (t : Int) : Bool :=
  inB t 0 ((n : Int) - 1) && subB (maskL (inOf L t)) (maskL (posL f 16)) && capB (maskL (inOf L t)) (maskL (outOf L t)) (maskL (resOf L t)) f 16

/-- How fire ends. -/
def FiEnd (n : Nat) (L : List (List Int)) (f : Nat → Int) (t : Int) (w : World) (e : Ending) (w' : World) : Prop :=
  ∃ h, e = .returned (.tuple #[.agg (tokF h), .bool (fireB n L f t)]) ∧ Hid (fireB n L f t = true → h = partF (maskL (inOf L t)) (maskL (outOf L t)) (maskL (resOf L t)) f 16) ∧ Below w.heap.size w w'

theorem fiEnd_no {n : Nat} {L : List (List Int)} {f : Nat → Int} {t : Int} {w w' : World} (h : fireB n L f t = false) (hb : Below w.heap.size w w') : FiEnd n L f t w (.returned (.tuple #[.agg #[.int .u8 0, .int .u8 0, .int .u8 0, .int .u8 0, .int .u8 0, .int .u8 0, .int .u8 0, .int .u8 0, .int .u8 0, .int .u8 0, .int .u8 0, .int .u8 0, .int .u8 0, .int .u8 0, .int .u8 0, .int .u8 0], .bool false])) w' :=
  ⟨fun _ => 0, by rw [h, zeros_tok], by rw [h]; intro e; simp at e, hb⟩

theorem PartS.at' {w : World} {B n k : Nat} {L : List (List Int)} (h : PartS w B (3 * n) (3 * n) L) (hk : k < n) :
    w.cell? ⟨B, k * 3, none⟩ = some (.int .u16 (maskL (L.getD (3 * k) []) : Int)) ∧ w.cell? ⟨B, k * 3 + 1, none⟩ = some (.int .u16 (maskL (L.getD (3 * k + 1) []) : Int)) ∧ w.cell? ⟨B, k * 3 + 2, none⟩ = some (.int .u16 (maskL (L.getD (3 * k + 2) []) : Int)) := by
  obtain ⟨C, h1, h2, h3⟩ := h
  refine ⟨?_, ?_, ?_⟩
  · rw [cell_of_row w B _ C _ _ h1, Nat.mul_comm]; exact h3 _ (by omega)
  · rw [cell_of_row w B _ C _ _ h1, Nat.mul_comm]; exact h3 _ (by omega)
  · rw [cell_of_row w B _ C _ _ h1, Nat.mul_comm]; exact h3 _ (by omega)

theorem mask16' {p : Int} {xs : List Int} (h : riseB xs 0 (p - 1) = true) (hp : 1 ≤ p ∧ p ≤ 16) : maskL xs < 2 ^ 16 := by
  refine maskL_lt _ fun x hx => ?_
  have := riseB_mem h x hx
  omega

theorem run_callf {P : Program} {o : Oper} {a : Act} {w : World} (f : FuncId) (fn : Func) (xs : Array Operand) (ts : Array TypeId) (hop : o.op = Op.call { callee := Callee.value (Operand.func f), args := xs, argTypes := ts })
    (hfn : P.funcs[f]? = some fn) (hnm : (fn.name == "runtime.NumGoroutine") = false) (hbd : fn.body.isNone = false) : (execOp a.eval o).run P w = .ok (.enter f (xs.map a.eval)) w := by
  have hnm' : ¬ fn.name = "runtime.NumGoroutine" := by simpa using hnm
  have hbd' : ¬ fn.body = none := by intro e; rw [e] at hbd; simp at hbd
  unfold execOp
  simp only [hop]
  simp [resolve, invoke, go_sem, Act.eval, callFunc, hfn, hnm', hbd']

theorem map1 (g : Operand → Value) (x : Operand) (v : Value) (h : g x = v) : (#[x] : Array Operand).map g = #[v] := by simp [h]
theorem map2 (g : Operand → Value) (x y : Operand) (v u : Value) (h : g x = v) (h2 : g y = u) : (#[x, y] : Array Operand).map g = #[v, u] := by simp [h, h2]

theorem cons_call {P : Program} {md : Region.Mode} {ops : Array Oper} {Q : Exit → Act → World → Prop} {fuel : Nat} {listed : Array Bool} {a : Act} {w : World} {i : Nat} {o : Oper} {rs : List Nat} (ho : ops[i]? = some o)
    (hgd : o.guard = none) (d : Option Tmp) (hd : o.dst = d) (f : FuncId) (fn : Func) (xs : Array Operand) (ts : Array TypeId) (hop : o.op = Op.call { callee := Callee.value (Operand.func f), args := xs, argTypes := ts })
    (hfn : P.funcs[f]? = some fn) (hnm : (fn.name == "runtime.NumGoroutine") = false) (hbd : fn.body.isNone = false) (args : Array Value) (hargs : xs.map a.eval = args) (v : Value) (w' : World) (hc : Calls P f args w fun e w'' => e = .returned v ∧ w'' = w')
    (h : wpAny P md ops Q fuel (listed.setIfInBounds i true) (a.put d v) w')
    (hs : AllReady P md ops Q fuel listed a w rs) : AllReady P md ops Q fuel listed a w (i :: rs) := by
  refine AllReady.cons ho (fun K hK => ?_) hs
  rw [if_pos (by simp [Region.wanted, hgd])]
  unfold Oper.wp
  rw [run_callf f fn xs ts hop hfn hnm hbd, hargs, Oper.upon_enter]
  refine hc.mono fun e w'' hh => ?_
  obtain ⟨rfl, rfl⟩ := hh
  refine hK _ _ ?_
  rw [hd]
  exact h

theorem cons_not {P : Program} {md : Region.Mode} {ops : Array Oper} {Q : Exit → Act → World → Prop} {fuel : Nat} {listed : Array Bool} {a : Act} {w : World} {i : Nat} {o : Oper} {rs : List Nat} (ho : ops[i]? = some o)
    (hgd : o.guard = none) (d : Option Tmp) (hd : o.dst = d) (ty : TypeId) (x : Operand) (hop : o.op = .unOp .not ty x) (b : Bool) (hx : a.eval x = .bool b)
    (h : wpAny P md ops Q fuel (listed.setIfInBounds i true) (a.put d (.bool (!b))) w)
    (hs : AllReady P md ops Q fuel listed a w rs) : AllReady P md ops Q fuel listed a w (i :: rs) := by
  refine AllReady.cons ho (fun K hK => ?_) hs
  rw [if_pos (by simp [Region.wanted, hgd])]
  unfold Oper.wp
  have hr : (execOp a.eval o).run P w = .ok (.value (.bool (!b))) w := by
    unfold execOp
    simp only [hop, hx]
    rfl
  rw [hr, Oper.upon_value]
  refine hK _ _ ?_
  rw [hd]
  exact h

set_option maxHeartbeats 400000 in
theorem lacks_any (p t : Int) (a : Option Addr) (n c : Nat) (w : World) :
    Calls Try.prog 64 #[.agg #[.int .i64 p, .slice a n c], .int .i64 t] w fun e w' => e = .returned (.bool (!inB t 0 ((n : Int) - 1))) ∧ w' = w.alloc (.cells #[.int .i64 p, .slice a n c] 59) := by
  by_cases h0 : t < 0
  · have HB := hide (show (!inB t 0 ((n : Int) - 1)) = true by simp [inB]; omega)
    go_enter Try.func64, Try.ntmps64
    go_wp2_with fail
    go_ret
    exact ⟨ret_bool HB.out.symm, rfl⟩
  by_cases h1 : (n : Int) ≤ t
  · have HB := hide (show (!inB t 0 ((n : Int) - 1)) = true by simp [inB]; omega)
    go_enter Try.func64, Try.ntmps64
    go_wp2_with fail
    go_ret
    exact ⟨ret_bool HB.out.symm, rfl⟩
  · have HB := hide (show (!inB t 0 ((n : Int) - 1)) = false by simp [inB]; omega)
    go_enter Try.func64, Try.ntmps64
    go_wp2_with fail
    go_ret
    exact ⟨ret_bool HB.out.symm, rfl⟩

set_option maxHeartbeats 2000000 in
theorem fireI_any (p t : Int) (B n c : Nat) (L : List (List Int)) (f : Nat → Int) (w : World) (hps : PartS w B (3 * n) (3 * n) L) (hnet : netOk p n L = true) (hp : 1 ≤ p ∧ p ≤ 16) (hf : ∀ i, 0 ≤ f i ∧ f i ≤ 50) :
    Calls Try.prog 65 #[.agg #[.int .i64 p, .slice (some ⟨B, 0, none⟩) n c], .agg (tokF f), .int .i64 t] w fun e w' => FiEnd n L f t w e w' := by
  have hn24 := netOkN hnet
  have HF := hide hf
  have HPS := hide hps
  have HNET := hide hnet
  clear hf hps hnet
  have hAl := ((below_al w (.cells #[.int .i64 p, .slice (some ⟨B, 0, none⟩) n c] 59)).alloc (by simp) (.cells (tokF f) 74)).alloc (by simp; omega) (.cells #[.int .u8 0, .int .u8 0, .int .u8 0, .int .u8 0, .int .u8 0, .int .u8 0, .int .u8 0, .int .u8 0, .int .u8 0, .int .u8 0, .int .u8 0, .int .u8 0, .int .u8 0, .int .u8 0, .int .u8 0, .int .u8 0] 74)
  have P0 : ((((w.alloc (.cells #[.int .i64 p, .slice (some ⟨B, 0, none⟩) n c] 59)).alloc (.cells (tokF f) 74)).alloc (.cells #[.int .u8 0, .int .u8 0, .int .u8 0, .int .u8 0, .int .u8 0, .int .u8 0, .int .u8 0, .int .u8 0, .int .u8 0, .int .u8 0, .int .u8 0, .int .u8 0, .int .u8 0, .int .u8 0, .int .u8 0, .int .u8 0] 74))).heap[w.heap.size]? = some (.cells #[.int .i64 p, .slice (some ⟨B, 0, none⟩) n c] 59 (0, 0)) := by
    rw [heap_al_old _ _ _ (by simp; omega), heap_al_old _ _ _ (by simp)]; exact heap_alloc_new _ _
  have P1 : ((((w.alloc (.cells #[.int .i64 p, .slice (some ⟨B, 0, none⟩) n c] 59)).alloc (.cells (tokF f) 74)).alloc (.cells #[.int .u8 0, .int .u8 0, .int .u8 0, .int .u8 0, .int .u8 0, .int .u8 0, .int .u8 0, .int .u8 0, .int .u8 0, .int .u8 0, .int .u8 0, .int .u8 0, .int .u8 0, .int .u8 0, .int .u8 0, .int .u8 0] 74))).heap[w.heap.size + 1]? = some (.cells (tokF f) 74 (0, 0)) := by
    rw [heap_al_old _ _ _ (by simp)]
    have := heap_alloc_new (w.alloc (.cells #[.int .i64 p, .slice (some ⟨B, 0, none⟩) n c] 59)) (.cells (tokF f) 74)
    simpa using this
  have P2 : ((((w.alloc (.cells #[.int .i64 p, .slice (some ⟨B, 0, none⟩) n c] 59)).alloc (.cells (tokF f) 74)).alloc (.cells #[.int .u8 0, .int .u8 0, .int .u8 0, .int .u8 0, .int .u8 0, .int .u8 0, .int .u8 0, .int .u8 0, .int .u8 0, .int .u8 0, .int .u8 0, .int .u8 0, .int .u8 0, .int .u8 0, .int .u8 0, .int .u8 0] 74))).heap[w.heap.size + 1 + 1]? = some (.cells #[.int .u8 0, .int .u8 0, .int .u8 0, .int .u8 0, .int .u8 0, .int .u8 0, .int .u8 0, .int .u8 0, .int .u8 0, .int .u8 0, .int .u8 0, .int .u8 0, .int .u8 0, .int .u8 0, .int .u8 0, .int .u8 0] 74 (0, 0)) := by
    have := heap_alloc_new ((w.alloc (.cells #[.int .i64 p, .slice (some ⟨B, 0, none⟩) n c] 59)).alloc (.cells (tokF f) 74)) (.cells #[.int .u8 0, .int .u8 0, .int .u8 0, .int .u8 0, .int .u8 0, .int .u8 0, .int .u8 0, .int .u8 0, .int .u8 0, .int .u8 0, .int .u8 0, .int .u8 0, .int .u8 0, .int .u8 0, .int .u8 0, .int .u8 0] 74)
    simpa using this
  have hA0 := below_al (((w.alloc (.cells #[.int .i64 p, .slice (some ⟨B, 0, none⟩) n c] 59)).alloc (.cells (tokF f) 74)).alloc (.cells #[.int .u8 0, .int .u8 0, .int .u8 0, .int .u8 0, .int .u8 0, .int .u8 0, .int .u8 0, .int .u8 0, .int .u8 0, .int .u8 0, .int .u8 0, .int .u8 0, .int .u8 0, .int .u8 0, .int .u8 0, .int .u8 0] 74)) (.cells #[.int .i64 p, .slice (some ⟨B, 0, none⟩) n c] 59)
  have P0' := keep P0 hA0
  have P1' := keep P1 hA0
  have P2' := keep P2 hA0
  have hsz : (((((w.alloc (.cells #[.int .i64 p, .slice (some ⟨B, 0, none⟩) n c] 59)).alloc (.cells (tokF f) 74)).alloc (.cells #[.int .u8 0, .int .u8 0, .int .u8 0, .int .u8 0, .int .u8 0, .int .u8 0, .int .u8 0, .int .u8 0, .int .u8 0, .int .u8 0, .int .u8 0, .int .u8 0, .int .u8 0, .int .u8 0, .int .u8 0, .int .u8 0] 74))).alloc (.cells #[.int .i64 p, .slice (some ⟨B, 0, none⟩) n c] 59)).heap.size = w.heap.size + 1 + 1 + 1 + 1 := by simp
  have HB0 := hide (hAl.trans (hA0.mono hAl.size))
  have HLK := hide (lacks_any p t (some ⟨B, 0, none⟩) n c (((w.alloc (.cells #[.int .i64 p, .slice (some ⟨B, 0, none⟩) n c] 59)).alloc (.cells (tokF f) 74)).alloc (.cells #[.int .u8 0, .int .u8 0, .int .u8 0, .int .u8 0, .int .u8 0, .int .u8 0, .int .u8 0, .int .u8 0, .int .u8 0, .int .u8 0, .int .u8 0, .int .u8 0, .int .u8 0, .int .u8 0, .int .u8 0, .int .u8 0] 74)))
  have HPS' := hide (HPS.out.grow (hAl.trans (hA0.mono hAl.size)))
  clear hAl hA0 P0 P1 P2
  obtain ⟨v3, hV3⟩ : ∃ v3, Hid (((((w.alloc (.cells #[.int .i64 p, .slice (some ⟨B, 0, none⟩) n c] 59)).alloc (.cells (tokF f) 74)).alloc (.cells #[.int .u8 0, .int .u8 0, .int .u8 0, .int .u8 0, .int .u8 0, .int .u8 0, .int .u8 0, .int .u8 0, .int .u8 0, .int .u8 0, .int .u8 0, .int .u8 0, .int .u8 0, .int .u8 0, .int .u8 0, .int .u8 0] 74))).alloc (.cells #[.int .i64 p, .slice (some ⟨B, 0, none⟩) n c] 59) = v3) := ⟨_, rfl⟩
  rw [hV3.out] at P0' P1' P2' hsz HB0 HPS' HLK
  have hv3 := hsz
  clear hsz hV3
  by_cases g2 : inB t 0 ((n : Int) - 1) = true
  rotate_left
  · have hN := hide (fiEnd_no (w := w) (show fireB n L f t = false by unfold fireB; simp [g2]) (below_setRow HB0.out (w.heap.size + 1 + 1) (by omega) #[.int .u8 0, .int .u8 0, .int .u8 0, .int .u8 0, .int .u8 0, .int .u8 0, .int .u8 0, .int .u8 0, .int .u8 0, .int .u8 0, .int .u8 0, .int .u8 0, .int .u8 0, .int .u8 0, .int .u8 0, .int .u8 0]))
    have g2' : inB t 0 ((n : Int) - 1) = false := by simpa using g2
    rw [g2'] at HLK
    clear g2 g2' P0' P1'
    go_enter Try.func65, Try.ntmps65
    go_wp2_with fail
    refine HLK.out.mono ?_
    rintro e w' ⟨rfl, rfl⟩
    go_wp2_with (refine wpList_store_row rfl 74 (.tmp 6) _ rfl _ _ rfl rfl 74 _ P2' Try.size74 rfl lit_one ?_)
    refine bodyPost_ret (v := .tuple #[.agg #[.int .u8 0, .int .u8 0, .int .u8 0, .int .u8 0, .int .u8 0, .int .u8 0, .int .u8 0, .int .u8 0, .int .u8 0, .int .u8 0, .int .u8 0, .int .u8 0, .int .u8 0, .int .u8 0, .int .u8 0, .int .u8 0], .bool false]) ?_ rfl hN.out
    exact after_res Try.results65 _ _ (w.heap.size + 1 + 1) _ (.bool false) rfl rfl rfl (setRow_same P2' _)
  have ht : 0 ≤ t ∧ t ≤ (n : Int) - 1 := by simpa [inB] using g2
  have HG2 := hide g2
  obtain ⟨k, rfl⟩ : ∃ k : Nat, t = (k : Int) := ⟨t.toNat, by omega⟩
  have hkn : k < n := by omega
  have hkn' : (k : Int) < (n : Int) := by omega
  have hk0 : (0 : Int) ≤ (k : Int) := by omega
  have htri := tri_rise (triOkOf HNET.out hkn)
  obtain ⟨x0, hx0⟩ : ∃ x, Hid (L.getD (3 * k) [] = x) := ⟨_, rfl⟩
  obtain ⟨x1, hx1⟩ : ∃ x, Hid (L.getD (3 * k + 1) [] = x) := ⟨_, rfl⟩
  obtain ⟨x2, hx2⟩ : ∃ x, Hid (L.getD (3 * k + 2) [] = x) := ⟨_, rfl⟩
  obtain ⟨hc0, hc1, hc2⟩ := HPS'.out.at' hkn
  obtain ⟨hn0, hn1⟩ := cells2 P0'
  rw [hx0.out] at hc0 htri
  rw [hx1.out] at hc1 htri
  rw [hx2.out] at hc2 htri
  have HS0 := hide (mask16' htri.1 hp)
  have HS1 := hide (mask16' htri.2.1 hp)
  have HS2 := hide (mask16' htri.2.2 hp)
  have HI0 : Hid (inOf L (k : Int) = x0) := hx0.out
  have HI1 : Hid (outOf L (k : Int) = x1) := hx1.out
  have HI2 : Hid (resOf L (k : Int) = x2) := hx2.out
  clear htri hx0 hx1 hx2 g2 ht
  obtain ⟨s0, hs0⟩ : ∃ s, Hid (maskL x0 = s) := ⟨_, rfl⟩
  obtain ⟨s1, hs1⟩ : ∃ s, Hid (maskL x1 = s) := ⟨_, rfl⟩
  obtain ⟨s2, hs2⟩ : ∃ s, Hid (maskL x2 = s) := ⟨_, rfl⟩
  rw [hs0.out] at hc0 HS0
  rw [hs1.out] at hc1 HS1
  rw [hs2.out] at hc2 HS2
  have HFB : Hid (fireB n L f (k : Int) = (subB s0 (maskL (posL f 16)) && capB s0 s1 s2 f 16)) := by show _ = _; unfold fireB; rw [HG2.out, HI0.out, HI1.out, HI2.out, hs0.out, hs1.out, hs2.out]; rfl
  have HPF : Hid (partF (maskL (inOf L (k : Int))) (maskL (outOf L (k : Int))) (maskL (resOf L (k : Int))) f 16 = partF s0 s1 s2 f 16) := by show _ = _; rw [HI0.out, HI1.out, HI2.out, hs0.out, hs1.out, hs2.out]
  have HP1 := hide P1'
  have HP2 := hide P2'
  rw [HG2.out] at HLK
  clear P0' P1' P2'
  go_enter Try.func65, Try.ntmps65
  go_wp2_with fail
  refine HLK.out.mono ?_
  rintro e w' ⟨rfl, hw'⟩
  replace hw' := hw'.symm
  subst hw'
  clear HLK
  go_wp2_with fail
  clear hc0 hc1 hc2 hn0 hn1
  have hA4 := below_al v3 (.cells #[.int .u16 (s0 : Int), .int .u16 (s1 : Int), .int .u16 (s2 : Int)] 65)
  have Q3 := heap_alloc_new v3 (.cells #[.int .u16 (s0 : Int), .int .u16 (s1 : Int), .int .u16 (s2 : Int)] 65)
  rw [hv3] at Q3
  have P1 := keep HP1.out hA4
  have HP2' := hide (keep HP2.out hA4)
  have HB4 := hide (HB0.out.trans (hA4.mono (by omega)))
  have hv4 : w.heap.size + 1 + 1 + 1 + 1 < (v3.alloc (.cells #[.int .u16 (s0 : Int), .int .u16 (s1 : Int), .int .u16 (s2 : Int)] 65)).heap.size := by simp [hv3]
  clear HP1 HP2 HB0 hA4
  generalize v3.alloc (.cells #[.int .u16 (s0 : Int), .int .u16 (s1 : Int), .int .u16 (s2 : Int)] 65) = v4 at *
  clear hv3 HPS' v3
  have hA5 : Below v4.drew.heap.size v4.drew ((v4.drew.alloc (.cells (tokF f) 74)).alloc (.cells #[.int .u16 (s0 : Int), .int .u16 (s1 : Int), .int .u16 (s2 : Int)] 65)) := below_two _ _ _
  obtain ⟨w5, hw5⟩ : ∃ w5, Hid ((v4.drew.alloc (.cells (tokF f) 74)).alloc (.cells #[.int .u16 (s0 : Int), .int .u16 (s1 : Int), .int .u16 (s2 : Int)] 65) = w5) := ⟨_, rfl⟩
  rw [hw5.out] at hA5
  have P1w := keep (v := v4.drew) P1 hA5
  have P2w := keep (v := v4.drew) HP2'.out hA5
  have Q3w := keep (v := v4.drew) Q3 hA5
  have hq0 := cell_of_row w5 (w.heap.size + 1 + 1 + 1 + 1) 0 _ _ _ Q3w
  have hq1 := cell_of_row w5 (w.heap.size + 1 + 1 + 1 + 1) 1 _ _ _ Q3w
  have hq2 := cell_of_row w5 (w.heap.size + 1 + 1 + 1 + 1) 2 _ _ _ Q3w
  simp at hq0 hq1 hq2
  have HB5 := hide (HB4.out.trans ((show Below v4.heap.size v4 w5 from ⟨hA5.os, hA5.tape, hA5.output, hA5.size, hA5.block⟩).mono HB4.out.size))
  clear hA5 Q3w HB4
  have HCA : Hid (subB s0 (maskL (posL f 16)) = true → Calls Try.prog 120 #[.agg #[.int .u16 (s0 : Int), .int .u16 (s1 : Int), .int .u16 (s2 : Int)], .agg (tokF f)] w5 fun e w' => AfEnd s0 s1 s2 f w5 e w') := fun hsub =>
    after_any s0 s1 s2 f w5 HS0.out HS1.out HS2.out HF.out (fun i hi => by
      have := subF_iff.mp hsub i hi
      rw [posL_bit] at this
      simp only [Bool.and_eq_true, decide_eq_true_eq] at this
      exact this.2)
  have HNO : Hid (subB s0 (maskL (posL f 16)) = false → FiEnd n L f (k : Int) w (.returned (.tuple #[.agg #[.int .u8 0, .int .u8 0, .int .u8 0, .int .u8 0, .int .u8 0, .int .u8 0, .int .u8 0, .int .u8 0, .int .u8 0, .int .u8 0, .int .u8 0, .int .u8 0, .int .u8 0, .int .u8 0, .int .u8 0, .int .u8 0], .bool false])) (w5.setRow (w.heap.size + 1 + 1) #[.int .u8 0, .int .u8 0, .int .u8 0, .int .u8 0, .int .u8 0, .int .u8 0, .int .u8 0, .int .u8 0, .int .u8 0, .int .u8 0, .int .u8 0, .int .u8 0, .int .u8 0, .int .u8 0, .int .u8 0, .int .u8 0])) := fun hsub =>
    fiEnd_no (by rw [HFB.out, hsub]; rfl) (below_setRow HB5.out _ (by omega) _)
  have HF2 : Hid (∀ i, 0 ≤ f i ∧ f i ≤ 255) := fun i => by have := HF.out i; omega
  have Q3' : (v4.drew.alloc (.cells (tokF f) 74)).heap[w.heap.size + 1 + 1 + 1 + 1]? = some (.cells #[.int .u16 (s0 : Int), .int .u16 (s1 : Int), .int .u16 (s2 : Int)] 65 (0, 0)) := keep (v := v4.drew) Q3 (below_al v4.drew _)
  refine wp_region_any (by kernel_rfl) ?_
  refine wpAny_ready (rs := [0, 2]) (by kernel_rfl) (by simp) ?_
  refine cons_load rfl rfl (some 18) rfl 74 (.tmp 4) rfl (w.heap.size + 1) (tokF f) rfl 74 _ _ Try.underlying74 P1 (by rw [tokF_size]; exact Try.size74) ?_ (cons_load_s rfl rfl (some 20) rfl 65 (.tmp 8) rfl (w.heap.size + 1 + 1 + 1 + 1) #[.int .u16 (s0 : Int), .int .u16 (s1 : Int), .int .u16 (s2 : Int)] rfl 65 _ Try.underlying65 Q3 Try.size65 ?_ AllReady.nil)
  · refine wpAny_ready (rs := [1, 2]) (by kernel_rfl) (by simp) ?_
    refine cons_call rfl rfl (some 19) rfl 100 _ _ _ rfl Try.func100 (by decide) rfl #[.agg (tokF f)] (map1 _ _ _ rfl) (.int .u16 (maskL (posL f 16) : Int)) (v4.drew.alloc (.cells (tokF f) 74)) (markedI_any f _ HF2.out) ?_ (cons_load_s rfl rfl (some 20) rfl 65 (.tmp 8) rfl (w.heap.size + 1 + 1 + 1 + 1) #[.int .u16 (s0 : Int), .int .u16 (s1 : Int), .int .u16 (s2 : Int)] rfl 65 _ Try.underlying65 Q3 Try.size65 ?_ AllReady.nil)
    · refine wpAny_ready (rs := [2]) (by kernel_rfl) (by simp) ?_
      refine cons_load_s rfl rfl (some 20) rfl 65 (.tmp 8) rfl (w.heap.size + 1 + 1 + 1 + 1) #[.int .u16 (s0 : Int), .int .u16 (s1 : Int), .int .u16 (s2 : Int)] rfl 65 _ Try.underlying65 Q3' Try.size65 ?_ AllReady.nil
      refine wpAny_ready (rs := [3]) (by kernel_rfl) (by simp) ?_
      refine cons_call rfl rfl (some 21) rfl 105 _ _ _ rfl Try.func105 (by decide) rfl #[.int .u16 (maskL (posL f 16) : Int), .agg #[.int .u16 (s0 : Int), .int .u16 (s1 : Int), .int .u16 (s2 : Int)]] (map2 _ _ _ _ _ rfl rfl) (.bool (subB s0 (maskL (posL f 16)))) ((v4.drew.alloc (.cells (tokF f) 74)).alloc (.cells #[.int .u16 (s0 : Int), .int .u16 (s1 : Int), .int .u16 (s2 : Int)] 65)) (enables_any _ _ _ _ _ HS0.out) ?_ AllReady.nil
      refine wpAny_ready (rs := [4]) (by kernel_rfl) (by simp) ?_
      refine cons_not rfl rfl (some 22) rfl _ _ rfl (subB s0 (maskL (posL f 16))) rfl ?_ AllReady.nil
      refine wpAny_done (by kernel_rfl) ?_ _
      rw [hw5.out]
      cases hsub : subB s0 (maskL (posL f 16))
      · have HN := hide (HNO.out hsub)
        clear HNO HCA hsub hq0 hq1 hq2
        go_wp2_with (refine wpList_store_row rfl 74 (.tmp 6) _ rfl _ _ rfl rfl 74 _ P2w Try.size74 rfl lit_one ?_)
        refine bodyPost_ret (v := .tuple #[.agg #[.int .u8 0, .int .u8 0, .int .u8 0, .int .u8 0, .int .u8 0, .int .u8 0, .int .u8 0, .int .u8 0, .int .u8 0, .int .u8 0, .int .u8 0, .int .u8 0, .int .u8 0, .int .u8 0, .int .u8 0, .int .u8 0], .bool false]) ?_ rfl HN.out
        exact after_res Try.results65 _ _ (w.heap.size + 1 + 1) _ (.bool false) rfl rfl rfl (setRow_same P2w _)
      have HC := hide (HCA.out hsub)
      have HFB' : Hid (fireB n L f (k : Int) = capB s0 s1 s2 f 16) := by show _ = _; rw [HFB.out, hsub]; rfl
      clear HNO HCA hsub
      go_wp2_with (refine wpList_load_row rfl 74 (.tmp 4) rfl _ rfl 74 (tokF f) (0, 0) _ P1w Try.underlying74 rfl (by rw [tokF_size]; exact Try.size74) ?_)
      refine HC.out.mono ?_
      rintro e w6 ⟨h, rfl, hh, hb6⟩
      have P2x := keep P2w hb6
      have HB6 := hide (below_setRow (HB5.out.trans (hb6.mono HB5.out.size)) (w.heap.size + 1 + 1) (by omega) (tokF h))
      have HE : Hid (FiEnd n L f (k : Int) w (.returned (.tuple #[.agg (tokF h), .bool (capB s0 s1 s2 f 16)])) (w6.setRow (w.heap.size + 1 + 1) (tokF h))) :=
        ⟨h, by rw [HFB'.out], fun hg => by rw [HPF.out]; exact hh.out (HFB'.out.symm.trans hg), HB6.out⟩
      clear hq0 hq1 hq2 HC hh hb6
      obtain ⟨cb, hcb⟩ : ∃ b, Hid (capB s0 s1 s2 f 16 = b) := ⟨_, rfl⟩
      rw [hcb.out] at HE ⊢
      go_wp2_with (refine wpList_store_row rfl 74 (.tmp 6) _ rfl _ _ rfl rfl 74 _ P2x (by rw [tokF_size]; exact Try.size74) (by rw [tokF_size]; rfl) (tokF_one _) ?_)
      refine bodyPost_ret (v := .tuple #[.agg (tokF h), .bool cb]) ?_ rfl HE.out
      exact after_res Try.results65 _ _ (w.heap.size + 1 + 1) _ (.bool cb) rfl rfl (tokF_size _) (setRow_same P2x _)
    · refine wpAny_ready (rs := [1]) (by kernel_rfl) (by simp) ?_
      refine cons_call rfl rfl (some 19) rfl 100 _ _ _ rfl Try.func100 (by decide) rfl #[.agg (tokF f)] (map1 _ _ _ rfl) (.int .u16 (maskL (posL f 16) : Int)) (v4.drew.alloc (.cells (tokF f) 74)) (markedI_any f _ HF2.out) ?_ AllReady.nil
      refine wpAny_ready (rs := [3]) (by kernel_rfl) (by simp) ?_
      refine cons_call rfl rfl (some 21) rfl 105 _ _ _ rfl Try.func105 (by decide) rfl #[.int .u16 (maskL (posL f 16) : Int), .agg #[.int .u16 (s0 : Int), .int .u16 (s1 : Int), .int .u16 (s2 : Int)]] (map2 _ _ _ _ _ rfl rfl) (.bool (subB s0 (maskL (posL f 16)))) ((v4.drew.alloc (.cells (tokF f) 74)).alloc (.cells #[.int .u16 (s0 : Int), .int .u16 (s1 : Int), .int .u16 (s2 : Int)] 65)) (enables_any _ _ _ _ _ HS0.out) ?_ AllReady.nil
      refine wpAny_ready (rs := [4]) (by kernel_rfl) (by simp) ?_
      refine cons_not rfl rfl (some 22) rfl _ _ rfl (subB s0 (maskL (posL f 16))) rfl ?_ AllReady.nil
      refine wpAny_done (by kernel_rfl) ?_ _
      rw [hw5.out]
      cases hsub : subB s0 (maskL (posL f 16))
      · have HN := hide (HNO.out hsub)
        clear HNO HCA hsub hq0 hq1 hq2
        go_wp2_with (refine wpList_store_row rfl 74 (.tmp 6) _ rfl _ _ rfl rfl 74 _ P2w Try.size74 rfl lit_one ?_)
        refine bodyPost_ret (v := .tuple #[.agg #[.int .u8 0, .int .u8 0, .int .u8 0, .int .u8 0, .int .u8 0, .int .u8 0, .int .u8 0, .int .u8 0, .int .u8 0, .int .u8 0, .int .u8 0, .int .u8 0, .int .u8 0, .int .u8 0, .int .u8 0, .int .u8 0], .bool false]) ?_ rfl HN.out
        exact after_res Try.results65 _ _ (w.heap.size + 1 + 1) _ (.bool false) rfl rfl rfl (setRow_same P2w _)
      have HC := hide (HCA.out hsub)
      have HFB' : Hid (fireB n L f (k : Int) = capB s0 s1 s2 f 16) := by show _ = _; rw [HFB.out, hsub]; rfl
      clear HNO HCA hsub
      go_wp2_with (refine wpList_load_row rfl 74 (.tmp 4) rfl _ rfl 74 (tokF f) (0, 0) _ P1w Try.underlying74 rfl (by rw [tokF_size]; exact Try.size74) ?_)
      refine HC.out.mono ?_
      rintro e w6 ⟨h, rfl, hh, hb6⟩
      have P2x := keep P2w hb6
      have HB6 := hide (below_setRow (HB5.out.trans (hb6.mono HB5.out.size)) (w.heap.size + 1 + 1) (by omega) (tokF h))
      have HE : Hid (FiEnd n L f (k : Int) w (.returned (.tuple #[.agg (tokF h), .bool (capB s0 s1 s2 f 16)])) (w6.setRow (w.heap.size + 1 + 1) (tokF h))) :=
        ⟨h, by rw [HFB'.out], fun hg => by rw [HPF.out]; exact hh.out (HFB'.out.symm.trans hg), HB6.out⟩
      clear hq0 hq1 hq2 HC hh hb6
      obtain ⟨cb, hcb⟩ : ∃ b, Hid (capB s0 s1 s2 f 16 = b) := ⟨_, rfl⟩
      rw [hcb.out] at HE ⊢
      go_wp2_with (refine wpList_store_row rfl 74 (.tmp 6) _ rfl _ _ rfl rfl 74 _ P2x (by rw [tokF_size]; exact Try.size74) (by rw [tokF_size]; rfl) (tokF_one _) ?_)
      refine bodyPost_ret (v := .tuple #[.agg (tokF h), .bool cb]) ?_ rfl HE.out
      exact after_res Try.results65 _ _ (w.heap.size + 1 + 1) _ (.bool cb) rfl rfl (tokF_size _) (setRow_same P2x _)
  · refine wpAny_ready (rs := [0]) (by kernel_rfl) (by simp) ?_
    refine cons_load rfl rfl (some 18) rfl 74 (.tmp 4) rfl (w.heap.size + 1) (tokF f) rfl 74 _ _ Try.underlying74 P1 (by rw [tokF_size]; exact Try.size74) ?_ AllReady.nil
    refine wpAny_ready (rs := [1]) (by kernel_rfl) (by simp) ?_
    refine cons_call rfl rfl (some 19) rfl 100 _ _ _ rfl Try.func100 (by decide) rfl #[.agg (tokF f)] (map1 _ _ _ rfl) (.int .u16 (maskL (posL f 16) : Int)) (v4.drew.alloc (.cells (tokF f) 74)) (markedI_any f _ HF2.out) ?_ AllReady.nil
    refine wpAny_ready (rs := [3]) (by kernel_rfl) (by simp) ?_
    refine cons_call rfl rfl (some 21) rfl 105 _ _ _ rfl Try.func105 (by decide) rfl #[.int .u16 (maskL (posL f 16) : Int), .agg #[.int .u16 (s0 : Int), .int .u16 (s1 : Int), .int .u16 (s2 : Int)]] (map2 _ _ _ _ _ rfl rfl) (.bool (subB s0 (maskL (posL f 16)))) ((v4.drew.alloc (.cells (tokF f) 74)).alloc (.cells #[.int .u16 (s0 : Int), .int .u16 (s1 : Int), .int .u16 (s2 : Int)] 65)) (enables_any _ _ _ _ _ HS0.out) ?_ AllReady.nil
    refine wpAny_ready (rs := [4]) (by kernel_rfl) (by simp) ?_
    refine cons_not rfl rfl (some 22) rfl _ _ rfl (subB s0 (maskL (posL f 16))) rfl ?_ AllReady.nil
    refine wpAny_done (by kernel_rfl) ?_ _
    rw [hw5.out]
    cases hsub : subB s0 (maskL (posL f 16))
    · have HN := hide (HNO.out hsub)
      clear HNO HCA hsub hq0 hq1 hq2
      go_wp2_with (refine wpList_store_row rfl 74 (.tmp 6) _ rfl _ _ rfl rfl 74 _ P2w Try.size74 rfl lit_one ?_)
      refine bodyPost_ret (v := .tuple #[.agg #[.int .u8 0, .int .u8 0, .int .u8 0, .int .u8 0, .int .u8 0, .int .u8 0, .int .u8 0, .int .u8 0, .int .u8 0, .int .u8 0, .int .u8 0, .int .u8 0, .int .u8 0, .int .u8 0, .int .u8 0, .int .u8 0], .bool false]) ?_ rfl HN.out
      exact after_res Try.results65 _ _ (w.heap.size + 1 + 1) _ (.bool false) rfl rfl rfl (setRow_same P2w _)
    have HC := hide (HCA.out hsub)
    have HFB' : Hid (fireB n L f (k : Int) = capB s0 s1 s2 f 16) := by show _ = _; rw [HFB.out, hsub]; rfl
    clear HNO HCA hsub
    go_wp2_with (refine wpList_load_row rfl 74 (.tmp 4) rfl _ rfl 74 (tokF f) (0, 0) _ P1w Try.underlying74 rfl (by rw [tokF_size]; exact Try.size74) ?_)
    refine HC.out.mono ?_
    rintro e w6 ⟨h, rfl, hh, hb6⟩
    have P2x := keep P2w hb6
    have HB6 := hide (below_setRow (HB5.out.trans (hb6.mono HB5.out.size)) (w.heap.size + 1 + 1) (by omega) (tokF h))
    have HE : Hid (FiEnd n L f (k : Int) w (.returned (.tuple #[.agg (tokF h), .bool (capB s0 s1 s2 f 16)])) (w6.setRow (w.heap.size + 1 + 1) (tokF h))) :=
      ⟨h, by rw [HFB'.out], fun hg => by rw [HPF.out]; exact hh.out (HFB'.out.symm.trans hg), HB6.out⟩
    clear hq0 hq1 hq2 HC hh hb6
    obtain ⟨cb, hcb⟩ : ∃ b, Hid (capB s0 s1 s2 f 16 = b) := ⟨_, rfl⟩
    rw [hcb.out] at HE ⊢
    go_wp2_with (refine wpList_store_row rfl 74 (.tmp 6) _ rfl _ _ rfl rfl 74 _ P2x (by rw [tokF_size]; exact Try.size74) (by rw [tokF_size]; rfl) (tokF_one _) ?_)
    refine bodyPost_ret (v := .tuple #[.agg (tokF h), .bool cb]) ?_ rfl HE.out
    exact after_res Try.results65 _ _ (w.heap.size + 1 + 1) _ (.bool cb) rfl rfl (tokF_size _) (setRow_same P2x _)
end Go.Proofs.Ytajcmamapmeglaa
