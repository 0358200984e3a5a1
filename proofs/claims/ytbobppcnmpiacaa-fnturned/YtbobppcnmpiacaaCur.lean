/- The cursor that draws choices from bytes: next, pick, one, among, places and mark answer within their bounds, whatever the bytes, and write into nothing that was there but the cursor. -/
import Derived.Test.YtbobppcnmpiacaaBase
namespace Go.Proofs.Ytbobppcnmpiacaa
open Go.RowKit

/-- A slice of bytes reads as the list bs. -/
def RowB (w : World) (a : Option Addr) (n : Nat) (bs : List Int) : Prop :=
  bs.length = n ∧ (∀ i, 0 ≤ bs.getD i 0 ∧ bs.getD i 0 ≤ 255) ∧ (n = 0 ∨ ∃ b off, a = some ⟨b, off, none⟩ ∧ b < w.heap.size ∧ ∀ i, i < n → w.cell? ⟨b, off + i, none⟩ = some (.int .u8 (bs.getD i 0)))

/-- The cursor lies in the block bc, over the bytes (ca, cn, cc), at the place p. -/
def Cur (w : World) (bc : Nat) (ca : Option Addr) (cn cc p : Nat) : Prop :=
  ∃ s : Int, w.heap[bc]? = some (.cells #[.slice ca cn cc, .int .i64 (p : Int), .int .u64 s] 57 (0, 0))

theorem cur_step {w : World} {bc : Nat} {t : TypeId} {A B C : Value} (h : w.heap[bc]? = some (.cells #[A, B, C] t (0, 0))) (q : Nat) (v u : Value) :
    (((w.drewN q).setCell ⟨bc, 1, none⟩ v).setCell ⟨bc, 2, none⟩ u).heap[bc]? = some (.cells #[A, v, u] t (0, 0)) := by
  have h1 := heap_setCell_same (w.drewN q) bc 1 _ _ v h
  have h2 := heap_setCell_same _ bc 2 _ _ u h1
  simpa using h2

/-- Nothing but the block b has turned, and no block is new. -/
structure OnlyC (b : Nat) (w w' : World) : Prop where
  os : w'.os = w.os
  tape : w'.tape = w.tape
  output : w'.output = w.output
  size : w'.heap.size = w.heap.size
  block : ∀ k, k ≠ b → w'.heap[k]? = w.heap[k]?

theorem OnlyC.refl (b : Nat) (w : World) : OnlyC b w w := ⟨rfl, rfl, rfl, rfl, fun _ _ => rfl⟩
theorem OnlyC.drewN {b : Nat} {w w' : World} (h : OnlyC b w w') (q : Nat) : OnlyC b w (w'.drewN q) := ⟨h.os, h.tape, h.output, h.size, h.block⟩
theorem OnlyC.setCell {b : Nat} {w w' : World} (h : OnlyC b w w') (o : Nat) (v : Value) : OnlyC b w (w'.setCell ⟨b, o, none⟩ v) :=
  ⟨h.os, h.tape, h.output, by rw [← h.size]; simp [World.setCell], fun k hk => (Below.heap_setCell _ _ _ _ hk).trans (h.block k hk)⟩

/-- How next ends. -/
def NextEnd (bc : Nat) (ca : Option Addr) (cn cc p : Nat) (w : World) (e : Ending) (w' : World) : Prop :=
  ∃ r : Int, e = .returned (.int .i64 r) ∧ (0 ≤ r ∧ r ≤ 255) ∧ Cur w' bc ca cn cc (p + 1) ∧ OnlyC bc w w'

theorem and255 (n : Int) : 0 ≤ wrap64 (bits .and .u64 n 255) ∧ wrap64 (bits .and .u64 n 255) ≤ 255 := by
  have h255 : (BitVec.ofInt 64 255).toNat = 2 ^ 8 - 1 := by decide
  have key : (BitVec.ofInt 64 n &&& BitVec.ofInt 64 255).toNat = (n % ((2 ^ 64 : Nat) : Int)).toNat % 2 ^ 8 := by
    rw [BitVec.toNat_and, BitVec.toNat_ofInt, h255, Nat.and_two_pow_sub_one_eq_mod]
  have e : bits .and .u64 n 255 = (((n % ((2 ^ 64 : Nat) : Int)).toNat % 2 ^ 8 : Nat) : Int) := by
    show IntKind.u64.wrap ((BitVec.ofInt 64 n &&& BitVec.ofInt 64 255).toNat : Nat) = _
    rw [key, IntKind.wrap_u64]
    omega
  rw [e]
  have : (n % ((2 ^ 64 : Nat) : Int)).toNat % 2 ^ 8 < 256 := Nat.mod_lt _ (by decide)
  generalize (n % ((2 ^ 64 : Nat) : Int)).toNat % 2 ^ 8 = m at *
  rw [IntWalk.wrap64_in _ ⟨by omega, by omega⟩]
  omega

set_option maxHeartbeats 1000000 in
theorem next_in (bc : Nat) (ca : Option Addr) (cn cc p : Nat) (s x : Int) (w : World)
    (h : w.heap[bc]? = some (.cells #[.slice ca cn cc, .int .i64 (p : Int), .int .u64 s] 57 (0, 0))) (hp : p ≤ 1000000) (_hn : cn ≤ 1048576)
    (hlt : p < cn) (b off : Nat) (ha : ca = some ⟨b, off, none⟩) (hx : w.cell? ⟨b, off + p, none⟩ = some (.int .u8 x)) (hx0 : 0 ≤ x ∧ x ≤ 255) :
    Calls Try.prog 73 #[.pointer (some ⟨bc, 0, none⟩)] w fun e w' => NextEnd bc ca cn cc p w e w' := by
  subst ha
  have c0 : w.cell? ⟨bc, 0, none⟩ = some (.slice (some ⟨b, off, none⟩) cn cc) := cell_of_row w bc 0 _ _ _ h
  have c1 : w.cell? ⟨bc, 1, none⟩ = some (.int .i64 (p : Int)) := cell_of_row w bc 1 _ _ _ h
  have c2 : w.cell? ⟨bc, 2, none⟩ = some (.int .u64 s) := cell_of_row w bc 2 _ _ _ h
  have f1 := frozen_of_row w bc 1 _ _ h
  have f2 := frozen_of_row w bc 2 _ _ h
  have hi : (p : Int) < (cn : Int) := by omega
  have HS := hide (fun q v u => cur_step h q v u)
  clear h
  go_enter Try.func73, Try.ntmps73
  go_wp2
  go_quiet (fail)
  go_wp2
  go_quiet (fail)
  go_wp2
  go_quiet (fail)
  go_wp2
  go_ret
  exact ⟨x, rfl, hx0, ⟨_, HS.out _ _ _⟩, ((((OnlyC.refl bc w).drewN _).setCell 1 _).setCell 2 _).drewN _⟩

set_option maxHeartbeats 1000000 in
theorem next_out (bc : Nat) (ca : Option Addr) (cn cc p : Nat) (s : Int) (w : World)
    (h : w.heap[bc]? = some (.cells #[.slice ca cn cc, .int .i64 (p : Int), .int .u64 s] 57 (0, 0))) (hp : p ≤ 1000000) (_hn : cn ≤ 1048576)
    (hlt : ¬ p < cn) :
    Calls Try.prog 73 #[.pointer (some ⟨bc, 0, none⟩)] w fun e w' => NextEnd bc ca cn cc p w e w' := by
  have c0 : w.cell? ⟨bc, 0, none⟩ = some (.slice ca cn cc) := cell_of_row w bc 0 _ _ _ h
  have c1 : w.cell? ⟨bc, 1, none⟩ = some (.int .i64 (p : Int)) := cell_of_row w bc 1 _ _ _ h
  have c2 : w.cell? ⟨bc, 2, none⟩ = some (.int .u64 s) := cell_of_row w bc 2 _ _ _ h
  have f1 := frozen_of_row w bc 1 _ _ h
  have f2 := frozen_of_row w bc 2 _ _ h
  have hi : ¬ (p : Int) < (cn : Int) := by omega
  have HS := hide (fun q v u => cur_step h q v u)
  clear h
  go_enter Try.func73, Try.ntmps73
  go_wp2
  go_quiet (fail)
  go_wp2
  go_quiet (fail)
  go_wp2
  go_ret
  exact ⟨_, rfl, and255 _, ⟨_, HS.out _ _ _⟩, ((((OnlyC.refl bc w).drewN _).setCell 1 _).setCell 2 _).drewN _⟩

/-- The bytes lie in another block than the cursor's. -/
def Apart (ca : Option Addr) (cn bc : Nat) : Prop := 0 < cn → ∀ x, ca = some x → x.block ≠ bc

theorem RowB.keep {w w' : World} {ca : Option Addr} {cn bc : Nat} {bs : List Int} (h : RowB w ca cn bs) (ho : OnlyC bc w w') (hap : Apart ca cn bc) : RowB w' ca cn bs := by
  refine ⟨h.1, h.2.1, ?_⟩
  rcases h.2.2 with h0 | ⟨b, off, e, hl, hc⟩
  · exact .inl h0
  · refine .inr ⟨b, off, e, by rw [ho.size]; exact hl, fun i hi => ?_⟩
    rw [World.cell?_of_block (ho.block b (hap (by omega) _ e))]
    exact hc i hi

theorem next_any (bc : Nat) (ca : Option Addr) (cn cc p : Nat) (bs : List Int) (w : World) (h : Cur w bc ca cn cc p) (hr : RowB w ca cn bs) (hp : p ≤ 1000000) (hn : cn ≤ 1048576) :
    Calls Try.prog 73 #[.pointer (some ⟨bc, 0, none⟩)] w fun e w' => NextEnd bc ca cn cc p w e w' := by
  obtain ⟨s, hs⟩ := h
  by_cases hlt : p < cn
  · rcases hr.2.2 with h0 | ⟨b, off, e, hl, hc⟩
    · omega
    · exact next_in bc ca cn cc p s _ w hs hp hn hlt b off e (hc p hlt) (hr.2.1 p)
  · exact next_out bc ca cn cc p s w hs hp hn hlt

/-- How pick ends. -/
def PickEnd (m : Nat) (bc : Nat) (ca : Option Addr) (cn cc p : Nat) (w : World) (e : Ending) (w' : World) : Prop :=
  ∃ r : Nat, e = .returned (.int .i64 (r : Int)) ∧ r < m ∧ Cur w' bc ca cn cc (p + 1) ∧ OnlyC bc w w'

set_option maxHeartbeats 400000 in
theorem pick_any (m : Nat) (bc : Nat) (ca : Option Addr) (cn cc p : Nat) (bs : List Int) (w : World) (h : Cur w bc ca cn cc p) (hr : RowB w ca cn bs) (hp : p ≤ 1000000) (hn : cn ≤ 1048576) (h2 : 2 ≤ m) (h200 : m ≤ 200) :
    Calls Try.prog 36 #[.pointer (some ⟨bc, 0, none⟩), .int .i64 (m : Int)] w fun e w' => PickEnd m bc ca cn cc p w e w' := by
  have HN := hide (next_any bc ca cn cc p bs w h hr hp hn)
  clear h hr
  go_enter Try.func36, Try.ntmps36
  go_wp2_with fail
  refine HN.out.mono ?_
  rintro e w1 ⟨r, rfl, hr, hcur, ho⟩
  have HC := hide hcur
  have HO := hide ho
  clear hcur ho
  have hm : (2 : Int) ≤ (m : Int) := by omega
  have hm2 : (m : Int) ≤ 200 := by omega
  go_wp2
  go_ret
  have hmod : r % (m : Int) = ((r % (m : Int)).toNat : Int) := by have := Int.emod_nonneg r (show (m : Int) ≠ 0 by omega); omega
  have hlt : (r % (m : Int)).toNat < m := by have := Int.emod_lt_of_pos r (show (0 : Int) < (m : Int) by omega); omega
  have e : Ending.returned (Value.int .i64 (r % (m : Int))) = .returned (.int .i64 (((r % (m : Int)).toNat : Nat) : Int)) := by rw [← hmod]
  exact ⟨_, e, hlt, HC.out, HO.out⟩

set_option maxHeartbeats 400000 in
theorem one_any (m : Nat) (bc : Nat) (ca : Option Addr) (cn cc p : Nat) (bs : List Int) (w : World) (h : Cur w bc ca cn cc p) (hr : RowB w ca cn bs) (hp : p ≤ 1000000) (hn : cn ≤ 1048576) (h2 : 2 ≤ m) (h200 : m ≤ 200) :
    Calls Try.prog 37 #[.pointer (some ⟨bc, 0, none⟩), .int .i64 (m : Int)] w fun e w' => ∃ b : Bool, e = .returned (.bool b) ∧ Cur w' bc ca cn cc (p + 1) ∧ OnlyC bc w w' := by
  have HN := hide (pick_any m bc ca cn cc p bs w h hr hp hn h2 h200)
  clear h hr
  go_enter Try.func37, Try.ntmps37
  go_wp2_with fail
  refine HN.out.mono ?_
  rintro e w1 ⟨r, rfl, hr, hcur, ho⟩
  have HC := hide hcur
  have HO := hide ho
  clear hcur ho
  go_wp2
  go_ret
  exact ⟨_, rfl, HC.out, HO.out⟩

set_option maxHeartbeats 400000 in
theorem among_any (m c : Nat) (al : Option Addr) (ls : List Int) (bc : Nat) (ca : Option Addr) (cn cc p : Nat) (bs : List Int) (w : World) (h : Cur w bc ca cn cc p) (hr : RowB w ca cn bs) (hp : p ≤ 1000000) (hn : cn ≤ 1048576) (h2 : 2 ≤ m) (h200 : m ≤ 200)
    (hl : Row w al m ls) (hap : Apart al m bc) :
    Calls Try.prog 72 #[.pointer (some ⟨bc, 0, none⟩), .slice al m c] w fun e w' => ∃ x, e = .returned (.int .i64 x) ∧ x ∈ ls ∧ Cur w' bc ca cn cc (p + 1) ∧ OnlyC bc w w' := by
  have HN := hide (pick_any m bc ca cn cc p bs w h hr hp hn h2 h200)
  clear h hr
  go_enter Try.func72, Try.ntmps72
  go_wp2_with fail
  refine HN.out.mono ?_
  rintro e w1 ⟨r, rfl, hr, hcur, ho⟩
  obtain ⟨b1, o1, x, rfl, hl1, hc1, H1⟩ := hl.at hr
  have hc2 : w1.cell? ⟨b1, o1 + r, none⟩ = some (.int .i64 x) := (World.cell?_of_block (ho.block b1 (hap (by omega) _ rfl))).trans hc1
  have HC := hide hcur
  have HO := hide ho
  have hri : (r : Int) < (m : Int) := by omega
  clear hcur ho hl hc1 hap
  go_wp2
  go_ret
  exact ⟨x, rfl, List.mem_of_getElem? H1.out, HC.out, HO.out⟩

/-- Behind a call that moves the cursor in bc and makes memory: no other block below B has turned. -/
structure Kept (bc B : Nat) (w w' : World) : Prop where
  os : w'.os = w.os
  tape : w'.tape = w.tape
  output : w'.output = w.output
  size : w.heap.size ≤ w'.heap.size
  block : ∀ k, k < B → k ≠ bc → w'.heap[k]? = w.heap[k]?

theorem Kept.refl (bc B : Nat) (w : World) : Kept bc B w w := ⟨rfl, rfl, rfl, Nat.le_refl _, fun _ _ _ => rfl⟩
theorem Kept.trans {bc B : Nat} {a b c : World} (h : Kept bc B a b) (k : Kept bc B b c) : Kept bc B a c :=
  ⟨k.os.trans h.os, k.tape.trans h.tape, k.output.trans h.output, Nat.le_trans h.size k.size, fun i hi hne => (k.block i hi hne).trans (h.block i hi hne)⟩
theorem Kept.of_only {bc B : Nat} {w w' : World} (h : OnlyC bc w w') : Kept bc B w w' := ⟨h.os, h.tape, h.output, Nat.le_of_eq h.size.symm, fun k _ hne => h.block k hne⟩
theorem Kept.of_below {bc B : Nat} {w w' : World} (h : Below B w w') : Kept bc B w w' := ⟨h.os, h.tape, h.output, h.size, fun k hk _ => h.block k hk⟩
theorem Kept.mono {bc B C : Nat} {w w' : World} (h : Kept bc B w w') (hC : C ≤ B) : Kept bc C w w' := ⟨h.os, h.tape, h.output, h.size, fun k hk hne => h.block k (by omega) hne⟩
theorem Kept.below {bc B : Nat} {w w' : World} (h : Kept bc B w w') (hB : B ≤ bc) : Below B w w' := ⟨h.os, h.tape, h.output, h.size, fun k hk => h.block k hk (by omega)⟩

theorem Cur.lt {w : World} {bc : Nat} {ca : Option Addr} {cn cc p : Nat} (h : Cur w bc ca cn cc p) : bc < w.heap.size := by
  obtain ⟨s, hs⟩ := h; exact (Array.getElem?_eq_some_iff.mp hs).1
theorem Cur.below {w w' : World} {bc B : Nat} {ca : Option Addr} {cn cc p : Nat} (h : Cur w bc ca cn cc p) (hb : Below B w w') (hB : bc < B) : Cur w' bc ca cn cc p := by
  obtain ⟨s, hs⟩ := h; exact ⟨s, (hb.block bc hB).trans hs⟩

theorem RowB.kept {w w' : World} {ca : Option Addr} {cn bc : Nat} {bs : List Int} (h : RowB w ca cn bs) (ho : Kept bc w.heap.size w w') (hap : Apart ca cn bc) : RowB w' ca cn bs := by
  refine ⟨h.1, h.2.1, ?_⟩
  rcases h.2.2 with h0 | ⟨b, off, e, hl, hc⟩
  · exact .inl h0
  · refine .inr ⟨b, off, e, Nat.lt_of_lt_of_le hl ho.size, fun i hi => ?_⟩
    rw [World.cell?_of_block (ho.block b hl (hap (by omega) _ e))]
    exact hc i hi

theorem Row.kept {w w' : World} {a : Option Addr} {n bc : Nat} {xs : List Int} (h : Row w a n xs) (ho : Kept bc w.heap.size w w') (hap : Apart a n bc) : Row w' a n xs := by
  refine ⟨h.1, ?_⟩
  rcases h.2 with h0 | ⟨b, off, e, hl, hc⟩
  · exact .inl h0
  · refine .inr ⟨b, off, e, Nat.lt_of_lt_of_le hl ho.size, fun i hi => ?_⟩
    rw [World.cell?_of_block (ho.block b hl (hap (by omega) _ e))]
    exact hc i hi

end Go.Proofs.Ytbobppcnmpiacaa
