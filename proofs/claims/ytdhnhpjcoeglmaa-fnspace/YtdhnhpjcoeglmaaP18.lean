/- Contracts that the proof stands on, one behind the other. -/
import Derived.Test.YtdhnhpjcoeglmaaP17
import Derived.BigQuiet
import Derived.Deep.AppendLies
/- The cursor that draws choices from bytes: next, pick, one, among, places and mark answer within their bounds, whatever the bytes, and write into nothing that was there but the cursor. -/
namespace Go.Proofs.Ytdhnhpjcoeglmaa
open Go.RowKit

/-- A slice of bytes reads as the list bs. -/
def RowB (w : World) (a : Option Addr) (n : Nat) (bs : List Int) : Prop :=
  bs.length = n ∧ (∀ i, 0 ≤ bs.getD i 0 ∧ bs.getD i 0 ≤ 255) ∧ (n = 0 ∨ ∃ b off, a = some ⟨b, off, none⟩ ∧ b < w.heap.size ∧ ∀ i, i < n → w.cell? ⟨b, off + i, none⟩ = some (.int .u8 (bs.getD i 0)))

/-- The cursor lies in the block bc, over the bytes (ca, cn, cc), at the place p. -/
def Cur (w : World) (bc : Nat) (ca : Option Addr) (cn cc p : Nat) : Prop :=
  ∃ s : Int, w.heap[bc]? = some (.cells #[.slice ca cn cc, .int .i64 (p : Int), .int .u64 s] 75 (0, 0))

theorem cur_step {w : World} {bc : Nat} {t : TypeId} {A B C : Value} (h : w.heap[bc]? = some (.cells #[A, B, C] t (0, 0))) (q : Nat) (v u : Value) :
    (((w.drewN q).setCell ⟨bc, 1, none⟩ v).setCell ⟨bc, 2, none⟩ u).heap[bc]? = some (.cells #[A, v, u] t (0, 0)) := by
  have h1 := heap_setCell_same (w.drewN q) bc 1 _ _ v h
  have h2 := heap_setCell_same _ bc 2 _ _ u h1
  simpa using h2

/-- Nothing but the block b has turned, and no block is new. -/
structure OnlyC (b : Nat) (w w' : World) : Prop where
  os : w'.os = w.os
  tape : w'.tape = w.tape
  output : w'.output = w.output
  size : w'.heap.size = w.heap.size
  block : ∀ k, k ≠ b → w'.heap[k]? = w.heap[k]?

theorem OnlyC.refl (b : Nat) (w : World) : OnlyC b w w := ⟨rfl, rfl, rfl, rfl, fun _ _ => rfl⟩
theorem OnlyC.drewN {b : Nat} {w w' : World} (h : OnlyC b w w') (q : Nat) : OnlyC b w (w'.drewN q) := ⟨h.os, h.tape, h.output, h.size, h.block⟩
theorem OnlyC.setCell {b : Nat} {w w' : World} (h : OnlyC b w w') (o : Nat) (v : Value) : OnlyC b w (w'.setCell ⟨b, o, none⟩ v) :=
  ⟨h.os, h.tape, h.output, by rw [← h.size]; simp [World.setCell], fun k hk => (Below.heap_setCell _ _ _ _ hk).trans (h.block k hk)⟩

/-- How next ends. -/
def NextEnd (bc : Nat) (ca : Option Addr) (cn cc p : Nat) (w : World) (e : Ending) (w' : World) : Prop :=
  ∃ r : Int, e = .returned (.int .i64 r) ∧ (0 ≤ r ∧ r ≤ 255) ∧ Cur w' bc ca cn cc (p + 1) ∧ OnlyC bc w w'

theorem and255 (n : Int) : 0 ≤ wrap64 (bits .and .u64 n 255) ∧ wrap64 (bits .and .u64 n 255) ≤ 255 := by
  have h255 : (BitVec.ofInt 64 255).toNat = 2 ^ 8 - 1 := by decide
  have key : (BitVec.ofInt 64 n &&& BitVec.ofInt 64 255).toNat = (n % ((2 ^ 64 : Nat) : Int)).toNat % 2 ^ 8 := by
    rw [BitVec.toNat_and, BitVec.toNat_ofInt, h255, Nat.and_two_pow_sub_one_eq_mod]
  have e : bits .and .u64 n 255 = (((n % ((2 ^ 64 : Nat) : Int)).toNat % 2 ^ 8 : Nat) : Int) := by
    show IntKind.u64.wrap ((BitVec.ofInt 64 n &&& BitVec.ofInt 64 255).toNat : Nat) = _
    rw [key, IntKind.wrap_u64]
    omega
  rw [e]
  have : (n % ((2 ^ 64 : Nat) : Int)).toNat % 2 ^ 8 < 256 := Nat.mod_lt _ (by decide)
  generalize (n % ((2 ^ 64 : Nat) : Int)).toNat % 2 ^ 8 = m at *
  rw [IntWalk.wrap64_in _ ⟨by omega, by omega⟩]
  omega

set_option maxHeartbeats 1000000 in
theorem next_in (bc : Nat) (ca : Option Addr) (cn cc p : Nat) (s x : Int) (w : World)
    (h : w.heap[bc]? = some (.cells #[.slice ca cn cc, .int .i64 (p : Int), .int .u64 s] 75 (0, 0))) (hp : p ≤ 1000000) (_hn : cn ≤ 1048576)
    (hlt : p < cn) (b off : Nat) (ha : ca = some ⟨b, off, none⟩) (hx : w.cell? ⟨b, off + p, none⟩ = some (.int .u8 x)) (hx0 : 0 ≤ x ∧ x ≤ 255) :
    Calls Try.prog 136 #[.pointer (some ⟨bc, 0, none⟩)] w fun e w' => NextEnd bc ca cn cc p w e w' := by
  subst ha
  have c0 : w.cell? ⟨bc, 0, none⟩ = some (.slice (some ⟨b, off, none⟩) cn cc) := cell_of_row w bc 0 _ _ _ h
  have c1 : w.cell? ⟨bc, 1, none⟩ = some (.int .i64 (p : Int)) := cell_of_row w bc 1 _ _ _ h
  have c2 : w.cell? ⟨bc, 2, none⟩ = some (.int .u64 s) := cell_of_row w bc 2 _ _ _ h
  have f1 := frozen_of_row w bc 1 _ _ h
  have f2 := frozen_of_row w bc 2 _ _ h
  have hi : (p : Int) < (cn : Int) := by omega
  have HS := hide (fun q v u => cur_step h q v u)
  clear h
  go_enter Try.func136, Try.ntmps136
  go_wp2
  go_quiet (fail)
  go_wp2
  go_quiet (fail)
  go_wp2
  go_quiet (fail)
  go_wp2
  go_ret
  exact ⟨x, rfl, hx0, ⟨_, HS.out _ _ _⟩, ((((OnlyC.refl bc w).drewN _).setCell 1 _).setCell 2 _).drewN _⟩

set_option maxHeartbeats 1000000 in
theorem next_out (bc : Nat) (ca : Option Addr) (cn cc p : Nat) (s : Int) (w : World)
    (h : w.heap[bc]? = some (.cells #[.slice ca cn cc, .int .i64 (p : Int), .int .u64 s] 75 (0, 0))) (hp : p ≤ 1000000) (_hn : cn ≤ 1048576)
    (hlt : ¬ p < cn) :
    Calls Try.prog 136 #[.pointer (some ⟨bc, 0, none⟩)] w fun e w' => NextEnd bc ca cn cc p w e w' := by
  have c0 : w.cell? ⟨bc, 0, none⟩ = some (.slice ca cn cc) := cell_of_row w bc 0 _ _ _ h
  have c1 : w.cell? ⟨bc, 1, none⟩ = some (.int .i64 (p : Int)) := cell_of_row w bc 1 _ _ _ h
  have c2 : w.cell? ⟨bc, 2, none⟩ = some (.int .u64 s) := cell_of_row w bc 2 _ _ _ h
  have f1 := frozen_of_row w bc 1 _ _ h
  have f2 := frozen_of_row w bc 2 _ _ h
  have hi : ¬ (p : Int) < (cn : Int) := by omega
  have HS := hide (fun q v u => cur_step h q v u)
  clear h
  go_enter Try.func136, Try.ntmps136
  go_wp2
  go_quiet (fail)
  go_wp2
  go_quiet (fail)
  go_wp2
  go_ret
  exact ⟨_, rfl, and255 _, ⟨_, HS.out _ _ _⟩, ((((OnlyC.refl bc w).drewN _).setCell 1 _).setCell 2 _).drewN _⟩

/-- The bytes lie in another block than the cursor's. -/
def Apart (ca : Option Addr) (cn bc : Nat) : Prop := 0 < cn → ∀ x, ca = some x → x.block ≠ bc

theorem RowB.keep {w w' : World} {ca : Option Addr} {cn bc : Nat} {bs : List Int} (h : RowB w ca cn bs) (ho : OnlyC bc w w') (hap : Apart ca cn bc) : RowB w' ca cn bs := by
  refine ⟨h.1, h.2.1, ?_⟩
  rcases h.2.2 with h0 | ⟨b, off, e, hl, hc⟩
  · exact .inl h0
  · refine .inr ⟨b, off, e, by rw [ho.size]; exact hl, fun i hi => ?_⟩
    rw [World.cell?_of_block (ho.block b (hap (by omega) _ e))]
    exact hc i hi

theorem next_any (bc : Nat) (ca : Option Addr) (cn cc p : Nat) (bs : List Int) (w : World) (h : Cur w bc ca cn cc p) (hr : RowB w ca cn bs) (hp : p ≤ 1000000) (hn : cn ≤ 1048576) :
    Calls Try.prog 136 #[.pointer (some ⟨bc, 0, none⟩)] w fun e w' => NextEnd bc ca cn cc p w e w' := by
  obtain ⟨s, hs⟩ := h
  by_cases hlt : p < cn
  · rcases hr.2.2 with h0 | ⟨b, off, e, hl, hc⟩
    · omega
    · exact next_in bc ca cn cc p s _ w hs hp hn hlt b off e (hc p hlt) (hr.2.1 p)
  · exact next_out bc ca cn cc p s w hs hp hn hlt

/-- How pick ends. -/
def PickEnd (m : Nat) (bc : Nat) (ca : Option Addr) (cn cc p : Nat) (w : World) (e : Ending) (w' : World) : Prop :=
  ∃ r : Nat, e = .returned (.int .i64 (r : Int)) ∧ r < m ∧ Cur w' bc ca cn cc (p + 1) ∧ OnlyC bc w w'

set_option maxHeartbeats 400000 in
theorem pick_any (m : Nat) (bc : Nat) (ca : Option Addr) (cn cc p : Nat) (bs : List Int) (w : World) (h : Cur w bc ca cn cc p) (hr : RowB w ca cn bs) (hp : p ≤ 1000000) (hn : cn ≤ 1048576) (h2 : 2 ≤ m) (h200 : m ≤ 200) :
    Calls Try.prog 71 #[.pointer (some ⟨bc, 0, none⟩), .int .i64 (m : Int)] w fun e w' => PickEnd m bc ca cn cc p w e w' := by
  have HN := hide (next_any bc ca cn cc p bs w h hr hp hn)
  clear h hr
  go_enter Try.func71, Try.ntmps71
  go_wp2_with fail
  refine HN.out.mono ?_
  rintro e w1 ⟨r, rfl, hr, hcur, ho⟩
  have HC := hide hcur
  have HO := hide ho
  clear hcur ho
  have hm : (2 : Int) ≤ (m : Int) := by omega
  have hm2 : (m : Int) ≤ 200 := by omega
  go_wp2
  go_ret
  have hmod : r % (m : Int) = ((r % (m : Int)).toNat : Int) := by have := Int.emod_nonneg r (show (m : Int) ≠ 0 by omega); omega
  have hlt : (r % (m : Int)).toNat < m := by have := Int.emod_lt_of_pos r (show (0 : Int) < (m : Int) by omega); omega
  have e : Ending.returned (Value.int .i64 (r % (m : Int))) = .returned (.int .i64 (((r % (m : Int)).toNat : Nat) : Int)) := by rw [← hmod]
  exact ⟨_, e, hlt, HC.out, HO.out⟩

set_option maxHeartbeats 400000 in
theorem one_any (m : Nat) (bc : Nat) (ca : Option Addr) (cn cc p : Nat) (bs : List Int) (w : World) (h : Cur w bc ca cn cc p) (hr : RowB w ca cn bs) (hp : p ≤ 1000000) (hn : cn ≤ 1048576) (h2 : 2 ≤ m) (h200 : m ≤ 200) :
    Calls Try.prog 61 #[.pointer (some ⟨bc, 0, none⟩), .int .i64 (m : Int)] w fun e w' => ∃ b : Bool, e = .returned (.bool b) ∧ Cur w' bc ca cn cc (p + 1) ∧ OnlyC bc w w' := by
  have HN := hide (pick_any m bc ca cn cc p bs w h hr hp hn h2 h200)
  clear h hr
  go_enter Try.func61, Try.ntmps61
  go_wp2_with fail
  refine HN.out.mono ?_
  rintro e w1 ⟨r, rfl, hr, hcur, ho⟩
  have HC := hide hcur
  have HO := hide ho
  clear hcur ho
  go_wp2
  go_ret
  exact ⟨_, rfl, HC.out, HO.out⟩

set_option maxHeartbeats 400000 in
theorem among_any (m c : Nat) (al : Option Addr) (ls : List Int) (bc : Nat) (ca : Option Addr) (cn cc p : Nat) (bs : List Int) (w : World) (h : Cur w bc ca cn cc p) (hr : RowB w ca cn bs) (hp : p ≤ 1000000) (hn : cn ≤ 1048576) (h2 : 2 ≤ m) (h200 : m ≤ 200)
    (hl : Row w al m ls) (hap : Apart al m bc) :
    Calls Try.prog 101 #[.pointer (some ⟨bc, 0, none⟩), .slice al m c] w fun e w' => ∃ x, e = .returned (.int .i64 x) ∧ x ∈ ls ∧ Cur w' bc ca cn cc (p + 1) ∧ OnlyC bc w w' := by
  have HN := hide (pick_any m bc ca cn cc p bs w h hr hp hn h2 h200)
  clear h hr
  go_enter Try.func101, Try.ntmps101
  go_wp2_with fail
  refine HN.out.mono ?_
  rintro e w1 ⟨r, rfl, hr, hcur, ho⟩
  obtain ⟨b1, o1, x, rfl, hl1, hc1, H1⟩ := hl.at hr
  have hc2 : w1.cell? ⟨b1, o1 + r, none⟩ = some (.int .i64 x) := (World.cell?_of_block (ho.block b1 (hap (by omega) _ rfl))).trans hc1
  have HC := hide hcur
  have HO := hide ho
  have hri : (r : Int) < (m : Int) := by omega
  clear hcur ho hl hc1 hap
  go_wp2
  go_ret
  exact ⟨x, rfl, List.mem_of_getElem? H1.out, HC.out, HO.out⟩

/-- Behind a call that moves the cursor in bc and makes memory: no other block below B has turned. -/
structure Kept (bc B : Nat) (w w' : World) : Prop where
  os : w'.os = w.os
  tape : w'.tape = w.tape
  output : w'.output = w.output
  size : w.heap.size ≤ w'.heap.size
  block : ∀ k, k < B → k ≠ bc → w'.heap[k]? = w.heap[k]?

theorem Kept.refl (bc B : Nat) (w : World) : Kept bc B w w := ⟨rfl, rfl, rfl, Nat.le_refl _, fun _ _ _ => rfl⟩
theorem Kept.trans {bc B : Nat} {a b c : World} (h : Kept bc B a b) (k : Kept bc B b c) : Kept bc B a c :=
  ⟨k.os.trans h.os, k.tape.trans h.tape, k.output.trans h.output, Nat.le_trans h.size k.size, fun i hi hne => (k.block i hi hne).trans (h.block i hi hne)⟩
theorem Kept.of_only {bc B : Nat} {w w' : World} (h : OnlyC bc w w') : Kept bc B w w' := ⟨h.os, h.tape, h.output, Nat.le_of_eq h.size.symm, fun k _ hne => h.block k hne⟩
theorem Kept.of_below {bc B : Nat} {w w' : World} (h : Below B w w') : Kept bc B w w' := ⟨h.os, h.tape, h.output, h.size, fun k hk _ => h.block k hk⟩
theorem Kept.mono {bc B C : Nat} {w w' : World} (h : Kept bc B w w') (hC : C ≤ B) : Kept bc C w w' := ⟨h.os, h.tape, h.output, h.size, fun k hk hne => h.block k (by omega) hne⟩
theorem Kept.below {bc B : Nat} {w w' : World} (h : Kept bc B w w') (hB : B ≤ bc) : Below B w w' := ⟨h.os, h.tape, h.output, h.size, fun k hk => h.block k hk (by omega)⟩

theorem Cur.lt {w : World} {bc : Nat} {ca : Option Addr} {cn cc p : Nat} (h : Cur w bc ca cn cc p) : bc < w.heap.size := by
  obtain ⟨s, hs⟩ := h; exact (Array.getElem?_eq_some_iff.mp hs).1
theorem Cur.below {w w' : World} {bc B : Nat} {ca : Option Addr} {cn cc p : Nat} (h : Cur w bc ca cn cc p) (hb : Below B w w') (hB : bc < B) : Cur w' bc ca cn cc p := by
  obtain ⟨s, hs⟩ := h; exact ⟨s, (hb.block bc hB).trans hs⟩

theorem RowB.kept {w w' : World} {ca : Option Addr} {cn bc : Nat} {bs : List Int} (h : RowB w ca cn bs) (ho : Kept bc w.heap.size w w') (hap : Apart ca cn bc) : RowB w' ca cn bs := by
  refine ⟨h.1, h.2.1, ?_⟩
  rcases h.2.2 with h0 | ⟨b, off, e, hl, hc⟩
  · exact .inl h0
  · refine .inr ⟨b, off, e, Nat.lt_of_lt_of_le hl ho.size, fun i hi => ?_⟩
    rw [World.cell?_of_block (ho.block b hl (hap (by omega) _ e))]
    exact hc i hi

theorem Row.kept {w w' : World} {a : Option Addr} {n bc : Nat} {xs : List Int} (h : Row w a n xs) (ho : Kept bc w.heap.size w w') (hap : Apart a n bc) : Row w' a n xs := by
  refine ⟨h.1, ?_⟩
  rcases h.2 with h0 | ⟨b, off, e, hl, hc⟩
  · exact .inl h0
  · refine .inr ⟨b, off, e, Nat.lt_of_lt_of_le hl ho.size, fun i hi => ?_⟩
    rw [World.cell?_of_block (ho.block b hl (hap (by omega) _ e))]
    exact hc i hi

end Go.Proofs.Ytdhnhpjcoeglmaa


/- What the laws' own sameInts, big and numberOf answer. -/
namespace Go.Proofs.Ytdhnhpjcoeglmaa
open Go.RowKit
set_option maxRecDepth 10000

set_option maxHeartbeats 400000 in
theorem sameI_any (a b : Option Addr) (n m ca cb : Nat) (xs ys : List Int) (w : World) (ha : Row w a n xs) (hb : Row w b m ys) (hn : n ≤ 1048576) :
    Calls Try.prog 15 #[.slice a n ca, .slice b m cb] w fun e w' => e = .returned (.bool (sameB xs ys)) ∧ ∃ q, w' = w.drewN q := by
  by_cases hnm : n = m
  · subst hnm
    have hne : ((n : Int) != (n : Int)) = false := by simp
    go_enter Try.func15, Try.ntmps15
    go_wp2
    clear hne
    go_loopw [13] (fun i wr => ∃ k : Nat, k ≤ n ∧ i = .int .i64 k ∧ Upto xs ys k ∧ ∃ q, wr = w.drewN q) (fun i _ => n - (intOf i).toNat)
    case atStart => exact ⟨0, Nat.zero_le _, rfl, rfl, 0, rfl⟩
    case round =>
      obtain ⟨k, hk, rfl, hu, q, rfl⟩ := hrel
      by_cases hlt : k < n
      · obtain ⟨b1, o1, x, rfl, hl1, hc1, H1⟩ := ha.at hlt
        obtain ⟨b2, o2, y, rfl, hl2, hc2, H2⟩ := hb.at hlt
        have hi1 : ((k : Int)) < ((n : Int)) := by omega
        clear ha hb
        by_cases he : x = y
        · subst he
          have HU := hu.step H1 H2
          clear hu H1 H2
          go_wp2
          go_quiet (fail)
          go_wp2
          go_roundw
          case rel => exact ⟨k + 1, by omega, by go_num, HU, _, rfl⟩
          case measure => simp [intOf]; omega
        · have HS := sameB_ne H1 H2 he
          have hd : (x != y) = true := by simp [he]
          clear hu H1 H2 he
          go_wp2
          go_quiet (fail)
          go_wp2
          go_ret
          exact ⟨ret_bool HS.symm, _, drewN_two w _ _⟩
      · have hx := ha.1
        have hy := hb.1
        have HS := hu.done (by omega) (by omega)
        go_wp2
        go_ret
        exact ⟨ret_bool HS.symm, _, rfl⟩
  · have hx := ha.1
    have hy := hb.1
    have HS := sameB_len (show xs.length ≠ ys.length by omega)
    have hne : ((n : Int) != (m : Int)) = true := by simp; omega
    clear ha hb hx hy
    go_enter Try.func15, Try.ntmps15
    go_wp2
    go_ret
    exact ⟨ret_bool HS.symm, 0, rfl⟩


def BigEnd (n m : Nat) (w : World) (e : Ending) (w' : World) : Prop := ∃ r : Bool, e = .returned (.bool r) ∧ Hid (r = false → n ≤ 1048576 ∧ m ≤ 1048576) ∧ w' = w

set_option maxHeartbeats 400000 in
theorem big_any (a b : Option Addr) (n m ca cb : Nat) (w : World) (hn : n ≤ 9223372036854775807) (hm : m ≤ 9223372036854775807) :
    Calls Try.prog 8 #[.slice a n ca, .slice b m cb] w fun e w' => BigEnd n m w e w' := by
  by_cases h1 : 1048576 < n
  · go_enter Try.func8, Try.ntmps8
    go_wp2
    go_ret
    exact ⟨true, rfl, fun h => by simp at h, rfl⟩
  · have h1' : (n : Int) ≤ 1048576 := by omega
    by_cases h2 : (1048576 : Int) - (n : Int) < (m : Int)
    · go_enter Try.func8, Try.ntmps8
      go_wp2
      go_ret
      exact ⟨true, rfl, fun h => by simp at h, rfl⟩
    · go_enter Try.func8, Try.ntmps8
      go_wp2
      go_ret
      exact ⟨_, rfl, fun _ => by omega, rfl⟩

/-- Some slices read as some lists. -/
def Rs (v : World) (l : List (Option Addr × Nat × List Int)) : Prop := ∀ t ∈ l, Row v t.1 t.2.1 t.2.2

theorem Rs.nil (v : World) : Rs v [] := by intro t ht; simp at ht
theorem Rs.cons {v : World} {a : Option Addr} {n : Nat} {xs : List Int} {l : List (Option Addr × Nat × List Int)} (h : Row v a n xs) (hl : Rs v l) : Rs v ((a, n, xs) :: l) := by
  intro t ht
  rcases List.mem_cons.mp ht with rfl | ht
  · exact h
  · exact hl t ht
theorem Rs.below {v v' : World} {l : List (Option Addr × Nat × List Int)} (h : Rs v l) (hb : Below v.heap.size v v') : Rs v' l := fun t ht => (h t ht).below hb
theorem Rs.at {v : World} {l : List (Option Addr × Nat × List Int)} (h : Rs v l) (a : Option Addr) (n : Nat) (xs : List Int) (hm : (a, n, xs) ∈ l) : Row v a n xs := h _ hm


/-- How numberOf ends. -/
def NumEnd (w : World) (e : Ending) (w' : World) : Prop := ∃ z : Nat, e = .returned (.int .i64 (z : Int)) ∧ z < 1000003 ∧ w' = w

set_option maxHeartbeats 400000 in
theorem number_any (a : Option Addr) (n c : Nat) (bs : List Int) (w : World) (h : RowB w a n bs) (hn : n ≤ 1048576) :
    Calls Try.prog 13 #[.slice a n c] w fun e w' => NumEnd w e w' := by
  have HR := hide h
  clear h
  go_enter Try.func13, Try.ntmps13
  go_wp2_with fail
  go_loop [3, 8] (fun m i => ∃ k z : Nat, k ≤ n ∧ i = .int .i64 k ∧ m = .int .i64 (z : Int) ∧ z < 1000003) (fun _ i => n - (intOf i).toNat)
  case atStart => exact ⟨0, 0, Nat.zero_le _, rfl, rfl, by omega⟩
  case round =>
    obtain ⟨k, z, hk, rfl, rfl, hz⟩ := hrel
    by_cases hlt : k < n
    · have hi1 : (k : Int) < (n : Int) := by omega
      rcases HR.out.2.2 with h0 | ⟨b, off, rfl, hl, hc⟩
      · omega
      have hck := hc k hlt
      have hx := HR.out.2.1 k
      generalize bs.getD k 0 = x at hck hx
      clear hc HR
      have hz1 : (0 : Int) ≤ (z : Int) ∧ (z : Int) < 1000003 := by omega
      go_wp2_with fail
      go_round
      case rel => exact ⟨k + 1, ((31 * (z : Int) + x) % 1000003).toNat, by omega, by go_num, by have := Int.emod_nonneg (31 * (z : Int) + x) (show (1000003 : Int) ≠ 0 by omega); congr 1; omega, by have := Int.emod_lt_of_pos (31 * (z : Int) + x) (show (0 : Int) < 1000003 by omega); omega⟩
      case measure => simp [intOf]; omega
    · go_wp2_with fail
      go_ret
      exact ⟨z, rfl, hz, rfl⟩
end Go.Proofs.Ytdhnhpjcoeglmaa


/- The laws' hasMark and sameSpace. -/
namespace Go.Proofs.Ytdhnhpjcoeglmaa
open Go.RowKit
set_option maxRecDepth 10000

set_option maxHeartbeats 1000000 in
theorem hasMark_any (a b : Option Addr) (n c m d : Nat) (L : List (List Int)) (ys : List Int) (w : World) (h : Lists w a n L) (g : Row w b m ys) (hs : sizeN n L ≤ 1048576) (hm : ys ∈ L) :
    Calls Try.prog 53 #[.slice a n c, .slice b m d] w fun e w' => e = .returned (.bool true) ∧ Below w.heap.size w w' := by
  have hn : n ≤ 1048576 := by unfold sizeN at hs; omega
  have HL := hide h
  have HG := hide g
  have HLL := hide h.1
  have HM := hide hm
  clear h g hm
  go_enter Try.func53, Try.ntmps53
  go_wp2_with fail
  go_loopw [9] (fun i wr => ∃ k : Nat, k ≤ n ∧ i = .int .i64 k ∧ Hid (∀ j, j < k → L.getD j [] ≠ ys) ∧ Hid (Below w.heap.size w wr)) (fun i _ => n - (intOf i).toNat)
  case atStart => exact ⟨0, Nat.zero_le _, rfl, fun j hj => by omega, Below.refl _ _⟩
  case round =>
    obtain ⟨k, hk, rfl, hno, hbw⟩ := hrel
    by_cases hlt : k < n
    · obtain ⟨b1, off, a0, n0, c0, rfl, hb, hc0, m0, r0⟩ := (HL.out.below hbw.out).at hlt
      have hl0 := len_le L k
      have hs' : n + sizeL L ≤ 1048576 := hs
      have q0 : n0 ≤ 1048576 := by have := r0.1; omega
      have HT := hide (sameI_any a0 b n0 m c0 d _ _ wr r0 (HG.out.below hbw.out) q0)
      by_cases he : L.getD k [] = ys
      · rw [he, sameB_self ys] at HT
        have HB := hide (fun q => hbw.out.trans ((below_drewN' wr q).mono hbw.out.size))
        clear r0 hl0 q0 hs' m0 hno hbw
        go_wp2_with fail
        refine HT.out.mono ?_
        rintro e w1 ⟨rfl, q, rfl⟩
        have HE := hide (HB.out q)
        go_wp2_with fail
        go_ret
        exact ⟨rfl, HE.out⟩
      · have hsf : sameB (L.getD k []) ys = false := by
          cases hx : sameB (L.getD k []) ys with
          | false => rfl
          | true => exact absurd (by unfold sameB at hx; simpa using hx) he
        rw [hsf] at HT
        have HNO : Hid (∀ j, j < k + 1 → L.getD j [] ≠ ys) := fun j hj => by
          by_cases e : j = k
          · subst e; exact he
          · exact hno.out j (by omega)
        have HB := hide (fun q => hbw.out.trans ((below_drewN' wr q).mono hbw.out.size))
        clear r0 hl0 q0 hs' m0 hno hbw he hsf
        go_wp2_with fail
        refine HT.out.mono ?_
        rintro e w1 ⟨rfl, q, rfl⟩
        have HE := hide (HB.out q)
        go_wp2_with fail
        go_roundw
        case rel => exact ⟨k + 1, by omega, by go_num, HNO, HE⟩
        case measure => simp [intOf]; omega
    · exfalso
      obtain ⟨i, hi, e⟩ := List.mem_iff_getElem.mp HM.out
      refine hno.out i (by have := HLL.out; omega) ?_
      rw [List.getD_eq_getElem?_getD, List.getElem?_eq_getElem hi]; exact e

set_option maxHeartbeats 400000 in
theorem sameSSV_any (a d : Option Addr) (n c e : Nat) (L : List (List Int)) (w : World) (h : Lists w a n L) (g : Lists w d n L) (hs : sizeN n L ≤ 1048576) :
    Calls Try.prog 43 #[.slice a n c, .slice d n e] w fun e w' => e = .returned (.bool true) ∧ Below w.heap.size w w' := by
  have hn : n ≤ 1048576 := by unfold sizeN at hs; omega
  have hne : ((n : Int) != (n : Int)) = false := by simp
  have HL := hide h
  have HG := hide g
  clear h g
  go_enter Try.func43, Try.ntmps43
  go_wp2_with fail
  go_loopw [13] (fun i wr => ∃ k : Nat, k ≤ n ∧ i = .int .i64 k ∧ Hid (Below w.heap.size w wr)) (fun i _ => n - (intOf i).toNat)
  case atStart => exact ⟨0, Nat.zero_le _, rfl, Below.refl _ _⟩
  case round =>
    obtain ⟨k, hk, rfl, hbw⟩ := hrel
    clear hne
    by_cases hlt : k < n
    · obtain ⟨b, off, a0, n0, c0, rfl, hb, hc0, m0, r0⟩ := (HL.out.below hbw.out).at hlt
      obtain ⟨b', off', a0', n0', c0', rfl, hb', hc0', m0', r0'⟩ := (HG.out.below hbw.out).at hlt
      have hl0 := len_le L k
      have hs' : n + sizeL L ≤ 1048576 := hs
      have q0 : n0 ≤ 1048576 := by have := r0.1; omega
      have HT := hide (fun q => sameI_any a0 a0' n0 n0' c0 c0' _ _ (wr.drewN q) (r0.drewN q) (r0'.drewN q) q0)
      have hsm := sameB_self (L.getD k [])
      generalize L.getD k [] = x0 at *
      clear r0 hl0 q0 hs' r0' m0 m0'
      go_wp2_with fail
      go_region_with (go_at_call 15; refine (HT.out 1).mono ?_; rintro e w1 ⟨rfl, q, rfl⟩)
      all_goals
        have HB := hide (hbw.out.trans ((below_drewN' wr (1 + q)).mono hbw.out.size))
        clear HT
        go_wp2_with fail
        go_roundw
        case rel => exact ⟨k + 1, by omega, by go_num, HB⟩
        case measure => simp [intOf]; omega
    · have hk' : k = n := by omega
      subst hk'
      go_wp2_with fail
      go_ret
      exact ⟨rfl, hbw.out⟩

set_option maxHeartbeats 2000000 in
theorem sameSpace_any (ma mb aa ab : Option Addr) (N K mc md ac ad B1 B2 : Nat) (ms : List (List Int)) (ar : List (Nat × Nat × Nat)) (w : World) (h : Lists w ma N ms) (g : Lists w mb N ms) (h2 : w.ownsRow B1 66 3 (.slice aa K ac) K (arcsL ar)) (g2 : w.ownsRow B2 66 3 (.slice ab K ad) K (arcsL ar)) (hK : K = ar.length) (hK9 : K ≤ 9600) (hs : sizeN N ms ≤ 1048576) :
    Calls Try.prog 49 #[.agg #[.slice ma N mc, .slice aa K ac], .agg #[.slice mb N md, .slice ab K ad]] w fun e w' => e = .returned (.bool true) ∧ Below w.heap.size w w' := by
  have hA := (below_al w (.cells #[.slice ma N mc, .slice aa K ac] 61)).trans ((below_al (w.alloc (.cells #[.slice ma N mc, .slice aa K ac] 61)) (.cells #[.slice mb N md, .slice ab K ad] 61)).mono (by simp))
  have HX0 := hide (keep (heap_alloc_new w (.cells #[.slice ma N mc, .slice aa K ac] 61)) (below_al (w.alloc (.cells #[.slice ma N mc, .slice aa K ac] 61)) (.cells #[.slice mb N md, .slice ab K ad] 61)))
  have HX1 := hide (heap_alloc2_new w (.cells #[.slice ma N mc, .slice aa K ac] 61) (.cells #[.slice mb N md, .slice ab K ad] 61))
  have HS := hide (sameSSV_any ma mb N mc md ms _ (h.below hA) (g.below hA) hs)
  have HO1 := hide (ownsRow_kept h2 fun gg hg => hA.block gg (own_lt h2 hg).2)
  have HO2 := hide (ownsRow_kept g2 fun gg hg => hA.block gg (own_lt g2 hg).2)
  have HB := hide hA
  have HKK := hide hK
  have hne : ((K : Int) != (K : Int)) = false := by simp
  clear h g h2 g2 hA hK
  go_enter Try.func49, Try.ntmps49
  go_upto_region 1 with fail
  generalize (w.alloc (.cells #[.slice ma N mc, .slice aa K ac] 61)).alloc (.cells #[.slice mb N md, .slice ab K ad] 61) = v at *
  obtain ⟨hc0, hc1⟩ := cells2 HX0.out
  obtain ⟨hd0, hd1⟩ := cells2 HX1.out
  go_wp2_with (refine HS.out.mono ?_; rintro e v1 ⟨rfl, hb⟩; obtain ⟨hc0', hc1'⟩ := cells2 (keep HX0.out hb); obtain ⟨hd0', hd1'⟩ := cells2 (keep HX1.out hb))
  have HB1 := hide (HB.out.trans (hb.mono HB.out.size))
  have HX2 := hide (keep HX0.out hb)
  have HY2 := hide (keep HX1.out hb)
  have HO3 := hide (ownsRow_kept HO1.out fun gg hg => hb.block gg (own_lt HO1.out hg).2)
  have HO4 := hide (ownsRow_kept HO2.out fun gg hg => hb.block gg (own_lt HO2.out hg).2)
  clear hc0 hc1 hd0 hd1 hc0' hc1' hd0' hd1' HS HO1 HO2 HX0 HX1 HB hb hne
  go_loopw [24] (fun i wr => ∃ k : Nat, k ≤ K ∧ i = .int .i64 k ∧ Hid (Below v1.heap.size v1 wr)) (fun i _ => K - (intOf i).toNat)
  case atStart => exact ⟨0, Nat.zero_le _, rfl, Below.refl _ _⟩
  case round =>
    obtain ⟨k, hk, rfl, hbw⟩ := hrel
    by_cases hlt : k < K
    rotate_left
    · have hnl : ¬ (k : Int) < (K : Int) := by omega
      have HE := hide (HB1.out.trans (hbw.out.mono HB1.out.size))
      go_wp2_with fail
      go_ret
      exact ⟨rfl, HE.out⟩
    have hlti : (k : Int) < (K : Int) := by omega
    obtain ⟨x, y, z, hxy, _⟩ := arc_get (show k < ar.length by rw [← HKK.out]; exact hlt)
    obtain ⟨ga, rfl, q0, q1, q2⟩ := arcs_at (ownsRow_kept HO3.out fun gg hg => hbw.out.block gg (own_lt HO3.out hg).2) hlt hxy
    obtain ⟨gb, rfl, r0, r1, r2⟩ := arcs_at (ownsRow_kept HO4.out fun gg hg => hbw.out.block gg (own_lt HO4.out hg).2) hlt hxy
    obtain ⟨hc0, hc1⟩ := cells2 (keep HX2.out hbw.out)
    obtain ⟨hd0, hd1⟩ := cells2 (keep HY2.out hbw.out)
    clear hxy
    go_wp2_with fail
    go_quiet (fail)
    have HE := hide (hbw.out.trans ((below_drewN' wr nq).mono hbw.out.size))
    go_wp2_with fail
    go_roundw
    case rel => exact ⟨k + 1, by omega, by go_num, HE⟩
    case measure => simp [intOf]; omega
end Go.Proofs.Ytdhnhpjcoeglmaa


/- l1Put: a number put to its place in a list, once; the list that is answered is the one that came, or a new one. -/
namespace Go.Proofs.Ytdhnhpjcoeglmaa
open Go.RowKit
set_option maxRecDepth 10000

/-- append, whatever is appended: nil, empty or not. -/
theorem wpList_append_any {P : Program} (w : World) {ops : Array Oper} {rest : List Oper} {o : Oper} {a : Act} {Q : Exit → Act → World → Prop} (hgd : o.guard = none) (s x : Operand) (t : TypeId)
    (ho : o.op = .call { callee := .builtin .append, args := #[s, x], argTypes := #[t, t] })
    (base : Nat) (e : TypeId) (i : TypeInfo) (z : Value) (size bytes : Nat) (ht : P.underlying t = some (.slice e)) (hi : P.info? e = some i) (hz : i.zero = some z)
    (hsize : i.size = size) (hby : i.bytes = bytes) (hzs : z.cells.size = size) (hsz : 0 < size)
    (v : Value) (n : Nat) (xs : List Value) (hs : a.eval s = v) (hown : w.ownsRow base e size v n xs)
    (ao : Option Addr) (m c : Nat) (news : List Value) (hx : a.eval x = .slice ao m c) (hl : news.length = m * size) (hnone : ao = none → m = 0 ∧ c = 0)
    (hnews : ∀ ad, ao = some ad → ∀ j u, news[j]? = some u → w.cell? (ad.add j) = some u) (h1 : ∀ u ∈ news, u.oneCell' = true)
    (h63 : n + m ≤ maxLen) (hbytes : (n + m) * bytes ≤ 140737488355328) (hbase : base ≤ w.heap.size)
    (h : ∀ v' w', w'.ownsRow base e size v' (n + m) (xs ++ news) → w.grownBy w' v.ownBlock → wpList P ops Q rest (a.put o.dst v') w') : wpList P ops Q (o :: rest) a w := by
  cases ao with
  | some ad => exact wpList_append_own w hgd s x t ho base e i z size bytes ht hi hz hsize hby hzs hsz v n xs hs hown ad m c news hx hl (hnews ad rfl) h1 h63 hbytes hbase fun v' w' r1 r2 _ => h v' w' r1 r2
  | none =>
    obtain ⟨rfl, rfl⟩ := hnone rfl
    have hnews : news = [] := List.eq_nil_of_length_eq_zero (by simpa using hl)
    subst hnews
    refine wpList_plain hgd fun K hK' => ?_
    have hrun := run_append_owned_none (P := P) w base t o.type e i size ht hi _ n xs hown
    unfold Oper.wp
    simp [execOp, ho, resolve, invoke, builtin, hs, hx, hrun, Result.andThen]
    exact hK' _ _ (by simpa using h v w (by simpa using hown) (World.grownBy.refl _ _))

/-- How l1Put ends. -/
def PutEnd (n b : Nat) (w : World) (e : Ending) (w' : World) : Prop :=
  ∃ g n' c' ys, e = .returned (.slice (some ⟨g, 0, none⟩) n' c') ∧ 1 ≤ n' ∧ n' ≤ n + 1 ∧ n' ≤ c' ∧ c' ≤ maxLen ∧ Row w' (some ⟨g, 0, none⟩) n' ys ∧ (g = b ∨ w.heap.size ≤ g) ∧ Below w.heap.size w w'

theorem cells_upto {w : World} {a : Option Addr} {l i : Nat} {A : List Int} (h : Row w a l A) (hi : i ≤ l) : ∀ ad, a = some ad → ∀ t u, ((A.take i).map (Value.int .i64))[t]? = some u → w.cell? (ad.add t) = some u := by
  intro ad had t u hu
  have hA := h.1
  have ht : t < i := by
    have := (List.getElem?_eq_some_iff.1 hu).1
    simp at this; omega
  rcases h.2 with h0 | ⟨b, off, e, hl, hc⟩
  · omega
  · rw [e] at had
    obtain rfl := Option.some.inj had
    rw [Addr.add_mid, hc t (by omega), ← hu]
    simp [ht, show t < A.length by omega]

theorem cells_behind {w : World} {a : Option Addr} {l i : Nat} {A : List Int} (h : Row w a l A) (hi : i < l) : ∀ b off, a = some ⟨b, off, none⟩ → ∀ t u, ((A.drop i).map (Value.int .i64))[t]? = some u → w.cell? ((⟨b, off + i, none⟩ : Addr).add t) = some u := by
  intro b off had t u hu
  have hA := h.1
  have ht : t < l - i := by
    have := (List.getElem?_eq_some_iff.1 hu).1
    simp at this; omega
  rcases h.2 with h0 | ⟨b', off', e, hl, hc⟩
  · omega
  · rw [e] at had
    obtain ⟨rfl, rfl⟩ : b' = b ∧ off' = off := by simpa using had
    rw [Addr.add_mid, Nat.add_assoc, hc (i + t) (by omega), ← hu]
    simp [show i + t < A.length by omega]

theorem ownsRow_row2 {B : Nat} {w : World} {v : Value} {n : Nat} {l : List Int} (hown : w.ownsRow B 3 1 v n (l.map (Value.int .i64))) : ∃ a c, v = .slice a n c ∧ Row w a n l := by
  have hl : l.length = n := by have := hown.1; simpa using this
  rcases hown.2 with ⟨rfl, rfl⟩ | ⟨g, cap, cur, rfl, hb, hh, hnc, _, hsz, ht⟩
  · exact ⟨none, 0, rfl, hl, .inl rfl⟩
  · refine ⟨_, cap, rfl, hl, .inr ⟨g, 0, rfl, (Array.getElem?_eq_some_iff.mp hh).1, fun i hi => ?_⟩⟩
    rw [cell_of_row w g (0 + i) _ _ _ hh, Nat.zero_add]
    have e1 : (cur.toList.take (n * 1))[i]? = some (.int .i64 (l.getD i 0)) := by
      rw [ht]; simp [List.getElem?_map, List.getElem?_eq_getElem (show i < l.length by omega)]
    rw [List.getElem?_take_of_lt (by omega)] at e1
    simpa using e1

theorem putEnd_own {n b m : Nat} {w v : World} {u : Value} {ys : List Int} (hb : Below w.heap.size w v) (hown : v.ownsRow w.heap.size 3 1 u m (ys.map (Value.int .i64))) (hm : 1 ≤ m) (hmn : m ≤ n + 1) : PutEnd n b w (.returned u) v := by
  rcases hown.2 with ⟨_, h0⟩ | ⟨g, cap, cur, rfl, hbg, hh, hnc, hcm, hsz, ht⟩
  · omega
  · obtain ⟨a', c', e, hr⟩ := ownsRow_row2 hown
    obtain ⟨rfl, rfl⟩ : a' = some ⟨g, 0, none⟩ ∧ c' = cap := by simpa [eq_comm] using e
    exact ⟨g, m, _, ys, rfl, hm, hmn, hnc, hcm, hr, .inr hbg, hb⟩

/-- What is there while l1Put builds its list. -/
structure PutSt (w v : World) (u : Value) (m : Nat) (ys : List Int) : Prop where
  own : v.ownsRow w.heap.size 3 1 u m (ys.map (Value.int .i64))
  bel : Below w.heap.size w v

theorem PutSt.first (w : World) : PutSt w (w.alloc (.cells #[] 3)) (.slice (some ⟨w.heap.size, 0, none⟩) 0 0) 0 [] :=
  ⟨⟨rfl, .inr ⟨w.heap.size, 0, #[], rfl, Nat.le_refl _, heap_alloc_new _ _, Nat.le_refl _, Nat.zero_le _, rfl, rfl⟩⟩, below_al w _⟩
theorem PutSt.alloc {w v : World} {u : Value} {m : Nat} {ys : List Int} (h : PutSt w v u m ys) (o : Obj) : PutSt w (v.alloc o) u m ys := ⟨h.own.alloc o, h.bel.trans ((below_al v o).mono h.bel.size)⟩
theorem PutSt.step {w v v' : World} {u u' : Value} {m q : Nat} {ys zs : List Int} (h : PutSt w v u m ys) (r1 : v'.ownsRow w.heap.size 3 1 u' (m + q) (ys.map (Value.int .i64) ++ zs.map (Value.int .i64))) (r2 : v.grownBy v' u.ownBlock) : PutSt w v' u' (m + q) (ys ++ zs) :=
  ⟨by rw [List.map_append]; exact r1, h.bel.grown r2 h.bel.size fun k hk => (h.own.lt k hk).1⟩
theorem PutSt.done {w v : World} {u : Value} {m n b : Nat} {ys : List Int} (h : PutSt w v u m ys) (hm : 1 ≤ m) (hmn : m ≤ n + 1) : PutEnd n b w (.returned u) v := putEnd_own h.bel h.own hm hmn

set_option maxHeartbeats 1000000 in
theorem put_nil (x : Int) (w : World) :
    Calls Try.prog 167 #[.slice none 0 0, .int .i64 x] w fun e w' => PutEnd 0 w.heap.size w e w' := by
  obtain ⟨i0, hi, hz0, hz1, hz2⟩ := info_split Try.info3
  have P0 := hide (PutSt.first w)
  go_enter Try.func167, Try.ntmps167
  go_wp2_with fail
  go_loop [5] (fun i => i = .int .i64 0) (fun _ => 0)
  case atStart => rfl
  case round =>
    obtain rfl := hrel
    go_wp2_with (at_builtin; first
      | (refine wpList_append_any _ rfl (.tmp 34) (.tmp 37) 31 rfl w.heap.size 3 i0 (.int .i64 0) 1 8 Try.underlying31 hi hz0 hz1 hz2 rfl (by decide) (.slice (some ⟨w.heap.size, 0, none⟩) 0 0) 0 [] rfl P0.out.own none 0 0 [] rfl rfl (fun _ => ⟨rfl, rfl⟩) (fun ad h => by cases h) (by simp) (by unfold maxLen; omega) (by omega) (by simp) ?_; intro u1 W1 r1 r2; have P1 := hide ((P0.out.step (q := 0) (zs := []) r1 r2).alloc (.cells #[.int .i64 x] 3)); clear r1 r2)
      | (refine wpList_append_own _ rfl (.tmp 39) (.tmp 41) 31 rfl w.heap.size 3 i0 (.int .i64 0) 1 8 Try.underlying31 hi hz0 hz1 hz2 rfl (by decide) u1 _ _ rfl P1.out.own ⟨W1.heap.size, 0, none⟩ 1 1 [.int .i64 x] rfl rfl (cell_one_new _ _ _) (by simp [Value.oneCell']) (by unfold maxLen; omega) (by omega) (Nat.le_trans P1.out.bel.size (Nat.le_refl _)) ?_; intro u2 W2 r1 r2 _; have P2 := hide (P1.out.step (q := 1) (zs := [x]) r1 r2); clear r1 r2)
      | (refine wpList_append_any _ rfl (.tmp 43) (.tmp 46) 31 rfl w.heap.size 3 i0 (.int .i64 0) 1 8 Try.underlying31 hi hz0 hz1 hz2 rfl (by decide) u2 _ _ rfl P2.out.own none 0 0 [] rfl rfl (fun _ => ⟨rfl, rfl⟩) (fun ad h => by cases h) (by simp) (by unfold maxLen; omega) (by omega) P2.out.bel.size ?_; intro u3 W3 r1 r2; have P3 := hide (P2.out.step (q := 0) (zs := []) r1 r2); clear r1 r2))
    go_ret
    exact P3.out.done (by omega) (by omega)

set_option maxHeartbeats 2000000 in
theorem put_some (b n c : Nat) (xs : List Int) (x : Int) (w : World) (h : Row w (some ⟨b, 0, none⟩) n xs) (hn : n ≤ 1000) (hn1 : 1 ≤ n) (hc : n ≤ c) (hc2 : c ≤ maxLen) :
    Calls Try.prog 167 #[.slice (some ⟨b, 0, none⟩) n c, .int .i64 x] w fun e w' => PutEnd n b w e w' := by
  have HR := hide h
  have hlen := hide h.1
  unfold maxLen at hc2
  clear h
  obtain ⟨i0, hi, hz0, hz1, hz2⟩ := info_split Try.info3
  have P0 := hide (PutSt.first w)
  go_enter Try.func167, Try.ntmps167
  go_wp2_with fail
  go_loop [5] (fun i => ∃ k : Nat, k ≤ n ∧ i = .int .i64 k) (fun i => n - (intOf i).toNat)
  case atStart => exact ⟨0, Nat.zero_le _, rfl⟩
  case round =>
    obtain ⟨k, hk, rfl⟩ := hrel
    have HC1 := hide (fun W (hb : Below w.heap.size w W) => cells_upto (HR.out.below hb) hk _ rfl)
    by_cases hlt : k < n
    · obtain ⟨b1, o1, y, he, hl1, hc1, H1⟩ := HR.out.at hlt
      obtain ⟨rfl, rfl⟩ : b1 = b ∧ o1 = 0 := by simpa [eq_comm] using he
      rw [Nat.zero_add] at hc1
      have hki : (k : Int) < (n : Int) := by omega
      have hkn : k < n := hlt
      have hkc : ¬ c = k := by omega
      have HC2 := hide (fun W (hb : Below w.heap.size w W) => cells_behind (HR.out.below hb) hlt b1 0 rfl)
      rw [Nat.zero_add] at HC2
      clear he hlt
      by_cases hy : y < x
      · go_wp2_with fail
        go_round
        case rel => exact ⟨k + 1, by omega, by go_num⟩
        case measure => simp [intOf]; omega
      · by_cases hy2 : y = x
        · go_wp2_with fail
          go_ret
          exact ⟨b1, n, c, xs, rfl, hn1, by omega, hc, by unfold maxLen; omega, HR.out, .inl rfl, Below.refl _ _⟩
        · go_wp2_with (at_builtin; first
            | (refine wpList_append_any _ rfl (.tmp 34) (.tmp 37) 31 rfl w.heap.size 3 i0 (.int .i64 0) 1 8 Try.underlying31 hi hz0 hz1 hz2 rfl (by decide) (.slice (some ⟨w.heap.size, 0, none⟩) 0 0) 0 [] rfl P0.out.own (some ⟨b1, 0, none⟩) k c ((xs.take k).map (Value.int .i64)) rfl (by have := hlen.out; simp; omega) (fun h => by cases h) (fun ad h => by cases h; exact HC1.out _ P0.out.bel) (ints_oneCell _ _) (by unfold maxLen; omega) (by omega) (by simp) ?_; intro u1 W1 r1 r2; have P1 := hide ((P0.out.step (q := k) (zs := xs.take k) r1 r2).alloc (.cells #[.int .i64 x] 3)); clear r1 r2)
            | (refine wpList_append_own _ rfl (.tmp 39) (.tmp 41) 31 rfl w.heap.size 3 i0 (.int .i64 0) 1 8 Try.underlying31 hi hz0 hz1 hz2 rfl (by decide) u1 _ _ rfl P1.out.own ⟨W1.heap.size, 0, none⟩ 1 1 [.int .i64 x] rfl rfl (cell_one_new _ _ _) (by simp [Value.oneCell']) (by unfold maxLen; omega) (by omega) P1.out.bel.size ?_; intro u2 W2 r1 r2 _; have P2 := hide (P1.out.step (q := 1) (zs := [x]) r1 r2); clear r1 r2)
            | (refine wpList_append_own _ rfl (.tmp 43) (.tmp 46) 31 rfl w.heap.size 3 i0 (.int .i64 0) 1 8 Try.underlying31 hi hz0 hz1 hz2 rfl (by decide) u2 _ _ rfl P2.out.own ⟨b1, k, none⟩ (n - k) (c - k) ((xs.drop k).map (Value.int .i64)) rfl (by have := hlen.out; simp; omega) (HC2.out _ P2.out.bel) (ints_oneCell _ _) (by unfold maxLen; omega) (by omega) P2.out.bel.size ?_; intro u3 W3 r1 r2 _; have P3 := hide (P2.out.step (q := n - k) (zs := xs.drop k) r1 r2); clear r1 r2))
          go_ret
          exact P3.out.done (by omega) (by omega)
    · have hk' : k = n := by omega
      have hki : ¬ (k : Int) < (n : Int) := by omega
      subst hk'
      go_wp2_with (at_builtin; first
        | (refine wpList_append_any _ rfl (.tmp 34) (.tmp 37) 31 rfl w.heap.size 3 i0 (.int .i64 0) 1 8 Try.underlying31 hi hz0 hz1 hz2 rfl (by decide) (.slice (some ⟨w.heap.size, 0, none⟩) 0 0) 0 [] rfl P0.out.own (some ⟨b, 0, none⟩) k c ((xs.take k).map (Value.int .i64)) rfl (by have := hlen.out; simp; omega) (fun h => by cases h) (fun ad h => by cases h; exact HC1.out _ P0.out.bel) (ints_oneCell _ _) (by unfold maxLen; omega) (by omega) (by simp) ?_; intro u1 W1 r1 r2; have P1 := hide ((P0.out.step (q := k) (zs := xs.take k) r1 r2).alloc (.cells #[.int .i64 x] 3)); clear r1 r2)
        | (refine wpList_append_own _ rfl (.tmp 39) (.tmp 41) 31 rfl w.heap.size 3 i0 (.int .i64 0) 1 8 Try.underlying31 hi hz0 hz1 hz2 rfl (by decide) u1 _ _ rfl P1.out.own ⟨W1.heap.size, 0, none⟩ 1 1 [.int .i64 x] rfl rfl (cell_one_new _ _ _) (by simp [Value.oneCell']) (by unfold maxLen; omega) (by omega) P1.out.bel.size ?_; intro u2 W2 r1 r2 _; have P2 := hide (P1.out.step (q := 1) (zs := [x]) r1 r2); clear r1 r2)
        | (refine wpList_append_any _ rfl (.tmp 43) (.tmp 46) 31 rfl w.heap.size 3 i0 (.int .i64 0) 1 8 Try.underlying31 hi hz0 hz1 hz2 rfl (by decide) u2 _ _ rfl P2.out.own _ _ _ [] rfl (by simp) (by intro h; first | cases h | (split at h <;> cases h)) (by intro ad _ j u hu; simp at hu) (by simp) (by unfold maxLen; omega) (by omega) P2.out.bel.size ?_; intro u3 W3 r1 r2; have P3 := hide (P2.out.step (zs := []) r1 r2); clear r1 r2))
      all_goals go_ret
      all_goals exact P3.out.done (by omega) (by omega)
end Go.Proofs.Ytdhnhpjcoeglmaa


/- someOf: some rising numbers in new memory, whatever the bytes; nothing that was there is written but the cursor. -/
namespace Go.Proofs.Ytdhnhpjcoeglmaa
open Go.RowKit
set_option maxRecDepth 10000

/-- A list that is nil, or lies from the head of a block at B or behind. -/
def NewL (B : Nat) (w : World) (a : Option Addr) (n c : Nat) (xs : List Int) : Prop :=
  (a = none ∧ n = 0 ∧ c = 0 ∧ xs = []) ∨ ∃ g, a = some ⟨g, 0, none⟩ ∧ B ≤ g ∧ 1 ≤ n ∧ n ≤ c ∧ c ≤ maxLen ∧ Row w a n xs

theorem NewL.row {B : Nat} {w : World} {a : Option Addr} {n c : Nat} {xs : List Int} (h : NewL B w a n c xs) : Row w a n xs := by
  rcases h with ⟨rfl, rfl, rfl, rfl⟩ | ⟨g, _, _, _, _, _, hr⟩
  · exact ⟨rfl, .inl rfl⟩
  · exact hr

theorem NewL.keep {B : Nat} {w w' : World} {a : Option Addr} {n c : Nat} {xs : List Int} (h : NewL B w a n c xs) (hs : w.heap.size ≤ w'.heap.size) (hk : ∀ g, B ≤ g → g < w.heap.size → (∃ o, a = some o ∧ o.block = g) → w'.heap[g]? = w.heap[g]?) : NewL B w' a n c xs := by
  rcases h with h | ⟨g, rfl, hB, h1, h2, h3, hr⟩
  · exact .inl h
  · refine .inr ⟨g, rfl, hB, h1, h2, h3, hr.1, ?_⟩
    rcases hr.2 with h0 | ⟨b, off, e, hl, hc⟩
    · exact .inl h0
    · obtain ⟨rfl, rfl⟩ : b = g ∧ off = 0 := by simpa [eq_comm] using e
      exact .inr ⟨b, 0, rfl, by omega, fun i hi => (World.cell?_of_block (hk b hB hl ⟨_, rfl, rfl⟩)).trans (hc i hi)⟩

theorem NewL.kept {B bc C : Nat} {w w' : World} {a : Option Addr} {n c : Nat} {xs : List Int} (h : NewL B w a n c xs) (hk : Kept bc C w w') (hC : w.heap.size ≤ C) (hb : bc < B) : NewL B w' a n c xs :=
  h.keep hk.size fun g hg hl _ => hk.block g (by omega) (by omega)
theorem NewL.mono {B C : Nat} {w : World} {a : Option Addr} {n c : Nat} {xs : List Int} (h : NewL B w a n c xs) (hC : C ≤ B) : NewL C w a n c xs := by
  rcases h with h | ⟨g, e, hB, h1⟩
  · exact .inl h
  · exact .inr ⟨g, e, by omega, h1⟩

/-- What is there while someOf draws. -/
structure SomeSt (w v : World) (bc : Nat) (ca : Option Addr) (cn cc p : Nat) (bs : List Int) (u : Value) (m : Nat) : Prop where
  new : ∃ a n c xs, u = .slice a n c ∧ n ≤ m ∧ NewL w.heap.size v a n c xs
  cur : Cur v bc ca cn cc p
  bytes : RowB v ca cn bs
  kept : Kept bc w.heap.size w v

/-- How someOf ends. -/
def SomeEnd (bc : Nat) (ca : Option Addr) (cn cc p : Nat) (bs : List Int) (w : World) (e : Ending) (w' : World) : Prop :=
  ∃ a n c xs p', e = .returned (.slice a n c) ∧ n ≤ 2 ∧ NewL w.heap.size w' a n c xs ∧ p' ≤ p + 3 ∧ Cur w' bc ca cn cc p' ∧ RowB w' ca cn bs ∧ Kept bc w.heap.size w w'

theorem SomeSt.only {w v v' : World} {bc : Nat} {ca : Option Addr} {cn cc p p' : Nat} {bs : List Int} {u : Value} {m : Nat} (h : SomeSt w v bc ca cn cc p bs u m) (ho : OnlyC bc v v') (hc : Cur v' bc ca cn cc p') (hap : Apart ca cn bc) (hb : bc < w.heap.size) : SomeSt w v' bc ca cn cc p' bs u m := by
  obtain ⟨a, n, c, xs, e, hn, hl⟩ := h.new
  exact ⟨⟨a, n, c, xs, e, hn, hl.kept (Kept.of_only (B := v.heap.size) ho) (Nat.le_refl _) hb⟩, hc, h.bytes.keep ho hap, h.kept.trans (Kept.of_only ho)⟩

/-- A put. -/
theorem SomeSt.put {w v : World} {bc : Nat} {ca : Option Addr} {cn cc p : Nat} {bs : List Int} {u : Value} {m : Nat} (h : SomeSt w v bc ca cn cc p bs u m) (hm : m ≤ 100) (x : Int) (hap : Apart ca cn bc) :
    Calls Try.prog 167 #[u, .int .i64 x] v fun e v' => ∃ u', e = .returned u' ∧ SomeSt w v' bc ca cn cc p bs u' (m + 1) := by
  have hcl := h.cur.lt
  have fin : ∀ {n b : Nat} {e : Ending} {v' : World}, n ≤ m → w.heap.size ≤ b → PutEnd n b v e v' → ∃ u', e = .returned u' ∧ SomeSt w v' bc ca cn cc p bs u' (m + 1) := by
    rintro n b e v' hn hgb ⟨g, n', c', ys, rfl, h1, h2, h3, h4, h5, h6, h7⟩
    refine ⟨_, rfl, ⟨_, _, _, ys, rfl, by omega, .inr ⟨g, rfl, ?_, h1, h3, h4, h5⟩⟩, h.cur.below h7 hcl, h.bytes.kept (Kept.of_below h7) hap, h.kept.trans ((Kept.of_below h7).mono h.kept.size)⟩
    have := h.kept.size
    rcases h6 with rfl | h6
    · exact hgb
    · omega
  obtain ⟨a, n, c, xs, rfl, hn, hl⟩ := h.new
  rcases hl with ⟨rfl, rfl, rfl, rfl⟩ | ⟨g, rfl, hB, h1, h2, h3, hr⟩
  · exact (put_nil x v).mono fun e v' he => fin (Nat.zero_le _) h.kept.size he
  · exact (put_some g n c xs x v hr (by omega) h1 h2 h3).mono fun e v' he => fin hn hB he

theorem SomeSt.done {w v : World} {bc : Nat} {ca : Option Addr} {cn cc p q : Nat} {bs : List Int} {u : Value} {m : Nat} (h : SomeSt w v bc ca cn cc q bs u m) (hm : m ≤ 2) (hq : q ≤ p + 3) : SomeEnd bc ca cn cc p bs w (.returned u) v := by
  obtain ⟨a, n, c, xs, rfl, hn, hl⟩ := h.new
  exact ⟨a, n, c, xs, q, rfl, by omega, hl, hq, h.cur, h.bytes, h.kept⟩

set_option maxHeartbeats 1000000 in
theorem some_draw (pl lo : Nat) (bc : Nat) (ca : Option Addr) (cn cc p : Nat) (bs : List Int) (w : World) (h : Cur w bc ca cn cc p) (hr : RowB w ca cn bs) (hap : Apart ca cn bc) (hp : p ≤ 900000) (hn : cn ≤ 1048576) (hpl : 2 ≤ pl) (hpl2 : pl ≤ 200) (hlo : lo ≤ 1) :
    Calls Try.prog 131 #[.pointer (some ⟨bc, 0, none⟩), .int .i64 (pl : Int), .int .i64 (lo : Int), .int .i64 2] w fun e w' => SomeEnd bc ca cn cc p bs w e w' := by
  have hbc := h.lt
  have ST := hide (SomeSt.mk (w := w) (u := .slice none 0 0) (m := 0) ⟨none, 0, 0, [], rfl, Nat.le_refl _, .inl ⟨rfl, rfl, rfl, rfl⟩⟩ h hr (Kept.refl bc _ w))
  have HP := hide (pick_any (3 - lo) bc ca cn cc p bs w h hr (by omega) hn (by omega) (by omega))
  rw [show ((3 - lo : Nat) : Int) = 2 - (lo : Int) + 1 by omega] at HP
  clear h hr
  go_enter Try.func131, Try.ntmps131
  go_wp2_with fail
  refine HP.out.mono ?_
  rintro e v1 ⟨r, rfl, hr, hcur, ho⟩
  have S1 := hide (ST.out.only ho hcur hap hbc)
  clear hcur ho ST HP
  go_wp2_with fail
  go_loopw [9, 10] (fun u i wr => ∃ k q m : Nat, i = .int .i64 k ∧ k + m ≤ 2 ∧ q + k ≤ p + 3 ∧ Hid (SomeSt w wr bc ca cn cc q bs u m)) (fun _ i _ => (intOf i).toNat)
  case atStart => exact ⟨lo + r, p + 1, 0, by go_num, by omega, by omega, S1⟩
  case round =>
    obtain ⟨k, q, m, rfl, hkm, hq, S0⟩ := hrel
    clear S1
    by_cases hlt : 0 < k
    · have hi1 : (0 : Int) < (k : Int) := by omega
      go_wp2_with fail
      refine (pick_any pl bc ca cn cc q bs _ S0.out.cur S0.out.bytes (by omega) hn hpl hpl2).mono ?_
      rintro e v2 ⟨x, rfl, hx, hcur, ho⟩
      have S2 := hide (S0.out.only ho hcur hap hbc)
      clear hcur ho S0
      go_wp2_with fail
      refine (S2.out.put (by omega) _ hap).mono ?_
      rintro e v3 ⟨u', rfl, S3'⟩
      have S3 := hide S3'
      clear S3' S2
      go_wp2_with fail
      go_roundw
      case rel => exact ⟨k - 1, q + 1, m + 1, by go_num, by omega, by omega, S3⟩
      case measure => simp [intOf]; omega
    · have hk0 : k = 0 := by omega
      subst hk0
      go_wp2_with fail
      go_ret
      exact S0.out.done (by omega) (by omega)
end Go.Proofs.Ytdhnhpjcoeglmaa


/- A net that is being drawn: its transitions in a row of their own, each list of at most two numbers, nil or in a block of its own. -/
namespace Go.Proofs.Ytdhnhpjcoeglmaa
open Go.RowKit
set_option maxRecDepth 10000

theorem NewL.lt {B : Nat} {w : World} {a : Option Addr} {n c : Nat} {xs : List Int} (h : NewL B w a n c xs) {o : Addr} (ho : a = some o) : B ≤ o.block ∧ o.block < w.heap.size := by
  rcases h with ⟨e, _⟩ | ⟨g, e, hB, h1, _, _, hr⟩
  · rw [e] at ho; cases ho
  · rw [e] at ho
    obtain rfl := Option.some.inj ho
    rcases hr.2 with h0 | ⟨b, off, e2, hl, _⟩
    · omega
    · rw [e] at e2
      obtain ⟨rfl, rfl⟩ : g = b ∧ 0 = off := by simpa using e2
      exact ⟨hB, hl⟩

def TriC (B : Nat) (v : World) (u : Value) (cells : List Value) (j : Nat) : Prop :=
  ∃ a n c xs, cells[j]? = some (.slice a n c) ∧ n ≤ 2 ∧ NewL B v a n c xs ∧ ∀ o, a = some o → u.ownBlock ≠ some o.block

structure NetOwn (B : Nat) (v : World) (u : Value) (k : Nat) (cells : List Value) : Prop where
  own : v.ownsRow B 78 3 u k cells
  tris : ∀ j, j < 3 * k → TriC B v u cells j

theorem NetOwn.nil (B : Nat) (v : World) : NetOwn B v (.slice none 0 0) 0 [] := ⟨World.ownsRow_nil _ _ _ _, fun j hj => absurd hj (by omega)⟩

theorem NetOwn.moved {B : Nat} {v v' : World} {u : Value} {k : Nat} {cells : List Value} (h : NetOwn B v u k cells) (hs : v.heap.size ≤ v'.heap.size) (hk : ∀ q, B ≤ q → q < v.heap.size → v'.heap[q]? = v.heap[q]?) : NetOwn B v' u k cells := by
  refine ⟨⟨h.own.1, ?_⟩, fun j hj => ?_⟩
  · rcases h.own.2 with hn | ⟨g, cp, cur, e, hg, hh, r⟩
    · exact .inl hn
    · exact .inr ⟨g, cp, cur, e, hg, (hk g hg (Array.getElem?_eq_some_iff.mp hh).1).trans hh, r⟩
  · obtain ⟨a, n, c, xs, e, hn, hl, hd⟩ := h.tris j hj
    exact ⟨a, n, c, xs, e, hn, hl.keep hs fun g hg hlt _ => hk g hg hlt, hd⟩

theorem NetOwn.kept {B bc C : Nat} {v v' : World} {u : Value} {k : Nat} {cells : List Value} (h : NetOwn B v u k cells) (hk : Kept bc C v v') (hC : v.heap.size ≤ C) (hb : bc < B) : NetOwn B v' u k cells :=
  h.moved hk.size fun q hq hl => hk.block q (by omega) (by omega)
theorem NetOwn.low {B C : Nat} {v : World} {u : Value} {k : Nat} {cells : List Value} (h : NetOwn B v u k cells) (hC : C ≤ B) : NetOwn C v u k cells := by
  refine ⟨⟨h.own.1, ?_⟩, fun j hj => ?_⟩
  · rcases h.own.2 with hn | ⟨g, cp, cur, e, hg, r⟩
    · exact .inl hn
    · exact .inr ⟨g, cp, cur, e, by omega, r⟩
  · obtain ⟨a, n, c, xs, e, hn, hl, hd⟩ := h.tris j hj
    exact ⟨a, n, c, xs, e, hn, hl.mono hC, hd⟩

theorem NetOwn.append {B : Nat} {v W : World} {u : Value} {k : Nat} {cells : List Value} {g cp : Nat} {a0 a1 a2 : Option Addr} {n0 n1 n2 c0 c1 c2 : Nat} {x0 x1 x2 : List Int} (h : NetOwn B v u k cells)
    (h0 : NewL B v a0 n0 c0 x0) (h1 : NewL B v a1 n1 c1 x1) (h2 : NewL B v a2 n2 c2 x2) (m0 : n0 ≤ 2) (m1 : n1 ≤ 2) (m2 : n2 ≤ 2)
    (d0 : ∀ o, a0 = some o → u.ownBlock ≠ some o.block) (d1 : ∀ o, a1 = some o → u.ownBlock ≠ some o.block) (d2 : ∀ o, a2 = some o → u.ownBlock ≠ some o.block)
    (hown : W.ownsRow B 78 3 (.slice (some ⟨g, 0, none⟩) (k + 1) cp) (k + 1) (cells ++ [.slice a0 n0 c0, .slice a1 n1 c1, .slice a2 n2 c2])) (hgr : v.grownBy W u.ownBlock) (hl : u.ownBlock = some g ∨ g = v.heap.size) :
    NetOwn B W (.slice (some ⟨g, 0, none⟩) (k + 1) cp) (k + 1) (cells ++ [.slice a0 n0 c0, .slice a1 n1 c1, .slice a2 n2 c2]) := by
  have hcl : cells.length = 3 * k := by have := h.own.1; omega
  have key : ∀ {a : Option Addr} {n c : Nat} {xs : List Int}, NewL B v a n c xs → (∀ o, a = some o → u.ownBlock ≠ some o.block) → NewL B W a n c xs ∧ ∀ o, a = some o → (Value.slice (some ⟨g, 0, none⟩) (k + 1) cp).ownBlock ≠ some o.block := by
    intro a n c xs hn hd
    refine ⟨hn.keep hgr.size fun q hq hlt ⟨o, ho, hoq⟩ => hgr.block q hlt fun e => hd o ho (by rw [hoq]; exact e.symm), fun o ho e => ?_⟩
    have e' : g = o.block := by simpa [Value.ownBlock] using e
    have hlt := (hn.lt ho).2
    rcases hl with hl | hl
    · exact hd o ho (by rw [hl, e'])
    · omega
  refine ⟨hown, fun j hj => ?_⟩
  by_cases hlt : j < 3 * k
  · obtain ⟨a, n, c, xs, e, hn, hl', hd⟩ := h.tris j hlt
    obtain ⟨q1, q2⟩ := key hl' hd
    exact ⟨a, n, c, xs, by rw [List.getElem?_append_left (by omega)]; exact e, hn, q1, q2⟩
  · have hget : (cells ++ [.slice a0 n0 c0, .slice a1 n1 c1, .slice a2 n2 c2])[j]? = [Value.slice a0 n0 c0, .slice a1 n1 c1, .slice a2 n2 c2][j - 3 * k]? := by rw [List.getElem?_append_right (by omega), hcl]
    obtain hj0 | hj0 | hj0 : j - 3 * k = 0 ∨ j - 3 * k = 1 ∨ j - 3 * k = 2 := by omega
    · obtain ⟨q1, q2⟩ := key h0 d0
      exact ⟨_, _, _, _, by rw [hget, hj0]; rfl, m0, q1, q2⟩
    · obtain ⟨q1, q2⟩ := key h1 d1
      exact ⟨_, _, _, _, by rw [hget, hj0]; rfl, m1, q1, q2⟩
    · obtain ⟨q1, q2⟩ := key h2 d2
      exact ⟨_, _, _, _, by rw [hget, hj0]; rfl, m2, q1, q2⟩

theorem NetOwn.set {B : Nat} {v : World} {k : Nat} {cells : List Value} {g cp j : Nat} {a : Option Addr} {n c : Nat} {xs : List Int} (h : NetOwn B v (.slice (some ⟨g, 0, none⟩) k cp) k cells) (hj : j < 3 * k)
    (hn : NewL B v a n c xs) (hn2 : n ≤ 2) (hd : ∀ o, a = some o → o.block ≠ g) : NetOwn B (v.setCell ⟨g, j, none⟩ (.slice a n c)) (.slice (some ⟨g, 0, none⟩) k cp) k (cells.set j (.slice a n c)) := by
  have hcl : cells.length = 3 * k := by have := h.own.1; omega
  have hoth : ∀ q, q ≠ g → (v.setCell ⟨g, j, none⟩ (.slice a n c)).heap[q]? = v.heap[q]? := fun q hq => Below.heap_setCell _ _ _ _ hq
  have hsz : v.heap.size ≤ (v.setCell ⟨g, j, none⟩ (.slice a n c)).heap.size := by simp [World.setCell]
  refine ⟨⟨by simpa using h.own.1, ?_⟩, fun i hi => ?_⟩
  · rcases h.own.2 with ⟨e, _⟩ | ⟨g', cp', cur, e, hg, hh, r1, r2, r3, r4⟩
    · simp at e
    · obtain ⟨rfl, rfl⟩ : g = g' ∧ cp = cp' := by simpa using e
      refine .inr ⟨g, cp, _, rfl, hg, heap_setCell_same v g j cur _ _ hh, r1, r2, by simpa using r3, ?_⟩
      rw [← r4]
      simp [List.take_set]
  · obtain ⟨a', n', c', xs', e, hn', hl', hd'⟩ := h.tris i hi
    by_cases hij : i = j
    · subst hij
      exact ⟨a, n, c, xs, by rw [List.getElem?_set_self (by omega)], hn2, hn.keep hsz fun q _ _ ⟨o, ho, hoq⟩ => hoth q (by have := hd o ho; omega), fun o ho e => hd o ho (by simpa [Value.ownBlock, eq_comm] using e)⟩
    · exact ⟨a', n', c', xs', by rw [List.getElem?_set_ne (fun e => hij e.symm)]; exact e, hn', hl'.keep hsz fun q _ _ ⟨o, ho, hoq⟩ => hoth q (by have := hd' o ho; simp [Value.ownBlock] at this; omega), hd'⟩

theorem exists_list {P : Nat → List Int → Prop} (n : Nat) (h : ∀ j, j < n → ∃ x, P j x) : ∃ L : List (List Int), L.length = n ∧ ∀ j, j < n → P j (L.getD j []) := by
  induction n with
  | zero => exact ⟨[], rfl, fun j hj => absurd hj (by omega)⟩
  | succ n ih =>
    obtain ⟨L, hL, hP⟩ := ih fun j hj => h j (by omega)
    obtain ⟨x, hx⟩ := h n (by omega)
    refine ⟨L ++ [x], by simp [hL], fun j hj => ?_⟩
    by_cases hjn : j = n
    · subst hjn
      rw [List.getD_eq_getElem?_getD, List.getElem?_append_right (by omega), hL]
      simpa using hx
    · have := hP j (by omega)
      rw [List.getD_eq_getElem?_getD, List.getElem?_append_left (by omega), ← List.getD_eq_getElem?_getD]
      exact this

/-- A drawn net can be read. -/
theorem NetOwn.lists {B : Nat} {v : World} {u : Value} {k : Nat} {cells : List Value} (h : NetOwn B v u k cells) (hk : k ≤ 5) : ∃ a c L, u = .slice a k c ∧ Lists v a (3 * k) L ∧ sizeN k L ≤ 35 ∧ (∀ o, a = some o → B ≤ o.block) := by
  have hcl : cells.length = 3 * k := by have := h.own.1; omega
  obtain ⟨L, hL, hP⟩ := exists_list (P := fun j x => ∃ a n c, cells[j]? = some (.slice a n c) ∧ n ≤ 2 ∧ NewL B v a n c x) (3 * k) fun j hj => by
    obtain ⟨a, n, c, xs, e, hn, hl, _⟩ := h.tris j hj
    exact ⟨xs, a, n, c, e, hn, hl⟩
  have hsz : ∀ q, q ≤ 3 * k → sizeL (L.take q) ≤ 2 * q := by
    intro q
    induction q with
    | zero => intro _; simp [sizeL]
    | succ q ih =>
      intro hq
      rw [sizeL_take_succ L q (by omega)]
      obtain ⟨a, n, c, _, hn, hl⟩ := hP q (by omega)
      have := hl.row.1
      have := ih (by omega)
      omega
  have hs : sizeN k L ≤ 35 := by
    unfold sizeN
    have := hsz (3 * k) (Nat.le_refl _)
    rw [List.take_of_length_le (by omega)] at this
    omega
  rcases h.own.2 with ⟨e, h0⟩ | ⟨g, cp, cur, e, hg, hh, _, _, hsc, htk⟩
  · subst h0
    exact ⟨none, 0, L, e, ⟨hL, .inl rfl⟩, hs, fun o ho => by cases ho⟩
  · refine ⟨_, cp, L, e, ⟨hL, .inr ⟨g, 0, rfl, (Array.getElem?_eq_some_iff.mp hh).1, fun j hj => ?_⟩⟩, hs, fun o ho => by obtain rfl := Option.some.inj ho; exact hg⟩
    obtain ⟨a, n, c, e1, hn, hl⟩ := hP j hj
    refine ⟨a, n, c, ?_, by unfold maxLen; omega, hl.row⟩
    rw [cell_of_row v g (0 + j) cur _ _ hh, Nat.zero_add]
    have e2 : (cur.toList.take (k * 3))[j]? = cells[j]? := by rw [htk]
    rw [List.getElem?_take_of_lt (by omega), Array.getElem?_toList] at e2
    rw [e2, e1]
end Go.Proofs.Ytdhnhpjcoeglmaa
