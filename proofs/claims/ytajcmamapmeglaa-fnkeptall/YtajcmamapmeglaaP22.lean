/- Contracts that the proof stands on, one behind the other. -/
import Derived.Test.YtajcmamapmeglaaP21
import Derived.Deep.Cut
/- A drawn net some of whose lists are cut: its lists in memory of the call's own. -/
namespace Go.Proofs.Ytajcmamapmeglaa
open Go.RowKit
set_option maxRecDepth 10000

def CellR (B g : Nat) (v : World) (x : Value) : Prop :=
  ∃ a n c xs, x = .slice a n c ∧ n ≤ 2 ∧ n ≤ c ∧ c ≤ maxLen ∧ Row v a n xs ∧ (0 < n → ∀ o, a = some o → B ≤ o.block ∧ o.block ≠ g)

/-- Block g holds the 3 k lists of a net. -/
structure NetR (B : Nat) (v : World) (g k : Nat) : Prop where
  hB : B ≤ g
  out : ∃ C, v.heap[g]? = some (.cells C 106 (0, 0)) ∧ 3 * k ≤ C.size ∧ ∀ j, j < 3 * k → ∃ x, C[j]? = some x ∧ CellR B g v x

theorem CellR.kept {B g bc : Nat} {v v' : World} {x : Value} (h : CellR B g v x) (hk : Kept bc v.heap.size v v') (hb : bc < B) : CellR B g v' x := by
  obtain ⟨a, n, c, xs, e, h1, h2, h3, h4, h5⟩ := h
  exact ⟨a, n, c, xs, e, h1, h2, h3, h4.kept hk (fun h0 o ho => by have := (h5 h0 o ho).1; omega), h5⟩

theorem NetR.lt {B g k : Nat} {v : World} (h : NetR B v g k) : g < v.heap.size := by obtain ⟨C, h1, _⟩ := h.out; exact row_lt h1

theorem NetR.kept {B g k bc : Nat} {v v' : World} (h : NetR B v g k) (hk : Kept bc v.heap.size v v') (hb : bc < B) : NetR B v' g k := by
  obtain ⟨C, h1, h2, h3⟩ := h.out
  have := h.hB
  exact ⟨h.hB, C, (hk.block g (row_lt h1) (by omega)).trans h1, h2, fun j hj => by obtain ⟨x, e, hx⟩ := h3 j hj; exact ⟨x, e, hx.kept hk hb⟩⟩

theorem NetR.of_own {B : Nat} {v : World} {g k cp : Nat} {cells : List Value} (h : NetOwn B v (.slice (some ⟨g, 0, none⟩) k cp) k cells) : NetR B v g k := by
  rcases h.own.2 with ⟨e, _⟩ | ⟨g', cp', cur, e, hg, hh, _, _, hsc, htk⟩
  · cases e
  · simp only [Value.slice.injEq, Option.some.injEq, Addr.mk.injEq, and_true] at e
    obtain ⟨rfl, _⟩ := e
    have hcl := h.own.1
    refine ⟨hg, cur, hh, ?_, fun j hj => ?_⟩
    · have := congrArg List.length htk
      rw [List.length_take] at this
      simp at this
      omega
    · obtain ⟨a, n, c, xs, e1, hn, hl, hd⟩ := h.tris j hj
      refine ⟨.slice a n c, ?_, a, n, c, xs, rfl, hn, ?_, ?_, hl.row, fun h0 o ho => ⟨(hl.lt ho).1, fun e => hd o ho (by simp [Value.ownBlock, e])⟩⟩
      · rw [← htk] at e1
        rw [List.getElem?_take_of_lt (by omega), Array.getElem?_toList] at e1
        exact e1
      · rcases hl with ⟨_, rfl, _⟩ | ⟨_, _, _, _, h2, _⟩
        · exact Nat.zero_le _
        · exact h2
      · rcases hl with ⟨_, _, rfl, _⟩ | ⟨_, _, _, _, _, h2, _⟩
        · exact Nat.zero_le _
        · exact h2

theorem NetR.cell {B g k : Nat} {v : World} (h : NetR B v g k) {j : Nat} (hj : j < 3 * k) : ∃ a n c xs, v.cell? ⟨g, j, none⟩ = some (.slice a n c) ∧ v.frozen? ⟨g, j, none⟩ = false ∧ n ≤ 2 ∧ n ≤ c ∧ c ≤ maxLen ∧ Row v a n xs ∧ (0 < n → ∀ o, a = some o → B ≤ o.block ∧ o.block ≠ g) := by
  obtain ⟨C, h1, h2, h3⟩ := h.out
  obtain ⟨x, e, a, n, c, xs, rfl, r1, r2, r3, r4, r5⟩ := h3 j hj
  exact ⟨a, n, c, xs, (cell_of_row v g j C _ _ h1).trans e, frozen_of_row v g j C _ h1, r1, r2, r3, r4, r5⟩

theorem sizeV (w : World) (p : Addr) (v : Value) : (w.setCell p v).heap.size = w.heap.size := by simp [World.setCell]

theorem Row.cut {v : World} {a : Option Addr} {n n' : Nat} {xs : List Int} (h : Row v a n xs) (hn : n' ≤ n) : Row v a n' (xs.take n') := by
  refine ⟨by rw [List.length_take]; have := h.1; omega, ?_⟩
  rcases h.2 with h0 | ⟨b, off, e, hb, hc⟩
  · exact .inl (by omega)
  · refine .inr ⟨b, off, e, hb, fun i hi => ?_⟩
    rw [hc i (by omega), List.getD_eq_getElem?_getD, List.getD_eq_getElem?_getD, List.getElem?_take_of_lt hi]

theorem CellR.set {B g k : Nat} {v : World} {x u : Value} (h : CellR B g v x) : CellR B g (v.setCell ⟨g, k, none⟩ u) x := by
  obtain ⟨a, n, c, xs, e, h1, h2, h3, h4, h5⟩ := h
  refine ⟨a, n, c, xs, e, h1, h2, h3, ⟨h4.1, ?_⟩, h5⟩
  rcases h4.2 with h0 | ⟨b, off, e2, hb, hc⟩
  · exact .inl h0
  · by_cases hn : 0 < n
    · refine .inr ⟨b, off, e2, by rw [sizeV]; exact hb, fun i hi => ?_⟩
      have hne := (h5 hn _ e2).2
      exact (World.cell?_of_block (a := ⟨b, off + i, none⟩) (Below.heap_setCell _ _ _ _ hne)).trans (hc i hi)
    · exact .inl (by omega)

/-- A list is cut. -/
theorem NetR.set {B g k : Nat} {v : World} (h : NetR B v g k) {j : Nat} (hj : j < 3 * k) {a : Option Addr} {n n' c : Nat} (hc : v.cell? ⟨g, j, none⟩ = some (.slice a n c)) (hn : n' ≤ n) : NetR B (v.setCell ⟨g, j, none⟩ (.slice a n' c)) g k := by
  obtain ⟨C, h1, h2, h3⟩ := h.out
  refine ⟨h.hB, C.setIfInBounds j (.slice a n' c), heap_setCell_same _ _ _ _ _ _ h1, by simpa using h2, fun i hi => ?_⟩
  rw [Array.getElem?_setIfInBounds]
  by_cases e : j = i
  · subst e
    refine ⟨.slice a n' c, by rw [if_pos rfl, if_pos (by omega)], ?_⟩
    obtain ⟨x, e1, hx⟩ := h3 j hj
    rw [cell_of_row v g j C _ _ h1, e1] at hc
    obtain rfl := Option.some.inj hc
    obtain ⟨a1, n1, c1, xs, e2, r1, r2, r3, r4, r5⟩ := (hx.set (k := j) (u := .slice a n' c))
    simp only [Value.slice.injEq] at e2
    obtain ⟨rfl, rfl, rfl⟩ := e2
    exact ⟨_, n', _, _, rfl, by omega, by omega, r3, r4.cut hn, fun h0 o ho => r5 (by omega) o ho⟩
  · obtain ⟨x, e1, hx⟩ := h3 i hi
    exact ⟨x, by rw [if_neg e]; exact e1, hx.set⟩

theorem Row.movedV {B : Nat} {v W : World} {a : Option Addr} {n : Nat} {xs : List Int} (h : Row v a n xs) (hl : 0 < n → ∀ o, a = some o → B ≤ o.block) (hs : v.heap.size ≤ W.heap.size) (hk : ∀ q, B ≤ q → q < v.heap.size → W.heap[q]? = v.heap[q]?) : Row W a n xs := by
  refine ⟨h.1, ?_⟩
  rcases h.2 with h0 | ⟨b, off, e, hb, hc⟩
  · exact .inl h0
  · by_cases h0 : 0 < n
    · exact .inr ⟨b, off, e, by omega, fun i hi => (World.cell?_of_block (a := ⟨b, off + i, none⟩) (hk b (hl h0 _ e) hb)).trans (hc i hi)⟩
    · exact .inl (by omega)

theorem NetR.listsM {B g k : Nat} {v : World} (h : NetR B v g k) (hk : k ≤ 5) : ∃ L, sizeN k L ≤ 35 ∧ ∀ W, v.heap.size ≤ W.heap.size → (∀ q, B ≤ q → q < v.heap.size → W.heap[q]? = v.heap[q]?) → Lists W (some ⟨g, 0, none⟩) (3 * k) L := by
  obtain ⟨C, h1, h2, h3⟩ := h.out
  obtain ⟨L, hL, hP⟩ := exists_list (P := fun j xs => ∃ a n c, C[j]? = some (.slice a n c) ∧ n ≤ 2 ∧ Row v a n xs ∧ (0 < n → ∀ o, a = some o → B ≤ o.block)) (3 * k) fun j hj => by
    obtain ⟨x, e, a, n, c, xs, rfl, r1, _, _, r4, r5⟩ := h3 j hj
    exact ⟨xs, a, n, c, e, r1, r4, fun h0 o ho => (r5 h0 o ho).1⟩
  have hsz : ∀ q, q ≤ 3 * k → sizeL (L.take q) ≤ 2 * q := by
    intro q
    induction q with
    | zero => intro _; simp [sizeL]
    | succ q ih =>
      intro hq
      rw [sizeL_take_succ L q (by omega)]
      obtain ⟨a, n, c, _, hn, hl, _⟩ := hP q (by omega)
      have := hl.1
      have := ih (by omega)
      omega
  refine ⟨L, ?_, fun W hs hkk => ⟨hL, .inr ⟨g, 0, rfl, Nat.lt_of_lt_of_le (row_lt h1) hs, fun j hj => ?_⟩⟩⟩
  · unfold sizeN
    have := hsz (3 * k) (Nat.le_refl _)
    rw [List.take_of_length_le (by omega)] at this
    omega
  · obtain ⟨a, n, c, e, hn, hr, hl⟩ := hP j hj
    refine ⟨a, n, c, ?_, by unfold maxLen; omega, hr.movedV hl hs hkk⟩
    rw [cell_of_row W g (0 + j) C _ _ ((hkk g h.hB (row_lt h1)).trans h1), Nat.zero_add]; exact e

theorem NetW.listsM {M B : Nat} {v : World} {u : Value} {k : Nat} {cells : List Value} (h : NetW M B v u k cells) (hk : k ≤ 100) (hM : M ≤ 21) : ∃ a c L, u = .slice a k c ∧ sizeN k L ≤ 6400 ∧ ∀ W, v.heap.size ≤ W.heap.size → (∀ q, B ≤ q → q < v.heap.size → W.heap[q]? = v.heap[q]?) → Lists W a (3 * k) L := by
  have hcl : cells.length = 3 * k := by have := h.own.1; omega
  obtain ⟨L, hL, hP⟩ := exists_list (P := fun j x => ∃ a n c, cells[j]? = some (.slice a n c) ∧ n ≤ M ∧ NewL B v a n c x) (3 * k) fun j hj => by
    obtain ⟨a, n, c, xs, e, hn, hl, _⟩ := h.tris j hj
    exact ⟨xs, a, n, c, e, hn, hl⟩
  have hsz : ∀ q, q ≤ 3 * k → sizeL (L.take q) ≤ 21 * q := by
    intro q
    induction q with
    | zero => intro _; simp [sizeL]
    | succ q ih =>
      intro hq
      rw [sizeL_take_succ L q (by omega)]
      obtain ⟨a, n, c, _, hn, hl⟩ := hP q (by omega)
      have := hl.row.1
      have := ih (by omega)
      omega
  have hs : sizeN k L ≤ 6400 := by
    unfold sizeN
    have := hsz (3 * k) (Nat.le_refl _)
    rw [List.take_of_length_le (by omega)] at this
    omega
  rcases h.own.2 with ⟨e, h0⟩ | ⟨g, cp, cur, e, hg, hh, _, _, hsc, htk⟩
  · subst h0
    exact ⟨none, 0, L, e, hs, fun W _ _ => ⟨hL, .inl rfl⟩⟩
  · refine ⟨_, cp, L, e, hs, fun W hsz hkk => ⟨hL, .inr ⟨g, 0, rfl, Nat.lt_of_lt_of_le (Array.getElem?_eq_some_iff.mp hh).1 hsz, fun j hj => ?_⟩⟩⟩
    obtain ⟨a, n, c, e1, hn, hl⟩ := hP j hj
    refine ⟨a, n, c, ?_, by unfold maxLen; omega, (hl.keep hsz fun q hq hlt _ => hkk q hq hlt).row⟩
    rw [cell_of_row W g (0 + j) cur _ _ ((hkk g hg (Array.getElem?_eq_some_iff.mp hh).1).trans hh), Nat.zero_add]
    have e2 : (cur.toList.take (k * 3))[j]? = cells[j]? := by rw [htk]
    rw [List.getElem?_take_of_lt (by omega), Array.getElem?_toList] at e2
    rw [e2, e1]
end Go.Proofs.Ytajcmamapmeglaa


/- StartOf of the specification, and where its answer lies. -/
namespace Go.Proofs.Ytajcmamapmeglaa
open Go.RowKit
set_option maxRecDepth 10000

/-- How one of the specification ends, its answer in new memory. -/
def WEndV (g : Bool) (r : List Int) (w : World) (e : Ending) (w' : World) : Prop :=
  ∃ a n c, e = .returned (.tuple #[.slice a n c, .bool g]) ∧ Row w' a n r ∧ (0 < n → ∀ o, a = some o → w.heap.size ≤ o.block) ∧ Below w.heap.size w w'

end Go.Proofs.Ytajcmamapmeglaa


/- The cursor's walked: a net in new memory and a mark of it, whatever the bytes; nothing that was there is written but the cursor. -/
namespace Go.Proofs.Ytajcmamapmeglaa
open Go.RowKit
set_option maxRecDepth 10000

/-- How walked ends: what it draws stays while the cursor goes on. -/
def WkDr (bc : Nat) (ca : Option Addr) (cn cc p : Nat) (bs : List Int) (w : World) (e : Ending) (w' : World) : Prop :=
  ∃ (pl : Int) (ua : Option Addr) (k uc : Nat) (L : List (List Int)) (a : Option Addr) (n c : Nat) (xs : List Int) (p' : Nat), e = .returned (.tuple #[.agg #[.int .i64 pl, .slice ua k uc], .slice a n c]) ∧ (0 ≤ pl ∧ pl ≤ 17) ∧ k ≤ 61 ∧ sizeN k L ≤ 6400 ∧ n ≤ 60 ∧ p' ≤ p + 400 ∧
    (∀ W, w'.heap.size ≤ W.heap.size → (∀ q, w.heap.size ≤ q → q < w'.heap.size → W.heap[q]? = w'.heap[q]?) → Lists W ua (3 * k) L ∧ Row W a n xs) ∧ Cur w' bc ca cn cc p' ∧ RowB w' ca cn bs ∧ Kept bc w.heap.size w w'

theorem Try.size26w : (Try.prog.info? 26).map (·.size) = some 2 := by kernel_rfl

theorem exec_load_rowW {P : Program} {o : Oper} {a : Act} {w : World} (ty : TypeId) (x : Operand) (ho : o.op = .load ty x) (g : Nat) (hx : a.eval x = .pointer (some ⟨g, 0, none⟩)) (t : TypeId) (cs : Array Value) (fr : Nat × Nat) (d : TypeDesc) (hg : w.heap[g]? = some (.cells cs t fr))
    (hu : P.underlying ty = some d) (hd : (match d with | .struct _ | .array _ _ => true | _ => false) = true) (hi : (P.info? ty).map (·.size) = some cs.size) : (execOp a.eval o).run P w = .ok (.value (.agg cs)) w := by
  unfold execOp
  simp only [ho, hx, Instr.loadAt, Instr.sureAddr, Sem.run_bind, Sem.run_pure, Result.andThen_ok, run_loadVar_row w g t ty cs fr d hg hu hd hi]

theorem netW_res {fn : Func} {q u : Tmp} (hr : fn.results = #[.cell q 26, .tmp u]) (tmps : Array Value) (W : World) (b : Nat) (C : Array Value) (v : Value) (h4 : tmps.getD q undef = .pointer (some ⟨b, 0, none⟩)) (h5 : tmps.getD u undef = v)
    (hs : C.size = 2) (q4 : W.heap[b]? = some (.cells C 26 (0, 0))) : (results fn tmps).run Try.prog W = .ok (.tuple #[.agg C, v]) W := by
  refine (results_cell_tmp hr _ _ _).trans ?_
  rw [h4, h5]
  show ((loadVar 26 ⟨b, 0, none⟩).run Try.prog _).andThen _ = _
  rw [run_loadVar_row _ _ 26 26 C (0, 0) _ q4 Try.underlying26 rfl (by rw [hs]; exact Try.size26w)]
  rfl

/-- What the loop of walked keeps in mind. -/
structure WkSt (w : World) (B : Nat) (wr : World) (bc : Nat) (ca : Option Addr) (cn cc q : Nat) (bs : List Int) (R V g k cp : Nat) (pl : Int) : Prop where
  res : wr.heap[R]? = some (.cells #[.int .i64 0, .slice none 0 0] 26 (0, 0))
  box : wr.heap[V]? = some (.cells #[.int .i64 pl, .slice (some ⟨g, 0, none⟩) k cp] 26 (0, 0))
  net : NetR B wr g k
  cur : Cur wr bc ca cn cc q
  byt : RowB wr ca cn bs
  kept : Kept bc w.heap.size w wr

theorem WkSt.go {w wr wr' : World} {B bc cn cc q q' R V g k cp : Nat} {ca : Option Addr} {bs : List Int} {pl : Int} (h : WkSt w B wr bc ca cn cc q bs R V g k cp pl) (hk : Kept bc wr.heap.size wr wr') (hc : Cur wr' bc ca cn cc q') (hb : bc < B) (hR : R ≠ bc) (hV : V ≠ bc) (hap : Apart ca cn bc) : WkSt w B wr' bc ca cn cc q' bs R V g k cp pl :=
  ⟨(hk.block R (row_lt h.res) hR).trans h.res, (hk.block V (row_lt h.box) hV).trans h.box, h.net.kept hk hb, hc, h.byt.kept hk hap, h.kept.trans (hk.mono h.kept.size)⟩

theorem WkSt.grow {w wr wr' : World} {B bc cn cc q R V g k cp : Nat} {ca : Option Addr} {bs : List Int} {pl : Int} (h : WkSt w B wr bc ca cn cc q bs R V g k cp pl) (hk : Below wr.heap.size wr wr') (hb : bc < B) (hR : R ≠ bc) (hV : V ≠ bc) (hap : Apart ca cn bc) : WkSt w B wr' bc ca cn cc q bs R V g k cp pl :=
  h.go (Kept.of_below hk) (h.cur.below hk h.cur.lt) hb hR hV hap

theorem WkSt.cut {w wr : World} {B bc cn cc q R V g k cp : Nat} {ca : Option Addr} {bs : List Int} {pl : Int} (h : WkSt w B wr bc ca cn cc q bs R V g k cp pl) {j : Nat} (hj : j < 3 * k) {a : Option Addr} {n n' c : Nat} (hc : wr.cell? ⟨g, j, none⟩ = some (.slice a n c)) (hn : n' ≤ n) (hR : R ≠ g) (hV : V ≠ g) (hbc : bc ≠ g) (hwg : w.heap.size ≤ g) (hfar : 0 < cn → ∀ y, ca = some y → y.block ≠ g) :
    WkSt w B (wr.setCell ⟨g, j, none⟩ (.slice a n' c)) bc ca cn cc q bs R V g k cp pl := by
  have far : ∀ b, b ≠ g → (wr.setCell ⟨g, j, none⟩ (.slice a n' c)).heap[b]? = wr.heap[b]? := fun b hb => Below.heap_setCell _ _ _ _ hb
  obtain ⟨s, hs⟩ := h.cur
  refine ⟨(far R hR).trans h.res, (far V hV).trans h.box, h.net.set hj hc hn, ⟨s, (far bc hbc).trans hs⟩, ⟨h.byt.1, h.byt.2.1, ?_⟩, ⟨h.kept.os, h.kept.tape, h.kept.output, by rw [sizeV]; exact h.kept.size, fun b hb hne => (far b (by omega)).trans (h.kept.block b hb hne)⟩⟩
  rcases h.byt.2.2 with h0 | ⟨b, off, e, hl, hcc⟩
  · exact .inl h0
  · by_cases h0 : cn = 0
    · exact .inl h0
    · exact .inr ⟨b, off, e, by rw [sizeV]; exact hl, fun i hi => (World.cell?_of_block (a := ⟨b, off + i, none⟩) (far b (hfar (by omega) _ e))).trans (hcc i hi)⟩

theorem set2V {v : World} {b : Nat} {x0 x1 : Value} {T : TypeId} (h : v.heap[b]? = some (.cells #[x0, x1] T (0, 0))) (y0 y1 : Value) : ((v.setCell ⟨b, 0, none⟩ y0).setCell ⟨b, 1, none⟩ y1).heap[b]? = some (.cells #[y0, y1] T (0, 0)) := by
  have h1 := heap_setCell_same v b 0 _ _ y0 h
  have h2 := heap_setCell_same _ b 1 _ _ y1 h1
  simpa using h2
theorem set2V_far {v : World} {b q : Nat} (hq : q ≠ b) (y0 y1 : Value) : ((v.setCell ⟨b, 0, none⟩ y0).setCell ⟨b, 1, none⟩ y1).heap[q]? = v.heap[q]? :=
  (Below.heap_setCell _ _ _ _ (show q ≠ b by exact hq)).trans (Below.heap_setCell _ _ _ _ (show q ≠ b by exact hq))

end Go.Proofs.Ytajcmamapmeglaa


/- The cursor's kept: a net in new memory, whatever the bytes; nothing that was there is written but the cursor. -/
namespace Go.Proofs.Ytajcmamapmeglaa
open Go.RowKit
set_option maxRecDepth 10000

/-- How kept ends: what it draws stays while the cursor goes on. -/
def KeDr (bc : Nat) (ca : Option Addr) (cn cc p : Nat) (bs : List Int) (w : World) (e : Ending) (w' : World) : Prop :=
  ∃ (pl : Int) (ua : Option Addr) (k uc : Nat) (L : List (List Int)) (p' : Nat), e = .returned (.agg #[.int .i64 pl, .slice ua k uc]) ∧ (0 ≤ pl ∧ pl ≤ 60) ∧ k ≤ 61 ∧ sizeN k L ≤ 6400 ∧ p' ≤ p + 400 ∧
    (∀ W, w'.heap.size ≤ W.heap.size → (∀ q, w.heap.size ≤ q → q < w'.heap.size → W.heap[q]? = w'.heap[q]?) → Lists W ua (3 * k) L) ∧ Cur w' bc ca cn cc p' ∧ RowB w' ca cn bs ∧ Kept bc w.heap.size w w'

/-- A slice's first ones. -/
theorem exec_cutB {o : Oper} {a : Act} {w : World} {x y : Operand} {b : Option Addr} {n c k : Nat} (ho : o.op = .slice 27 x none (some y) none) (hx : a.eval x = .slice b n c) (hy : a.eval y = .int .i64 (k : Int)) (hk : k ≤ c) :
    (execOp a.eval o).run Try.prog w = .ok (.value (.slice b k c)) w := by
  have h4 : (0 : Int) ≤ (k : Int) := by omega
  obtain ⟨i0, hi, hz0, hz1, hz2⟩ := info_split2 Try.info3
  unfold execOp
  simp only [ho, hx, Option.map_some, Option.map_none, hy]
  cases b with
  | none => simp [Instr.sliceAt, Instr.slice, Instr.sliceBounds, Instr.sliceBound, asIntOf, run_underlying Try.underlying27, sizeOf, typeInfo, hi, hk, h4, Result.andThen]
  | some x => simp [Instr.sliceAt, Instr.slice, Instr.sliceBounds, Instr.sliceBound, asIntOf, run_underlying Try.underlying27, sizeOf, typeInfo, hi, hk, h4, Result.andThen]
              intro _
              obtain ⟨g, off, sp⟩ := x
              unfold Addr.add
              split <;> simp_all

theorem mapw4B (g : Operand → Value) (x y z u : Operand) (a b c d : Value) (h : g x = a) (h2 : g y = b) (h3 : g z = c) (h4 : g u = d) : (#[x, y, z, u] : Array Operand).map g = #[a, b, c, d] := by simp [h, h2, h3, h4]

theorem cell_otherB {w : World} {g i j : Nat} {C : Array Value} {T : TypeId} {x y : Value} (h : w.heap[g]? = some (.cells C T (0, 0))) (hj : w.cell? ⟨g, j, none⟩ = some y) (hne : i ≠ j) : (w.setCell ⟨g, i, none⟩ x).cell? ⟨g, j, none⟩ = some y := by
  rw [cell_of_row _ g j _ _ _ (heap_setCell_same w g i C _ _ h), Array.getElem?_setIfInBounds_ne hne]
  rw [cell_of_row w g j C _ _ h] at hj
  exact hj

theorem run_flowNet (x0 x1 x2 x3 : Value) (w : World) : (Instr.field 121 (.agg #[x0, x1, x2, x3]) 0).run Try.prog w = .ok (.agg #[x0, x1]) w := by kernel_rfl

/-- A list is laid in another one's place. -/
theorem NetR.put {B g k : Nat} {v : World} (h : NetR B v g k) {j : Nat} (hj : j < 3 * k) {x : Value} (hx : CellR B g v x) : NetR B (v.setCell ⟨g, j, none⟩ x) g k := by
  obtain ⟨C, h1, h2, h3⟩ := h.out
  refine ⟨h.hB, C.setIfInBounds j x, heap_setCell_same _ _ _ _ _ _ h1, by simpa using h2, fun i hi => ?_⟩
  rw [Array.getElem?_setIfInBounds]
  by_cases e : j = i
  · subst e
    exact ⟨x, by rw [if_pos rfl, if_pos (by omega)], hx.set⟩
  · obtain ⟨y, e1, hy⟩ := h3 i hi
    exact ⟨y, by rw [if_neg e]; exact e1, hy.set⟩

theorem WkSt.put {w wr : World} {B bc cn cc q R V g k cp : Nat} {ca : Option Addr} {bs : List Int} {pl : Int} (h : WkSt w B wr bc ca cn cc q bs R V g k cp pl) {j : Nat} (hj : j < 3 * k) {x : Value} (hx : CellR B g wr x) (hR : R ≠ g) (hV : V ≠ g) (hbc : bc ≠ g) (hwg : w.heap.size ≤ g) (hfar : 0 < cn → ∀ y, ca = some y → y.block ≠ g) :
    WkSt w B (wr.setCell ⟨g, j, none⟩ x) bc ca cn cc q bs R V g k cp pl := by
  have far : ∀ b, b ≠ g → (wr.setCell ⟨g, j, none⟩ x).heap[b]? = wr.heap[b]? := fun b hb => Below.heap_setCell _ _ _ _ hb
  obtain ⟨s, hs⟩ := h.cur
  refine ⟨(far R hR).trans h.res, (far V hV).trans h.box, h.net.put hj hx, ⟨s, (far bc hbc).trans hs⟩, ⟨h.byt.1, h.byt.2.1, ?_⟩, ⟨h.kept.os, h.kept.tape, h.kept.output, by rw [sizeV]; exact h.kept.size, fun b hb hne => (far b (by omega)).trans (h.kept.block b hb hne)⟩⟩
  rcases h.byt.2.2 with h0 | ⟨b, off, e, hl, hcc⟩
  · exact .inl h0
  · by_cases h0 : cn = 0
    · exact .inl h0
    · exact .inr ⟨b, off, e, by rw [sizeV]; exact hl, fun i hi => (World.cell?_of_block (a := ⟨b, off + i, none⟩) (far b (hfar (by omega) _ e))).trans (hcc i hi)⟩

/-- The result is laid, and the drawing is done. -/
theorem keDr_of {w v : World} {bc cn cc p q : Nat} {ca : Option Addr} {bs : List Int} {pl : Int} {ua : Option Addr} {k uc : Nat} {L : List (List Int)} (hc : Cur v bc ca cn cc q) (hb : RowB v ca cn bs) (hk : Kept bc w.heap.size w v)
    (hpl : 0 ≤ pl ∧ pl ≤ 60) (h61 : k ≤ 61) (hs : sizeN k L ≤ 6400) (hq : q ≤ p + 400) (hRb : w.heap.size ≠ bc) (hfar : 0 < cn → ∀ y, ca = some y → y.block < w.heap.size)
    (hL : ∀ W, v.heap.size ≤ W.heap.size → (∀ x, w.heap.size + 1 ≤ x → x < v.heap.size → W.heap[x]? = v.heap[x]?) → Lists W ua (3 * k) L) :
    KeDr bc ca cn cc p bs w (.returned (.agg #[.int .i64 pl, .slice ua k uc])) ((v.setCell ⟨w.heap.size, 0, none⟩ (.int .i64 pl)).setCell ⟨w.heap.size, 1, none⟩ (.slice ua k uc)) := by
  have far := fun x (hx : x ≠ w.heap.size) => set2V_far (v := v) hx (.int .i64 pl) (.slice ua k uc)
  obtain ⟨sd, hsd⟩ := hc
  refine ⟨pl, ua, k, uc, L, q, rfl, hpl, h61, hs, hq, fun W hW1 hW => hL W ?_ ?_, ⟨sd, (far bc (Ne.symm hRb)).trans hsd⟩, ⟨hb.1, hb.2.1, ?_⟩, ⟨hk.os, hk.tape, hk.output, by simp only [sizeV]; exact hk.size, fun b hb' hne => (far b (by omega)).trans (hk.block b hb' hne)⟩⟩
  · have := hW1; simp only [sizeV] at this; exact this
  · intro x h1 h2
    exact (hW x (by omega) (by simp only [sizeV]; exact h2)).trans (far x (by omega))
  · rcases hb.2.2 with h0 | ⟨b, off, e, hl, hcc⟩
    · exact .inl h0
    · by_cases h0 : cn = 0
      · exact .inl h0
      · exact .inr ⟨b, off, e, by simp only [sizeV]; exact hl, fun i hi => (World.cell?_of_block (a := ⟨b, off + i, none⟩) (far b (by have := hfar (by omega) _ e; simp at this; omega))).trans (hcc i hi)⟩

set_option maxHeartbeats 4000000 in
theorem kept_draw (bc : Nat) (ca : Option Addr) (cn cc p : Nat) (bs : List Int) (w : World) (h : Cur w bc ca cn cc p) (hr : RowB w ca cn bs) (hap : Apart ca cn bc) (hp : p ≤ 500000) (hn : cn ≤ 1048576) :
    Calls Try.prog 49 #[.pointer (some ⟨bc, 0, none⟩)] w fun e w' => KeDr bc ca cn cc p bs w e w' := by
  have hbc := h.lt
  have hA := below_al w (.cells #[.int .i64 0, .slice none 0 0] 26)
  have HC := hide (h.below hA hbc)
  have HR := hide (hr.kept (Kept.of_below hA) hap)
  have HK := hide (Kept.of_below (bc := bc) hA)
  have HRES := hide (heap_alloc_new w (.cells #[.int .i64 0, .slice none 0 0] 26))
  have HAP := hide hap
  have hRb : w.heap.size ≠ bc := by omega
  have HFAR : Hid (0 < cn → ∀ y, ca = some y → y.block < w.heap.size) := hr.far
  clear h hr hA hap
  go_enter Try.func49, Try.ntmps49
  go_wp2_with fail
  refine (one_any 20 bc ca cn cc p bs _ HC.out HR.out (by omega) hn (by omega) (by omega)).mono ?_
  rintro e v1 ⟨b, rfl, hcur, ho⟩
  have HK1 := hide (HK.out.trans ((Kept.of_only ho).mono HK.out.size))
  have HR1 := hide (HR.out.keep ho HAP.out)
  have HRES1 := hide ((ho.block _ hRb).trans HRES.out)
  have HC1 := hide hcur
  have hz1 : w.heap.size < v1.heap.size := row_lt HRES1.out
  clear hcur ho HC HR HK HRES
  generalize w.alloc (.cells #[.int .i64 0, .slice none 0 0] 26) = w1 at *
  clear w1
  go_wp2_with fail
  refine (net_draw b bc ca cn cc _ bs _ HC1.out HR1.out HAP.out (by omega) hn).mono ?_
  rintro e va ⟨pl, u, k, cells, q2, rfl, hpl, hk1, hk5, hq2, hown, hcur, hby, hkp⟩
  obtain ⟨g, cp, rfl, hBg, hga, _⟩ := hown.form hk1
  have hA := below_al va (.cells #[.int .i64 pl, .slice (some ⟨g, 0, none⟩) k cp] 26)
  have hbB := HC1.out.lt
  have S0 : Hid (WkSt w _ (va.alloc (.cells #[.int .i64 pl, .slice (some ⟨g, 0, none⟩) k cp] 26)) bc ca cn cc q2 bs w.heap.size va.heap.size g k cp pl) :=
    ⟨(hA.block _ (by have := hkp.size; omega)).trans ((hkp.block _ hz1 hRb).trans HRES1.out), heap_alloc_new va _, (NetR.of_own hown).kept (Kept.of_below (bc := bc) hA) hbB, hcur.below hA hcur.lt, hby.kept (Kept.of_below hA) HAP.out, (HK1.out.trans (hkp.mono (by omega))).trans ((Kept.of_below (bc := bc) hA).mono (by have := hkp.size; omega))⟩
  have hVb : va.heap.size ≠ bc := by have := hcur.lt; omega
  have hVg : va.heap.size ≠ g := by omega
  have hRg : w.heap.size ≠ g := by omega
  have hVR : va.heap.size ≠ w.heap.size := by have := hkp.size; omega
  have hbg : bc ≠ g := by omega
  have hwg : w.heap.size ≤ g := by omega
  have HFG : Hid (0 < cn → ∀ y, ca = some y → y.block ≠ g) := fun h0 y hy => by have := HFAR.out h0 y hy; omega
  have hq3 : q2 ≤ p + 101 := by omega
  have hB1 : w.heap.size + 1 ≤ v1.heap.size := hz1
  obtain ⟨B, hB⟩ : ∃ B, Hid (v1.heap.size = B) := ⟨_, rfl⟩
  rw [hB.out] at S0 hbB hBg hB1
  clear hown hcur hby hkp hA HC1 HR1 HK1 HRES1 hq2 hga hB hz1
  go_wp2_with fail
  generalize va.alloc (.cells #[.int .i64 pl, .slice (some ⟨g, 0, none⟩) k cp] 26) = vb at *
  generalize va.heap.size = V at *
  refine (one_any 2 bc ca cn cc q2 bs _ S0.out.cur S0.out.byt (by omega) hn (by omega) (by omega)).mono ?_
  rintro e vc ⟨b2, rfl, hcur, ho⟩
  have S1 := hide (S0.out.go (Kept.of_only ho) hcur hbB hRb hVb HAP.out)
  clear hcur ho S0
  obtain ⟨q4, hq4, hq4b⟩ : ∃ q4, q2 + 1 = q4 ∧ q4 ≤ p + 102 := ⟨_, rfl, by omega⟩
  rw [hq4] at S1
  cases b2
  case' true =>
    obtain ⟨hv0, hv1⟩ := cells2 S1.out.box
    have hvl := row_lt S1.out.box
    go_wp2_with fail
    clear hv0 hv1 hvl
    go_loopw [15, 4, 5] (fun i _ _ wr => ∃ j q : Nat, j ≤ k ∧ i = .int .i64 j ∧ q ≤ p + 102 + 2 * j ∧ Hid (WkSt w B wr bc ca cn cc q bs w.heap.size V g k cp pl)) (fun i _ _ _ => k - (intOf i).toNat)
    case atStart => exact ⟨0, q4, Nat.zero_le _, rfl, by omega, S1⟩
    case round =>
      obtain ⟨j, q, hj, rfl, hq, S2⟩ := hrel
      clear S1
      by_cases hlt : j < k
      rotate_left
      · have hnl : ¬ (j : Int) < (k : Int) := by omega
        have hqx : q ≤ p + 140 := by omega
        go_wp2_with fail
        refine (one_any 3 bc ca cn cc q bs _ S2.out.cur S2.out.byt (by omega) hn (by omega) (by omega)).mono ?_
        rintro e vd ⟨b3, rfl, hcur, ho⟩
        have S5 := hide (S2.out.go (Kept.of_only ho) hcur hbB hRb hVb HAP.out)
        clear hcur ho S2
        cases b3
        · obtain ⟨hv0, hv1⟩ := cells2 S5.out.box
          have hvl := row_lt S5.out.box
          obtain ⟨hr0, hr1⟩ := cells2 S5.out.res
          have hrl := row_lt S5.out.res
          have hf0 := frozen_of_row vd w.heap.size 0 _ _ S5.out.res
          have hf1 := frozen_of_row vd w.heap.size 1 _ _ S5.out.res
          obtain ⟨L, hLs, hLL⟩ := S5.out.net.listsM hk5
          obtain ⟨y0, y1⟩ := cells2 (set2V S5.out.res (.int .i64 pl) (.slice (some ⟨g, 0, none⟩) k cp))
          have HE := hide (keDr_of (uc := cp) S5.out.cur S5.out.byt S5.out.kept ⟨hpl.1, by omega⟩ (by omega) (by omega) (show q + 1 ≤ p + 400 by omega) hRb HFAR.out (fun W h1 h2 => hLL W h1 (fun x h3 h4 => h2 x (by omega) h4)))
          clear hLL S5
          go_wp2_with fail
          refine bodyPost_ret (v := .agg #[.int .i64 pl, .slice (some ⟨g, 0, none⟩) k cp]) (by simp [results, Try.results49, go_sem, y0, y1]) rfl ?_
          exact HE.out
        · go_wp2_with fail
          refine (flow_draw false bc ca cn cc _ bs _ S5.out.cur S5.out.byt HAP.out (by omega) hn).mono ?_
          rintro e v2 ⟨fp, u, fk, cells, fs, ft, q1, rfl, hf1, hf2, hf3, hf4, hq1, hnet, hcur, hby, hkp⟩
          obtain ⟨fa, fc, FL, rfl, hfs, hfl⟩ := hnet.listsM (by omega) (by omega)
          have S6 := hide (S5.out.go hkp hcur hbB hRb hVb HAP.out)
          obtain ⟨hr0, hr1⟩ := cells2 S6.out.res
          have hrl := row_lt S6.out.res
          have hfr0 := frozen_of_row v2 w.heap.size 0 _ _ S6.out.res
          have hfr1 := frozen_of_row v2 w.heap.size 1 _ _ S6.out.res
          obtain ⟨y0, y1⟩ := cells2 (set2V S6.out.res (.int .i64 (fp : Int)) (.slice fa fk fc))
          have hvdl := S5.out.box
          have hdl := row_lt S5.out.res
          have HE := hide (keDr_of (uc := fc) S6.out.cur S6.out.byt S6.out.kept (pl := (fp : Int)) (by omega) (by omega) hfs (show q1 ≤ p + 400 by omega) hRb HFAR.out (fun W h1 h2 => hfl W h1 (fun x h3 h4 => h2 x (by omega) h4)))
          clear hfl S5 S6 hnet hcur hby hkp hvdl
          have hfn := run_flowNet (.int .i64 (fp : Int)) (.slice fa fk fc) (.int .i64 fs) (.int .i64 ft)
          go_wp2_with fail
          refine bodyPost_ret (v := .agg #[.int .i64 (fp : Int), .slice fa fk fc]) (by simp [results, Try.results49, go_sem, y0, y1]) rfl ?_
          exact HE.out
      obtain ⟨a0, n0, c0, xs0, h00, h0f, h02, h0c, h0m, h0r, h0l⟩ := S2.out.net.cell (show j * 3 < 3 * k by omega)
      obtain ⟨a1, n1, c1, xs1, h10, h1f, h12, h1c, h1m, h1r, h1l⟩ := S2.out.net.cell (show j * 3 + 1 < 3 * k by omega)
      obtain ⟨a2, n2, c2, xs2, h20, _, _, _, _, _, _⟩ := S2.out.net.cell (show j * 3 + 2 < 3 * k by omega)
      have hjk : (j : Int) < (k : Int) := by omega
      have hA := below_al wr (.cells #[.slice a0 n0 c0, .slice a1 n1 c1, .slice a2 n2 c2] 106)
      have S3 := hide (S2.out.grow hA hbB hRb hVb HAP.out)
      have HT9 := hide (heap_alloc_new wr (.cells #[.slice a0 n0 c0, .slice a1 n1 c1, .slice a2 n2 c2] 106))
      have hT9b : wr.heap.size ≠ bc := by have := S2.out.cur.lt; omega
      have hT9g : wr.heap.size ≠ g := by have := S2.out.net.lt; omega
      have hgs := S2.out.net.lt
      obtain ⟨hv0, hv1⟩ := cells2 S2.out.box
      clear S2 hA h0r h1r h0l h1l
      go_upto_region 6 with fail
      clear hv0 hv1
      have HX0 := hide h00
      have HX1 := hide h10
      have hT9s := row_lt HT9.out
      have HXA : Hid ((wr.alloc (.cells #[.slice a0 n0 c0, .slice a1 n1 c1, .slice a2 n2 c2] 106)).cell? ⟨g, j * 3, none⟩ = some (.slice a0 n0 c0)) := ((below_al wr (.cells #[.slice a0 n0 c0, .slice a1 n1 c1, .slice a2 n2 c2] 106)).cell (p := ⟨g, j * 3, none⟩) hgs).trans HX0.out
      generalize wr.heap.size = T9 at *
      generalize wr.alloc (.cells #[.slice a0 n0 c0, .slice a1 n1 c1, .slice a2 n2 c2] 106) = w5 at *
      clear h00 h10 h20 HX0 HX1
      have S4 := hide (S3.out.grow (Below.refl _ w5).drew hbB hRb hVb HAP.out)
      have HT4 := hide (show w5.drew.heap[T9]? = some (.cells #[.slice a0 n0 c0, .slice a1 n1 c1, .slice a2 n2 c2] 106 (0, 0)) from HT9.out)
      have HXB : Hid (w5.drew.cell? ⟨g, j * 3, none⟩ = some (.slice a0 n0 c0)) := HXA.out
      have hSv : (fun W : World => W.cell? ⟨V, 0, none⟩ = some (.int .i64 pl) ∧ W.cell? ⟨V, 1, none⟩ = some (.slice (some ⟨g, 0, none⟩) k cp) ∧ W.cell? ⟨T9, 0, none⟩ = some (.slice a0 n0 c0)) w5.drew := ⟨(cells2 S4.out.box).1, (cells2 S4.out.box).2, (cell_of_row _ T9 0 _ _ _ HT4.out).trans rfl⟩
      refine wp_region_held_drew (S := fun W => W.cell? ⟨V, 0, none⟩ = some (.int .i64 pl) ∧ W.cell? ⟨V, 1, none⟩ = some (.slice (some ⟨g, 0, none⟩) k cp) ∧ W.cell? ⟨T9, 0, none⟩ = some (.slice a0 n0 c0)) (by kernel_rfl) hSv (fun hHeld => ?_)
      clear hHeld S3 HT9 HXA
      generalize w5.drew = w6 at *
      refine take_yes (i := 0) (some 20) (.pointer (some ⟨V, 1, none⟩)) rfl rfl (by kernel_rfl) (by kernel_rfl) (by kernel_rfl) (fun _ _ _ h => h) (by rfl) ?_ (by assumption) ?_
      · intro W' hSw
        obtain ⟨hz0, hz1, hz2⟩ := hSw
        go_simp
      simp only [Act.put, List.setIfInBounds_toArray, List.set_cons_zero, List.set_cons_succ]
      refine take_yes (i := 1) (some 21) (.slice (some ⟨g, 0, none⟩) k cp) rfl rfl (by kernel_rfl) (by kernel_rfl) (by kernel_rfl) (fun _ _ _ h => h) (by rfl) ?_ (by assumption) ?_
      · intro W' hSw
        obtain ⟨hz0, hz1, hz2⟩ := hSw
        go_simp
      simp only [Act.put, List.setIfInBounds_toArray, List.set_cons_zero, List.set_cons_succ]
      refine take_yes (i := 2) (some 22) (.int .i64 (j : Int)) rfl rfl (by kernel_rfl) (by kernel_rfl) (by kernel_rfl) (fun _ _ _ h => h) (by rfl) ?_ (by assumption) ?_
      · intro W' hSw
        obtain ⟨hz0, hz1, hz2⟩ := hSw
        go_simp
      simp only [Act.put, List.setIfInBounds_toArray, List.set_cons_zero, List.set_cons_succ]
      refine take_yes (i := 3) (some 23) (.pointer (some ⟨bc, 0, none⟩)) rfl rfl (by kernel_rfl) (by kernel_rfl) (by kernel_rfl) (fun _ _ _ h => h) (by rfl) ?_ (by assumption) ?_
      · intro W' hSw
        obtain ⟨hz0, hz1, hz2⟩ := hSw
        go_simp
      simp only [Act.put, List.setIfInBounds_toArray, List.set_cons_zero, List.set_cons_succ]
      refine take_yes (i := 4) (some 24) (.pointer (some ⟨V, 0, none⟩)) rfl rfl (by kernel_rfl) (by kernel_rfl) (by kernel_rfl) (fun _ _ _ h => h) (by rfl) ?_ (by assumption) ?_
      · intro W' hSw
        obtain ⟨hz0, hz1, hz2⟩ := hSw
        go_simp
      simp only [Act.put, List.setIfInBounds_toArray, List.set_cons_zero, List.set_cons_succ]
      refine take_yes (i := 5) (some 25) (.int .i64 pl) rfl rfl (by kernel_rfl) (by kernel_rfl) (by kernel_rfl) (fun _ _ _ h => h) (by rfl) ?_ (by assumption) ?_
      · intro W' hSw
        obtain ⟨hz0, hz1, hz2⟩ := hSw
        go_simp
      simp only [Act.put, List.setIfInBounds_toArray, List.set_cons_zero, List.set_cons_succ]
      refine call_next (i := 6) (some 26) rfl rfl (by kernel_rfl) (by rfl) 76 _ _ _ rfl Try.func76 (by decide) rfl #[.int .i64 2, .int .i64 pl] (mapw2 _ _ _ _ _ rfl rfl) _ (most_any 2 pl w6) ?_
      rintro e w7 ⟨rfl, rfl⟩
      refine ⟨_, rfl, hSv, fun _ => ?_⟩
      simp only [Act.put, List.setIfInBounds_toArray, List.set_cons_zero, List.set_cons_succ]
      have hmo : 2 ≤ mostI 2 pl ∧ mostI 2 pl ≤ 17 := by unfold mostI; split <;> omega
      obtain ⟨mo, hmoe⟩ : ∃ mo : Nat, mostI 2 pl = (mo : Int) := ⟨(mostI 2 pl).toNat, by omega⟩
      rw [hmoe] at hmo ⊢
      refine call_next (i := 7) (some 27) rfl rfl (by kernel_rfl) (by rfl) 110 _ _ _ rfl Try.func110 (by decide) rfl #[.pointer (some ⟨bc, 0, none⟩), .int .i64 (mo : Int), .int .i64 ((1 : Nat) : Int), .int .i64 ((1 : Nat) : Int)] (mapw4B _ _ _ _ _ _ _ _ _ rfl rfl rfl rfl) _ (some_drawG mo 1 1 bc ca cn cc q bs _ S4.out.cur S4.out.byt HAP.out (by omega) hn (by omega) (by omega) (by omega) (by omega)) ?_
      rintro e w8 ⟨a3, n3, c3, xs3, q3, rfl, hn3, hnew, hq3', hcur, hby, hkp⟩
      have S5 := hide (S4.out.go hkp hcur hbB hRb hVb HAP.out)
      have HT5 := hide ((hkp.block T9 (row_lt HT4.out) hT9b).trans HT4.out)
      have hgl5 := S4.out.net.lt
      have HX5 : Hid (w8.cell? ⟨g, j * 3, none⟩ = some (.slice a0 n0 c0)) := (World.cell?_of_block (a := ⟨g, j * 3, none⟩) (hkp.block g hgl5 (fun e => hbg e.symm))).trans HXB.out
      have hS5 : (fun W : World => W.cell? ⟨V, 0, none⟩ = some (.int .i64 pl) ∧ W.cell? ⟨V, 1, none⟩ = some (.slice (some ⟨g, 0, none⟩) k cp) ∧ W.cell? ⟨T9, 0, none⟩ = some (.slice a0 n0 c0)) w8 := ⟨(cells2 S5.out.box).1, (cells2 S5.out.box).2, (cell_of_row _ T9 0 _ _ _ HT5.out).trans rfl⟩
      have hBw := S4.out.kept.size
      have HCR : Hid (CellR B g w8 (.slice a3 n3 c3)) := hnew.cellR (by omega) (by have := S4.out.net.lt; have := S4.out.net.hB; omega) hgl5
      refine ⟨_, rfl, hS5, fun _ => ?_⟩
      simp only [Act.put, List.setIfInBounds_toArray, List.set_cons_zero, List.set_cons_succ]
      refine take_yes (i := 8) (some 28) (.pointer (some ⟨g, j * 3, none⟩)) rfl rfl (by kernel_rfl) (by kernel_rfl) (by kernel_rfl) (fun _ _ _ h => h) (by rfl) ?_ (by assumption) ?_
      · intro W' hSw
        obtain ⟨hz0, hz1, hz2⟩ := hSw
        go_simp
      simp only [Act.put, List.setIfInBounds_toArray, List.set_cons_zero, List.set_cons_succ]
      refine take_yes (i := 9) (some 29) (.pointer (some ⟨g, j * 3 + 1, none⟩)) rfl rfl (by kernel_rfl) (by kernel_rfl) (by kernel_rfl) (fun _ _ _ h => h) (by rfl) ?_ (by assumption) ?_
      · intro W' hSw
        obtain ⟨hz0, hz1, hz2⟩ := hSw
        go_simp
      simp only [Act.put, List.setIfInBounds_toArray, List.set_cons_zero, List.set_cons_succ]
      obtain ⟨C, hC, hCs, hCv⟩ := S5.out.net.out
      have hj1 : j * 3 + 1 < C.size := by omega
      have S6 := hide (S5.out.put (j := j * 3 + 1) (by omega) HCR.out hRg hVg hbg hwg HFG.out)
      have farc : ∀ b o, b ≠ g → (w8.setCell ⟨g, j * 3 + 1, none⟩ (.slice a3 n3 c3)).cell? ⟨b, o, none⟩ = w8.cell? ⟨b, o, none⟩ := fun b o hb => World.cell?_of_block (a := ⟨b, o, none⟩) (Below.heap_setCell _ _ _ _ hb)
      have hS6 : (fun W : World => W.cell? ⟨V, 0, none⟩ = some (.int .i64 pl) ∧ W.cell? ⟨V, 1, none⟩ = some (.slice (some ⟨g, 0, none⟩) k cp) ∧ W.cell? ⟨T9, 0, none⟩ = some (.slice a0 n0 c0)) (w8.setCell ⟨g, j * 3 + 1, none⟩ (.slice a3 n3 c3)) := ⟨(farc _ _ hVg).trans hS5.1, (farc _ _ hVg).trans hS5.2.1, (farc _ _ hT9g).trans hS5.2.2⟩
      have HT6 := hide ((Below.heap_setCell w8 ⟨g, j * 3 + 1, none⟩ (.slice a3 n3 c3) T9 hT9g).trans HT5.out)
      refine store_one_next (i := 10) rfl rfl (by kernel_rfl) (by rfl) 27 _ _ rfl g (j * 3 + 1) a3 n3 c3 rfl rfl C 106 hC hj1 (by kernel_rfl) hS6 (fun _ => ?_)
      refine wpAnyH_done (by kernel_rfl) ?_ _
      have HX6 := hide (cell_otherB (x := .slice a3 n3 c3) hC HX5.out (show j * 3 + 1 ≠ j * 3 by omega))
      clear hC hCs hCv hj1 farc hS5 hSv HXB S4 S5 HT4 HT5 HX5 HCR hnew hcur hby hkp
      generalize w8.setCell ⟨g, j * 3 + 1, none⟩ (.slice a3 n3 c3) = w9 at *
      go_upto_region 7 with fail
      have S7 := hide (S6.out.grow (Below.refl _ w9).drew hbB hRb hVb HAP.out)
      have HT7 := hide (show w9.drew.heap[T9]? = some (.cells #[.slice a0 n0 c0, .slice a1 n1 c1, .slice a2 n2 c2] 106 (0, 0)) from HT6.out)
      have HX7 : Hid (w9.drew.cell? ⟨g, j * 3, none⟩ = some (.slice a0 n0 c0)) := HX6.out
      have hS7 : (fun W : World => W.cell? ⟨V, 0, none⟩ = some (.int .i64 pl) ∧ W.cell? ⟨V, 1, none⟩ = some (.slice (some ⟨g, 0, none⟩) k cp) ∧ W.cell? ⟨T9, 0, none⟩ = some (.slice a0 n0 c0)) w9.drew := ⟨(cells2 S7.out.box).1, (cells2 S7.out.box).2, (cell_of_row _ T9 0 _ _ _ HT7.out).trans rfl⟩
      refine wp_region_held_drew (S := fun W => W.cell? ⟨V, 0, none⟩ = some (.int .i64 pl) ∧ W.cell? ⟨V, 1, none⟩ = some (.slice (some ⟨g, 0, none⟩) k cp) ∧ W.cell? ⟨T9, 0, none⟩ = some (.slice a0 n0 c0)) (by kernel_rfl) hS7 (fun hHeld => ?_)
      clear hHeld S6 HT6 HX6 hS6
      generalize w9.drew = w10 at *
      refine take_yes (i := 0) (some 30) (.pointer (some ⟨V, 1, none⟩)) rfl rfl (by kernel_rfl) (by kernel_rfl) (by kernel_rfl) (fun _ _ _ h => h) (by rfl) ?_ (by assumption) ?_
      · intro W' hSw
        obtain ⟨hz0, hz1, hz2⟩ := hSw
        go_simp
      simp only [Act.put, List.setIfInBounds_toArray, List.set_cons_zero, List.set_cons_succ]
      refine take_yes (i := 1) (some 31) (.slice (some ⟨g, 0, none⟩) k cp) rfl rfl (by kernel_rfl) (by kernel_rfl) (by kernel_rfl) (fun _ _ _ h => h) (by rfl) ?_ (by assumption) ?_
      · intro W' hSw
        obtain ⟨hz0, hz1, hz2⟩ := hSw
        go_simp
      simp only [Act.put, List.setIfInBounds_toArray, List.set_cons_zero, List.set_cons_succ]
      refine take_yes (i := 2) (some 32) (.int .i64 (j : Int)) rfl rfl (by kernel_rfl) (by kernel_rfl) (by kernel_rfl) (fun _ _ _ h => h) (by rfl) ?_ (by assumption) ?_
      · intro W' hSw
        obtain ⟨hz0, hz1, hz2⟩ := hSw
        go_simp
      simp only [Act.put, List.setIfInBounds_toArray, List.set_cons_zero, List.set_cons_succ]
      refine take_yes (i := 3) (some 33) (.pointer (some ⟨T9, 0, none⟩)) rfl rfl (by kernel_rfl) (by kernel_rfl) (by kernel_rfl) (fun _ _ _ h => h) (by rfl) ?_ (by assumption) ?_
      · intro W' hSw
        obtain ⟨hz0, hz1, hz2⟩ := hSw
        go_simp
      simp only [Act.put, List.setIfInBounds_toArray, List.set_cons_zero, List.set_cons_succ]
      refine take_yes (i := 4) (some 34) (.slice a0 n0 c0) rfl rfl (by kernel_rfl) (by kernel_rfl) (by kernel_rfl) (fun _ _ _ h => h) (by rfl) ?_ (by assumption) ?_
      · intro W' hSw
        obtain ⟨hz0, hz1, hz2⟩ := hSw
        go_simp
      simp only [Act.put, List.setIfInBounds_toArray, List.set_cons_zero, List.set_cons_succ]
      refine take_yes (i := 5) (some 35) (.pointer (some ⟨T9, 0, none⟩)) rfl rfl (by kernel_rfl) (by kernel_rfl) (by kernel_rfl) (fun _ _ _ h => h) (by rfl) ?_ (by assumption) ?_
      · intro W' hSw
        obtain ⟨hz0, hz1, hz2⟩ := hSw
        go_simp
      simp only [Act.put, List.setIfInBounds_toArray, List.set_cons_zero, List.set_cons_succ]
      refine take_yes (i := 6) (some 36) (.slice a0 n0 c0) rfl rfl (by kernel_rfl) (by kernel_rfl) (by kernel_rfl) (fun _ _ _ h => h) (by rfl) ?_ (by assumption) ?_
      · intro W' hSw
        obtain ⟨hz0, hz1, hz2⟩ := hSw
        go_simp
      simp only [Act.put, List.setIfInBounds_toArray, List.set_cons_zero, List.set_cons_succ]
      refine take_yes (i := 7) (some 37) (.int .i64 (n0 : Int)) rfl rfl (by kernel_rfl) (by kernel_rfl) (by kernel_rfl) (fun _ _ _ h => h) (by rfl) ?_ (by assumption) ?_
      · intro W' hSw
        obtain ⟨hz0, hz1, hz2⟩ := hSw
        go_simp
      simp only [Act.put, List.setIfInBounds_toArray, List.set_cons_zero, List.set_cons_succ]
      refine call_next (i := 8) (some 38) rfl rfl (by kernel_rfl) (by rfl) 111 _ _ _ rfl Try.func111 (by decide) rfl #[.int .i64 1, .int .i64 (n0 : Int)] (mapw2 _ _ _ _ _ rfl rfl) _ (least_any 1 n0 w10) ?_
      rintro e w11 ⟨rfl, rfl⟩
      refine ⟨_, rfl, hS7, fun _ => ?_⟩
      simp only [Act.put, List.setIfInBounds_toArray, List.set_cons_zero, List.set_cons_succ]
      obtain ⟨le, hle⟩ : ∃ le : Nat, leastI 1 (n0 : Int) = (le : Int) := ⟨(leastI 1 (n0 : Int)).toNat, by unfold leastI; split <;> omega⟩
      have hlen : le ≤ n0 := by unfold leastI at hle; split at hle <;> omega
      rw [hle]
      have hlc : (le : Int) ≤ (c0 : Int) := by omega
      have hl0 : (0 : Int) ≤ (le : Int) := by omega
      refine take_yes (i := 9) (some 39) (.slice a0 le c0) rfl rfl (by kernel_rfl) (by kernel_rfl) (by kernel_rfl) (fun _ _ _ h => h) (by rfl) ?_ (by assumption) ?_
      · intro W' hSw
        obtain ⟨hz0, hz1, hz2⟩ := hSw
        exact exec_cutB rfl rfl rfl (by omega)
      simp only [Act.put, List.setIfInBounds_toArray, List.set_cons_zero, List.set_cons_succ]
      refine take_yes (i := 10) (some 40) (.pointer (some ⟨g, j * 3, none⟩)) rfl rfl (by kernel_rfl) (by kernel_rfl) (by kernel_rfl) (fun _ _ _ h => h) (by rfl) ?_ (by assumption) ?_
      · intro W' hSw
        obtain ⟨hz0, hz1, hz2⟩ := hSw
        go_simp
      simp only [Act.put, List.setIfInBounds_toArray, List.set_cons_zero, List.set_cons_succ]
      refine take_yes (i := 11) (some 41) (.pointer (some ⟨g, j * 3, none⟩)) rfl rfl (by kernel_rfl) (by kernel_rfl) (by kernel_rfl) (fun _ _ _ h => h) (by rfl) ?_ (by assumption) ?_
      · intro W' hSw
        obtain ⟨hz0, hz1, hz2⟩ := hSw
        go_simp
      simp only [Act.put, List.setIfInBounds_toArray, List.set_cons_zero, List.set_cons_succ]
      obtain ⟨C, hC, hCs, hCv⟩ := S7.out.net.out
      have hj0 : j * 3 < C.size := by omega
      have S8 := hide (S7.out.cut (j := j * 3) (by omega) HX7.out (n' := le) hlen hRg hVg hbg hwg HFG.out)
      have farc : ∀ b o, b ≠ g → (w11.setCell ⟨g, j * 3, none⟩ (.slice a0 le c0)).cell? ⟨b, o, none⟩ = w11.cell? ⟨b, o, none⟩ := fun b o hb => World.cell?_of_block (a := ⟨b, o, none⟩) (Below.heap_setCell _ _ _ _ hb)
      have hS8 : (fun W : World => W.cell? ⟨V, 0, none⟩ = some (.int .i64 pl) ∧ W.cell? ⟨V, 1, none⟩ = some (.slice (some ⟨g, 0, none⟩) k cp) ∧ W.cell? ⟨T9, 0, none⟩ = some (.slice a0 n0 c0)) (w11.setCell ⟨g, j * 3, none⟩ (.slice a0 le c0)) := ⟨(farc _ _ hVg).trans hS7.1, (farc _ _ hVg).trans hS7.2.1, (farc _ _ hT9g).trans hS7.2.2⟩
      refine store_one_next (i := 12) rfl rfl (by kernel_rfl) (by rfl) 27 _ _ rfl g (j * 3) a0 le c0 rfl rfl C 106 hC hj0 (by kernel_rfl) hS8 (fun _ => ?_)
      refine wpAnyH_done (by kernel_rfl) ?_ _
      clear hC hCs hCv hj0 farc hS8 hS7 HX7 HT7 S7
      generalize w11.setCell ⟨g, j * 3, none⟩ (.slice a0 le c0) = w12 at *
      go_wp2_with fail
      go_roundw
      case rel => exact ⟨j + 1, q3, by omega, by go_num, by omega, S8⟩
      case measure => simp [intOf]; omega
  all_goals
    have hqx : q4 ≤ p + 140 := by omega
    go_wp2_with fail
    refine (one_any 3 bc ca cn cc q4 bs _ S1.out.cur S1.out.byt (by omega) hn (by omega) (by omega)).mono ?_
    rintro e vd ⟨b3, rfl, hcur, ho⟩
    have S5 := hide (S1.out.go (Kept.of_only ho) hcur hbB hRb hVb HAP.out)
    clear hcur ho S1
    cases b3
    · obtain ⟨hv0, hv1⟩ := cells2 S5.out.box
      have hvl := row_lt S5.out.box
      obtain ⟨hr0, hr1⟩ := cells2 S5.out.res
      have hrl := row_lt S5.out.res
      have hf0 := frozen_of_row vd w.heap.size 0 _ _ S5.out.res
      have hf1 := frozen_of_row vd w.heap.size 1 _ _ S5.out.res
      obtain ⟨L, hLs, hLL⟩ := S5.out.net.listsM hk5
      obtain ⟨y0, y1⟩ := cells2 (set2V S5.out.res (.int .i64 pl) (.slice (some ⟨g, 0, none⟩) k cp))
      have HE := hide (keDr_of (uc := cp) S5.out.cur S5.out.byt S5.out.kept ⟨hpl.1, by omega⟩ (by omega) (by omega) (show q4 + 1 ≤ p + 400 by omega) hRb HFAR.out (fun W h1 h2 => hLL W h1 (fun x h3 h4 => h2 x (by omega) h4)))
      clear hLL S5
      go_wp2_with fail
      refine bodyPost_ret (v := .agg #[.int .i64 pl, .slice (some ⟨g, 0, none⟩) k cp]) (by simp [results, Try.results49, go_sem, y0, y1]) rfl ?_
      exact HE.out
    · go_wp2_with fail
      refine (flow_draw false bc ca cn cc _ bs _ S5.out.cur S5.out.byt HAP.out (by omega) hn).mono ?_
      rintro e v2 ⟨fp, u, fk, cells, fs, ft, q1, rfl, hf1, hf2, hf3, hf4, hq1, hnet, hcur, hby, hkp⟩
      obtain ⟨fa, fc, FL, rfl, hfs, hfl⟩ := hnet.listsM (by omega) (by omega)
      have S6 := hide (S5.out.go hkp hcur hbB hRb hVb HAP.out)
      obtain ⟨hr0, hr1⟩ := cells2 S6.out.res
      have hrl := row_lt S6.out.res
      have hfr0 := frozen_of_row v2 w.heap.size 0 _ _ S6.out.res
      have hfr1 := frozen_of_row v2 w.heap.size 1 _ _ S6.out.res
      obtain ⟨y0, y1⟩ := cells2 (set2V S6.out.res (.int .i64 (fp : Int)) (.slice fa fk fc))
      have hvdl := S5.out.box
      have hdl := row_lt S5.out.res
      have HE := hide (keDr_of (uc := fc) S6.out.cur S6.out.byt S6.out.kept (pl := (fp : Int)) (by omega) (by omega) hfs (show q1 ≤ p + 400 by omega) hRb HFAR.out (fun W h1 h2 => hfl W h1 (fun x h3 h4 => h2 x (by omega) h4)))
      clear hfl S5 S6 hnet hcur hby hkp hvdl
      have hfn := run_flowNet (.int .i64 (fp : Int)) (.slice fa fk fc) (.int .i64 fs) (.int .i64 ft)
      go_wp2_with fail
      refine bodyPost_ret (v := .agg #[.int .i64 (fp : Int), .slice fa fk fc]) (by simp [results, Try.results49, go_sem, y0, y1]) rfl ?_
      exact HE.out
end Go.Proofs.Ytajcmamapmeglaa


/- DrawFire: a net, a list and a number, whatever the bytes; nothing that was there is written. -/
namespace Go.Proofs.Ytajcmamapmeglaa
open Go.RowKit
set_option maxRecDepth 10000

/-- How DrawFire ends. -/
def FireDr (w : World) (e : Ending) (w' : World) : Prop :=
  ∃ (pl : Int) (a : Option Addr) (k c : Nat) (L : List (List Int)) (b : Option Addr) (n d : Nat) (xs : List Int) (t : Int), e = .returned (.tuple #[.agg #[.int .i64 pl, .slice a k c], .slice b n d, .int .i64 t]) ∧ (0 ≤ pl ∧ pl ≤ 17) ∧ (1 ≤ k ∧ k ≤ 5) ∧ Lists w' a (3 * k) L ∧ sizeN k L ≤ 35 ∧ n ≤ 18 ∧ Row w' b n xs ∧ (-1 ≤ t ∧ t ≤ 5) ∧ Below w.heap.size w w'

theorem Row.far {w w' : World} {a : Option Addr} {n : Nat} {xs : List Int} (h : Row w a n xs) (hs : w.heap.size ≤ w'.heap.size) (hk : ∀ x, 0 < n → a = some x → x.block < w.heap.size → w'.heap[x.block]? = w.heap[x.block]?) : Row w' a n xs := by
  refine ⟨h.1, ?_⟩
  rcases h.2 with h0 | ⟨b, off, e, hl, hc⟩
  · exact .inl h0
  · by_cases h0 : n = 0
    · exact .inl h0
    · exact .inr ⟨b, off, e, Nat.lt_of_lt_of_le hl hs, fun i hi => (World.cell?_of_block (a := ⟨b, off + i, none⟩) (hk ⟨b, off, none⟩ (by omega) e hl)).trans (hc i hi)⟩

theorem keepK2 {W W' : World} {bc V : Nat} {x y : Value} (hk : Kept bc W.heap.size W W') (hne : V ≠ bc) (h : W.cell? ⟨V, 0, none⟩ = some x ∧ W.cell? ⟨V, 1, none⟩ = some y) : W'.cell? ⟨V, 0, none⟩ = some x ∧ W'.cell? ⟨V, 1, none⟩ = some y := ⟨keepK hk hne h.1, keepK hk hne h.2⟩
theorem keepO2 {W W' : World} {bc V : Nat} {x y : Value} (hk : OnlyC bc W W') (hne : V ≠ bc) (h : W.cell? ⟨V, 0, none⟩ = some x ∧ W.cell? ⟨V, 1, none⟩ = some y) : W'.cell? ⟨V, 0, none⟩ = some x ∧ W'.cell? ⟨V, 1, none⟩ = some y := keepK2 (Kept.of_only hk) hne h
theorem keepS2 {W : World} {V R : Nat} {x y u v : Value} (hne : V ≠ R) (h : W.cell? ⟨V, 0, none⟩ = some x ∧ W.cell? ⟨V, 1, none⟩ = some y) : ((W.setCell ⟨R, 0, none⟩ u).setCell ⟨R, 1, none⟩ v).cell? ⟨V, 0, none⟩ = some x ∧ ((W.setCell ⟨R, 0, none⟩ u).setCell ⟨R, 1, none⟩ v).cell? ⟨V, 1, none⟩ = some y := by
  have far : ∀ o, ((W.setCell ⟨R, 0, none⟩ u).setCell ⟨R, 1, none⟩ v).cell? ⟨V, o, none⟩ = W.cell? ⟨V, o, none⟩ := fun o => by
    rw [World.cell?_setCell_far _ _ _ _ (fun e => hne e.symm), World.cell?_setCell_far _ _ _ _ (fun e => hne e.symm)]
  exact ⟨(far 0).trans h.1, (far 1).trans h.2⟩

end Go.Proofs.Ytajcmamapmeglaa


/- The nets drawn by walked: DrawStepBack, DrawExplore, DrawIsLive, DrawBoundOf, whatever the bytes; nothing that was there is written. -/
namespace Go.Proofs.Ytajcmamapmeglaa
open Go.RowKit
set_option maxRecDepth 10000

/-- Behind walked, until the draw ends. -/
structure DrSt (w W : World) (B T bc R V : Nat) (ca : Option Addr) (cn cc p : Nat) (bs : List Int) (pl : Int) (ua : Option Addr) (k uc : Nat) (L : List (List Int)) (a : Option Addr) (n : Nat) (xs : List Int) : Prop where
  res : W.heap[R]? = some (.cells #[.int .i64 0, .slice none 0 0] 26 (0, 0))
  box : W.heap[V]? = some (.cells #[.int .i64 pl, .slice ua k uc] 26 (0, 0))
  stab : ∀ W', T ≤ W'.heap.size → (∀ q, B ≤ q → q < T → W'.heap[q]? = W.heap[q]?) → Lists W' ua (3 * k) L ∧ Row W' a n xs
  low : T ≤ W.heap.size
  cur : Cur W bc ca cn cc p
  byt : RowB W ca cn bs
  kept : Below w.heap.size w W

theorem DrSt.go {w W W' : World} {B T bc R V cn cc p p' k uc n : Nat} {ca ua a : Option Addr} {bs xs : List Int} {pl : Int} {L : List (List Int)} (h : DrSt w W B T bc R V ca cn cc p bs pl ua k uc L a n xs) (hk : Kept bc W.heap.size W W') (hc : Cur W' bc ca cn cc p') (hb : bc < B) (hR : R ≠ bc) (hV : V ≠ bc) (hw : w.heap.size ≤ bc) (hap : Apart ca cn bc) : DrSt w W' B T bc R V ca cn cc p' bs pl ua k uc L a n xs :=
  ⟨(hk.block R (row_lt h.res) hR).trans h.res, (hk.block V (row_lt h.box) hV).trans h.box, fun W2 h1 h2 => h.stab W2 h1 fun q hq1 hq2 => (h2 q hq1 hq2).trans (hk.block q (Nat.lt_of_lt_of_le hq2 h.low) (by omega)), Nat.le_trans h.low hk.size, hc, h.byt.kept hk hap, h.kept.trans ((hk.mono h.kept.size).below hw)⟩

/-- What a draw leaves stays while what lies from B to T stays. -/
def Stab (B : Nat) (w' : World) (ua : Option Addr) (k : Nat) (L : List (List Int)) (a : Option Addr) (n : Nat) (xs : List Int) : Prop :=
  ∀ W, w'.heap.size ≤ W.heap.size → (∀ q, B ≤ q → q < w'.heap.size → W.heap[q]? = w'.heap[q]?) → Lists W ua (3 * k) L ∧ Row W a n xs

theorem DrSt.done {w W : World} {B T bc R V cn cc p k uc n : Nat} {ca ua a : Option Addr} {bs xs : List Int} {pl : Int} {L : List (List Int)} (h : DrSt w W B T bc R V ca cn cc p bs pl ua k uc L a n xs) (hw : w.heap.size ≤ R) (hB : R < B) (D : Array Value) : Stab w.heap.size (W.setRow R D) ua k L a n xs ∧ Below w.heap.size w (W.setRow R D) := by
  have hz : (W.setRow R D).heap.size = W.heap.size := by simp [World.setRow]
  have hl := h.low
  refine ⟨fun W' h1 h2 => h.stab W' (by omega) fun q hq1 hq2 => (h2 q (by omega) (by omega)).trans (setRow_otherW _ (by omega) _), h.kept.os, h.kept.tape, h.kept.output, by rw [hz]; exact h.kept.size, fun q hq => (setRow_otherW _ (by omega) _).trans (h.kept.block q hq)⟩

theorem step_num (r r2 : Nat) (hr : r < 6) (hr2 : r2 < 12) : IntKind.i64.wrap ((r : Int) - IntKind.i64.wrap ((r2 : Int) / 11)) = (r : Int) - (r2 : Int) / 11 := by
  have e1 : IntKind.i64.wrap ((r2 : Int) / 11) = (r2 : Int) / 11 := by rw [IntKind.wrap_i64]; omega
  rw [e1, IntKind.wrap_i64]; omega

def SBDr (w : World) (e : Ending) (w' : World) : Prop :=
  ∃ (pl : Int) (ua : Option Addr) (k uc : Nat) (L : List (List Int)) (a : Option Addr) (n c : Nat) (xs : List Int) (t : Int), e = .returned (.tuple #[.agg #[.int .i64 pl, .slice ua k uc], .int .i64 t, .slice a n c]) ∧ (0 ≤ pl ∧ pl ≤ 17) ∧ k ≤ 61 ∧ sizeN k L ≤ 6400 ∧ n ≤ 60 ∧ Stab w.heap.size w' ua k L a n xs ∧ Below w.heap.size w w' ∧ (-1 ≤ t ∧ t ≤ 5)

def XpDr (w : World) (e : Ending) (w' : World) : Prop :=
  ∃ (pl : Int) (ua : Option Addr) (k uc : Nat) (L : List (List Int)) (a : Option Addr) (n c : Nat) (xs : List Int) (bg : Int), e = .returned (.tuple #[.agg #[.int .i64 pl, .slice ua k uc], .slice a n c, .int .i64 bg]) ∧ (0 ≤ pl ∧ pl ≤ 17) ∧ k ≤ 61 ∧ sizeN k L ≤ 6400 ∧ n ≤ 60 ∧ Stab w.heap.size w' ua k L a n xs ∧ Below w.heap.size w w' ∧ (0 ≤ bg ∧ bg ≤ 401)

def BoDr (w : World) (e : Ending) (w' : World) : Prop :=
  ∃ (pl : Int) (ua : Option Addr) (k uc : Nat) (L : List (List Int)) (a : Option Addr) (n c : Nat) (xs : List Int) (bg t : Int), e = .returned (.tuple #[.agg #[.int .i64 pl, .slice ua k uc], .slice a n c, .int .i64 bg, .int .i64 t]) ∧ (0 ≤ pl ∧ pl ≤ 17) ∧ k ≤ 61 ∧ sizeN k L ≤ 6400 ∧ n ≤ 60 ∧ Stab w.heap.size w' ua k L a n xs ∧ Below w.heap.size w w' ∧ (0 ≤ bg ∧ bg ≤ 401) ∧ (-1 ≤ t ∧ t ≤ 5)

end Go.Proofs.Ytajcmamapmeglaa


/- DrawSmallInvariants: a net, whatever the bytes; nothing that was there is written. -/
namespace Go.Proofs.Ytajcmamapmeglaa
open Go.RowKit
set_option maxRecDepth 10000

def NdEnd (w : World) (e : Ending) (w' : World) : Prop :=
  ∃ (pl : Int) (ua : Option Addr) (k uc : Nat) (L : List (List Int)), e = .returned (.agg #[.int .i64 pl, .slice ua k uc]) ∧ (0 ≤ pl ∧ pl ≤ 60) ∧ k ≤ 61 ∧ sizeN k L ≤ 6400 ∧ (∀ W, w'.heap.size ≤ W.heap.size → (∀ q, w.heap.size ≤ q → q < w'.heap.size → W.heap[q]? = w'.heap[q]?) → Lists W ua (3 * k) L) ∧ Below w.heap.size w w'

set_option maxHeartbeats 2000000 in
theorem drawSi_any (ca : Option Addr) (cn cc : Nat) (bs : List Int) (w : World) (hr : RowB w ca cn bs) (hn : cn ≤ 1048576) :
    Calls Try.prog 23 #[.slice ca cn cc] w fun e w' => NdEnd w e w' := by
  have hA := below_al w (.cells #[.int .i64 0, .slice none 0 0] 26)
  have hA2 := below_al (w.alloc (.cells #[.int .i64 0, .slice none 0 0] 26)) (.cells #[.slice ca cn cc, .int .i64 0, .int .u64 0] 54)
  have HB := hide (hA.trans (hA2.mono hA.size))
  have HR := hide (hr.below HB.out)
  have HAP : Hid (Apart ca cn (w.heap.size + 1)) := fun h0 y hy => by have := hr.far h0 y hy; omega
  have HC : Hid (Cur ((w.alloc (.cells #[.int .i64 0, .slice none 0 0] 26)).alloc (.cells #[.slice ca cn cc, .int .i64 0, .int .u64 0] 54)) (w.heap.size + 1) ca cn cc 0) := ⟨0, by have := heap_alloc_new (w.alloc (.cells #[.int .i64 0, .slice none 0 0] 26)) (.cells #[.slice ca cn cc, .int .i64 0, .int .u64 0] 54); simpa using this⟩
  have HRES : Hid (((w.alloc (.cells #[.int .i64 0, .slice none 0 0] 26)).alloc (.cells #[.slice ca cn cc, .int .i64 0, .int .u64 0] 54)).heap[w.heap.size]? = some (.cells #[.int .i64 0, .slice none 0 0] 26 (0, 0))) := by
    show ((w.alloc _).alloc _).heap[w.heap.size]? = _
    rw [hA2.block _ (by simp)]; exact heap_alloc_new _ _
  have HSZ : Hid (((w.alloc (.cells #[.int .i64 0, .slice none 0 0] 26)).alloc (.cells #[.slice ca cn cc, .int .i64 0, .int .u64 0] 54)).heap.size = w.heap.size + 2) := by show _ = _; simp
  clear hr hA hA2
  go_enter Try.func23, Try.ntmps23
  go_wp2_with fail
  generalize (w.alloc (.cells #[.int .i64 0, .slice none 0 0] 26)).alloc (.cells #[.slice ca cn cc, .int .i64 0, .int .u64 0] 54) = w2 at HB HR HC HRES HSZ ⊢
  generalize hbb : w.heap.size + 1 = bc at HAP HC HSZ ⊢
  refine (kept_draw bc ca cn cc 0 bs _ HC.out HR.out HAP.out (by omega) hn).mono ?_
  rintro e v1 ⟨pl, ua, k, uc, L, p1, rfl, hpl, hk, hsz, hp1, hstab, hcur, hby, hkp⟩
  have hz2 := HSZ.out
  have hz1 := hkp.size
  have hg0 : v1.heap[w.heap.size]? = some (.cells #[.int .i64 0, .slice none 0 0] 26 (0, 0)) := (hkp.block _ (by omega) (by omega)).trans HRES.out
  have hz5 := setRow_sameW hg0 #[.int .i64 pl, .slice ua k uc]
  have hy0 := cell_of_row _ w.heap.size 0 _ _ _ hz5
  have hy1 := cell_of_row _ w.heap.size 1 _ _ _ hz5
  simp at hy0 hy1
  have hsz3 : (v1.setRow w.heap.size #[.int .i64 pl, .slice ua k uc]).heap.size = v1.heap.size := by simp [World.setRow]
  have HE : Hid (NdEnd w (.returned (.agg #[.int .i64 pl, .slice ua k uc])) (v1.setRow w.heap.size #[.int .i64 pl, .slice ua k uc])) :=
    ⟨pl, ua, k, uc, L, rfl, hpl, hk, hsz, fun W h1 h2 => hstab W (by omega) fun q hq1 hq2 => (h2 q (by omega) (by omega)).trans (setRow_otherW _ (by omega) _),
      below_setRow (HB.out.trans ((hkp.mono HB.out.size).below (by omega))) _ (Nat.le_refl _) _⟩
  have hone : (#[.int .i64 pl, .slice ua k uc] : Array Value).all (·.oneCell') = true := by simp [Value.oneCell']
  clear HB HR HC HRES HSZ HAP hstab hcur hby hkp hz2 hz1 hbb hz5 hsz3
  go_wp2_with (refine wpList_store_row rfl 26 _ _ rfl _ _ rfl rfl 26 _ hg0 Try.size26w rfl hone ?_)
  refine bodyPost_ret (v := .agg #[.int .i64 pl, .slice ua k uc]) (by simp [results, Try.results23, go_sem, hy0, hy1]) rfl ?_
  exact HE.out
end Go.Proofs.Ytajcmamapmeglaa


/- What a law over a drawn net and drawn lists keeps in mind. -/
namespace Go.Proofs.Ytajcmamapmeglaa
open Go.RowKit
set_option maxRecDepth 10000

structure Mst (w v : World) (V : Nat) (pl : Int) (a : Option Addr) (k c : Nat) (L : List (List Int)) (rows : List (Option Addr × Nat × List Int)) (ma : Option Addr) (mn : Nat) (cs : List Int) : Prop where
  old : Below w.heap.size w v
  var : v.heap[V]? = some (.cells #[.int .i64 pl, .slice a k c] 26 (0, 0))
  net : Lists v a (3 * k) L
  rows : Rs v rows
  more : RowB v ma mn cs

section
variable {w v v' : World} {V : Nat} {pl : Int} {a : Option Addr} {k c : Nat} {L : List (List Int)} {rows : List (Option Addr × Nat × List Int)} {ma : Option Addr} {mn : Nat} {cs : List Int}

theorem Mst.grow (h : Mst w v V pl a k c L rows ma mn cs) (hb : Below v.heap.size v v') : Mst w v' V pl a k c L rows ma mn cs :=
  ⟨h.old.trans (hb.mono h.old.size), (hb.block V (Array.getElem?_eq_some_iff.mp h.var).1).trans h.var, h.net.below hb, h.rows.below hb, h.more.below hb⟩
theorem Mst.add (h : Mst w v V pl a k c L rows ma mn cs) {b : Option Addr} {n : Nat} {xs : List Int} (hr : Row v b n xs) : Mst w v V pl a k c L ((b, n, xs) :: rows) ma mn cs := ⟨h.old, h.var, h.net, Rs.cons hr h.rows, h.more⟩
theorem Mst.c0 (h : Mst w v V pl a k c L rows ma mn cs) : v.cell? ⟨V, 0, none⟩ = some (.int .i64 pl) := cell_of_row v V 0 _ _ _ h.var
theorem Mst.c1 (h : Mst w v V pl a k c L rows ma mn cs) : v.cell? ⟨V, 1, none⟩ = some (.slice a k c) := cell_of_row v V 1 _ _ _ h.var
end
end Go.Proofs.Ytajcmamapmeglaa
