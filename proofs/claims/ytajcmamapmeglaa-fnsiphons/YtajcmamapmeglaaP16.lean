/- Contracts that the proof stands on, one behind the other. -/
import Derived.Test.YtajcmamapmeglaaP15
import Derived.Deep.AppendLies
import Derived.Deep.RegionHeld3
import Derived.Deep.CutRange
/- A net that is being drawn: its transitions in a row of their own, each list of at most two numbers, nil or in a block of its own. -/
namespace Go.Proofs.Ytajcmamapmeglaa
open Go.RowKit
set_option maxRecDepth 10000

theorem NewL.lt {B : Nat} {w : World} {a : Option Addr} {n c : Nat} {xs : List Int} (h : NewL B w a n c xs) {o : Addr} (ho : a = some o) : B ≤ o.block ∧ o.block < w.heap.size := by
  rcases h with ⟨e, _⟩ | ⟨g, e, hB, h1, _, _, hr⟩
  · rw [e] at ho; cases ho
  · rw [e] at ho
    obtain rfl := Option.some.inj ho
    rcases hr.2 with h0 | ⟨b, off, e2, hl, _⟩
    · omega
    · rw [e] at e2
      obtain ⟨rfl, rfl⟩ : g = b ∧ 0 = off := by simpa using e2
      exact ⟨hB, hl⟩

def TriC (B : Nat) (v : World) (u : Value) (cells : List Value) (j : Nat) : Prop :=
  ∃ a n c xs, cells[j]? = some (.slice a n c) ∧ n ≤ 2 ∧ NewL B v a n c xs ∧ ∀ o, a = some o → u.ownBlock ≠ some o.block

structure NetOwn (B : Nat) (v : World) (u : Value) (k : Nat) (cells : List Value) : Prop where
  own : v.ownsRow B 106 3 u k cells
  tris : ∀ j, j < 3 * k → TriC B v u cells j

theorem NetOwn.nil (B : Nat) (v : World) : NetOwn B v (.slice none 0 0) 0 [] := ⟨World.ownsRow_nil _ _ _ _, fun j hj => absurd hj (by omega)⟩

theorem NetOwn.moved {B : Nat} {v v' : World} {u : Value} {k : Nat} {cells : List Value} (h : NetOwn B v u k cells) (hs : v.heap.size ≤ v'.heap.size) (hk : ∀ q, B ≤ q → q < v.heap.size → v'.heap[q]? = v.heap[q]?) : NetOwn B v' u k cells := by
  refine ⟨⟨h.own.1, ?_⟩, fun j hj => ?_⟩
  · rcases h.own.2 with hn | ⟨g, cp, cur, e, hg, hh, r⟩
    · exact .inl hn
    · exact .inr ⟨g, cp, cur, e, hg, (hk g hg (Array.getElem?_eq_some_iff.mp hh).1).trans hh, r⟩
  · obtain ⟨a, n, c, xs, e, hn, hl, hd⟩ := h.tris j hj
    exact ⟨a, n, c, xs, e, hn, hl.keep hs fun g hg hlt _ => hk g hg hlt, hd⟩

theorem NetOwn.kept {B bc C : Nat} {v v' : World} {u : Value} {k : Nat} {cells : List Value} (h : NetOwn B v u k cells) (hk : Kept bc C v v') (hC : v.heap.size ≤ C) (hb : bc < B) : NetOwn B v' u k cells :=
  h.moved hk.size fun q hq hl => hk.block q (by omega) (by omega)
theorem NetOwn.low {B C : Nat} {v : World} {u : Value} {k : Nat} {cells : List Value} (h : NetOwn B v u k cells) (hC : C ≤ B) : NetOwn C v u k cells := by
  refine ⟨⟨h.own.1, ?_⟩, fun j hj => ?_⟩
  · rcases h.own.2 with hn | ⟨g, cp, cur, e, hg, r⟩
    · exact .inl hn
    · exact .inr ⟨g, cp, cur, e, by omega, r⟩
  · obtain ⟨a, n, c, xs, e, hn, hl, hd⟩ := h.tris j hj
    exact ⟨a, n, c, xs, e, hn, hl.mono hC, hd⟩

theorem NetOwn.append {B : Nat} {v W : World} {u : Value} {k : Nat} {cells : List Value} {g cp : Nat} {a0 a1 a2 : Option Addr} {n0 n1 n2 c0 c1 c2 : Nat} {x0 x1 x2 : List Int} (h : NetOwn B v u k cells)
    (h0 : NewL B v a0 n0 c0 x0) (h1 : NewL B v a1 n1 c1 x1) (h2 : NewL B v a2 n2 c2 x2) (m0 : n0 ≤ 2) (m1 : n1 ≤ 2) (m2 : n2 ≤ 2)
    (d0 : ∀ o, a0 = some o → u.ownBlock ≠ some o.block) (d1 : ∀ o, a1 = some o → u.ownBlock ≠ some o.block) (d2 : ∀ o, a2 = some o → u.ownBlock ≠ some o.block)
    (hown : W.ownsRow B 106 3 (.slice (some ⟨g, 0, none⟩) (k + 1) cp) (k + 1) (cells ++ [.slice a0 n0 c0, .slice a1 n1 c1, .slice a2 n2 c2])) (hgr : v.grownBy W u.ownBlock) (hl : u.ownBlock = some g ∨ g = v.heap.size) :
    NetOwn B W (.slice (some ⟨g, 0, none⟩) (k + 1) cp) (k + 1) (cells ++ [.slice a0 n0 c0, .slice a1 n1 c1, .slice a2 n2 c2]) := by
  have hcl : cells.length = 3 * k := by have := h.own.1; omega
  have key : ∀ {a : Option Addr} {n c : Nat} {xs : List Int}, NewL B v a n c xs → (∀ o, a = some o → u.ownBlock ≠ some o.block) → NewL B W a n c xs ∧ ∀ o, a = some o → (Value.slice (some ⟨g, 0, none⟩) (k + 1) cp).ownBlock ≠ some o.block := by
    intro a n c xs hn hd
    refine ⟨hn.keep hgr.size fun q hq hlt ⟨o, ho, hoq⟩ => hgr.block q hlt fun e => hd o ho (by rw [hoq]; exact e.symm), fun o ho e => ?_⟩
    have e' : g = o.block := by simpa [Value.ownBlock] using e
    have hlt := (hn.lt ho).2
    rcases hl with hl | hl
    · exact hd o ho (by rw [hl, e'])
    · omega
  refine ⟨hown, fun j hj => ?_⟩
  by_cases hlt : j < 3 * k
  · obtain ⟨a, n, c, xs, e, hn, hl', hd⟩ := h.tris j hlt
    obtain ⟨q1, q2⟩ := key hl' hd
    exact ⟨a, n, c, xs, by rw [List.getElem?_append_left (by omega)]; exact e, hn, q1, q2⟩
  · have hget : (cells ++ [.slice a0 n0 c0, .slice a1 n1 c1, .slice a2 n2 c2])[j]? = [Value.slice a0 n0 c0, .slice a1 n1 c1, .slice a2 n2 c2][j - 3 * k]? := by rw [List.getElem?_append_right (by omega), hcl]
    obtain hj0 | hj0 | hj0 : j - 3 * k = 0 ∨ j - 3 * k = 1 ∨ j - 3 * k = 2 := by omega
    · obtain ⟨q1, q2⟩ := key h0 d0
      exact ⟨_, _, _, _, by rw [hget, hj0]; rfl, m0, q1, q2⟩
    · obtain ⟨q1, q2⟩ := key h1 d1
      exact ⟨_, _, _, _, by rw [hget, hj0]; rfl, m1, q1, q2⟩
    · obtain ⟨q1, q2⟩ := key h2 d2
      exact ⟨_, _, _, _, by rw [hget, hj0]; rfl, m2, q1, q2⟩

theorem NetOwn.set {B : Nat} {v : World} {k : Nat} {cells : List Value} {g cp j : Nat} {a : Option Addr} {n c : Nat} {xs : List Int} (h : NetOwn B v (.slice (some ⟨g, 0, none⟩) k cp) k cells) (hj : j < 3 * k)
    (hn : NewL B v a n c xs) (hn2 : n ≤ 2) (hd : ∀ o, a = some o → o.block ≠ g) : NetOwn B (v.setCell ⟨g, j, none⟩ (.slice a n c)) (.slice (some ⟨g, 0, none⟩) k cp) k (cells.set j (.slice a n c)) := by
  have hcl : cells.length = 3 * k := by have := h.own.1; omega
  have hoth : ∀ q, q ≠ g → (v.setCell ⟨g, j, none⟩ (.slice a n c)).heap[q]? = v.heap[q]? := fun q hq => Below.heap_setCell _ _ _ _ hq
  have hsz : v.heap.size ≤ (v.setCell ⟨g, j, none⟩ (.slice a n c)).heap.size := by simp [World.setCell]
  refine ⟨⟨by simpa using h.own.1, ?_⟩, fun i hi => ?_⟩
  · rcases h.own.2 with ⟨e, _⟩ | ⟨g', cp', cur, e, hg, hh, r1, r2, r3, r4⟩
    · simp at e
    · obtain ⟨rfl, rfl⟩ : g = g' ∧ cp = cp' := by simpa using e
      refine .inr ⟨g, cp, _, rfl, hg, heap_setCell_same v g j cur _ _ hh, r1, r2, by simpa using r3, ?_⟩
      rw [← r4]
      simp [List.take_set]
  · obtain ⟨a', n', c', xs', e, hn', hl', hd'⟩ := h.tris i hi
    by_cases hij : i = j
    · subst hij
      exact ⟨a, n, c, xs, by rw [List.getElem?_set_self (by omega)], hn2, hn.keep hsz fun q _ _ ⟨o, ho, hoq⟩ => hoth q (by have := hd o ho; omega), fun o ho e => hd o ho (by simpa [Value.ownBlock, eq_comm] using e)⟩
    · exact ⟨a', n', c', xs', by rw [List.getElem?_set_ne (fun e => hij e.symm)]; exact e, hn', hl'.keep hsz fun q _ _ ⟨o, ho, hoq⟩ => hoth q (by have := hd' o ho; simp [Value.ownBlock] at this; omega), hd'⟩

theorem exists_list {P : Nat → List Int → Prop} (n : Nat) (h : ∀ j, j < n → ∃ x, P j x) : ∃ L : List (List Int), L.length = n ∧ ∀ j, j < n → P j (L.getD j []) := by
  induction n with
  | zero => exact ⟨[], rfl, fun j hj => absurd hj (by omega)⟩
  | succ n ih =>
    obtain ⟨L, hL, hP⟩ := ih fun j hj => h j (by omega)
    obtain ⟨x, hx⟩ := h n (by omega)
    refine ⟨L ++ [x], by simp [hL], fun j hj => ?_⟩
    by_cases hjn : j = n
    · subst hjn
      rw [List.getD_eq_getElem?_getD, List.getElem?_append_right (by omega), hL]
      simpa using hx
    · have := hP j (by omega)
      rw [List.getD_eq_getElem?_getD, List.getElem?_append_left (by omega), ← List.getD_eq_getElem?_getD]
      exact this

/-- A drawn net can be read. -/
theorem NetOwn.lists {B : Nat} {v : World} {u : Value} {k : Nat} {cells : List Value} (h : NetOwn B v u k cells) (hk : k ≤ 5) : ∃ a c L, u = .slice a k c ∧ Lists v a (3 * k) L ∧ sizeN k L ≤ 35 ∧ (∀ o, a = some o → B ≤ o.block) := by
  have hcl : cells.length = 3 * k := by have := h.own.1; omega
  obtain ⟨L, hL, hP⟩ := exists_list (P := fun j x => ∃ a n c, cells[j]? = some (.slice a n c) ∧ n ≤ 2 ∧ NewL B v a n c x) (3 * k) fun j hj => by
    obtain ⟨a, n, c, xs, e, hn, hl, _⟩ := h.tris j hj
    exact ⟨xs, a, n, c, e, hn, hl⟩
  have hsz : ∀ q, q ≤ 3 * k → sizeL (L.take q) ≤ 2 * q := by
    intro q
    induction q with
    | zero => intro _; simp [sizeL]
    | succ q ih =>
      intro hq
      rw [sizeL_take_succ L q (by omega)]
      obtain ⟨a, n, c, _, hn, hl⟩ := hP q (by omega)
      have := hl.row.1
      have := ih (by omega)
      omega
  have hs : sizeN k L ≤ 35 := by
    unfold sizeN
    have := hsz (3 * k) (Nat.le_refl _)
    rw [List.take_of_length_le (by omega)] at this
    omega
  rcases h.own.2 with ⟨e, h0⟩ | ⟨g, cp, cur, e, hg, hh, _, _, hsc, htk⟩
  · subst h0
    exact ⟨none, 0, L, e, ⟨hL, .inl rfl⟩, hs, fun o ho => by cases ho⟩
  · refine ⟨_, cp, L, e, ⟨hL, .inr ⟨g, 0, rfl, (Array.getElem?_eq_some_iff.mp hh).1, fun j hj => ?_⟩⟩, hs, fun o ho => by obtain rfl := Option.some.inj ho; exact hg⟩
    obtain ⟨a, n, c, e1, hn, hl⟩ := hP j hj
    refine ⟨a, n, c, ?_, by unfold maxLen; omega, hl.row⟩
    rw [cell_of_row v g (0 + j) cur _ _ hh, Nat.zero_add]
    have e2 : (cur.toList.take (k * 3))[j]? = cells[j]? := by rw [htk]
    rw [List.getElem?_take_of_lt (by omega), Array.getElem?_toList] at e2
    rw [e2, e1]
end Go.Proofs.Ytajcmamapmeglaa


/- The cursor's net: a net in new memory, of some places and one to five transitions, whatever the bytes; nothing that was there is written but the cursor. -/
namespace Go.Proofs.Ytajcmamapmeglaa
open Go.RowKit
set_option maxRecDepth 10000

/-- What is there while a net is drawn: its variable in the block V. -/
structure NetSt (w v : World) (bc : Nat) (ca : Option Addr) (cn cc p : Nat) (bs : List Int) (R V : Nat) (pl : Int) (u : Value) (k : Nat) (cells : List Value) : Prop where
  var : v.heap[V]? = some (.cells #[.int .i64 pl, u] 26 (0, 0))
  res : v.heap[R]? = some (.cells #[.int .i64 0, .slice none 0 0] 26 (0, 0))
  hR : w.heap.size ≤ R
  hV : R < V
  net : NetOwn (V + 1) v u k cells
  cur : Cur v bc ca cn cc p
  was : RowB w ca cn bs
  kept : Kept bc w.heap.size w v

section
variable {w v v' W : World} {bc : Nat} {ca : Option Addr} {cn cc p p' : Nat} {bs : List Int} {R V : Nat} {pl : Int} {u : Value} {k : Nat} {cells : List Value}

theorem NetSt.lt (h : NetSt w v bc ca cn cc p bs R V pl u k cells) : V < v.heap.size := (Array.getElem?_eq_some_iff.mp h.var).1
theorem NetSt.bytes (h : NetSt w v bc ca cn cc p bs R V pl u k cells) (hap : Apart ca cn bc) : RowB v ca cn bs := h.was.kept h.kept hap

/-- Behind a call that moves the cursor and makes memory. -/
theorem NetSt.go (h : NetSt w v bc ca cn cc p bs R V pl u k cells) (hk : Kept bc v.heap.size v v') (hc : Cur v' bc ca cn cc p') (hb : bc < w.heap.size) : NetSt w v' bc ca cn cc p' bs R V pl u k cells := by
  have hlt := h.lt
  have hR := h.hR
  have hV := h.hV
  exact ⟨(hk.block V hlt (by omega)).trans h.var, (hk.block R (by omega) (by omega)).trans h.res, hR, hV, h.net.kept hk (Nat.le_refl _) (by omega), hc, h.was, h.kept.trans (hk.mono h.kept.size)⟩

theorem NetSt.grow (h : NetSt w v bc ca cn cc p bs R V pl u k cells) (hk : Below v.heap.size v v') (hb : bc < w.heap.size) : NetSt w v' bc ca cn cc p bs R V pl u k cells :=
  h.go (Kept.of_below hk) (h.cur.below hk h.cur.lt) hb

/-- What is there while a transition is drawn, in the block tB: v0 is the world ahead of it. -/
structure TrSt (w v0 v : World) (bc : Nat) (ca : Option Addr) (cn cc p : Nat) (bs : List Int) (R V : Nat) (pl : Int) (u : Value) (k : Nat) (cells : List Value) (tB : Nat) (a1 a2 a3 : Option Addr) (n1 n2 n3 c1 c2 c3 : Nat) : Prop where
  net0 : ∃ p0, NetSt w v0 bc ca cn cc p0 bs R V pl u k cells
  rel : Kept bc v0.heap.size v0 v
  cur : Cur v bc ca cn cc p
  ht : v0.heap.size ≤ tB
  t : v.heap[tB]? = some (.cells #[.slice a1 n1 c1, .slice a2 n2 c2, .slice a3 n3 c3] 106 (0, 0))
  l1 : ∃ xs, NewL v0.heap.size v a1 n1 c1 xs ∧ n1 ≤ 2 ∧ ∀ o, a1 = some o → o.block ≠ tB
  l2 : ∃ xs, NewL v0.heap.size v a2 n2 c2 xs ∧ n2 ≤ 2 ∧ ∀ o, a2 = some o → o.block ≠ tB
  l3 : ∃ xs, NewL v0.heap.size v a3 n3 c3 xs ∧ n3 ≤ 2 ∧ ∀ o, a3 = some o → o.block ≠ tB

theorem TrSt.net {w v0 v : World} {tB : Nat} {a1 a2 a3 : Option Addr} {n1 n2 n3 c1 c2 c3 : Nat} (h : TrSt w v0 v bc ca cn cc p bs R V pl u k cells tB a1 a2 a3 n1 n2 n3 c1 c2 c3) (hb : bc < w.heap.size) : NetSt w v bc ca cn cc p bs R V pl u k cells := by
  obtain ⟨p0, h0⟩ := h.net0
  exact h0.go h.rel h.cur hb

theorem TrSt.first {w v0 v3 v4 : World} {q2 : Nat} {a1 a2 : Option Addr} {n1 n2 c1 c2 : Nat} {x1 x2 : List Int} (h : NetSt w v0 bc ca cn cc p bs R V pl u k cells) (hb : bc < w.heap.size)
    (hl1 : NewL v0.heap.size v3 a1 n1 c1 x1) (hn1 : n1 ≤ 2) (hk1 : Kept bc v0.heap.size v0 v3)
    (hl2 : NewL v3.heap.size v4 a2 n2 c2 x2) (hn2 : n2 ≤ 2) (hc2 : Cur v4 bc ca cn cc q2) (hk2 : Kept bc v3.heap.size v3 v4) :
    TrSt w v0 (v4.alloc (.cells #[.slice a1 n1 c1, .slice a2 n2 c2, .slice none 0 0] 106)) bc ca cn cc q2 bs R V pl u k cells v4.heap.size a1 a2 none n1 n2 0 c1 c2 0 := by
  have hA := below_al v4 (.cells #[.slice a1 n1 c1, .slice a2 n2 c2, .slice none 0 0] 106)
  have hb0 : bc < v0.heap.size := by have := h.kept.size; omega
  have s1 := hk1.size
  have s2 := hk2.size
  have e1 := hl1.kept hk2 (Nat.le_refl _) hb0
  have hK4 : Kept bc v4.heap.size v4 (v4.alloc (.cells #[.slice a1 n1 c1, .slice a2 n2 c2, .slice none 0 0] 106)) := Kept.of_below hA
  refine ⟨⟨p, h⟩, (hk1.trans (hk2.mono s1)).trans (hK4.mono (by omega)), hc2.below hA hc2.lt, by omega, heap_alloc_new _ _, ⟨x1, e1.kept hK4 (Nat.le_refl _) hb0, hn1, fun o ho => ?_⟩, ⟨x2, (hl2.mono s1).kept hK4 (Nat.le_refl _) hb0, hn2, fun o ho => ?_⟩, ⟨[], .inl ⟨rfl, rfl, rfl, rfl⟩, by omega, fun o ho => by cases ho⟩⟩
  · have := (e1.lt ho).2; omega
  · have := (hl2.lt ho).2; omega

/-- The transition's block was made ahead of a call, and is written last. -/
theorem TrSt.set3 {w v0 v : World} {tB : Nat} {a1 a2 : Option Addr} {n1 n2 c1 c2 : Nat} {x1 x2 : List Int} {z0 z1 z2 : Value} (h : NetSt w v0 bc ca cn cc p' bs R V pl u k cells) (hb : bc < w.heap.size) (hk : Kept bc v0.heap.size v0 v) (hc : Cur v bc ca cn cc p) (ht : v0.heap.size ≤ tB) (hT : v.heap[tB]? = some (.cells #[z0, z1, z2] 106 (0, 0)))
    (h1 : NewL v0.heap.size v a1 n1 c1 x1) (m1 : n1 ≤ 2) (d1 : ∀ o, a1 = some o → o.block ≠ tB) (h2 : NewL v0.heap.size v a2 n2 c2 x2) (m2 : n2 ≤ 2) (d2 : ∀ o, a2 = some o → o.block ≠ tB) :
    TrSt w v0 (((v.setCell ⟨tB, 0, none⟩ (.slice a1 n1 c1)).setCell ⟨tB, 1, none⟩ (.slice a2 n2 c2)).setCell ⟨tB, 2, none⟩ (.slice none 0 0)) bc ca cn cc p bs R V pl u k cells tB a1 a2 none n1 n2 0 c1 c2 0 := by
  have hb0 : bc < v0.heap.size := by have := h.kept.size; omega
  have hsz : v.heap.size ≤ (((v.setCell ⟨tB, 0, none⟩ (.slice a1 n1 c1)).setCell ⟨tB, 1, none⟩ (.slice a2 n2 c2)).setCell ⟨tB, 2, none⟩ (.slice none 0 0)).heap.size := by simp [World.setCell]
  have hoth : ∀ q, q ≠ tB → (((v.setCell ⟨tB, 0, none⟩ (.slice a1 n1 c1)).setCell ⟨tB, 1, none⟩ (.slice a2 n2 c2)).setCell ⟨tB, 2, none⟩ (.slice none 0 0)).heap[q]? = v.heap[q]? := fun q hq =>
    (Below.heap_setCell _ _ _ _ hq).trans ((Below.heap_setCell _ _ _ _ hq).trans (Below.heap_setCell _ _ _ _ hq))
  have e0 := heap_setCell_same v tB 0 _ _ (.slice a1 n1 c1) hT
  have e1 := heap_setCell_same _ tB 1 _ _ (.slice a2 n2 c2) e0
  have e2 := heap_setCell_same _ tB 2 _ _ (.slice none 0 0) e1
  obtain ⟨s, hs⟩ := hc
  refine ⟨⟨p', h⟩, ⟨hk.os, hk.tape, hk.output, Nat.le_trans hk.size hsz, fun q hq hne => (hoth q (by omega)).trans (hk.block q hq hne)⟩, ⟨s, (hoth bc (by omega)).trans hs⟩, ht, by rw [e2]; rfl, ⟨x1, h1.keep hsz fun q _ _ ⟨o, ho, hoq⟩ => hoth q (by have := d1 o ho; omega), m1, d1⟩, ⟨x2, h2.keep hsz fun q _ _ ⟨o, ho, hoq⟩ => hoth q (by have := d2 o ho; omega), m2, d2⟩, ⟨[], .inl ⟨rfl, rfl, rfl, rfl⟩, by omega, fun o ho => by cases ho⟩⟩

/-- .. ahead of the second one. -/
theorem TrSt.firstB {w v0 v3 v4 : World} {q2 : Nat} {a1 a2 : Option Addr} {n1 n2 c1 c2 : Nat} {x1 x2 : List Int} {z0 z1 z2 : Value} (h : NetSt w v0 bc ca cn cc p bs R V pl u k cells) (hb : bc < w.heap.size)
    (hl1 : NewL v0.heap.size v3 a1 n1 c1 x1) (hn1 : n1 ≤ 2) (hk1 : Kept bc v0.heap.size v0 v3)
    (hl2 : NewL (v3.alloc (.cells #[z0, z1, z2] 106)).heap.size v4 a2 n2 c2 x2) (hn2 : n2 ≤ 2) (hc2 : Cur v4 bc ca cn cc q2) (hk2 : Kept bc (v3.alloc (.cells #[z0, z1, z2] 106)).heap.size (v3.alloc (.cells #[z0, z1, z2] 106)) v4) :
    TrSt w v0 (((v4.setCell ⟨v3.heap.size, 0, none⟩ (.slice a1 n1 c1)).setCell ⟨v3.heap.size, 1, none⟩ (.slice a2 n2 c2)).setCell ⟨v3.heap.size, 2, none⟩ (.slice none 0 0)) bc ca cn cc q2 bs R V pl u k cells v3.heap.size a1 a2 none n1 n2 0 c1 c2 0 := by
  have hA := below_al v3 (.cells #[z0, z1, z2] 106)
  have hb0 : bc < v0.heap.size := by have := h.kept.size; omega
  have s1 := hk1.size
  have s2 : v3.heap.size < (v3.alloc (.cells #[z0, z1, z2] 106)).heap.size := by simp
  have hKA : Kept bc v3.heap.size v3 (v3.alloc (.cells #[z0, z1, z2] 106)) := Kept.of_below hA
  refine TrSt.set3 h hb ((hk1.trans (hKA.mono s1)).trans (hk2.mono (by omega))) hc2 s1 ((hk2.block _ s2 (by omega)).trans (heap_alloc_new _ _)) ((hl1.kept hKA (Nat.le_refl _) hb0).kept hk2 (Nat.le_refl _) hb0) hn1 (fun o ho => ?_) (hl2.mono (by omega)) hn2 (fun o ho => ?_)
  · have := (hl1.lt ho).2; omega
  · have := (hl2.lt ho).1; omega

/-- .. ahead of both. -/
theorem TrSt.firstC {w v0 v3 v4 : World} {q2 : Nat} {a1 a2 : Option Addr} {n1 n2 c1 c2 : Nat} {x1 x2 : List Int} {z0 z1 z2 : Value} (h : NetSt w v0 bc ca cn cc p bs R V pl u k cells) (hb : bc < w.heap.size)
    (hl1 : NewL (v0.alloc (.cells #[z0, z1, z2] 106)).heap.size v3 a1 n1 c1 x1) (hn1 : n1 ≤ 2) (hk1 : Kept bc (v0.alloc (.cells #[z0, z1, z2] 106)).heap.size (v0.alloc (.cells #[z0, z1, z2] 106)) v3)
    (hl2 : NewL v3.heap.size v4 a2 n2 c2 x2) (hn2 : n2 ≤ 2) (hc2 : Cur v4 bc ca cn cc q2) (hk2 : Kept bc v3.heap.size v3 v4) :
    TrSt w v0 (((v4.setCell ⟨v0.heap.size, 0, none⟩ (.slice a1 n1 c1)).setCell ⟨v0.heap.size, 1, none⟩ (.slice a2 n2 c2)).setCell ⟨v0.heap.size, 2, none⟩ (.slice none 0 0)) bc ca cn cc q2 bs R V pl u k cells v0.heap.size a1 a2 none n1 n2 0 c1 c2 0 := by
  have hA := below_al v0 (.cells #[z0, z1, z2] 106)
  have hb0 : bc < v0.heap.size := by have := h.kept.size; omega
  have s1 := hk1.size
  have s2 : v0.heap.size < (v0.alloc (.cells #[z0, z1, z2] 106)).heap.size := by simp
  have hKA : Kept bc v0.heap.size v0 (v0.alloc (.cells #[z0, z1, z2] 106)) := Kept.of_below hA
  refine TrSt.set3 h hb ((hKA.trans (hk1.mono (by omega))).trans (hk2.mono (by omega))) hc2 (Nat.le_refl _) ((hk2.block _ (by omega) (by omega)).trans ((hk1.block _ s2 (by omega)).trans (heap_alloc_new _ _))) ((hl1.mono (by omega)).kept hk2 (Nat.le_refl _) hb0) hn1 (fun o ho => ?_) (hl2.mono (by omega)) hn2 (fun o ho => ?_)
  · have := (hl1.lt ho).1; omega
  · have := (hl2.lt ho).1; omega

theorem TrSt.go {w v0 v v' : World} {tB p' : Nat} {a1 a2 a3 : Option Addr} {n1 n2 n3 c1 c2 c3 : Nat} (h : TrSt w v0 v bc ca cn cc p bs R V pl u k cells tB a1 a2 a3 n1 n2 n3 c1 c2 c3) (hk : Kept bc v.heap.size v v') (hc : Cur v' bc ca cn cc p') (hb : bc < w.heap.size) : TrSt w v0 v' bc ca cn cc p' bs R V pl u k cells tB a1 a2 a3 n1 n2 n3 c1 c2 c3 := by
  obtain ⟨p0, h0⟩ := h.net0
  have hb0 : bc < v0.heap.size := by have := h0.kept.size; omega
  have hs := h.rel.size
  obtain ⟨x1, y1, m1, d1⟩ := h.l1
  obtain ⟨x2, y2, m2, d2⟩ := h.l2
  obtain ⟨x3, y3, m3, d3⟩ := h.l3
  exact ⟨⟨p0, h0⟩, h.rel.trans (hk.mono hs), hc, h.ht, (hk.block tB (Array.getElem?_eq_some_iff.mp h.t).1 (by have := h.ht; omega)).trans h.t, ⟨x1, y1.kept hk (Nat.le_refl _) hb0, m1, d1⟩, ⟨x2, y2.kept hk (Nat.le_refl _) hb0, m2, d2⟩, ⟨x3, y3.kept hk (Nat.le_refl _) hb0, m3, d3⟩⟩

theorem TrSt.reset {w v0 v v' : World} {tB p' : Nat} {a1 a2 a3 a : Option Addr} {n1 n2 n3 c1 c2 c3 n c : Nat} {xs : List Int} (h : TrSt w v0 v bc ca cn cc p bs R V pl u k cells tB a1 a2 a3 n1 n2 n3 c1 c2 c3) (hk : Kept bc v.heap.size v v') (hc : Cur v' bc ca cn cc p') (hb : bc < w.heap.size)
    (hl : NewL v.heap.size v' a n c xs) (hn : n ≤ 2) : TrSt w v0 (v'.setCell ⟨tB, 2, none⟩ (.slice a n c)) bc ca cn cc p' bs R V pl u k cells tB a1 a2 a n1 n2 n c1 c2 c := by
  have g := h.go hk hc hb
  obtain ⟨p0, h0⟩ := g.net0
  have hb0 : bc < v0.heap.size := by have := h0.kept.size; omega
  have hlt := (Array.getElem?_eq_some_iff.mp h.t).1
  have hs := h.rel.size
  have hsz : v'.heap.size ≤ (v'.setCell ⟨tB, 2, none⟩ (.slice a n c)).heap.size := by simp [World.setCell]
  have hoth : ∀ q, q ≠ tB → (v'.setCell ⟨tB, 2, none⟩ (.slice a n c)).heap[q]? = v'.heap[q]? := fun q hq => Below.heap_setCell _ _ _ _ hq
  have key : ∀ {a' : Option Addr} {n' c' : Nat} {xs' : List Int} {B : Nat}, NewL B v' a' n' c' xs' → (∀ o, a' = some o → o.block ≠ tB) → NewL B (v'.setCell ⟨tB, 2, none⟩ (.slice a n c)) a' n' c' xs' := by
    intro a' n' c' xs' B hn hd
    exact hn.keep hsz fun q _ _ ⟨o, ho, hoq⟩ => hoth q (by have := hd o ho; omega)
  obtain ⟨x1, y1, m1, d1⟩ := g.l1
  obtain ⟨x2, y2, m2, d2⟩ := g.l2
  have hda : ∀ o, a = some o → o.block ≠ tB := fun o ho => by have := (hl.lt ho).1; omega
  refine ⟨⟨p0, h0⟩, ⟨g.rel.os, g.rel.tape, g.rel.output, Nat.le_trans g.rel.size hsz, fun q hq hne => (hoth q (by have := g.ht; omega)).trans (g.rel.block q hq hne)⟩, ?_, g.ht, ?_, ⟨x1, key y1 d1, m1, d1⟩, ⟨x2, key y2 d2, m2, d2⟩, ⟨xs, key (hl.mono hs) hda, hn, hda⟩⟩
  · obtain ⟨s, hs⟩ := g.cur
    exact ⟨s, (hoth bc (by have := g.ht; omega)).trans hs⟩
  · rw [heap_setCell_same v' tB 2 _ _ _ g.t]; rfl

theorem TrSt.append {w v0 v W : World} {tB : Nat} {a1 a2 a3 : Option Addr} {n1 n2 n3 c1 c2 c3 g cp : Nat} (h : TrSt w v0 v bc ca cn cc p bs R V pl u k cells tB a1 a2 a3 n1 n2 n3 c1 c2 c3) (hb : bc < w.heap.size) {v2 : World} (hv2 : Below v.heap.size v v2)
    (hown : W.ownsRow (V + 1) 106 3 (.slice (some ⟨g, 0, none⟩) (k + 1) cp) (k + 1) (cells ++ [.slice a1 n1 c1, .slice a2 n2 c2, .slice a3 n3 c3])) (hgr : v2.grownBy W u.ownBlock) (hl : u.ownBlock = some g ∨ g = v2.heap.size) :
    NetSt w (W.setCell ⟨V, 1, none⟩ (.slice (some ⟨g, 0, none⟩) (k + 1) cp)) bc ca cn cc p bs R V pl (.slice (some ⟨g, 0, none⟩) (k + 1) cp) (k + 1) (cells ++ [.slice a1 n1 c1, .slice a2 n2 c2, .slice a3 n3 c3]) := by
  obtain ⟨p0, h0⟩ := h.net0
  have hb0 : bc < v0.heap.size := by have := h0.kept.size; omega
  have G := h.go (Kept.of_below hv2) (h.cur.below hv2 h.cur.lt) hb
  have N := G.net hb
  have hs := G.rel.size
  have hVlt := N.lt
  have hV0 := h0.lt
  have hR := N.hR
  have hRV := N.hV
  have hob : ∀ q, u.ownBlock = some q → V + 1 ≤ q ∧ q < v0.heap.size := h0.net.own.lt
  obtain ⟨x1, y1, m1, d1⟩ := G.l1
  obtain ⟨x2, y2, m2, d2⟩ := G.l2
  obtain ⟨x3, y3, m3, d3⟩ := G.l3
  have far : ∀ {a : Option Addr} {n c : Nat} {xs : List Int}, NewL v0.heap.size v2 a n c xs → ∀ o, a = some o → u.ownBlock ≠ some o.block := fun hn o ho e => by
    have := (hn.lt ho).1; have := hob _ e; omega
  have K := N.net.append (y1.mono (by omega)) (y2.mono (by omega)) (y3.mono (by omega)) m1 m2 m3 (far y1) (far y2) (far y3) hown hgr hl
  have hset : ∀ q, q ≠ V → (W.setCell ⟨V, 1, none⟩ (.slice (some ⟨g, 0, none⟩) (k + 1) cp)).heap[q]? = W.heap[q]? := fun q hq => Below.heap_setCell _ _ _ _ hq
  have hWs : W.heap.size ≤ (W.setCell ⟨V, 1, none⟩ (.slice (some ⟨g, 0, none⟩) (k + 1) cp)).heap.size := by simp [World.setCell]
  have old : ∀ q, q ≤ V → W.heap[q]? = v2.heap[q]? := fun q hq => hgr.block q (by omega) fun e => by have := hob q e.symm; omega
  have hBel : Below w.heap.size v2 (W.setCell ⟨V, 1, none⟩ (.slice (some ⟨g, 0, none⟩) (k + 1) cp)) := by
    refine Below.setCell (p := ⟨V, 1, none⟩) ?_ (show _ ≤ V by omega) _
    exact (Below.refl w.heap.size v2).grown hgr (by omega) fun q hq => by have := hob q hq; omega
  refine ⟨?_, (hset R (by omega)).trans ((old R (by omega)).trans N.res), hR, hRV, K.moved hWs fun q hq _ => hset q (by omega), ?_, N.was, N.kept.trans (Kept.of_below hBel)⟩
  · rw [heap_setCell_same W V 1 _ _ _ ((old V (Nat.le_refl _)).trans N.var)]; rfl
  · obtain ⟨s, hs⟩ := N.cur
    exact ⟨s, (hset bc (by omega)).trans ((old bc (by omega)).trans hs)⟩

theorem NetSt.places (h : NetSt w v bc ca cn cc p bs R V pl u k cells) (x : Int) (hb : bc < w.heap.size) : NetSt w (v.setCell ⟨V, 0, none⟩ (.int .i64 x)) bc ca cn cc p bs R V x u k cells := by
  have hR := h.hR
  have hV := h.hV
  have hset : ∀ q, q ≠ V → (v.setCell ⟨V, 0, none⟩ (.int .i64 x)).heap[q]? = v.heap[q]? := fun q hq => Below.heap_setCell _ _ _ _ hq
  have hsz : v.heap.size ≤ (v.setCell ⟨V, 0, none⟩ (.int .i64 x)).heap.size := by simp [World.setCell]
  obtain ⟨s, hs⟩ := h.cur
  refine ⟨?_, (hset R (by omega)).trans h.res, hR, hV, h.net.moved hsz fun q hq _ => hset q (by omega), ⟨s, (hset bc (by omega)).trans hs⟩, h.was, h.kept.trans (Kept.of_below (Below.setCell (p := ⟨V, 0, none⟩) (Below.refl _ _) (show _ ≤ V by omega) _))⟩
  rw [heap_setCell_same v V 0 _ _ _ h.var]; rfl

theorem NetSt.setTri {g cp j n c : Nat} {a : Option Addr} {xs : List Int} (h : NetSt w v bc ca cn cc p bs R V pl (.slice (some ⟨g, 0, none⟩) k cp) k cells) (hg : V < g) (hj : j < 3 * k) (hn : NewL (V + 1) v a n c xs) (hn2 : n ≤ 2) (hd : ∀ o, a = some o → o.block ≠ g) (hb : bc < w.heap.size) :
    NetSt w (v.setCell ⟨g, j, none⟩ (.slice a n c)) bc ca cn cc p bs R V pl (.slice (some ⟨g, 0, none⟩) k cp) k (cells.set j (.slice a n c)) := by
  have hR := h.hR
  have hV := h.hV
  have hset : ∀ q, q ≠ g → (v.setCell ⟨g, j, none⟩ (.slice a n c)).heap[q]? = v.heap[q]? := fun q hq => Below.heap_setCell _ _ _ _ hq
  obtain ⟨s, hs⟩ := h.cur
  exact ⟨(hset V (by omega)).trans h.var, (hset R (by omega)).trans h.res, hR, hV, h.net.set hj hn hn2 hd, ⟨s, (hset bc (by omega)).trans hs⟩, h.was, h.kept.trans (Kept.of_below (Below.setCell (p := ⟨g, j, none⟩) (Below.refl _ _) (show _ ≤ g by omega) _))⟩

theorem NetOwn.form {B : Nat} {v : World} {u : Value} {k : Nat} {cells : List Value} (h : NetOwn B v u k cells) (hk : 1 ≤ k) : ∃ g cp, u = .slice (some ⟨g, 0, none⟩) k cp ∧ B ≤ g ∧ g < v.heap.size ∧ ∀ j, j < 3 * k → (∃ z, v.cell? ⟨g, j, none⟩ = some z ∧ cells[j]? = some z) ∧ v.frozen? ⟨g, j, none⟩ = false := by
  have hcl : cells.length = 3 * k := by have := h.own.1; omega
  rcases h.own.2 with ⟨_, h0⟩ | ⟨g, cp, cur, e, hg, hh, _, _, hsz, htk⟩
  · omega
  · refine ⟨g, cp, e, hg, (Array.getElem?_eq_some_iff.mp hh).1, fun j hj => ⟨?_, frozen_of_row v g j _ _ hh⟩⟩
    have e2 : (cur.toList.take (k * 3))[j]? = cells[j]? := by rw [htk]
    rw [List.getElem?_take_of_lt (by omega), Array.getElem?_toList] at e2
    rw [cell_of_row v g j cur _ _ hh, e2]
    exact ⟨_, List.getElem?_eq_getElem (by omega), List.getElem?_eq_getElem (by omega)⟩

theorem news3d (w : World) (x y z : Value) : ∀ j u, ([x, y, z] : List Value)[j]? = some u → (w.alloc (.cells #[x, y, z] 106)).cell? ((⟨w.heap.size, 0, none⟩ : Addr).add j) = some u := by
  intro j u hu
  rw [Addr.add_mid, cell_of_row _ w.heap.size (0 + j) #[x, y, z] _ _ (heap_alloc_new _ _), Nat.zero_add]
  simpa using hu
end

/-- How net ends. -/
def NetDr (bc : Nat) (ca : Option Addr) (cn cc p : Nat) (bs : List Int) (w : World) (e : Ending) (w' : World) : Prop :=
  ∃ (pl : Int) (u : Value) (k : Nat) (cells : List Value) (p' : Nat), e = .returned (.agg #[.int .i64 pl, u]) ∧ (0 ≤ pl ∧ pl ≤ 17) ∧ 1 ≤ k ∧ k ≤ 5 ∧ p' ≤ p + 100 ∧ NetOwn w.heap.size w' u k cells ∧ Cur w' bc ca cn cc p' ∧ RowB w' ca cn bs ∧ Kept bc w.heap.size w w'

theorem NetSt.done {w v : World} {bc : Nat} {ca : Option Addr} {cn cc p p1 : Nat} {bs : List Int} {R V : Nat} {pl : Int} {u : Value} {k : Nat} {cells : List Value} (h : NetSt w v bc ca cn cc p1 bs R V pl u k cells) (hb : bc < w.heap.size) (hap : Apart ca cn bc) (hpl : 0 ≤ pl ∧ pl ≤ 17) (h1 : 1 ≤ k) (h5 : k ≤ 5) (hp : p1 ≤ p + 100) (x y : Value) :
    NetDr bc ca cn cc p bs w (.returned (.agg #[.int .i64 pl, u])) ((v.setCell ⟨R, 0, none⟩ x).setCell ⟨R, 1, none⟩ y) := by
  have hR := h.hR
  have hV := h.hV
  have hset : ∀ q, q ≠ R → ((v.setCell ⟨R, 0, none⟩ x).setCell ⟨R, 1, none⟩ y).heap[q]? = v.heap[q]? := fun q hq => (Below.heap_setCell _ _ _ _ hq).trans (Below.heap_setCell _ _ _ _ hq)
  have hsz : v.heap.size ≤ ((v.setCell ⟨R, 0, none⟩ x).setCell ⟨R, 1, none⟩ y).heap.size := by simp [World.setCell]
  have hk : Kept bc w.heap.size w ((v.setCell ⟨R, 0, none⟩ x).setCell ⟨R, 1, none⟩ y) := h.kept.trans (Kept.of_below (Below.setCell (p := ⟨R, 1, none⟩) (Below.setCell (p := ⟨R, 0, none⟩) (Below.refl _ _) (show _ ≤ R by omega) _) (show _ ≤ R by omega) _))
  obtain ⟨s, hs⟩ := h.cur
  exact ⟨pl, u, k, cells, p1, rfl, hpl, h1, h5, hp, (h.net.moved hsz fun q hq _ => hset q (by omega)).low (by omega), ⟨s, (hset bc (by omega)).trans hs⟩, h.was.kept hk hap, hk⟩

theorem keepK {W W' : World} {bc V o : Nat} {x : Value} (hk : Kept bc W.heap.size W W') (hne : V ≠ bc) (h : W.cell? ⟨V, o, none⟩ = some x) : W'.cell? ⟨V, o, none⟩ = some x :=
  (World.cell?_of_block (hk.block V (World.block_lt_of_cell? _ _ h) hne)).trans h

theorem keepA {W : World} {V o : Nat} {x : Value} {ob : Obj} (h : W.cell? ⟨V, o, none⟩ = some x) : (W.alloc ob).cell? ⟨V, o, none⟩ = some x :=
  ((below_al W ob).cell (World.block_lt_of_cell? _ _ h)).trans h

theorem keepS {W : World} {V o t : Nat} {x y0 y1 y2 : Value} (hne : V ≠ t) (h : W.cell? ⟨V, o, none⟩ = some x) : (((W.setCell ⟨t, 0, none⟩ y0).setCell ⟨t, 1, none⟩ y1).setCell ⟨t, 2, none⟩ y2).cell? ⟨V, o, none⟩ = some x := by
  rw [World.cell?_setCell_far _ _ _ _ (fun e => hne e.symm), World.cell?_setCell_far _ _ _ _ (fun e => hne e.symm), World.cell?_setCell_far _ _ _ _ (fun e => hne e.symm)]
  exact h

/-- The block's cells can be written. -/
structure Open3 (v : World) (t : Nat) : Prop where
  c0 : ∃ z, v.cell? ⟨t, 0, none⟩ = some z
  c1 : ∃ z, v.cell? ⟨t, 1, none⟩ = some z
  c2 : ∃ z, v.cell? ⟨t, 2, none⟩ = some z
  f0 : v.frozen? ⟨t, 0, none⟩ = false
  f1 : v.frozen? ⟨t, 1, none⟩ = false
  f2 : v.frozen? ⟨t, 2, none⟩ = false

theorem open3 {v : World} {t : Nat} {T : TypeId} {z0 z1 z2 : Value} (h : v.heap[t]? = some (.cells #[z0, z1, z2] T (0, 0))) : Open3 v t :=
  ⟨⟨z0, cell_of_row v t 0 _ _ _ h⟩, ⟨z1, cell_of_row v t 1 _ _ _ h⟩, ⟨z2, cell_of_row v t 2 _ _ _ h⟩, frozen_of_row v t 0 _ _ h, frozen_of_row v t 1 _ _ h, frozen_of_row v t 2 _ _ h⟩

theorem openB {bc : Nat} {v3 v4 : World} {z0 z1 z2 : Value} {T : TypeId} (hk2 : Kept bc (v3.alloc (.cells #[z0, z1, z2] T)).heap.size (v3.alloc (.cells #[z0, z1, z2] T)) v4) (hb : bc < v3.heap.size) : Open3 v4 v3.heap.size :=
  open3 ((hk2.block _ (by simp) (by omega)).trans (heap_alloc_new _ _))
theorem openC {bc : Nat} {v0 v3 v4 : World} {z0 z1 z2 : Value} {T : TypeId} (hk1 : Kept bc (v0.alloc (.cells #[z0, z1, z2] T)).heap.size (v0.alloc (.cells #[z0, z1, z2] T)) v3) (hk2 : Kept bc v3.heap.size v3 v4) (hb : bc < v0.heap.size) : Open3 v4 v0.heap.size := by
  have s1 := hk1.size
  simp at s1
  exact open3 ((hk2.block _ (by omega) (by omega)).trans ((hk1.block _ (by simp) (by omega)).trans (heap_alloc_new _ _)))

set_option maxHeartbeats 4000000 in
theorem net_draw (rs : Bool) (bc : Nat) (ca : Option Addr) (cn cc p : Nat) (bs : List Int) (w : World) (h : Cur w bc ca cn cc p) (hr : RowB w ca cn bs) (hap : Apart ca cn bc) (hp : p ≤ 800000) (hn : cn ≤ 1048576) :
    Calls Try.prog 109 #[.pointer (some ⟨bc, 0, none⟩), .bool rs] w fun e w' => NetDr bc ca cn cc p bs w e w' := by
  have hbc := h.lt
  have hA := below_al w (.cells #[.int .i64 0, .slice none 0 0] 26)
  have HC := hide (h.below hA hbc)
  have HR := hide (hr.kept (Kept.of_below hA) hap)
  have HR0 := hide hr
  have HK := hide (Kept.of_below (bc := bc) hA)
  have HRES := hide (heap_alloc_new w (.cells #[.int .i64 0, .slice none 0 0] 26))
  have HAP := hide hap
  clear h hr hA hap
  obtain ⟨i1, hi1, hz0, hz1, hz2⟩ := info_split Try.info106
  go_enter Try.func109, Try.ntmps109
  go_wp2_with fail
  refine (pick_any 4 bc ca cn cc p bs _ HC.out HR.out (by omega) hn (by omega) (by omega)).mono ?_
  rintro e v1 ⟨r, rfl, hr, hcur, ho⟩
  have hszv : v1.heap.size = w.heap.size + 1 := by rw [ho.size]; simp
  have hA := below_al v1 (.cells #[.int .i64 (2 + (r : Int)), .slice none 0 0] 26)
  have S0 : Hid (NetSt w (v1.alloc (.cells #[.int .i64 (2 + (r : Int)), .slice none 0 0] 26)) bc ca cn cc (p + 1) bs w.heap.size v1.heap.size ((2 + r : Nat) : Int) (.slice none 0 0) 0 []) := by
    refine ⟨?_, ?_, Nat.le_refl _, by omega, NetOwn.nil _ _, hcur.below hA hcur.lt, HR0.out, (HK.out.trans (Kept.of_only ho)).trans ((Kept.of_below hA).mono (by omega))⟩
    · rw [show ((2 + r : Nat) : Int) = 2 + (r : Int) by omega]; exact heap_alloc_new _ _
    · rw [hA.block _ (by omega), ho.block _ (by omega)]; exact HRES.out
  have HSV := hide hszv
  clear hcur ho hA HC HR HK HRES hszv
  go_wp2_with fail
  have hszv := HSV.out
  clear HSV
  generalize v1.alloc (.cells #[.int .i64 (2 + (r : Int)), .slice none 0 0] 26) = W0 at S0 ⊢
  generalize v1.heap.size = V at S0 hszv ⊢
  generalize hRR : w.heap.size = R at S0 hszv hbc ⊢
  obtain ⟨pl, hpl⟩ : ∃ pl, pl = 2 + r := ⟨_, rfl⟩
  rw [← hpl] at S0
  have hpl2 : 2 ≤ pl ∧ pl ≤ 5 := by omega
  have hVb : V ≠ bc := by omega
  have hbw : bc < w.heap.size := by omega
  have HRR := hide hRR
  clear hpl hr hszv hRR
  refine (pick_any 5 bc ca cn cc (p + 1) bs _ S0.out.cur (S0.out.bytes HAP.out) (by omega) hn (by omega) (by omega)).mono ?_
  rintro e v2 ⟨r2, rfl, hr2, hcur, ho⟩
  have S1 := hide (S0.out.go (Kept.of_only ho) hcur hbw)
  clear hcur ho S0
  go_wp2_with fail
  go_loopw [6] (fun i wr => ∃ (m q k : Nat) (u : Value) (cells : List Value), i = .int .i64 m ∧ m + k = 1 + r2 ∧ q + 10 * m ≤ p + 52 ∧ Hid (NetSt w wr bc ca cn cc q bs R V (pl : Int) u k cells)) (fun i _ => (intOf i).toNat)
  case atStart => exact ⟨1 + r2, p + 1 + 1, 0, _, _, by go_num, by omega, by omega, S1⟩
  case round =>
    obtain ⟨m, q, k, u, cells, rfl, hmk, hq, S0⟩ := hrel
    clear S1
    by_cases hlt : 0 < m
    · have hm0 : (0 : Int) < (m : Int) := by omega
      have hV0 : wr.cell? ⟨V, 0, none⟩ = some (.int .i64 (pl : Int)) := cell_of_row wr V 0 _ _ _ S0.out.var
      have S0' := hide (S0.out.grow (Below.refl _ wr).drew hbw)
      go_wp2_with fail
      have S0a := hide (S0'.out.grow (below_al wr.drew (.cells #[.slice none 0 0, .slice none 0 0, .slice none 0 0] 106)) hbw)
      have hVlt := S0'.out.lt
      have hVw : V ≠ wr.heap.size := by have := S0.out.lt; omega
      have HBW := hide S0'.out.cur.lt
      have HVD := hide (show wr.drew.cell? ⟨V, 0, none⟩ = some (.int .i64 (pl : Int)) from hV0)
      go_cut [7] from 15 to 43 (fun s7 wx => ∃ tB a1 n1 c1 a2 n2 c2 q2, s7 = .pointer (some ⟨tB, 0, none⟩) ∧ q2 ≤ q + 6 ∧ Hid (TrSt w wr.drew wx bc ca cn cc q2 bs R V (pl : Int) u k cells tB a1 a2 none n1 n2 0 c1 c2 0))
      case first =>
        go_region_held3 (fun W => W.cell? ⟨V, 0, none⟩ = some (.int .i64 (pl : Int))) (first | (simp only [World.cell?_drew]; assumption) | (apply keepK; assumption; assumption; assumption) | (apply keepA; assumption) | (apply keepS; assumption; assumption))
          (first
            | (go_at_call_of 110 (Value.int .i64 1); refine (some_draw pl 1 bc ca cn cc q bs _ ?_ ?_ HAP.out (by omega) hn hpl2.1 (by omega) (by omega)).mono ?_; (first | exact S0'.out.cur | exact S0a.out.cur); (first | exact S0'.out.bytes HAP.out | exact S0a.out.bytes HAP.out); rintro e v3 ⟨a1, n1, c1, x1, q1, rfl, hn1, hl1, hq1, hc1, hb1, hk1⟩; (have hV3 : V ≠ v3.heap.size := by (have h1 := hk1.size; simp at h1; have h2 := hVlt; simp at h2; omega)); (have hc3 : v3.cell? ⟨V, 0, none⟩ = some (.int .i64 (pl : Int)) := by (first | exact keepK hk1 hVb HVD.out | exact keepK hk1 hVb (keepA HVD.out))))
            | (go_at_call_of 110 (Value.int .i64 0); refine (some_draw pl 0 bc ca cn cc q1 bs _ ?_ ?_ HAP.out (by omega) hn hpl2.1 (by omega) (by omega)).mono ?_; (first | exact hc1 | exact hc1.below (below_al _ _) hc1.lt); (first | exact hb1 | exact hb1.kept (Kept.of_below (below_al _ _)) HAP.out); rintro e v4 ⟨a2, n2, c2, x2, q2, rfl, hn2, hl2, hq2, hc2, hb2, hk2⟩; (have hc4 : v4.cell? ⟨V, 0, none⟩ = some (.int .i64 (pl : Int)) := by (first | exact keepK hk2 hVb hc3 | exact keepK hk2 hVb (keepA hc3))); (try have hop := openB hk2 hc1.lt); (try have hop : Open3 v4 wr.heap.size := openC (v0 := wr.drew) (z0 := .slice none 0 0) (z1 := .slice none 0 0) (z2 := .slice none 0 0) (T := 106) hk1 hk2 HBW.out); (try obtain ⟨⟨z0, hz0'⟩, ⟨z1, hz1'⟩, ⟨z2, hz2'⟩, hf0, hf1, hf2⟩ := hop)))
        all_goals (go_wp2_with fail; go_meet)
        all_goals first
          | exact ⟨_, _, _, _, _, _, _, _, rfl, by omega, TrSt.first S0'.out hbw hl1 hn1 hk1 hl2 hn2 hc2 hk2⟩
          | exact ⟨_, _, _, _, _, _, _, _, rfl, by omega, TrSt.firstB S0'.out hbw hl1 hn1 hk1 hl2 hn2 hc2 hk2⟩
          | exact ⟨_, _, _, _, _, _, _, _, rfl, by omega, TrSt.firstC (z0 := .slice none 0 0) (z1 := .slice none 0 0) (z2 := .slice none 0 0) S0'.out hbw hl1 hn1 hk1 hl2 hn2 hc2 hk2⟩
      case rest =>
        obtain ⟨tB, a1, n1, c1, a2, n2, c2, q2, rfl, hq2, T0⟩ := hcut
        clear S0 S0' S0a HVD hVw hVlt hV0 HBW
        cases rs
        · have hN := T0.out.net hbw
          have hVr := hN.var
          have hV1 : wc.cell? ⟨V, 1, none⟩ = some u := cell_of_row wc V 1 _ _ _ hVr
          have hV0 : wc.cell? ⟨V, 0, none⟩ = some (.int .i64 (pl : Int)) := cell_of_row wc V 0 _ _ _ hVr
          have ht0 : wc.cell? ⟨tB, 0, none⟩ = some (.slice a1 n1 c1) := cell_of_row wc tB 0 _ _ _ T0.out.t
          have ht1 : wc.cell? ⟨tB, 1, none⟩ = some (.slice a2 n2 c2) := cell_of_row wc tB 1 _ _ _ T0.out.t
          have ht2 : wc.cell? ⟨tB, 2, none⟩ = some (.slice none 0 0) := cell_of_row wc tB 2 _ _ _ T0.out.t
          have HA := hide (below_al wc (.cells #[.slice a1 n1 c1, .slice a2 n2 c2, .slice none 0 0] 106))
          have HNW := hide (news3d wc (.slice a1 n1 c1) (.slice a2 n2 c2) (.slice none 0 0))
          have HOWN := hide (hN.net.own.alloc (.cells #[.slice a1 n1 c1, .slice a2 n2 c2, .slice none 0 0] 106))
          have HVL := hide hN.lt
          have HVR := hide hVr
          clear hN hVr
          go_wp2_with (at_builtin; refine wpList_append_lies _ rfl (.tmp 39) (.tmp 41) 24 rfl (V + 1) 106 i1 _ 3 72 Try.underlying24 hi1 hz0 hz1 hz2 rfl (by decide) u k cells rfl HOWN.out ⟨wc.heap.size, 0, none⟩ 1 1 [.slice a1 n1 c1, .slice a2 n2 c2, .slice none 0 0] rfl rfl HNW.out (by simp [Value.oneCell']) (by decide) (by unfold maxLen; omega) (by omega) (by have := HVL.out; simp; omega) (wc.heap.size + 1) (by simp) ?_; intro g cp W' hown hgr hlies hglt; have hV' := (hgr.block V (by have := HVL.out; simp; omega) (fun e => by have := HOWN.out.lt V e.symm; omega)).trans ((HA.out.block V HVL.out).trans HVR.out); have hz3 : W'.cell? ⟨V, 1, none⟩ = some u := cell_of_row W' V 1 _ _ _ hV'; have hz4 : W'.frozen? ⟨V, 1, none⟩ = false := frozen_of_row W' V 1 _ _ hV')
          have S3 := hide (T0.out.append hbw HA.out hown hgr (by simpa using hlies))
          clear hown hgr hlies hglt hV' hz3 hz4 HNW HOWN HA
          go_roundw
          case rel => exact ⟨m - 1, q2, k + 1, _, _, by go_num, by omega, by omega, S3⟩
          case measure => simp [intOf]; omega
        · go_wp2_with fail
          refine (one_any 5 bc ca cn cc q2 bs _ T0.out.cur ((T0.out.net hbw).bytes HAP.out) (by omega) hn (by omega) (by omega)).mono ?_
          rintro e v5 ⟨b, rfl, hcur, ho⟩
          have T1 := hide (T0.out.go (Kept.of_only ho) hcur hbw)
          clear hcur ho T0
          cases b
          · have hN := T1.out.net hbw
            have hVr := hN.var
            have hV1 : v5.cell? ⟨V, 1, none⟩ = some u := cell_of_row v5 V 1 _ _ _ hVr
            have hV0 : v5.cell? ⟨V, 0, none⟩ = some (.int .i64 (pl : Int)) := cell_of_row v5 V 0 _ _ _ hVr
            have ht0 : v5.cell? ⟨tB, 0, none⟩ = some (.slice a1 n1 c1) := cell_of_row v5 tB 0 _ _ _ T1.out.t
            have ht1 : v5.cell? ⟨tB, 1, none⟩ = some (.slice a2 n2 c2) := cell_of_row v5 tB 1 _ _ _ T1.out.t
            have ht2 : v5.cell? ⟨tB, 2, none⟩ = some (.slice none 0 0) := cell_of_row v5 tB 2 _ _ _ T1.out.t
            have HA := hide (below_al v5 (.cells #[.slice a1 n1 c1, .slice a2 n2 c2, .slice none 0 0] 106))
            have HNW := hide (news3d v5 (.slice a1 n1 c1) (.slice a2 n2 c2) (.slice none 0 0))
            have HOWN := hide (hN.net.own.alloc (.cells #[.slice a1 n1 c1, .slice a2 n2 c2, .slice none 0 0] 106))
            have HVL := hide hN.lt
            have HVR := hide hVr
            clear hN hVr
            go_wp2_with (at_builtin; refine wpList_append_lies _ rfl (.tmp 39) (.tmp 41) 24 rfl (V + 1) 106 i1 _ 3 72 Try.underlying24 hi1 hz0 hz1 hz2 rfl (by decide) u k cells rfl HOWN.out ⟨v5.heap.size, 0, none⟩ 1 1 [.slice a1 n1 c1, .slice a2 n2 c2, .slice none 0 0] rfl rfl HNW.out (by simp [Value.oneCell']) (by decide) (by unfold maxLen; omega) (by omega) (by have := HVL.out; simp; omega) (v5.heap.size + 1) (by simp) ?_; intro g cp W' hown hgr hlies hglt; have hV' := (hgr.block V (by have := HVL.out; simp; omega) (fun e => by have := HOWN.out.lt V e.symm; omega)).trans ((HA.out.block V HVL.out).trans HVR.out); have hz3 : W'.cell? ⟨V, 1, none⟩ = some u := cell_of_row W' V 1 _ _ _ hV'; have hz4 : W'.frozen? ⟨V, 1, none⟩ = false := frozen_of_row W' V 1 _ _ hV')
            have S3 := hide (T1.out.append hbw HA.out hown hgr (by simpa using hlies))
            clear hown hgr hlies hglt hV' hz3 hz4 HNW HOWN HA
            go_roundw
            case rel => exact ⟨m - 1, (q2 + 1), k + 1, _, _, by go_num, by omega, by omega, S3⟩
            case measure => simp [intOf]; omega
          · have hV0 : v5.cell? ⟨V, 0, none⟩ = some (.int .i64 (pl : Int)) := cell_of_row v5 V 0 _ _ _ (T1.out.net hbw).var
            go_wp2_with fail
            refine (some_draw pl 1 bc ca cn cc (q2 + 1) bs _ T1.out.cur ((T1.out.net hbw).bytes HAP.out) HAP.out (by omega) hn hpl2.1 (by omega) (by omega)).mono ?_
            rintro e v6 ⟨a3, n3, c3, x3, q3, rfl, hn3, hl3, hq3, hc3, hb3, hk3⟩
            have T2 := hide (T1.out.reset hk3 hc3 hbw hl3 hn3)
            have hT6 := (T1.out.go hk3 hc3 hbw).t
            have hy2 : v6.cell? ⟨tB, 2, none⟩ = some (.slice none 0 0) := cell_of_row v6 tB 2 _ _ _ hT6
            have hy3 : v6.frozen? ⟨tB, 2, none⟩ = false := frozen_of_row v6 tB 2 _ _ hT6
            clear hl3 hc3 hb3 hk3 T1 hT6 hV0
            go_upto_region 8 with fail
            clear hy2 hy3
            generalize v6.setCell ⟨tB, 2, none⟩ (.slice a3 n3 c3) = v7 at T2 ⊢
            have hN := T2.out.net hbw
            have hVr := hN.var
            have hV1 : v7.cell? ⟨V, 1, none⟩ = some u := cell_of_row v7 V 1 _ _ _ hVr
            have hV0 : v7.cell? ⟨V, 0, none⟩ = some (.int .i64 (pl : Int)) := cell_of_row v7 V 0 _ _ _ hVr
            have ht0 : v7.cell? ⟨tB, 0, none⟩ = some (.slice a1 n1 c1) := cell_of_row v7 tB 0 _ _ _ T2.out.t
            have ht1 : v7.cell? ⟨tB, 1, none⟩ = some (.slice a2 n2 c2) := cell_of_row v7 tB 1 _ _ _ T2.out.t
            have ht2 : v7.cell? ⟨tB, 2, none⟩ = some (.slice a3 n3 c3) := cell_of_row v7 tB 2 _ _ _ T2.out.t
            have HA := hide (below_al v7 (.cells #[.slice a1 n1 c1, .slice a2 n2 c2, .slice a3 n3 c3] 106))
            have HNW := hide (news3d v7 (.slice a1 n1 c1) (.slice a2 n2 c2) (.slice a3 n3 c3))
            have HOWN := hide (hN.net.own.alloc (.cells #[.slice a1 n1 c1, .slice a2 n2 c2, .slice a3 n3 c3] 106))
            have HVL := hide hN.lt
            have HVR := hide hVr
            clear hN hVr
            go_wp2_with (at_builtin; refine wpList_append_lies _ rfl (.tmp 39) (.tmp 41) 24 rfl (V + 1) 106 i1 _ 3 72 Try.underlying24 hi1 hz0 hz1 hz2 rfl (by decide) u k cells rfl HOWN.out ⟨v7.heap.size, 0, none⟩ 1 1 [.slice a1 n1 c1, .slice a2 n2 c2, .slice a3 n3 c3] rfl rfl HNW.out (by simp [Value.oneCell']) (by decide) (by unfold maxLen; omega) (by omega) (by have := HVL.out; simp; omega) (v7.heap.size + 1) (by simp) ?_; intro g cp W' hown hgr hlies hglt; have hV' := (hgr.block V (by have := HVL.out; simp; omega) (fun e => by have := HOWN.out.lt V e.symm; omega)).trans ((HA.out.block V HVL.out).trans HVR.out); have hz3 : W'.cell? ⟨V, 1, none⟩ = some u := cell_of_row W' V 1 _ _ _ hV'; have hz4 : W'.frozen? ⟨V, 1, none⟩ = false := frozen_of_row W' V 1 _ _ hV')
            have S3 := hide (T2.out.append hbw HA.out hown hgr (by simpa using hlies))
            clear hown hgr hlies hglt hV' hz3 hz4 HNW HOWN HA
            go_roundw
            case rel => exact ⟨m - 1, q3, k + 1, _, _, by go_num, by omega, by omega, S3⟩
            case measure => simp [intOf]; omega
    · have hm0 : m = 0 := by omega
      subst hm0
      go_wp2_with fail
      refine (pick_any 40 bc ca cn cc q bs _ S0.out.cur (S0.out.bytes HAP.out) (by omega) hn (by omega) (by omega)).mono ?_
      rintro e v3 ⟨r3, rfl, hr3, hcur, ho⟩
      have S1 := hide (S0.out.go (Kept.of_only ho) hcur hbw)
      clear hcur ho S0
      obtain ⟨g, cp, rfl, hg, hgl, hcel⟩ := S1.out.net.form (show 1 ≤ k by omega)
      by_cases h30 : r3 = 0
      · subst h30
        clear hcel hgl hg
        go_wp2_with fail
        refine (among_any 3 3 (some ⟨v3.heap.size, 0, none⟩) [0, 1, 17] bc ca cn cc (q + 1) bs (v3.alloc (.cells (cellsOf [0, 1, 17]) 3)) ((S1.out.grow (below_al _ _) hbw).cur) ((S1.out.grow (below_al _ _) hbw).bytes HAP.out) (by omega) hn (by omega) (by omega) (row_new v3 _ 3 _ rfl rfl) (by intro _ x hx; obtain rfl := Option.some.inj hx; have := S1.out.cur.lt; simp; omega)).mono ?_
        rintro e v4 ⟨x, rfl, hx, hcur, ho⟩
        have hx2 : 0 ≤ x ∧ x ≤ 17 := by simp at hx; omega
        have S2' := hide ((S1.out.grow (below_al v3 (.cells (cellsOf [0, 1, 17]) 3)) hbw).go (Kept.of_only ho) hcur hbw)
        have hVr := S2'.out.var
        have hv0 : v4.cell? ⟨V, 0, none⟩ = some (.int .i64 (pl : Int)) := cell_of_row v4 V 0 _ _ _ hVr
        have hvf : v4.frozen? ⟨V, 0, none⟩ = false := frozen_of_row v4 V 0 _ _ hVr
        have S2 := hide (S2'.out.places x hbw)
        clear hcur ho hx hVr S2'
        go_upto_region 16 with fail
        clear hv0 hvf
        generalize v4.setCell ⟨V, 0, none⟩ (.int .i64 x) = v5 at S2 ⊢
        have hVr := S2.out.var
        have hRr := S2.out.res
        have hv0 : v5.cell? ⟨V, 0, none⟩ = some (.int .i64 x) := cell_of_row v5 V 0 _ _ _ hVr
        have hv1 : v5.cell? ⟨V, 1, none⟩ = some (.slice (some ⟨g, 0, none⟩) k cp) := cell_of_row v5 V 1 _ _ _ hVr
        have hr0 : v5.cell? ⟨R, 0, none⟩ = some (.int .i64 0) := cell_of_row v5 R 0 _ _ _ hRr
        have hr1 : v5.cell? ⟨R, 1, none⟩ = some (.slice none 0 0) := cell_of_row v5 R 1 _ _ _ hRr
        have hf0 : v5.frozen? ⟨R, 0, none⟩ = false := frozen_of_row v5 R 0 _ _ hRr
        have hf1 : v5.frozen? ⟨R, 1, none⟩ = false := frozen_of_row v5 R 1 _ _ hRr
        clear hVr hRr
        go_wp2_with fail
        refine bodyPost_ret (v := .agg #[.int .i64 x, .slice (some ⟨g, 0, none⟩) k cp]) (by simp [results, Try.results109, go_sem, hr0, hr1]) rfl ?_
        exact S2.out.done hbw HAP.out (by omega) (by omega) (by omega) (by omega) _ _
      · have hd0 : ((r3 : Int) == 0) = false := by simp; omega
        obtain ⟨⟨y0, hy0, _⟩, hyf0⟩ := hcel 0 (by omega)
        obtain ⟨⟨y1, hy1, _⟩, hyf1⟩ := hcel 1 (by omega)
        have HGL := hide hgl
        have hV1 : v3.cell? ⟨V, 1, none⟩ = some (.slice (some ⟨g, 0, none⟩) k cp) := cell_of_row v3 V 1 _ _ _ S1.out.var
        have hk1 : (0 : Int) < (k : Int) := by omega
        clear hcel
        by_cases h31 : r3 = 1
        · subst h31
          have S2 := hide (S1.out.setTri (j := 0) (a := none) (n := 0) (c := 0) (xs := []) (by omega) (by omega) (.inl ⟨rfl, rfl, rfl, rfl⟩) (by omega) (fun o ho => by cases ho) hbw)
          go_upto_region 16 with fail
          clear hy0 hyf0 hy1 hyf1 hV1
          generalize v3.setCell ⟨g, 0, none⟩ (.slice none 0 0) = v5 at S2 ⊢
          have hVr := S2.out.var
          have hRr := S2.out.res
          have hv0 : v5.cell? ⟨V, 0, none⟩ = some (.int .i64 (pl : Int)) := cell_of_row v5 V 0 _ _ _ hVr
          have hv1 : v5.cell? ⟨V, 1, none⟩ = some (.slice (some ⟨g, 0, none⟩) k cp) := cell_of_row v5 V 1 _ _ _ hVr
          have hr0 : v5.cell? ⟨R, 0, none⟩ = some (.int .i64 0) := cell_of_row v5 R 0 _ _ _ hRr
          have hr1 : v5.cell? ⟨R, 1, none⟩ = some (.slice none 0 0) := cell_of_row v5 R 1 _ _ _ hRr
          have hf0 : v5.frozen? ⟨R, 0, none⟩ = false := frozen_of_row v5 R 0 _ _ hRr
          have hf1 : v5.frozen? ⟨R, 1, none⟩ = false := frozen_of_row v5 R 1 _ _ hRr
          clear hVr hRr
          go_wp2_with fail
          refine bodyPost_ret (v := .agg #[.int .i64 (pl : Int), .slice (some ⟨g, 0, none⟩) k cp]) (by simp [results, Try.results109, go_sem, hr0, hr1]) rfl ?_
          exact S2.out.done hbw HAP.out (by omega) (by omega) (by omega) (by omega) _ _
        · have hd1 : ((r3 : Int) == 1) = false := by simp; omega
          by_cases h32 : r3 = 2
          · subst h32
            have hA := below_al v3 (.cells #[.int .i64 1, .int .i64 0] 3)
            have S1a := S1.out.grow hA hbw
            have S2 := hide (S1a.setTri (j := 1) (a := some ⟨v3.heap.size, 0, none⟩) (n := 2) (c := 2) (xs := [1, 0]) (by omega) (by omega) (.inr ⟨v3.heap.size, rfl, by have := S1.out.lt; omega, by omega, by omega, by unfold maxLen; omega, row_new v3 [1, 0] 2 _ rfl rfl⟩) (by omega) (fun o ho => by obtain rfl := Option.some.inj ho; have := HGL.out; simp; omega) hbw)
            rw [World.setCell_alloc_past _ _ _ _ hgl] at S2
            clear hA S1a
            go_upto_region 16 with fail
            clear hy0 hyf0 hy1 hyf1 hV1
            generalize (v3.setCell ⟨g, 1, none⟩ (.slice (some ⟨v3.heap.size, 0, none⟩) 2 2)).alloc (.cells #[.int .i64 1, .int .i64 0] 3) = v5 at S2 ⊢
            have hVr := S2.out.var
            have hRr := S2.out.res
            have hv0 : v5.cell? ⟨V, 0, none⟩ = some (.int .i64 (pl : Int)) := cell_of_row v5 V 0 _ _ _ hVr
            have hv1 : v5.cell? ⟨V, 1, none⟩ = some (.slice (some ⟨g, 0, none⟩) k cp) := cell_of_row v5 V 1 _ _ _ hVr
            have hr0 : v5.cell? ⟨R, 0, none⟩ = some (.int .i64 0) := cell_of_row v5 R 0 _ _ _ hRr
            have hr1 : v5.cell? ⟨R, 1, none⟩ = some (.slice none 0 0) := cell_of_row v5 R 1 _ _ _ hRr
            have hf0 : v5.frozen? ⟨R, 0, none⟩ = false := frozen_of_row v5 R 0 _ _ hRr
            have hf1 : v5.frozen? ⟨R, 1, none⟩ = false := frozen_of_row v5 R 1 _ _ hRr
            clear hVr hRr
            go_wp2_with fail
            refine bodyPost_ret (v := .agg #[.int .i64 (pl : Int), .slice (some ⟨g, 0, none⟩) k cp]) (by simp [results, Try.results109, go_sem, hr0, hr1]) rfl ?_
            exact S2.out.done hbw HAP.out (by omega) (by omega) (by omega) (by omega) _ _
          · have hd2 : ((r3 : Int) == 2) = false := by simp; omega
            clear hy0 hyf0 hy1 hyf1 hV1 h30 h31 h32
            go_upto_region 16 with fail
            clear hgl hg hd0 hd1 hd2 hk1 hr3
            have hVr := S1.out.var
            have hRr := S1.out.res
            have hv0 : v3.cell? ⟨V, 0, none⟩ = some (.int .i64 (pl : Int)) := cell_of_row v3 V 0 _ _ _ hVr
            have hv1 : v3.cell? ⟨V, 1, none⟩ = some (.slice (some ⟨g, 0, none⟩) k cp) := cell_of_row v3 V 1 _ _ _ hVr
            have hr0 : v3.cell? ⟨R, 0, none⟩ = some (.int .i64 0) := cell_of_row v3 R 0 _ _ _ hRr
            have hr1 : v3.cell? ⟨R, 1, none⟩ = some (.slice none 0 0) := cell_of_row v3 R 1 _ _ _ hRr
            have hf0 : v3.frozen? ⟨R, 0, none⟩ = false := frozen_of_row v3 R 0 _ _ hRr
            have hf1 : v3.frozen? ⟨R, 1, none⟩ = false := frozen_of_row v3 R 1 _ _ hRr
            clear hVr hRr
            go_wp2_with fail
            refine bodyPost_ret (v := .agg #[.int .i64 (pl : Int), .slice (some ⟨g, 0, none⟩) k cp]) (by simp [results, Try.results109, go_sem, hr0, hr1]) rfl ?_
            exact S1.out.done hbw HAP.out (by omega) (by omega) (by omega) (by omega) _ _
end Go.Proofs.Ytajcmamapmeglaa
