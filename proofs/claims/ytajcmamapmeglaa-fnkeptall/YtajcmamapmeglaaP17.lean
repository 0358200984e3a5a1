/- Contracts that the proof stands on, one behind the other. -/
import Derived.Test.YtajcmamapmeglaaP16
import Derived.Deep.RegionHeld3
import Derived.Deep.CutRange
/- The cursor's net: a net in new memory, of some places and one to five transitions, whatever the bytes; nothing that was there is written but the cursor. -/
namespace Go.Proofs.Ytajcmamapmeglaa
open Go.RowKit
set_option maxRecDepth 10000

/-- What is there while a net is drawn: its variable in the block V. -/
structure NetSt (w v : World) (bc : Nat) (ca : Option Addr) (cn cc p : Nat) (bs : List Int) (R V : Nat) (pl : Int) (u : Value) (k : Nat) (cells : List Value) : Prop where
  var : v.heap[V]? = some (.cells #[.int .i64 pl, u] 26 (0, 0))
  res : v.heap[R]? = some (.cells #[.int .i64 0, .slice none 0 0] 26 (0, 0))
  hR : w.heap.size ≤ R
  hV : R < V
  net : NetOwn (V + 1) v u k cells
  cur : Cur v bc ca cn cc p
  was : RowB w ca cn bs
  kept : Kept bc w.heap.size w v

section
variable {w v v' W : World} {bc : Nat} {ca : Option Addr} {cn cc p p' : Nat} {bs : List Int} {R V : Nat} {pl : Int} {u : Value} {k : Nat} {cells : List Value}

theorem NetSt.lt (h : NetSt w v bc ca cn cc p bs R V pl u k cells) : V < v.heap.size := (Array.getElem?_eq_some_iff.mp h.var).1
theorem NetSt.bytes (h : NetSt w v bc ca cn cc p bs R V pl u k cells) (hap : Apart ca cn bc) : RowB v ca cn bs := h.was.kept h.kept hap

/-- Behind a call that moves the cursor and makes memory. -/
theorem NetSt.go (h : NetSt w v bc ca cn cc p bs R V pl u k cells) (hk : Kept bc v.heap.size v v') (hc : Cur v' bc ca cn cc p') (hb : bc < w.heap.size) : NetSt w v' bc ca cn cc p' bs R V pl u k cells := by
  have hlt := h.lt
  have hR := h.hR
  have hV := h.hV
  exact ⟨(hk.block V hlt (by omega)).trans h.var, (hk.block R (by omega) (by omega)).trans h.res, hR, hV, h.net.kept hk (Nat.le_refl _) (by omega), hc, h.was, h.kept.trans (hk.mono h.kept.size)⟩

theorem NetSt.grow (h : NetSt w v bc ca cn cc p bs R V pl u k cells) (hk : Below v.heap.size v v') (hb : bc < w.heap.size) : NetSt w v' bc ca cn cc p bs R V pl u k cells :=
  h.go (Kept.of_below hk) (h.cur.below hk h.cur.lt) hb

/-- What is there while a transition is drawn, in the block tB: v0 is the world ahead of it. -/
structure TrSt (w v0 v : World) (bc : Nat) (ca : Option Addr) (cn cc p : Nat) (bs : List Int) (R V : Nat) (pl : Int) (u : Value) (k : Nat) (cells : List Value) (tB : Nat) (a1 a2 a3 : Option Addr) (n1 n2 n3 c1 c2 c3 : Nat) : Prop where
  net0 : ∃ p0, NetSt w v0 bc ca cn cc p0 bs R V pl u k cells
  rel : Kept bc v0.heap.size v0 v
  cur : Cur v bc ca cn cc p
  ht : v0.heap.size ≤ tB
  t : v.heap[tB]? = some (.cells #[.slice a1 n1 c1, .slice a2 n2 c2, .slice a3 n3 c3] 106 (0, 0))
  l1 : ∃ xs, NewL v0.heap.size v a1 n1 c1 xs ∧ n1 ≤ 2 ∧ ∀ o, a1 = some o → o.block ≠ tB
  l2 : ∃ xs, NewL v0.heap.size v a2 n2 c2 xs ∧ n2 ≤ 2 ∧ ∀ o, a2 = some o → o.block ≠ tB
  l3 : ∃ xs, NewL v0.heap.size v a3 n3 c3 xs ∧ n3 ≤ 2 ∧ ∀ o, a3 = some o → o.block ≠ tB

theorem TrSt.net {w v0 v : World} {tB : Nat} {a1 a2 a3 : Option Addr} {n1 n2 n3 c1 c2 c3 : Nat} (h : TrSt w v0 v bc ca cn cc p bs R V pl u k cells tB a1 a2 a3 n1 n2 n3 c1 c2 c3) (hb : bc < w.heap.size) : NetSt w v bc ca cn cc p bs R V pl u k cells := by
  obtain ⟨p0, h0⟩ := h.net0
  exact h0.go h.rel h.cur hb

theorem TrSt.first {w v0 v3 v4 : World} {q2 : Nat} {a1 a2 : Option Addr} {n1 n2 c1 c2 : Nat} {x1 x2 : List Int} (h : NetSt w v0 bc ca cn cc p bs R V pl u k cells) (hb : bc < w.heap.size)
    (hl1 : NewL v0.heap.size v3 a1 n1 c1 x1) (hn1 : n1 ≤ 2) (hk1 : Kept bc v0.heap.size v0 v3)
    (hl2 : NewL v3.heap.size v4 a2 n2 c2 x2) (hn2 : n2 ≤ 2) (hc2 : Cur v4 bc ca cn cc q2) (hk2 : Kept bc v3.heap.size v3 v4) :
    TrSt w v0 (v4.alloc (.cells #[.slice a1 n1 c1, .slice a2 n2 c2, .slice none 0 0] 106)) bc ca cn cc q2 bs R V pl u k cells v4.heap.size a1 a2 none n1 n2 0 c1 c2 0 := by
  have hA := below_al v4 (.cells #[.slice a1 n1 c1, .slice a2 n2 c2, .slice none 0 0] 106)
  have hb0 : bc < v0.heap.size := by have := h.kept.size; omega
  have s1 := hk1.size
  have s2 := hk2.size
  have e1 := hl1.kept hk2 (Nat.le_refl _) hb0
  have hK4 : Kept bc v4.heap.size v4 (v4.alloc (.cells #[.slice a1 n1 c1, .slice a2 n2 c2, .slice none 0 0] 106)) := Kept.of_below hA
  refine ⟨⟨p, h⟩, (hk1.trans (hk2.mono s1)).trans (hK4.mono (by omega)), hc2.below hA hc2.lt, by omega, heap_alloc_new _ _, ⟨x1, e1.kept hK4 (Nat.le_refl _) hb0, hn1, fun o ho => ?_⟩, ⟨x2, (hl2.mono s1).kept hK4 (Nat.le_refl _) hb0, hn2, fun o ho => ?_⟩, ⟨[], .inl ⟨rfl, rfl, rfl, rfl⟩, by omega, fun o ho => by cases ho⟩⟩
  · have := (e1.lt ho).2; omega
  · have := (hl2.lt ho).2; omega

/-- The transition's block was made ahead of a call, and is written last. -/
theorem TrSt.set3 {w v0 v : World} {tB : Nat} {a1 a2 : Option Addr} {n1 n2 c1 c2 : Nat} {x1 x2 : List Int} {z0 z1 z2 : Value} (h : NetSt w v0 bc ca cn cc p' bs R V pl u k cells) (hb : bc < w.heap.size) (hk : Kept bc v0.heap.size v0 v) (hc : Cur v bc ca cn cc p) (ht : v0.heap.size ≤ tB) (hT : v.heap[tB]? = some (.cells #[z0, z1, z2] 106 (0, 0)))
    (h1 : NewL v0.heap.size v a1 n1 c1 x1) (m1 : n1 ≤ 2) (d1 : ∀ o, a1 = some o → o.block ≠ tB) (h2 : NewL v0.heap.size v a2 n2 c2 x2) (m2 : n2 ≤ 2) (d2 : ∀ o, a2 = some o → o.block ≠ tB) :
    TrSt w v0 (((v.setCell ⟨tB, 0, none⟩ (.slice a1 n1 c1)).setCell ⟨tB, 1, none⟩ (.slice a2 n2 c2)).setCell ⟨tB, 2, none⟩ (.slice none 0 0)) bc ca cn cc p bs R V pl u k cells tB a1 a2 none n1 n2 0 c1 c2 0 := by
  have hb0 : bc < v0.heap.size := by have := h.kept.size; omega
  have hsz : v.heap.size ≤ (((v.setCell ⟨tB, 0, none⟩ (.slice a1 n1 c1)).setCell ⟨tB, 1, none⟩ (.slice a2 n2 c2)).setCell ⟨tB, 2, none⟩ (.slice none 0 0)).heap.size := by simp [World.setCell]
  have hoth : ∀ q, q ≠ tB → (((v.setCell ⟨tB, 0, none⟩ (.slice a1 n1 c1)).setCell ⟨tB, 1, none⟩ (.slice a2 n2 c2)).setCell ⟨tB, 2, none⟩ (.slice none 0 0)).heap[q]? = v.heap[q]? := fun q hq =>
    (Below.heap_setCell _ _ _ _ hq).trans ((Below.heap_setCell _ _ _ _ hq).trans (Below.heap_setCell _ _ _ _ hq))
  have e0 := heap_setCell_same v tB 0 _ _ (.slice a1 n1 c1) hT
  have e1 := heap_setCell_same _ tB 1 _ _ (.slice a2 n2 c2) e0
  have e2 := heap_setCell_same _ tB 2 _ _ (.slice none 0 0) e1
  obtain ⟨s, hs⟩ := hc
  refine ⟨⟨p', h⟩, ⟨hk.os, hk.tape, hk.output, Nat.le_trans hk.size hsz, fun q hq hne => (hoth q (by omega)).trans (hk.block q hq hne)⟩, ⟨s, (hoth bc (by omega)).trans hs⟩, ht, by rw [e2]; rfl, ⟨x1, h1.keep hsz fun q _ _ ⟨o, ho, hoq⟩ => hoth q (by have := d1 o ho; omega), m1, d1⟩, ⟨x2, h2.keep hsz fun q _ _ ⟨o, ho, hoq⟩ => hoth q (by have := d2 o ho; omega), m2, d2⟩, ⟨[], .inl ⟨rfl, rfl, rfl, rfl⟩, by omega, fun o ho => by cases ho⟩⟩

/-- .. ahead of the second one. -/
theorem TrSt.firstB {w v0 v3 v4 : World} {q2 : Nat} {a1 a2 : Option Addr} {n1 n2 c1 c2 : Nat} {x1 x2 : List Int} {z0 z1 z2 : Value} (h : NetSt w v0 bc ca cn cc p bs R V pl u k cells) (hb : bc < w.heap.size)
    (hl1 : NewL v0.heap.size v3 a1 n1 c1 x1) (hn1 : n1 ≤ 2) (hk1 : Kept bc v0.heap.size v0 v3)
    (hl2 : NewL (v3.alloc (.cells #[z0, z1, z2] 106)).heap.size v4 a2 n2 c2 x2) (hn2 : n2 ≤ 2) (hc2 : Cur v4 bc ca cn cc q2) (hk2 : Kept bc (v3.alloc (.cells #[z0, z1, z2] 106)).heap.size (v3.alloc (.cells #[z0, z1, z2] 106)) v4) :
    TrSt w v0 (((v4.setCell ⟨v3.heap.size, 0, none⟩ (.slice a1 n1 c1)).setCell ⟨v3.heap.size, 1, none⟩ (.slice a2 n2 c2)).setCell ⟨v3.heap.size, 2, none⟩ (.slice none 0 0)) bc ca cn cc q2 bs R V pl u k cells v3.heap.size a1 a2 none n1 n2 0 c1 c2 0 := by
  have hA := below_al v3 (.cells #[z0, z1, z2] 106)
  have hb0 : bc < v0.heap.size := by have := h.kept.size; omega
  have s1 := hk1.size
  have s2 : v3.heap.size < (v3.alloc (.cells #[z0, z1, z2] 106)).heap.size := by simp
  have hKA : Kept bc v3.heap.size v3 (v3.alloc (.cells #[z0, z1, z2] 106)) := Kept.of_below hA
  refine TrSt.set3 h hb ((hk1.trans (hKA.mono s1)).trans (hk2.mono (by omega))) hc2 s1 ((hk2.block _ s2 (by omega)).trans (heap_alloc_new _ _)) ((hl1.kept hKA (Nat.le_refl _) hb0).kept hk2 (Nat.le_refl _) hb0) hn1 (fun o ho => ?_) (hl2.mono (by omega)) hn2 (fun o ho => ?_)
  · have := (hl1.lt ho).2; omega
  · have := (hl2.lt ho).1; omega

/-- .. ahead of both. -/
theorem TrSt.firstC {w v0 v3 v4 : World} {q2 : Nat} {a1 a2 : Option Addr} {n1 n2 c1 c2 : Nat} {x1 x2 : List Int} {z0 z1 z2 : Value} (h : NetSt w v0 bc ca cn cc p bs R V pl u k cells) (hb : bc < w.heap.size)
    (hl1 : NewL (v0.alloc (.cells #[z0, z1, z2] 106)).heap.size v3 a1 n1 c1 x1) (hn1 : n1 ≤ 2) (hk1 : Kept bc (v0.alloc (.cells #[z0, z1, z2] 106)).heap.size (v0.alloc (.cells #[z0, z1, z2] 106)) v3)
    (hl2 : NewL v3.heap.size v4 a2 n2 c2 x2) (hn2 : n2 ≤ 2) (hc2 : Cur v4 bc ca cn cc q2) (hk2 : Kept bc v3.heap.size v3 v4) :
    TrSt w v0 (((v4.setCell ⟨v0.heap.size, 0, none⟩ (.slice a1 n1 c1)).setCell ⟨v0.heap.size, 1, none⟩ (.slice a2 n2 c2)).setCell ⟨v0.heap.size, 2, none⟩ (.slice none 0 0)) bc ca cn cc q2 bs R V pl u k cells v0.heap.size a1 a2 none n1 n2 0 c1 c2 0 := by
  have hA := below_al v0 (.cells #[z0, z1, z2] 106)
  have hb0 : bc < v0.heap.size := by have := h.kept.size; omega
  have s1 := hk1.size
  have s2 : v0.heap.size < (v0.alloc (.cells #[z0, z1, z2] 106)).heap.size := by simp
  have hKA : Kept bc v0.heap.size v0 (v0.alloc (.cells #[z0, z1, z2] 106)) := Kept.of_below hA
  refine TrSt.set3 h hb ((hKA.trans (hk1.mono (by omega))).trans (hk2.mono (by omega))) hc2 (Nat.le_refl _) ((hk2.block _ (by omega) (by omega)).trans ((hk1.block _ s2 (by omega)).trans (heap_alloc_new _ _))) ((hl1.mono (by omega)).kept hk2 (Nat.le_refl _) hb0) hn1 (fun o ho => ?_) (hl2.mono (by omega)) hn2 (fun o ho => ?_)
  · have := (hl1.lt ho).1; omega
  · have := (hl2.lt ho).1; omega

theorem TrSt.go {w v0 v v' : World} {tB p' : Nat} {a1 a2 a3 : Option Addr} {n1 n2 n3 c1 c2 c3 : Nat} (h : TrSt w v0 v bc ca cn cc p bs R V pl u k cells tB a1 a2 a3 n1 n2 n3 c1 c2 c3) (hk : Kept bc v.heap.size v v') (hc : Cur v' bc ca cn cc p') (hb : bc < w.heap.size) : TrSt w v0 v' bc ca cn cc p' bs R V pl u k cells tB a1 a2 a3 n1 n2 n3 c1 c2 c3 := by
  obtain ⟨p0, h0⟩ := h.net0
  have hb0 : bc < v0.heap.size := by have := h0.kept.size; omega
  have hs := h.rel.size
  obtain ⟨x1, y1, m1, d1⟩ := h.l1
  obtain ⟨x2, y2, m2, d2⟩ := h.l2
  obtain ⟨x3, y3, m3, d3⟩ := h.l3
  exact ⟨⟨p0, h0⟩, h.rel.trans (hk.mono hs), hc, h.ht, (hk.block tB (Array.getElem?_eq_some_iff.mp h.t).1 (by have := h.ht; omega)).trans h.t, ⟨x1, y1.kept hk (Nat.le_refl _) hb0, m1, d1⟩, ⟨x2, y2.kept hk (Nat.le_refl _) hb0, m2, d2⟩, ⟨x3, y3.kept hk (Nat.le_refl _) hb0, m3, d3⟩⟩

theorem TrSt.reset {w v0 v v' : World} {tB p' : Nat} {a1 a2 a3 a : Option Addr} {n1 n2 n3 c1 c2 c3 n c : Nat} {xs : List Int} (h : TrSt w v0 v bc ca cn cc p bs R V pl u k cells tB a1 a2 a3 n1 n2 n3 c1 c2 c3) (hk : Kept bc v.heap.size v v') (hc : Cur v' bc ca cn cc p') (hb : bc < w.heap.size)
    (hl : NewL v.heap.size v' a n c xs) (hn : n ≤ 2) : TrSt w v0 (v'.setCell ⟨tB, 2, none⟩ (.slice a n c)) bc ca cn cc p' bs R V pl u k cells tB a1 a2 a n1 n2 n c1 c2 c := by
  have g := h.go hk hc hb
  obtain ⟨p0, h0⟩ := g.net0
  have hb0 : bc < v0.heap.size := by have := h0.kept.size; omega
  have hlt := (Array.getElem?_eq_some_iff.mp h.t).1
  have hs := h.rel.size
  have hsz : v'.heap.size ≤ (v'.setCell ⟨tB, 2, none⟩ (.slice a n c)).heap.size := by simp [World.setCell]
  have hoth : ∀ q, q ≠ tB → (v'.setCell ⟨tB, 2, none⟩ (.slice a n c)).heap[q]? = v'.heap[q]? := fun q hq => Below.heap_setCell _ _ _ _ hq
  have key : ∀ {a' : Option Addr} {n' c' : Nat} {xs' : List Int} {B : Nat}, NewL B v' a' n' c' xs' → (∀ o, a' = some o → o.block ≠ tB) → NewL B (v'.setCell ⟨tB, 2, none⟩ (.slice a n c)) a' n' c' xs' := by
    intro a' n' c' xs' B hn hd
    exact hn.keep hsz fun q _ _ ⟨o, ho, hoq⟩ => hoth q (by have := hd o ho; omega)
  obtain ⟨x1, y1, m1, d1⟩ := g.l1
  obtain ⟨x2, y2, m2, d2⟩ := g.l2
  have hda : ∀ o, a = some o → o.block ≠ tB := fun o ho => by have := (hl.lt ho).1; omega
  refine ⟨⟨p0, h0⟩, ⟨g.rel.os, g.rel.tape, g.rel.output, Nat.le_trans g.rel.size hsz, fun q hq hne => (hoth q (by have := g.ht; omega)).trans (g.rel.block q hq hne)⟩, ?_, g.ht, ?_, ⟨x1, key y1 d1, m1, d1⟩, ⟨x2, key y2 d2, m2, d2⟩, ⟨xs, key (hl.mono hs) hda, hn, hda⟩⟩
  · obtain ⟨s, hs⟩ := g.cur
    exact ⟨s, (hoth bc (by have := g.ht; omega)).trans hs⟩
  · rw [heap_setCell_same v' tB 2 _ _ _ g.t]; rfl

theorem TrSt.append {w v0 v W : World} {tB : Nat} {a1 a2 a3 : Option Addr} {n1 n2 n3 c1 c2 c3 g cp : Nat} (h : TrSt w v0 v bc ca cn cc p bs R V pl u k cells tB a1 a2 a3 n1 n2 n3 c1 c2 c3) (hb : bc < w.heap.size) {v2 : World} (hv2 : Below v.heap.size v v2)
    (hown : W.ownsRow (V + 1) 106 3 (.slice (some ⟨g, 0, none⟩) (k + 1) cp) (k + 1) (cells ++ [.slice a1 n1 c1, .slice a2 n2 c2, .slice a3 n3 c3])) (hgr : v2.grownBy W u.ownBlock) (hl : u.ownBlock = some g ∨ g = v2.heap.size) :
    NetSt w (W.setCell ⟨V, 1, none⟩ (.slice (some ⟨g, 0, none⟩) (k + 1) cp)) bc ca cn cc p bs R V pl (.slice (some ⟨g, 0, none⟩) (k + 1) cp) (k + 1) (cells ++ [.slice a1 n1 c1, .slice a2 n2 c2, .slice a3 n3 c3]) := by
  obtain ⟨p0, h0⟩ := h.net0
  have hb0 : bc < v0.heap.size := by have := h0.kept.size; omega
  have G := h.go (Kept.of_below hv2) (h.cur.below hv2 h.cur.lt) hb
  have N := G.net hb
  have hs := G.rel.size
  have hVlt := N.lt
  have hV0 := h0.lt
  have hR := N.hR
  have hRV := N.hV
  have hob : ∀ q, u.ownBlock = some q → V + 1 ≤ q ∧ q < v0.heap.size := h0.net.own.lt
  obtain ⟨x1, y1, m1, d1⟩ := G.l1
  obtain ⟨x2, y2, m2, d2⟩ := G.l2
  obtain ⟨x3, y3, m3, d3⟩ := G.l3
  have far : ∀ {a : Option Addr} {n c : Nat} {xs : List Int}, NewL v0.heap.size v2 a n c xs → ∀ o, a = some o → u.ownBlock ≠ some o.block := fun hn o ho e => by
    have := (hn.lt ho).1; have := hob _ e; omega
  have K := N.net.append (y1.mono (by omega)) (y2.mono (by omega)) (y3.mono (by omega)) m1 m2 m3 (far y1) (far y2) (far y3) hown hgr hl
  have hset : ∀ q, q ≠ V → (W.setCell ⟨V, 1, none⟩ (.slice (some ⟨g, 0, none⟩) (k + 1) cp)).heap[q]? = W.heap[q]? := fun q hq => Below.heap_setCell _ _ _ _ hq
  have hWs : W.heap.size ≤ (W.setCell ⟨V, 1, none⟩ (.slice (some ⟨g, 0, none⟩) (k + 1) cp)).heap.size := by simp [World.setCell]
  have old : ∀ q, q ≤ V → W.heap[q]? = v2.heap[q]? := fun q hq => hgr.block q (by omega) fun e => by have := hob q e.symm; omega
  have hBel : Below w.heap.size v2 (W.setCell ⟨V, 1, none⟩ (.slice (some ⟨g, 0, none⟩) (k + 1) cp)) := by
    refine Below.setCell (p := ⟨V, 1, none⟩) ?_ (show _ ≤ V by omega) _
    exact (Below.refl w.heap.size v2).grown hgr (by omega) fun q hq => by have := hob q hq; omega
  refine ⟨?_, (hset R (by omega)).trans ((old R (by omega)).trans N.res), hR, hRV, K.moved hWs fun q hq _ => hset q (by omega), ?_, N.was, N.kept.trans (Kept.of_below hBel)⟩
  · rw [heap_setCell_same W V 1 _ _ _ ((old V (Nat.le_refl _)).trans N.var)]; rfl
  · obtain ⟨s, hs⟩ := N.cur
    exact ⟨s, (hset bc (by omega)).trans ((old bc (by omega)).trans hs)⟩

theorem NetSt.places (h : NetSt w v bc ca cn cc p bs R V pl u k cells) (x : Int) (hb : bc < w.heap.size) : NetSt w (v.setCell ⟨V, 0, none⟩ (.int .i64 x)) bc ca cn cc p bs R V x u k cells := by
  have hR := h.hR
  have hV := h.hV
  have hset : ∀ q, q ≠ V → (v.setCell ⟨V, 0, none⟩ (.int .i64 x)).heap[q]? = v.heap[q]? := fun q hq => Below.heap_setCell _ _ _ _ hq
  have hsz : v.heap.size ≤ (v.setCell ⟨V, 0, none⟩ (.int .i64 x)).heap.size := by simp [World.setCell]
  obtain ⟨s, hs⟩ := h.cur
  refine ⟨?_, (hset R (by omega)).trans h.res, hR, hV, h.net.moved hsz fun q hq _ => hset q (by omega), ⟨s, (hset bc (by omega)).trans hs⟩, h.was, h.kept.trans (Kept.of_below (Below.setCell (p := ⟨V, 0, none⟩) (Below.refl _ _) (show _ ≤ V by omega) _))⟩
  rw [heap_setCell_same v V 0 _ _ _ h.var]; rfl

theorem NetSt.setTri {g cp j n c : Nat} {a : Option Addr} {xs : List Int} (h : NetSt w v bc ca cn cc p bs R V pl (.slice (some ⟨g, 0, none⟩) k cp) k cells) (hg : V < g) (hj : j < 3 * k) (hn : NewL (V + 1) v a n c xs) (hn2 : n ≤ 2) (hd : ∀ o, a = some o → o.block ≠ g) (hb : bc < w.heap.size) :
    NetSt w (v.setCell ⟨g, j, none⟩ (.slice a n c)) bc ca cn cc p bs R V pl (.slice (some ⟨g, 0, none⟩) k cp) k (cells.set j (.slice a n c)) := by
  have hR := h.hR
  have hV := h.hV
  have hset : ∀ q, q ≠ g → (v.setCell ⟨g, j, none⟩ (.slice a n c)).heap[q]? = v.heap[q]? := fun q hq => Below.heap_setCell _ _ _ _ hq
  obtain ⟨s, hs⟩ := h.cur
  exact ⟨(hset V (by omega)).trans h.var, (hset R (by omega)).trans h.res, hR, hV, h.net.set hj hn hn2 hd, ⟨s, (hset bc (by omega)).trans hs⟩, h.was, h.kept.trans (Kept.of_below (Below.setCell (p := ⟨g, j, none⟩) (Below.refl _ _) (show _ ≤ g by omega) _))⟩

theorem NetOwn.form {B : Nat} {v : World} {u : Value} {k : Nat} {cells : List Value} (h : NetOwn B v u k cells) (hk : 1 ≤ k) : ∃ g cp, u = .slice (some ⟨g, 0, none⟩) k cp ∧ B ≤ g ∧ g < v.heap.size ∧ ∀ j, j < 3 * k → (∃ z, v.cell? ⟨g, j, none⟩ = some z ∧ cells[j]? = some z) ∧ v.frozen? ⟨g, j, none⟩ = false := by
  have hcl : cells.length = 3 * k := by have := h.own.1; omega
  rcases h.own.2 with ⟨_, h0⟩ | ⟨g, cp, cur, e, hg, hh, _, _, hsz, htk⟩
  · omega
  · refine ⟨g, cp, e, hg, (Array.getElem?_eq_some_iff.mp hh).1, fun j hj => ⟨?_, frozen_of_row v g j _ _ hh⟩⟩
    have e2 : (cur.toList.take (k * 3))[j]? = cells[j]? := by rw [htk]
    rw [List.getElem?_take_of_lt (by omega), Array.getElem?_toList] at e2
    rw [cell_of_row v g j cur _ _ hh, e2]
    exact ⟨_, List.getElem?_eq_getElem (by omega), List.getElem?_eq_getElem (by omega)⟩

theorem news3d (w : World) (x y z : Value) : ∀ j u, ([x, y, z] : List Value)[j]? = some u → (w.alloc (.cells #[x, y, z] 106)).cell? ((⟨w.heap.size, 0, none⟩ : Addr).add j) = some u := by
  intro j u hu
  rw [Addr.add_mid, cell_of_row _ w.heap.size (0 + j) #[x, y, z] _ _ (heap_alloc_new _ _), Nat.zero_add]
  simpa using hu
end

/-- How net ends. -/
def NetDr (bc : Nat) (ca : Option Addr) (cn cc p : Nat) (bs : List Int) (w : World) (e : Ending) (w' : World) : Prop :=
  ∃ (pl : Int) (u : Value) (k : Nat) (cells : List Value) (p' : Nat), e = .returned (.agg #[.int .i64 pl, u]) ∧ (0 ≤ pl ∧ pl ≤ 17) ∧ 1 ≤ k ∧ k ≤ 5 ∧ p' ≤ p + 100 ∧ NetOwn w.heap.size w' u k cells ∧ Cur w' bc ca cn cc p' ∧ RowB w' ca cn bs ∧ Kept bc w.heap.size w w'

theorem NetSt.done {w v : World} {bc : Nat} {ca : Option Addr} {cn cc p p1 : Nat} {bs : List Int} {R V : Nat} {pl : Int} {u : Value} {k : Nat} {cells : List Value} (h : NetSt w v bc ca cn cc p1 bs R V pl u k cells) (hb : bc < w.heap.size) (hap : Apart ca cn bc) (hpl : 0 ≤ pl ∧ pl ≤ 17) (h1 : 1 ≤ k) (h5 : k ≤ 5) (hp : p1 ≤ p + 100) (x y : Value) :
    NetDr bc ca cn cc p bs w (.returned (.agg #[.int .i64 pl, u])) ((v.setCell ⟨R, 0, none⟩ x).setCell ⟨R, 1, none⟩ y) := by
  have hR := h.hR
  have hV := h.hV
  have hset : ∀ q, q ≠ R → ((v.setCell ⟨R, 0, none⟩ x).setCell ⟨R, 1, none⟩ y).heap[q]? = v.heap[q]? := fun q hq => (Below.heap_setCell _ _ _ _ hq).trans (Below.heap_setCell _ _ _ _ hq)
  have hsz : v.heap.size ≤ ((v.setCell ⟨R, 0, none⟩ x).setCell ⟨R, 1, none⟩ y).heap.size := by simp [World.setCell]
  have hk : Kept bc w.heap.size w ((v.setCell ⟨R, 0, none⟩ x).setCell ⟨R, 1, none⟩ y) := h.kept.trans (Kept.of_below (Below.setCell (p := ⟨R, 1, none⟩) (Below.setCell (p := ⟨R, 0, none⟩) (Below.refl _ _) (show _ ≤ R by omega) _) (show _ ≤ R by omega) _))
  obtain ⟨s, hs⟩ := h.cur
  exact ⟨pl, u, k, cells, p1, rfl, hpl, h1, h5, hp, (h.net.moved hsz fun q hq _ => hset q (by omega)).low (by omega), ⟨s, (hset bc (by omega)).trans hs⟩, h.was.kept hk hap, hk⟩

theorem keepK {W W' : World} {bc V o : Nat} {x : Value} (hk : Kept bc W.heap.size W W') (hne : V ≠ bc) (h : W.cell? ⟨V, o, none⟩ = some x) : W'.cell? ⟨V, o, none⟩ = some x :=
  (World.cell?_of_block (hk.block V (World.block_lt_of_cell? _ _ h) hne)).trans h

theorem keepA {W : World} {V o : Nat} {x : Value} {ob : Obj} (h : W.cell? ⟨V, o, none⟩ = some x) : (W.alloc ob).cell? ⟨V, o, none⟩ = some x :=
  ((below_al W ob).cell (World.block_lt_of_cell? _ _ h)).trans h

theorem keepS {W : World} {V o t : Nat} {x y0 y1 y2 : Value} (hne : V ≠ t) (h : W.cell? ⟨V, o, none⟩ = some x) : (((W.setCell ⟨t, 0, none⟩ y0).setCell ⟨t, 1, none⟩ y1).setCell ⟨t, 2, none⟩ y2).cell? ⟨V, o, none⟩ = some x := by
  rw [World.cell?_setCell_far _ _ _ _ (fun e => hne e.symm), World.cell?_setCell_far _ _ _ _ (fun e => hne e.symm), World.cell?_setCell_far _ _ _ _ (fun e => hne e.symm)]
  exact h

/-- The block's cells can be written. -/
structure Open3 (v : World) (t : Nat) : Prop where
  c0 : ∃ z, v.cell? ⟨t, 0, none⟩ = some z
  c1 : ∃ z, v.cell? ⟨t, 1, none⟩ = some z
  c2 : ∃ z, v.cell? ⟨t, 2, none⟩ = some z
  f0 : v.frozen? ⟨t, 0, none⟩ = false
  f1 : v.frozen? ⟨t, 1, none⟩ = false
  f2 : v.frozen? ⟨t, 2, none⟩ = false

theorem open3 {v : World} {t : Nat} {T : TypeId} {z0 z1 z2 : Value} (h : v.heap[t]? = some (.cells #[z0, z1, z2] T (0, 0))) : Open3 v t :=
  ⟨⟨z0, cell_of_row v t 0 _ _ _ h⟩, ⟨z1, cell_of_row v t 1 _ _ _ h⟩, ⟨z2, cell_of_row v t 2 _ _ _ h⟩, frozen_of_row v t 0 _ _ h, frozen_of_row v t 1 _ _ h, frozen_of_row v t 2 _ _ h⟩

theorem openB {bc : Nat} {v3 v4 : World} {z0 z1 z2 : Value} {T : TypeId} (hk2 : Kept bc (v3.alloc (.cells #[z0, z1, z2] T)).heap.size (v3.alloc (.cells #[z0, z1, z2] T)) v4) (hb : bc < v3.heap.size) : Open3 v4 v3.heap.size :=
  open3 ((hk2.block _ (by simp) (by omega)).trans (heap_alloc_new _ _))
theorem openC {bc : Nat} {v0 v3 v4 : World} {z0 z1 z2 : Value} {T : TypeId} (hk1 : Kept bc (v0.alloc (.cells #[z0, z1, z2] T)).heap.size (v0.alloc (.cells #[z0, z1, z2] T)) v3) (hk2 : Kept bc v3.heap.size v3 v4) (hb : bc < v0.heap.size) : Open3 v4 v0.heap.size := by
  have s1 := hk1.size
  simp at s1
  exact open3 ((hk2.block _ (by omega) (by omega)).trans ((hk1.block _ (by simp) (by omega)).trans (heap_alloc_new _ _)))

set_option maxHeartbeats 4000000 in
theorem net_draw (rs : Bool) (bc : Nat) (ca : Option Addr) (cn cc p : Nat) (bs : List Int) (w : World) (h : Cur w bc ca cn cc p) (hr : RowB w ca cn bs) (hap : Apart ca cn bc) (hp : p ≤ 800000) (hn : cn ≤ 1048576) :
    Calls Try.prog 109 #[.pointer (some ⟨bc, 0, none⟩), .bool rs] w fun e w' => NetDr bc ca cn cc p bs w e w' := by
  have hbc := h.lt
  have hA := below_al w (.cells #[.int .i64 0, .slice none 0 0] 26)
  have HC := hide (h.below hA hbc)
  have HR := hide (hr.kept (Kept.of_below hA) hap)
  have HR0 := hide hr
  have HK := hide (Kept.of_below (bc := bc) hA)
  have HRES := hide (heap_alloc_new w (.cells #[.int .i64 0, .slice none 0 0] 26))
  have HAP := hide hap
  clear h hr hA hap
  obtain ⟨i1, hi1, hz0, hz1, hz2⟩ := info_split Try.info106
  go_enter Try.func109, Try.ntmps109
  go_wp2_with fail
  refine (pick_any 4 bc ca cn cc p bs _ HC.out HR.out (by omega) hn (by omega) (by omega)).mono ?_
  rintro e v1 ⟨r, rfl, hr, hcur, ho⟩
  have hszv : v1.heap.size = w.heap.size + 1 := by rw [ho.size]; simp
  have hA := below_al v1 (.cells #[.int .i64 (2 + (r : Int)), .slice none 0 0] 26)
  have S0 : Hid (NetSt w (v1.alloc (.cells #[.int .i64 (2 + (r : Int)), .slice none 0 0] 26)) bc ca cn cc (p + 1) bs w.heap.size v1.heap.size ((2 + r : Nat) : Int) (.slice none 0 0) 0 []) := by
    refine ⟨?_, ?_, Nat.le_refl _, by omega, NetOwn.nil _ _, hcur.below hA hcur.lt, HR0.out, (HK.out.trans (Kept.of_only ho)).trans ((Kept.of_below hA).mono (by omega))⟩
    · rw [show ((2 + r : Nat) : Int) = 2 + (r : Int) by omega]; exact heap_alloc_new _ _
    · rw [hA.block _ (by omega), ho.block _ (by omega)]; exact HRES.out
  have HSV := hide hszv
  clear hcur ho hA HC HR HK HRES hszv
  go_wp2_with fail
  have hszv := HSV.out
  clear HSV
  generalize v1.alloc (.cells #[.int .i64 (2 + (r : Int)), .slice none 0 0] 26) = W0 at S0 ⊢
  generalize v1.heap.size = V at S0 hszv ⊢
  generalize hRR : w.heap.size = R at S0 hszv hbc ⊢
  obtain ⟨pl, hpl⟩ : ∃ pl, pl = 2 + r := ⟨_, rfl⟩
  rw [← hpl] at S0
  have hpl2 : 2 ≤ pl ∧ pl ≤ 5 := by omega
  have hVb : V ≠ bc := by omega
  have hbw : bc < w.heap.size := by omega
  have HRR := hide hRR
  clear hpl hr hszv hRR
  refine (pick_any 5 bc ca cn cc (p + 1) bs _ S0.out.cur (S0.out.bytes HAP.out) (by omega) hn (by omega) (by omega)).mono ?_
  rintro e v2 ⟨r2, rfl, hr2, hcur, ho⟩
  have S1 := hide (S0.out.go (Kept.of_only ho) hcur hbw)
  clear hcur ho S0
  go_wp2_with fail
  go_loopw [6] (fun i wr => ∃ (m q k : Nat) (u : Value) (cells : List Value), i = .int .i64 m ∧ m + k = 1 + r2 ∧ q + 10 * m ≤ p + 52 ∧ Hid (NetSt w wr bc ca cn cc q bs R V (pl : Int) u k cells)) (fun i _ => (intOf i).toNat)
  case atStart => exact ⟨1 + r2, p + 1 + 1, 0, _, _, by go_num, by omega, by omega, S1⟩
  case round =>
    obtain ⟨m, q, k, u, cells, rfl, hmk, hq, S0⟩ := hrel
    clear S1
    by_cases hlt : 0 < m
    · have hm0 : (0 : Int) < (m : Int) := by omega
      have hV0 : wr.cell? ⟨V, 0, none⟩ = some (.int .i64 (pl : Int)) := cell_of_row wr V 0 _ _ _ S0.out.var
      have S0' := hide (S0.out.grow (Below.refl _ wr).drew hbw)
      go_wp2_with fail
      have S0a := hide (S0'.out.grow (below_al wr.drew (.cells #[.slice none 0 0, .slice none 0 0, .slice none 0 0] 106)) hbw)
      have hVlt := S0'.out.lt
      have hVw : V ≠ wr.heap.size := by have := S0.out.lt; omega
      have HBW := hide S0'.out.cur.lt
      have HVD := hide (show wr.drew.cell? ⟨V, 0, none⟩ = some (.int .i64 (pl : Int)) from hV0)
      go_cut [7] from 15 to 43 (fun s7 wx => ∃ tB a1 n1 c1 a2 n2 c2 q2, s7 = .pointer (some ⟨tB, 0, none⟩) ∧ q2 ≤ q + 6 ∧ Hid (TrSt w wr.drew wx bc ca cn cc q2 bs R V (pl : Int) u k cells tB a1 a2 none n1 n2 0 c1 c2 0))
      case first =>
        go_region_held3 (fun W => W.cell? ⟨V, 0, none⟩ = some (.int .i64 (pl : Int))) (first | (simp only [World.cell?_drew]; assumption) | (apply keepK; assumption; assumption; assumption) | (apply keepA; assumption) | (apply keepS; assumption; assumption))
          (first
            | (go_at_call_of 110 (Value.int .i64 1); refine (some_draw pl 1 bc ca cn cc q bs _ ?_ ?_ HAP.out (by omega) hn hpl2.1 (by omega) (by omega)).mono ?_; (first | exact S0'.out.cur | exact S0a.out.cur); (first | exact S0'.out.bytes HAP.out | exact S0a.out.bytes HAP.out); rintro e v3 ⟨a1, n1, c1, x1, q1, rfl, hn1, hl1, hq1, hc1, hb1, hk1⟩; (have hV3 : V ≠ v3.heap.size := by (have h1 := hk1.size; simp at h1; have h2 := hVlt; simp at h2; omega)); (have hc3 : v3.cell? ⟨V, 0, none⟩ = some (.int .i64 (pl : Int)) := by (first | exact keepK hk1 hVb HVD.out | exact keepK hk1 hVb (keepA HVD.out))))
            | (go_at_call_of 110 (Value.int .i64 0); refine (some_draw pl 0 bc ca cn cc q1 bs _ ?_ ?_ HAP.out (by omega) hn hpl2.1 (by omega) (by omega)).mono ?_; (first | exact hc1 | exact hc1.below (below_al _ _) hc1.lt); (first | exact hb1 | exact hb1.kept (Kept.of_below (below_al _ _)) HAP.out); rintro e v4 ⟨a2, n2, c2, x2, q2, rfl, hn2, hl2, hq2, hc2, hb2, hk2⟩; (have hc4 : v4.cell? ⟨V, 0, none⟩ = some (.int .i64 (pl : Int)) := by (first | exact keepK hk2 hVb hc3 | exact keepK hk2 hVb (keepA hc3))); (try have hop := openB hk2 hc1.lt); (try have hop : Open3 v4 wr.heap.size := openC (v0 := wr.drew) (z0 := .slice none 0 0) (z1 := .slice none 0 0) (z2 := .slice none 0 0) (T := 106) hk1 hk2 HBW.out); (try obtain ⟨⟨z0, hz0'⟩, ⟨z1, hz1'⟩, ⟨z2, hz2'⟩, hf0, hf1, hf2⟩ := hop)))
        all_goals (go_wp2_with fail; go_meet)
        all_goals first
          | exact ⟨_, _, _, _, _, _, _, _, rfl, by omega, TrSt.first S0'.out hbw hl1 hn1 hk1 hl2 hn2 hc2 hk2⟩
          | exact ⟨_, _, _, _, _, _, _, _, rfl, by omega, TrSt.firstB S0'.out hbw hl1 hn1 hk1 hl2 hn2 hc2 hk2⟩
          | exact ⟨_, _, _, _, _, _, _, _, rfl, by omega, TrSt.firstC (z0 := .slice none 0 0) (z1 := .slice none 0 0) (z2 := .slice none 0 0) S0'.out hbw hl1 hn1 hk1 hl2 hn2 hc2 hk2⟩
      case rest =>
        obtain ⟨tB, a1, n1, c1, a2, n2, c2, q2, rfl, hq2, T0⟩ := hcut
        clear S0 S0' S0a HVD hVw hVlt hV0 HBW
        cases rs
        · have hN := T0.out.net hbw
          have hVr := hN.var
          have hV1 : wc.cell? ⟨V, 1, none⟩ = some u := cell_of_row wc V 1 _ _ _ hVr
          have hV0 : wc.cell? ⟨V, 0, none⟩ = some (.int .i64 (pl : Int)) := cell_of_row wc V 0 _ _ _ hVr
          have ht0 : wc.cell? ⟨tB, 0, none⟩ = some (.slice a1 n1 c1) := cell_of_row wc tB 0 _ _ _ T0.out.t
          have ht1 : wc.cell? ⟨tB, 1, none⟩ = some (.slice a2 n2 c2) := cell_of_row wc tB 1 _ _ _ T0.out.t
          have ht2 : wc.cell? ⟨tB, 2, none⟩ = some (.slice none 0 0) := cell_of_row wc tB 2 _ _ _ T0.out.t
          have HA := hide (below_al wc (.cells #[.slice a1 n1 c1, .slice a2 n2 c2, .slice none 0 0] 106))
          have HNW := hide (news3d wc (.slice a1 n1 c1) (.slice a2 n2 c2) (.slice none 0 0))
          have HOWN := hide (hN.net.own.alloc (.cells #[.slice a1 n1 c1, .slice a2 n2 c2, .slice none 0 0] 106))
          have HVL := hide hN.lt
          have HVR := hide hVr
          clear hN hVr
          go_wp2_with (at_builtin; refine wpList_append_lies _ rfl (.tmp 39) (.tmp 41) 24 rfl (V + 1) 106 i1 _ 3 72 Try.underlying24 hi1 hz0 hz1 hz2 rfl (by decide) u k cells rfl HOWN.out ⟨wc.heap.size, 0, none⟩ 1 1 [.slice a1 n1 c1, .slice a2 n2 c2, .slice none 0 0] rfl rfl HNW.out (by simp [Value.oneCell']) (by decide) (by unfold maxLen; omega) (by omega) (by have := HVL.out; simp; omega) (wc.heap.size + 1) (by simp) ?_; intro g cp W' hown hgr hlies hglt; have hV' := (hgr.block V (by have := HVL.out; simp; omega) (fun e => by have := HOWN.out.lt V e.symm; omega)).trans ((HA.out.block V HVL.out).trans HVR.out); have hz3 : W'.cell? ⟨V, 1, none⟩ = some u := cell_of_row W' V 1 _ _ _ hV'; have hz4 : W'.frozen? ⟨V, 1, none⟩ = false := frozen_of_row W' V 1 _ _ hV')
          have S3 := hide (T0.out.append hbw HA.out hown hgr (by simpa using hlies))
          clear hown hgr hlies hglt hV' hz3 hz4 HNW HOWN HA
          go_roundw
          case rel => exact ⟨m - 1, q2, k + 1, _, _, by go_num, by omega, by omega, S3⟩
          case measure => simp [intOf]; omega
        · go_wp2_with fail
          refine (one_any 5 bc ca cn cc q2 bs _ T0.out.cur ((T0.out.net hbw).bytes HAP.out) (by omega) hn (by omega) (by omega)).mono ?_
          rintro e v5 ⟨b, rfl, hcur, ho⟩
          have T1 := hide (T0.out.go (Kept.of_only ho) hcur hbw)
          clear hcur ho T0
          cases b
          · have hN := T1.out.net hbw
            have hVr := hN.var
            have hV1 : v5.cell? ⟨V, 1, none⟩ = some u := cell_of_row v5 V 1 _ _ _ hVr
            have hV0 : v5.cell? ⟨V, 0, none⟩ = some (.int .i64 (pl : Int)) := cell_of_row v5 V 0 _ _ _ hVr
            have ht0 : v5.cell? ⟨tB, 0, none⟩ = some (.slice a1 n1 c1) := cell_of_row v5 tB 0 _ _ _ T1.out.t
            have ht1 : v5.cell? ⟨tB, 1, none⟩ = some (.slice a2 n2 c2) := cell_of_row v5 tB 1 _ _ _ T1.out.t
            have ht2 : v5.cell? ⟨tB, 2, none⟩ = some (.slice none 0 0) := cell_of_row v5 tB 2 _ _ _ T1.out.t
            have HA := hide (below_al v5 (.cells #[.slice a1 n1 c1, .slice a2 n2 c2, .slice none 0 0] 106))
            have HNW := hide (news3d v5 (.slice a1 n1 c1) (.slice a2 n2 c2) (.slice none 0 0))
            have HOWN := hide (hN.net.own.alloc (.cells #[.slice a1 n1 c1, .slice a2 n2 c2, .slice none 0 0] 106))
            have HVL := hide hN.lt
            have HVR := hide hVr
            clear hN hVr
            go_wp2_with (at_builtin; refine wpList_append_lies _ rfl (.tmp 39) (.tmp 41) 24 rfl (V + 1) 106 i1 _ 3 72 Try.underlying24 hi1 hz0 hz1 hz2 rfl (by decide) u k cells rfl HOWN.out ⟨v5.heap.size, 0, none⟩ 1 1 [.slice a1 n1 c1, .slice a2 n2 c2, .slice none 0 0] rfl rfl HNW.out (by simp [Value.oneCell']) (by decide) (by unfold maxLen; omega) (by omega) (by have := HVL.out; simp; omega) (v5.heap.size + 1) (by simp) ?_; intro g cp W' hown hgr hlies hglt; have hV' := (hgr.block V (by have := HVL.out; simp; omega) (fun e => by have := HOWN.out.lt V e.symm; omega)).trans ((HA.out.block V HVL.out).trans HVR.out); have hz3 : W'.cell? ⟨V, 1, none⟩ = some u := cell_of_row W' V 1 _ _ _ hV'; have hz4 : W'.frozen? ⟨V, 1, none⟩ = false := frozen_of_row W' V 1 _ _ hV')
            have S3 := hide (T1.out.append hbw HA.out hown hgr (by simpa using hlies))
            clear hown hgr hlies hglt hV' hz3 hz4 HNW HOWN HA
            go_roundw
            case rel => exact ⟨m - 1, (q2 + 1), k + 1, _, _, by go_num, by omega, by omega, S3⟩
            case measure => simp [intOf]; omega
          · have hV0 : v5.cell? ⟨V, 0, none⟩ = some (.int .i64 (pl : Int)) := cell_of_row v5 V 0 _ _ _ (T1.out.net hbw).var
            go_wp2_with fail
            refine (some_draw pl 1 bc ca cn cc (q2 + 1) bs _ T1.out.cur ((T1.out.net hbw).bytes HAP.out) HAP.out (by omega) hn hpl2.1 (by omega) (by omega)).mono ?_
            rintro e v6 ⟨a3, n3, c3, x3, q3, rfl, hn3, hl3, hq3, hc3, hb3, hk3⟩
            have T2 := hide (T1.out.reset hk3 hc3 hbw hl3 hn3)
            have hT6 := (T1.out.go hk3 hc3 hbw).t
            have hy2 : v6.cell? ⟨tB, 2, none⟩ = some (.slice none 0 0) := cell_of_row v6 tB 2 _ _ _ hT6
            have hy3 : v6.frozen? ⟨tB, 2, none⟩ = false := frozen_of_row v6 tB 2 _ _ hT6
            clear hl3 hc3 hb3 hk3 T1 hT6 hV0
            go_upto_region 8 with fail
            clear hy2 hy3
            generalize v6.setCell ⟨tB, 2, none⟩ (.slice a3 n3 c3) = v7 at T2 ⊢
            have hN := T2.out.net hbw
            have hVr := hN.var
            have hV1 : v7.cell? ⟨V, 1, none⟩ = some u := cell_of_row v7 V 1 _ _ _ hVr
            have hV0 : v7.cell? ⟨V, 0, none⟩ = some (.int .i64 (pl : Int)) := cell_of_row v7 V 0 _ _ _ hVr
            have ht0 : v7.cell? ⟨tB, 0, none⟩ = some (.slice a1 n1 c1) := cell_of_row v7 tB 0 _ _ _ T2.out.t
            have ht1 : v7.cell? ⟨tB, 1, none⟩ = some (.slice a2 n2 c2) := cell_of_row v7 tB 1 _ _ _ T2.out.t
            have ht2 : v7.cell? ⟨tB, 2, none⟩ = some (.slice a3 n3 c3) := cell_of_row v7 tB 2 _ _ _ T2.out.t
            have HA := hide (below_al v7 (.cells #[.slice a1 n1 c1, .slice a2 n2 c2, .slice a3 n3 c3] 106))
            have HNW := hide (news3d v7 (.slice a1 n1 c1) (.slice a2 n2 c2) (.slice a3 n3 c3))
            have HOWN := hide (hN.net.own.alloc (.cells #[.slice a1 n1 c1, .slice a2 n2 c2, .slice a3 n3 c3] 106))
            have HVL := hide hN.lt
            have HVR := hide hVr
            clear hN hVr
            go_wp2_with (at_builtin; refine wpList_append_lies _ rfl (.tmp 39) (.tmp 41) 24 rfl (V + 1) 106 i1 _ 3 72 Try.underlying24 hi1 hz0 hz1 hz2 rfl (by decide) u k cells rfl HOWN.out ⟨v7.heap.size, 0, none⟩ 1 1 [.slice a1 n1 c1, .slice a2 n2 c2, .slice a3 n3 c3] rfl rfl HNW.out (by simp [Value.oneCell']) (by decide) (by unfold maxLen; omega) (by omega) (by have := HVL.out; simp; omega) (v7.heap.size + 1) (by simp) ?_; intro g cp W' hown hgr hlies hglt; have hV' := (hgr.block V (by have := HVL.out; simp; omega) (fun e => by have := HOWN.out.lt V e.symm; omega)).trans ((HA.out.block V HVL.out).trans HVR.out); have hz3 : W'.cell? ⟨V, 1, none⟩ = some u := cell_of_row W' V 1 _ _ _ hV'; have hz4 : W'.frozen? ⟨V, 1, none⟩ = false := frozen_of_row W' V 1 _ _ hV')
            have S3 := hide (T2.out.append hbw HA.out hown hgr (by simpa using hlies))
            clear hown hgr hlies hglt hV' hz3 hz4 HNW HOWN HA
            go_roundw
            case rel => exact ⟨m - 1, q3, k + 1, _, _, by go_num, by omega, by omega, S3⟩
            case measure => simp [intOf]; omega
    · have hm0 : m = 0 := by omega
      subst hm0
      go_wp2_with fail
      refine (pick_any 40 bc ca cn cc q bs _ S0.out.cur (S0.out.bytes HAP.out) (by omega) hn (by omega) (by omega)).mono ?_
      rintro e v3 ⟨r3, rfl, hr3, hcur, ho⟩
      have S1 := hide (S0.out.go (Kept.of_only ho) hcur hbw)
      clear hcur ho S0
      obtain ⟨g, cp, rfl, hg, hgl, hcel⟩ := S1.out.net.form (show 1 ≤ k by omega)
      by_cases h30 : r3 = 0
      · subst h30
        clear hcel hgl hg
        go_wp2_with fail
        refine (among_any 3 3 (some ⟨v3.heap.size, 0, none⟩) [0, 1, 17] bc ca cn cc (q + 1) bs (v3.alloc (.cells (cellsOf [0, 1, 17]) 3)) ((S1.out.grow (below_al _ _) hbw).cur) ((S1.out.grow (below_al _ _) hbw).bytes HAP.out) (by omega) hn (by omega) (by omega) (row_new v3 _ 3 _ rfl rfl) (by intro _ x hx; obtain rfl := Option.some.inj hx; have := S1.out.cur.lt; simp; omega)).mono ?_
        rintro e v4 ⟨x, rfl, hx, hcur, ho⟩
        have hx2 : 0 ≤ x ∧ x ≤ 17 := by simp at hx; omega
        have S2' := hide ((S1.out.grow (below_al v3 (.cells (cellsOf [0, 1, 17]) 3)) hbw).go (Kept.of_only ho) hcur hbw)
        have hVr := S2'.out.var
        have hv0 : v4.cell? ⟨V, 0, none⟩ = some (.int .i64 (pl : Int)) := cell_of_row v4 V 0 _ _ _ hVr
        have hvf : v4.frozen? ⟨V, 0, none⟩ = false := frozen_of_row v4 V 0 _ _ hVr
        have S2 := hide (S2'.out.places x hbw)
        clear hcur ho hx hVr S2'
        go_upto_region 16 with fail
        clear hv0 hvf
        generalize v4.setCell ⟨V, 0, none⟩ (.int .i64 x) = v5 at S2 ⊢
        have hVr := S2.out.var
        have hRr := S2.out.res
        have hv0 : v5.cell? ⟨V, 0, none⟩ = some (.int .i64 x) := cell_of_row v5 V 0 _ _ _ hVr
        have hv1 : v5.cell? ⟨V, 1, none⟩ = some (.slice (some ⟨g, 0, none⟩) k cp) := cell_of_row v5 V 1 _ _ _ hVr
        have hr0 : v5.cell? ⟨R, 0, none⟩ = some (.int .i64 0) := cell_of_row v5 R 0 _ _ _ hRr
        have hr1 : v5.cell? ⟨R, 1, none⟩ = some (.slice none 0 0) := cell_of_row v5 R 1 _ _ _ hRr
        have hf0 : v5.frozen? ⟨R, 0, none⟩ = false := frozen_of_row v5 R 0 _ _ hRr
        have hf1 : v5.frozen? ⟨R, 1, none⟩ = false := frozen_of_row v5 R 1 _ _ hRr
        clear hVr hRr
        go_wp2_with fail
        refine bodyPost_ret (v := .agg #[.int .i64 x, .slice (some ⟨g, 0, none⟩) k cp]) (by simp [results, Try.results109, go_sem, hr0, hr1]) rfl ?_
        exact S2.out.done hbw HAP.out (by omega) (by omega) (by omega) (by omega) _ _
      · have hd0 : ((r3 : Int) == 0) = false := by simp; omega
        obtain ⟨⟨y0, hy0, _⟩, hyf0⟩ := hcel 0 (by omega)
        obtain ⟨⟨y1, hy1, _⟩, hyf1⟩ := hcel 1 (by omega)
        have HGL := hide hgl
        have hV1 : v3.cell? ⟨V, 1, none⟩ = some (.slice (some ⟨g, 0, none⟩) k cp) := cell_of_row v3 V 1 _ _ _ S1.out.var
        have hk1 : (0 : Int) < (k : Int) := by omega
        clear hcel
        by_cases h31 : r3 = 1
        · subst h31
          have S2 := hide (S1.out.setTri (j := 0) (a := none) (n := 0) (c := 0) (xs := []) (by omega) (by omega) (.inl ⟨rfl, rfl, rfl, rfl⟩) (by omega) (fun o ho => by cases ho) hbw)
          go_upto_region 16 with fail
          clear hy0 hyf0 hy1 hyf1 hV1
          generalize v3.setCell ⟨g, 0, none⟩ (.slice none 0 0) = v5 at S2 ⊢
          have hVr := S2.out.var
          have hRr := S2.out.res
          have hv0 : v5.cell? ⟨V, 0, none⟩ = some (.int .i64 (pl : Int)) := cell_of_row v5 V 0 _ _ _ hVr
          have hv1 : v5.cell? ⟨V, 1, none⟩ = some (.slice (some ⟨g, 0, none⟩) k cp) := cell_of_row v5 V 1 _ _ _ hVr
          have hr0 : v5.cell? ⟨R, 0, none⟩ = some (.int .i64 0) := cell_of_row v5 R 0 _ _ _ hRr
          have hr1 : v5.cell? ⟨R, 1, none⟩ = some (.slice none 0 0) := cell_of_row v5 R 1 _ _ _ hRr
          have hf0 : v5.frozen? ⟨R, 0, none⟩ = false := frozen_of_row v5 R 0 _ _ hRr
          have hf1 : v5.frozen? ⟨R, 1, none⟩ = false := frozen_of_row v5 R 1 _ _ hRr
          clear hVr hRr
          go_wp2_with fail
          refine bodyPost_ret (v := .agg #[.int .i64 (pl : Int), .slice (some ⟨g, 0, none⟩) k cp]) (by simp [results, Try.results109, go_sem, hr0, hr1]) rfl ?_
          exact S2.out.done hbw HAP.out (by omega) (by omega) (by omega) (by omega) _ _
        · have hd1 : ((r3 : Int) == 1) = false := by simp; omega
          by_cases h32 : r3 = 2
          · subst h32
            have hA := below_al v3 (.cells #[.int .i64 1, .int .i64 0] 3)
            have S1a := S1.out.grow hA hbw
            have S2 := hide (S1a.setTri (j := 1) (a := some ⟨v3.heap.size, 0, none⟩) (n := 2) (c := 2) (xs := [1, 0]) (by omega) (by omega) (.inr ⟨v3.heap.size, rfl, by have := S1.out.lt; omega, by omega, by omega, by unfold maxLen; omega, row_new v3 [1, 0] 2 _ rfl rfl⟩) (by omega) (fun o ho => by obtain rfl := Option.some.inj ho; have := HGL.out; simp; omega) hbw)
            rw [World.setCell_alloc_past _ _ _ _ hgl] at S2
            clear hA S1a
            go_upto_region 16 with fail
            clear hy0 hyf0 hy1 hyf1 hV1
            generalize (v3.setCell ⟨g, 1, none⟩ (.slice (some ⟨v3.heap.size, 0, none⟩) 2 2)).alloc (.cells #[.int .i64 1, .int .i64 0] 3) = v5 at S2 ⊢
            have hVr := S2.out.var
            have hRr := S2.out.res
            have hv0 : v5.cell? ⟨V, 0, none⟩ = some (.int .i64 (pl : Int)) := cell_of_row v5 V 0 _ _ _ hVr
            have hv1 : v5.cell? ⟨V, 1, none⟩ = some (.slice (some ⟨g, 0, none⟩) k cp) := cell_of_row v5 V 1 _ _ _ hVr
            have hr0 : v5.cell? ⟨R, 0, none⟩ = some (.int .i64 0) := cell_of_row v5 R 0 _ _ _ hRr
            have hr1 : v5.cell? ⟨R, 1, none⟩ = some (.slice none 0 0) := cell_of_row v5 R 1 _ _ _ hRr
            have hf0 : v5.frozen? ⟨R, 0, none⟩ = false := frozen_of_row v5 R 0 _ _ hRr
            have hf1 : v5.frozen? ⟨R, 1, none⟩ = false := frozen_of_row v5 R 1 _ _ hRr
            clear hVr hRr
            go_wp2_with fail
            refine bodyPost_ret (v := .agg #[.int .i64 (pl : Int), .slice (some ⟨g, 0, none⟩) k cp]) (by simp [results, Try.results109, go_sem, hr0, hr1]) rfl ?_
            exact S2.out.done hbw HAP.out (by omega) (by omega) (by omega) (by omega) _ _
          · have hd2 : ((r3 : Int) == 2) = false := by simp; omega
            clear hy0 hyf0 hy1 hyf1 hV1 h30 h31 h32
            go_upto_region 16 with fail
            clear hgl hg hd0 hd1 hd2 hk1 hr3
            have hVr := S1.out.var
            have hRr := S1.out.res
            have hv0 : v3.cell? ⟨V, 0, none⟩ = some (.int .i64 (pl : Int)) := cell_of_row v3 V 0 _ _ _ hVr
            have hv1 : v3.cell? ⟨V, 1, none⟩ = some (.slice (some ⟨g, 0, none⟩) k cp) := cell_of_row v3 V 1 _ _ _ hVr
            have hr0 : v3.cell? ⟨R, 0, none⟩ = some (.int .i64 0) := cell_of_row v3 R 0 _ _ _ hRr
            have hr1 : v3.cell? ⟨R, 1, none⟩ = some (.slice none 0 0) := cell_of_row v3 R 1 _ _ _ hRr
            have hf0 : v3.frozen? ⟨R, 0, none⟩ = false := frozen_of_row v3 R 0 _ _ hRr
            have hf1 : v3.frozen? ⟨R, 1, none⟩ = false := frozen_of_row v3 R 1 _ _ hRr
            clear hVr hRr
            go_wp2_with fail
            refine bodyPost_ret (v := .agg #[.int .i64 (pl : Int), .slice (some ⟨g, 0, none⟩) k cp]) (by simp [results, Try.results109, go_sem, hr0, hr1]) rfl ?_
            exact S1.out.done hbw HAP.out (by omega) (by omega) (by omega) (by omega) _ _
end Go.Proofs.Ytajcmamapmeglaa


/- l1Most and the cursor's markOf: a list in new memory, of as many numbers as the net has places, whatever the bytes; nothing that was there is written but the cursor. -/
namespace Go.Proofs.Ytajcmamapmeglaa
open Go.RowKit
set_option maxRecDepth 10000

def mostI (a b : Int) : Int := if b < a then a else b

theorem most_any (a b : Int) (w : World) : Calls Try.prog 76 #[.int .i64 a, .int .i64 b] w fun e w' => e = .returned (.int .i64 (mostI a b)) ∧ w' = w := by
  unfold mostI
  by_cases h : b < a
  · rw [if_pos h]
    go_enter Try.func76, Try.ntmps76
    go_wp2_with fail
    go_ret
    exact ⟨rfl, rfl⟩
  · rw [if_neg h]
    go_enter Try.func76, Try.ntmps76
    go_wp2_with fail
    go_ret
    exact ⟨rfl, rfl⟩

theorem MarkSt.form {w v : World} {bc : Nat} {ca : Option Addr} {cn cc p : Nat} {bs : List Int} {o : Value} {k : Nat} (h : MarkSt w v bc ca cn cc p bs o k) (hk : 0 < k) : ∃ g cap, o = .slice (some ⟨g, 0, none⟩) k cap ∧ w.heap.size ≤ g ∧ g < v.heap.size ∧ (∃ z, v.cell? ⟨g, 0, none⟩ = some z) ∧ v.frozen? ⟨g, 0, none⟩ = false := by
  obtain ⟨xs, hx⟩ := h.own
  rcases hx.2 with ⟨_, h0⟩ | ⟨g, cap, cur, e, hg, hh, _, _, hsz, _⟩
  · omega
  · refine ⟨g, cap, e, hg, (Array.getElem?_eq_some_iff.mp hh).1, ⟨cur[0]'(by omega), ?_⟩, frozen_of_row v g 0 _ _ hh⟩
    rw [cell_of_row v g 0 _ _ _ hh]
    exact Array.getElem?_eq_getElem (by omega)

theorem MarkSt.set0 {w v : World} {bc : Nat} {ca : Option Addr} {cn cc p : Nat} {bs : List Int} {g cap k : Nat} (h : MarkSt w v bc ca cn cc p bs (.slice (some ⟨g, 0, none⟩) k cap) k) (hg : w.heap.size ≤ g) (x : Int) (hb : bc < w.heap.size) (hfar : 0 < cn → ∀ y, ca = some y → y.block < w.heap.size) :
    MarkSt w (v.setCell ⟨g, 0, none⟩ (.int .i64 x)) bc ca cn cc p bs (.slice (some ⟨g, 0, none⟩) k cap) k := by
  have hset : ∀ q, q ≠ g → (v.setCell ⟨g, 0, none⟩ (.int .i64 x)).heap[q]? = v.heap[q]? := fun q hq => Below.heap_setCell _ _ _ _ hq
  have hbl : Below w.heap.size v (v.setCell ⟨g, 0, none⟩ (.int .i64 x)) := Below.setCell (p := ⟨g, 0, none⟩) (Below.refl _ _) (show _ ≤ g by omega) _
  obtain ⟨xs, hx⟩ := h.own
  refine ⟨⟨xs.set 0 x, ?_⟩, h.cur.below hbl hb, ?_, h.kept.trans (Kept.of_below hbl)⟩
  · refine ⟨by simpa using hx.1, ?_⟩
    rcases hx.2 with ⟨e, _⟩ | ⟨g', cp', cur, e, hg, hh, r1, r2, r3, r4⟩
    · simp at e
    · obtain ⟨rfl, rfl⟩ : g = g' ∧ cap = cp' := by simpa using e
      refine .inr ⟨g, cap, _, rfl, hg, heap_setCell_same v g 0 cur _ _ hh, r1, r2, by simpa using r3, ?_⟩
      rw [List.map_set, ← r4]
      simp [List.take_set]
  · refine ⟨h.bytes.1, h.bytes.2.1, ?_⟩
    rcases h.bytes.2.2 with h0 | ⟨b, off, e, hl, hc⟩
    · exact .inl h0
    · exact .inr ⟨b, off, e, Nat.lt_of_lt_of_le hl hbl.size, fun i hi => (World.cell?_of_block (hbl.block b (hfar (by omega) _ e))).trans (hc i hi)⟩

/-- How markOf ends. -/
def MarkEndN (bc : Nat) (ca : Option Addr) (cn cc p : Nat) (bs : List Int) (w : World) (e : Ending) (w' : World) : Prop :=
  ∃ a n c xs p', e = .returned (.slice a n c) ∧ n ≤ 18 ∧ p' ≤ p + 60 ∧ Row w' a n xs ∧ (0 < n → ∀ x, a = some x → w.heap.size ≤ x.block) ∧ Cur w' bc ca cn cc p' ∧ RowB w' ca cn bs ∧ Kept bc w.heap.size w w'

theorem MarkSt.doneN {w v : World} {bc : Nat} {ca : Option Addr} {cn cc p q : Nat} {bs : List Int} {o : Value} {k : Nat} (h : MarkSt w v bc ca cn cc q bs o k) (hk : k ≤ 18) (hq : q ≤ p + 60) : MarkEndN bc ca cn cc p bs w (.returned o) v := by
  obtain ⟨xs, hx⟩ := h.own
  have hlt := hx.lt
  obtain ⟨a, c, rfl, hr⟩ := ownsRow_row' hx
  refine ⟨a, k, c, xs, q, rfl, hk, hq, hr, fun _ x hx => ?_, h.cur, h.bytes, h.kept⟩
  subst hx
  exact (hlt x.block rfl).1

set_option maxHeartbeats 1000000 in
theorem markOf_draw (pl : Int) (ua : Option Addr) (un uc : Nat) (bc : Nat) (ca : Option Addr) (cn cc p : Nat) (bs : List Int) (w : World) (h : Cur w bc ca cn cc p) (hr : RowB w ca cn bs) (hap : Apart ca cn bc) (hp : p ≤ 900000) (hn : cn ≤ 1048576) (hpl : 0 ≤ pl ∧ pl ≤ 17) :
    Calls Try.prog 51 #[.pointer (some ⟨bc, 0, none⟩), .agg #[.int .i64 pl, .slice ua un uc]] w fun e w' => MarkEndN bc ca cn cc p bs w e w' := by
  obtain ⟨m, rfl⟩ : ∃ m : Nat, pl = (m : Int) := ⟨pl.toNat, by omega⟩
  have hm : m ≤ 17 := by omega
  have hA := below_al w (.cells #[.int .i64 (m : Int), .slice ua un uc] 26)
  have hbc0 := h.lt
  have hbc : bc < (w.alloc (.cells #[.int .i64 (m : Int), .slice ua un uc] 26)).heap.size := by simp; omega
  have ST := hide (MarkSt.mk (w := w.alloc (.cells #[.int .i64 (m : Int), .slice ua un uc] 26)) (o := .slice none 0 0) ⟨[], World.ownsRow_nil _ _ _ _⟩ (h.below hA hbc0) (hr.kept (Kept.of_below hA) hap) (Kept.refl bc _ _))
  have HF := hide (hr.kept (Kept.of_below hA) hap).far
  have HBX := hide (heap_alloc_new w (.cells #[.int .i64 (m : Int), .slice ua un uc] 26))
  have HEND : Hid (∀ e v, MarkEndN bc ca cn cc p bs (w.alloc (.cells #[.int .i64 (m : Int), .slice ua un uc] 26)) e v → MarkEndN bc ca cn cc p bs w e v) := by
    rintro e v ⟨a, n, c, xs, p', h1, h2, h3, h4, h5, h6, h7, h8⟩
    exact ⟨a, n, c, xs, p', h1, h2, h3, h4, fun h0 x hx => Nat.le_trans (by simp) (h5 h0 x hx), h6, h7, (Kept.of_below hA).trans (h8.mono (by simp))⟩
  have HAP := hide hap
  have hBb : Hid (w.heap.size ≠ bc ∧ w.heap.size < (w.alloc (.cells #[.int .i64 (m : Int), .slice ua un uc] 26)).heap.size) := ⟨by omega, by simp⟩
  clear h hr hA hpl hap
  obtain ⟨i0, hi, hz0, hz1, hz2⟩ := info_split Try.info3
  go_enter Try.func51, Try.ntmps51
  go_wp2_with fail
  generalize w.alloc (.cells #[.int .i64 (m : Int), .slice ua un uc] 26) = w1 at ST HF HBX HEND hbc hBb ⊢
  generalize w.heap.size = Bx at HBX hBb ⊢
  go_loopw [5, 6] (fun o i wr => ∃ k q : Nat, k ≤ m ∧ i = .int .i64 k ∧ q ≤ p + 3 * k ∧ Hid (MarkSt w1 wr bc ca cn cc q bs o k)) (fun _ i _ => m - (intOf i).toNat)
  case atStart => exact ⟨0, p, Nat.zero_le _, rfl, by omega, ST⟩
  case round =>
    obtain ⟨k, q, hk, rfl, hq, S0⟩ := hrel
    clear ST
    have hBx := (S0.out.kept.block Bx hBb.out.2 hBb.out.1).trans HBX.out
    have hB0 : wr.cell? ⟨Bx, 0, none⟩ = some (.int .i64 (m : Int)) := cell_of_row wr Bx 0 _ _ _ hBx
    clear hBx
    by_cases hlt : k < m
    · have hi1 : (k : Int) < (m : Int) := by omega
      go_wp2_with fail
      refine (pick_any 4 bc ca cn cc q bs _ S0.out.cur S0.out.bytes (by omega) hn (by omega) (by omega)).mono ?_
      rintro e v1 ⟨r, rfl, hr, hcur, ho⟩
      have S1 := hide (S0.out.only ho hcur HAP.out hbc)
      clear hcur ho S0 hB0
      go_wp2_with fail
      refine (most_any _ _ _).mono ?_
      rintro e v2 ⟨rfl, rfl⟩
      generalize mostI 0 ((r : Int) - 1) = x
      obtain ⟨xs, hown⟩ := S1.out.own
      have hsz := S1.out.kept.size
      have S3 := hide (fun v' W' (h1 : W'.ownsRow w1.heap.size 3 1 v' (k + 1) (xs.map (Value.int .i64) ++ [.int .i64 x])) (h2 : (v2.alloc (.cells #[.int .i64 x] 3)).grownBy W' u5.ownBlock) => (S1.out.alloc (.cells #[.int .i64 x] 3) HAP.out).append (hown.alloc _) h1 h2 hbc HF.out)
      have HO := hide (hown.alloc (.cells #[.int .i64 x] 3))
      clear hown S1
      go_wp2_with (at_builtin; refine wpList_append_own _ rfl (.tmp 13) (.tmp 18) 27 rfl w1.heap.size 3 i0 (.int .i64 0) 1 8 Try.underlying27 hi hz0 hz1 hz2 rfl (by decide) u5 k _ rfl HO.out ⟨v2.heap.size, 0, none⟩ 1 1 [.int .i64 x] rfl rfl (cell_one_new _ _ _) (by intro u hu; simp at hu; subst hu; rfl) (by unfold maxLen; omega) (by omega) (by simp; omega) ?_; intro v' W' r1 r2 _; have R := hide (S3.out v' W' r1 r2); clear r1 r2)
      go_roundw
      case rel => exact ⟨k + 1, q + 1, by omega, by go_num, by omega, R⟩
      case measure => simp [intOf]; omega
    · have hk' : k = m := by omega
      subst hk'
      go_wp2_with fail
      refine (one_any 30 bc ca cn cc q bs _ S0.out.cur S0.out.bytes (by omega) hn (by omega) (by omega)).mono ?_
      rintro e v2 ⟨b, rfl, hcur, ho⟩
      have S2 := hide (S0.out.only ho hcur HAP.out hbc)
      clear hcur ho S0 hB0
      by_cases hk0 : 0 < k
      rotate_left
      · have hkz : k = 0 := by omega
        subst hkz
        obtain ⟨xs, hown⟩ := S2.out.own
        have hu5 : Hid (u5 = .slice none 0 0 ∨ ∃ g c, u5 = .slice (some ⟨g, 0, none⟩) 0 c) := by
          rcases hown.2 with ⟨e, _⟩ | ⟨g, cap, cur, e, _⟩
          · exact .inl e
          · exact .inr ⟨g, cap, e⟩
        clear hown
        rcases hu5.out with rfl | ⟨g, c, rfl⟩
        all_goals cases b
        all_goals go_wp2_with fail
        all_goals go_ret
        all_goals exact HEND.out _ _ (S2.out.doneN (by omega) (by omega))
      · have hk1 : (0 : Int) < (k : Int) := by omega
        obtain ⟨g, cap, rfl, hg, hgl, ⟨z, hz⟩, hf⟩ := S2.out.form hk0
        cases b
        · go_wp2_with fail
          go_ret
          exact HEND.out _ _ (S2.out.doneN (by omega) (by omega))
        · go_wp2_with fail
          have S3 := hide (S2.out.alloc (.cells (cellsOf [50, 51, -1]) 3) HAP.out)
          refine (among_any 3 3 (some ⟨v2.heap.size, 0, none⟩) [50, 51, -1] bc ca cn cc (q + 1) bs (v2.alloc (.cells (cellsOf [50, 51, -1]) 3)) S3.out.cur S3.out.bytes (by omega) hn (by omega) (by omega) (row_new v2 _ 3 _ rfl rfl) (by intro _ x hx; obtain rfl := Option.some.inj hx; have := S2.out.cur.lt; simp; omega)).mono ?_
          rintro e v3 ⟨x, rfl, hx, hcur, ho⟩
          have S4 := hide (S3.out.only ho hcur HAP.out hbc)
          clear hz hf
          obtain ⟨g', cap', e', _, _, ⟨z, hz⟩, hf⟩ := S4.out.form hk0
          obtain ⟨rfl, rfl⟩ : g = g' ∧ cap = cap' := by simpa using e'
          have S5 := hide (S4.out.set0 hg x hbc HF.out)
          clear hcur ho S3 S2 hx e'
          go_wp2_with fail
          go_ret
          exact HEND.out _ _ (S5.out.doneN (by omega) (by omega))
end Go.Proofs.Ytajcmamapmeglaa


/- l1Own of whatever list; pick of one. -/
namespace Go.Proofs.Ytajcmamapmeglaa
open Go.RowKit
set_option maxRecDepth 10000

theorem run_append_none {P : Program} (w : World) (base : Nat) (t ty e : TypeId) (i : TypeInfo) (size : Nat) (ht : P.underlying t = some (.slice e)) (hi : P.info? e = some i)
    (v : Value) (n c : Nat) (xs : List Value) (hown : w.ownsRow base e size v n xs) :
    (Builtin.append_ #[t, t] ty #[v, .slice none 0 c]).run P w = .ok v w := by
  rcases hown.2 with ⟨rfl, rfl⟩ | ⟨g, cap, cur, rfl, _, _, hnc, _⟩
  · simp [Builtin.append_, run_underlying ht, sizeOf, typeInfo, hi, Builtin.lenOf, Builtin.firstCells]
  · simp [Builtin.append_, run_underlying ht, sizeOf, typeInfo, hi, Builtin.lenOf, Builtin.firstCells, hnc, storeCells]

/-- append, whatever is appended. -/
theorem wpList_append_any2 {P : Program} (w : World) {ops : Array Oper} {rest : List Oper} {o : Oper} {a : Act} {Q : Exit → Act → World → Prop} (hgd : o.guard = none) (s x : Operand) (t : TypeId)
    (ho : o.op = .call { callee := .builtin .append, args := #[s, x], argTypes := #[t, t] })
    (base : Nat) (e : TypeId) (i : TypeInfo) (z : Value) (size bytes : Nat) (ht : P.underlying t = some (.slice e)) (hi : P.info? e = some i) (hz : i.zero = some z)
    (hsize : i.size = size) (hby : i.bytes = bytes) (hzs : z.cells.size = size) (hsz : 0 < size)
    (v : Value) (n : Nat) (xs : List Value) (hs : a.eval s = v) (hown : w.ownsRow base e size v n xs)
    (ao : Option Addr) (m c : Nat) (news : List Value) (hx : a.eval x = .slice ao m c) (hl : news.length = m * size) (hnone : ao = none → m = 0)
    (hnews : ∀ ad, ao = some ad → ∀ j u, news[j]? = some u → w.cell? (ad.add j) = some u) (h1 : ∀ u ∈ news, u.oneCell' = true)
    (h63 : n + m ≤ maxLen) (hbytes : (n + m) * bytes ≤ 140737488355328) (hbase : base ≤ w.heap.size)
    (h : ∀ v' w', w'.ownsRow base e size v' (n + m) (xs ++ news) → w.grownBy w' v.ownBlock → wpList P ops Q rest (a.put o.dst v') w') : wpList P ops Q (o :: rest) a w := by
  cases ao with
  | some ad => exact wpList_append_own w hgd s x t ho base e i z size bytes ht hi hz hsize hby hzs hsz v n xs hs hown ad m c news hx hl (hnews ad rfl) h1 h63 hbytes hbase fun v' w' r1 r2 _ => h v' w' r1 r2
  | none =>
    obtain rfl := hnone rfl
    have hnews : news = [] := List.eq_nil_of_length_eq_zero (by simpa using hl)
    subst hnews
    refine wpList_plain hgd fun K hK' => ?_
    have hrun := run_append_none (P := P) w base t o.type e i size ht hi _ n c xs hown
    unfold Oper.wp
    simp [execOp, ho, resolve, invoke, builtin, hs, hx, hrun, Result.andThen]
    exact hK' _ _ (by simpa using h v w (by simpa using hown) (World.grownBy.refl _ _))

theorem Row.some_of {w : World} {a : Option Addr} {n : Nat} {xs : List Int} (h : Row w a n xs) : ∀ ad, a = some ad → ∀ j u, (xs.map (Value.int .i64))[j]? = some u → w.cell? (ad.add j) = some u := by
  have := cells_upto h (Nat.le_refl n)
  rw [List.take_of_length_le (by have := h.1; omega)] at this
  exact this

set_option maxHeartbeats 400000 in
theorem own3_any (a : Option Addr) (n c : Nat) (xs : List Int) (w : World) (ha : Row w a n xs) (hn : n ≤ 1048576) :
    Calls Try.prog 97 #[.slice a n c] w fun e w' => ∃ a' c', e = .returned (.slice a' n c') ∧ Row w' a' n xs ∧ (0 < n → ∀ x, a' = some x → w.heap.size ≤ x.block) ∧ Below w.heap.size w w' := by
  obtain ⟨i0, hi, hz0, hz1, hz2⟩ := info_split Try.info3
  have P0 := hide (PutSt.first w)
  have HA := hide (ha.below P0.out.bel)
  have HL := hide ha.1
  clear ha
  go_enter Try.func97, Try.ntmps97
  go_wp2_with (at_builtin; refine wpList_append_any2 _ rfl (.tmp 3) (.tmp 4) 27 rfl w.heap.size 3 i0 (.int .i64 0) 1 8 Try.underlying27 hi hz0 hz1 hz2 rfl (by decide) (.slice (some ⟨w.heap.size, 0, none⟩) 0 0) 0 [] rfl P0.out.own a n c (xs.map (Value.int .i64)) rfl (by rw [List.length_map, Nat.mul_one]; exact HL.out) (fun h => by (rcases HA.out.2 with h0 | ⟨b, off, e, _⟩; exact h0; rw [h] at e; cases e)) HA.out.some_of (ints_oneCell _ _) (by unfold maxLen; omega) (by omega) (by simp) ?_; intro u1 W1 r1 r2; have P1 := hide (P0.out.step (q := n) (zs := xs) r1 r2); clear r1 r2)
  go_ret
  have P2 := P1.out
  rw [Nat.zero_add, List.nil_append] at P2
  have hlt := P2.own.lt
  obtain ⟨a', c', rfl, hr⟩ := ownsRow_row2 P2.own
  exact ⟨a', c', rfl, hr, fun _ x hx => by subst hx; exact (hlt x.block rfl).1, P2.bel⟩

set_option maxHeartbeats 400000 in
theorem pickS_any (m : Nat) (bc : Nat) (ca : Option Addr) (cn cc p : Nat) (bs : List Int) (w : World) (h : Cur w bc ca cn cc p) (hr : RowB w ca cn bs) (hp : p ≤ 1000000) (hn : cn ≤ 1048576) (h1 : 1 ≤ m) (h200 : m ≤ 200) :
    Calls Try.prog 71 #[.pointer (some ⟨bc, 0, none⟩), .int .i64 (m : Int)] w fun e w' => ∃ r p' : Nat, e = .returned (.int .i64 (r : Int)) ∧ r < m ∧ p' ≤ p + 1 ∧ Cur w' bc ca cn cc p' ∧ OnlyC bc w w' := by
  by_cases h2 : 2 ≤ m
  · refine (pick_any m bc ca cn cc p bs w h hr hp hn h2 h200).mono ?_
    rintro e w' ⟨r, e1, hr, hc, ho⟩
    exact ⟨r, p + 1, e1, hr, Nat.le_refl _, hc, ho⟩
  · obtain rfl : m = 1 := by omega
    have HC := hide h
    clear h hr
    go_enter Try.func71, Try.ntmps71
    go_wp2_with fail
    go_ret
    exact ⟨0, p, rfl, by omega, by omega, HC.out, OnlyC.refl _ _⟩
end Go.Proofs.Ytajcmamapmeglaa
