/- Contracts that the proof stands on, one behind the other. -/
import Derived.Test.YtajcmamapmeglaaP18
/- What is there while a flow is drawn, once its net is grown. -/
namespace Go.Proofs.Ytajcmamapmeglaa
open Go.RowKit
set_option maxRecDepth 10000

/-- W: the world ahead of the draw; the flow lies in the block F. -/
structure FlSt (M : Nat) (W v : World) (bc : Nat) (ca : Option Addr) (cn cc p : Nat) (bs : List Int) (F : Nat) (pl : Int) (u : Value) (k : Nat) (cells : List Value) (s t : Int) : Prop where
  var : v.heap[F]? = some (.cells #[.int .i64 pl, u, .int .i64 s, .int .i64 t] 121 (0, 0))
  hF : W.heap.size ≤ F
  hc : bc < W.heap.size
  net : NetW M W.heap.size v u k cells
  farU : u.ownBlock ≠ some F
  farL : ∀ j a n c, j < 3 * k → cells[j]? = some (.slice a n c) → ∀ o, a = some o → o.block ≠ F
  cur : Cur v bc ca cn cc p
  was : RowB W ca cn bs
  apart : Apart ca cn bc
  kept : Kept bc W.heap.size W v

section
variable {M : Nat} {W v v' v2 X : World} {bc : Nat} {ca : Option Addr} {cn cc p p' : Nat} {bs : List Int} {F : Nat} {pl : Int} {u : Value} {k : Nat} {cells : List Value} {s t : Int}

theorem NetW.lt {B : Nat} (h : NetW M B v u k cells) {j : Nat} {a : Option Addr} {n c : Nat} (hj : j < 3 * k) (hc : cells[j]? = some (.slice a n c)) {o : Addr} (ho : a = some o) : B ≤ o.block ∧ o.block < v.heap.size := by
  obtain ⟨a', n', c', xs, e, _, hl, _⟩ := h.tris j hj
  rw [hc] at e
  obtain ⟨rfl, rfl, rfl⟩ : a = a' ∧ n = n' ∧ c = c' := by simpa using e
  exact hl.lt ho

/-- The flow's variable is made of the net that was grown. -/
theorem GrSt.flow {V : Nat} (h : GrSt W v bc ca cn cc p bs V pl u k cells) (s t : Int) : FlSt 20 W (v.alloc (.cells #[.int .i64 pl, u, .int .i64 s, .int .i64 t] 121)) bc ca cn cc p bs v.heap.size pl u k cells s t := by
  have hA := below_al v (.cells #[.int .i64 pl, u, .int .i64 s, .int .i64 t] 121)
  have hV := h.hV
  have hk := h.kept.size
  refine ⟨heap_alloc_new _ _, hk, h.hc, (h.net.low (by omega)).grow hA, fun e => ?_, fun j a n c hj hc o ho e => ?_, h.cur.below hA h.cur.lt, h.was, h.apart, h.kept.trans (Kept.of_below (hA.mono hk))⟩
  · have := h.net.own.lt _ e; omega
  · have := (h.net.lt hj hc ho).2; omega

theorem FlSt.wide {M' : Nat} (h : FlSt M W v bc ca cn cc p bs F pl u k cells s t) (hM : M ≤ M') : FlSt M' W v bc ca cn cc p bs F pl u k cells s t :=
  ⟨h.var, h.hF, h.hc, h.net.wide hM, h.farU, h.farL, h.cur, h.was, h.apart, h.kept⟩
theorem FlSt.lt (h : FlSt M W v bc ca cn cc p bs F pl u k cells s t) : F < v.heap.size := (Array.getElem?_eq_some_iff.mp h.var).1
theorem FlSt.bytes (h : FlSt M W v bc ca cn cc p bs F pl u k cells s t) : RowB v ca cn bs := h.was.kept h.kept h.apart

theorem FlSt.go (h : FlSt M W v bc ca cn cc p bs F pl u k cells s t) (hk : Kept bc v.heap.size v v') (hc : Cur v' bc ca cn cc p') : FlSt M W v' bc ca cn cc p' bs F pl u k cells s t := by
  have hlt := h.lt
  have hF := h.hF
  have hb := h.hc
  exact ⟨(hk.block F hlt (by omega)).trans h.var, hF, hb, h.net.kept hk (Nat.le_refl _) (by omega), h.farU, h.farL, hc, h.was, h.apart, h.kept.trans (hk.mono h.kept.size)⟩

theorem FlSt.grow (h : FlSt M W v bc ca cn cc p bs F pl u k cells s t) (hk : Below v.heap.size v v') : FlSt M W v' bc ca cn cc p bs F pl u k cells s t :=
  h.go (Kept.of_below hk) (h.cur.below hk h.cur.lt)

/-- Where only the block F is another one. -/
theorem NetW.farF {B : Nat} (h : NetW M B v u k cells) (hu : u.ownBlock ≠ some F) (hl : ∀ j a n c, j < 3 * k → cells[j]? = some (.slice a n c) → ∀ o, a = some o → o.block ≠ F) (hs : v.heap.size ≤ v'.heap.size) (hk : ∀ q, q ≠ F → v'.heap[q]? = v.heap[q]?) : NetW M B v' u k cells := by
  refine ⟨⟨h.own.1, ?_⟩, fun j hj => ?_⟩
  · rcases h.own.2 with hn | ⟨g, cp, cur, e, hg, hh, r⟩
    · exact .inl hn
    · refine .inr ⟨g, cp, cur, e, hg, (hk g fun e' => hu ?_).trans hh, r⟩
      rw [e, ← e']; rfl
  · obtain ⟨a, n, c, xs, e, hn, hl', hd⟩ := h.tris j hj
    exact ⟨a, n, c, xs, e, hn, hl'.keep hs fun g hg hlt ⟨o, ho, hog⟩ => hk g (fun e' => hl j a n c hj e o ho (hog.trans e')), hd⟩

theorem FlSt.setTo (h : FlSt M W v bc ca cn cc p bs F pl u k cells s t) (x : Int) : FlSt M W (v.setCell ⟨F, 3, none⟩ (.int .i64 x)) bc ca cn cc p bs F pl u k cells s x := by
  have hF := h.hF
  have hb := h.hc
  have hset : ∀ q, q ≠ F → (v.setCell ⟨F, 3, none⟩ (.int .i64 x)).heap[q]? = v.heap[q]? := fun q hq => Below.heap_setCell _ _ _ _ hq
  refine ⟨?_, hF, hb, h.net.farF h.farU h.farL (by simp [World.setCell]) hset, h.farU, h.farL, ?_, h.was, h.apart, h.kept.trans (Kept.of_below ((Below.refl _ v).setCell (p := ⟨F, 3, none⟩) hF _))⟩
  · rw [heap_setCell_same v F 3 _ _ _ h.var]; rfl
  · obtain ⟨q, hq⟩ := h.cur
    exact ⟨q, (hset bc (by omega)).trans hq⟩

/-- m transitions are appended. -/
theorem FlSt.append {m g cp : Nat} {news : List Value} (h : FlSt M W v bc ca cn cc p bs F pl u k cells s t) (hv2 : Below v.heap.size v v2)
    (hnew : ∀ j, j < 3 * m → ∃ a n c xs, news[j]? = some (.slice a n c) ∧ n ≤ M ∧ NewL v.heap.size v2 a n c xs)
    (hown : X.ownsRow W.heap.size 106 3 (.slice (some ⟨g, 0, none⟩) (k + m) cp) (k + m) (cells ++ news)) (hgr : v2.grownBy X u.ownBlock) (hl : u.ownBlock = some g ∨ g = v2.heap.size) :
    FlSt M W (X.setCell ⟨F, 1, none⟩ (.slice (some ⟨g, 0, none⟩) (k + m) cp)) bc ca cn cc p bs F pl (.slice (some ⟨g, 0, none⟩) (k + m) cp) (k + m) (cells ++ news) s t := by
  have hFl := h.lt
  have hF := h.hF
  have hb := h.hc
  have hbs := hv2.size
  have hkz := h.kept.size
  have hob : ∀ q, u.ownBlock = some q → W.heap.size ≤ q ∧ q < v.heap.size := h.net.own.lt
  have hcl : cells.length = 3 * k := by have := h.net.own.1; omega
  have hgF : g ≠ F := fun e => by
    rcases hl with hl | hl
    · exact h.farU (by rw [hl, e])
    · omega
  have N := (h.net.grow hv2).append (m := m) (fun j hj => by
    obtain ⟨a, n, c, xs, e, hn, hl⟩ := hnew j hj
    exact ⟨a, n, c, xs, e, hn, hl.mono (by omega), fun o ho e => by have := (hl.lt ho).1; have := hob _ e; omega⟩) hown hgr hl
  have fU : (Value.slice (some ⟨g, 0, none⟩) (k + m) cp).ownBlock ≠ some F := fun e => hgF (by simpa [Value.ownBlock] using e)
  have fL : ∀ j a n c, j < 3 * (k + m) → (cells ++ news)[j]? = some (.slice a n c) → ∀ o, a = some o → o.block ≠ F := by
    intro j a n c hj hc o ho e
    by_cases hjk : j < 3 * k
    · rw [List.getElem?_append_left (by omega)] at hc
      exact h.farL j a n c hjk hc o ho e
    · rw [List.getElem?_append_right (by omega), hcl] at hc
      obtain ⟨a', n', c', xs, e', _, hl'⟩ := hnew (j - 3 * k) (by omega)
      rw [hc] at e'
      obtain ⟨rfl, rfl, rfl⟩ : a = a' ∧ n = n' ∧ c = c' := by simpa using e'
      have := (hl'.lt ho).1
      omega
  have hset : ∀ q, q ≠ F → (X.setCell ⟨F, 1, none⟩ (.slice (some ⟨g, 0, none⟩) (k + m) cp)).heap[q]? = X.heap[q]? := fun q hq => Below.heap_setCell _ _ _ _ hq
  have hWs : X.heap.size ≤ (X.setCell ⟨F, 1, none⟩ (.slice (some ⟨g, 0, none⟩) (k + m) cp)).heap.size := by simp [World.setCell]
  have oldF : X.heap[F]? = v.heap[F]? := (hgr.block F (by omega) fun e => h.farU e.symm).trans (hv2.block F hFl)
  have oldc : X.heap[bc]? = v.heap[bc]? := (hgr.block bc (by omega) fun e => by have := hob bc e.symm; omega).trans (hv2.block bc (by omega))
  have hBel : Below W.heap.size v2 (X.setCell ⟨F, 1, none⟩ (.slice (some ⟨g, 0, none⟩) (k + m) cp)) := by
    refine Below.setCell (p := ⟨F, 1, none⟩) ?_ hF _
    exact (Below.refl W.heap.size v2).grown hgr (by omega) fun q hq => (hob q hq).1
  refine ⟨?_, hF, hb, N.farF fU fL hWs hset, fU, fL, ?_, h.was, h.apart, h.kept.trans (Kept.of_below ((hv2.mono (by omega)).trans hBel))⟩
  · rw [heap_setCell_same X F 1 _ _ _ (oldF.trans h.var)]; rfl
  · obtain ⟨q, hq⟩ := h.cur
    exact ⟨q, (hset bc (by omega)).trans (oldc.trans hq)⟩

/-- A list of a transition is set. -/
theorem FlSt.set {g cp j n c : Nat} {a : Option Addr} {xs : List Int} (h : FlSt M W v bc ca cn cc p bs F pl (.slice (some ⟨g, 0, none⟩) k cp) k cells s t) (hj : j < 3 * k) (hn : NewL W.heap.size v a n c xs) (hn2 : n ≤ M) (hd : ∀ o, a = some o → o.block ≠ g ∧ o.block ≠ F) :
    FlSt M W (v.setCell ⟨g, j, none⟩ (.slice a n c)) bc ca cn cc p bs F pl (.slice (some ⟨g, 0, none⟩) k cp) k (cells.set j (.slice a n c)) s t := by
  have hF := h.hF
  have hb := h.hc
  have hg : W.heap.size ≤ g ∧ g < v.heap.size := h.net.own.lt g rfl
  have hgF : g ≠ F := fun e => h.farU (by rw [e]; rfl)
  have hset : ∀ q, q ≠ g → (v.setCell ⟨g, j, none⟩ (.slice a n c)).heap[q]? = v.heap[q]? := fun q hq => Below.heap_setCell _ _ _ _ hq
  refine ⟨(hset F (fun e => hgF e.symm)).trans h.var, hF, hb, h.net.set hj hn hn2 fun o ho => (hd o ho).1, h.farU, fun i a' n' c' hi hc o ho => ?_, ?_, h.was, h.apart, h.kept.trans (Kept.of_below ((Below.refl _ v).setCell (p := ⟨g, j, none⟩) hg.1 _))⟩
  · by_cases hij : i = j
    · subst hij
      have hcl : cells.length = 3 * k := by have := h.net.own.1; omega
      rw [List.getElem?_set_self (by omega)] at hc
      obtain ⟨rfl, rfl, rfl⟩ : a = a' ∧ n = n' ∧ c = c' := by simpa using hc
      exact (hd o ho).2
    · rw [List.getElem?_set_ne (fun e => hij e.symm)] at hc
      exact h.farL i a' n' c' hi hc o ho
  · obtain ⟨q, hq⟩ := h.cur
    exact ⟨q, (hset bc (by omega)).trans hq⟩

theorem FlSt.cells4 (h : FlSt M W v bc ca cn cc p bs F pl u k cells s t) : v.cell? ⟨F, 0, none⟩ = some (.int .i64 pl) ∧ v.cell? ⟨F, 1, none⟩ = some u ∧ v.cell? ⟨F, 2, none⟩ = some (.int .i64 s) ∧ v.cell? ⟨F, 3, none⟩ = some (.int .i64 t) :=
  ⟨cell_of_row v F 0 _ _ _ h.var, cell_of_row v F 1 _ _ _ h.var, cell_of_row v F 2 _ _ _ h.var, cell_of_row v F 3 _ _ _ h.var⟩

/-- What the transition's list is. -/
theorem FlSt.list {g cp j : Nat} (h : FlSt M W v bc ca cn cc p bs F pl (.slice (some ⟨g, 0, none⟩) k cp) k cells s t) (hj : j < 3 * k) : ∃ a n c xs, v.cell? ⟨g, j, none⟩ = some (.slice a n c) ∧ v.frozen? ⟨g, j, none⟩ = false ∧ n ≤ M ∧ NewL W.heap.size v a n c xs ∧ ∀ o, a = some o → o.block ≠ g ∧ o.block ≠ F := by
  obtain ⟨a, n, c, xs, e, hn, hl, hd⟩ := h.net.tris j hj
  rcases h.net.own.2 with ⟨e1, _⟩ | ⟨g', cp', cur, e1, hg, hh, r1, r2, r3, r4⟩
  · simp at e1
  · obtain ⟨rfl, rfl⟩ : g = g' ∧ cp = cp' := by simpa using e1
    refine ⟨a, n, c, xs, ?_, frozen_of_row v g j _ _ hh, hn, hl, fun o ho => ⟨fun e2 => hd o ho (by rw [e2]; rfl), h.farL j a n c hj e o ho⟩⟩
    rw [cell_of_row v g j cur _ _ hh]
    have e2 : (cur.toList.take (k * 3))[j]? = cells[j]? := by rw [r4]
    rw [List.getElem?_take_of_lt (by omega), Array.getElem?_toList] at e2
    rw [e2, e]
end
end Go.Proofs.Ytajcmamapmeglaa
