/- What the specification's TurnNet keeps in mind while it appends to the turned net. -/
import Derived.Test.YtbobppcnmpiacaaLo
import Derived.Test.YtbobppcnmpiacaaTu
import Derived.Deep.AppendLies
import Derived.Deep.RegionLaw
namespace Go.Proofs.Ytbobppcnmpiacaa
open Go.RowKit

theorem Ob.moved {w w' : World} {a : Option Addr} {b n : Nat} {xs : List Int} (h : Ob w a b n xs) (hh : xs ≠ [] → w'.heap[b]? = w.heap[b]?) : Ob w' a b n xs := by
  rcases h with ⟨h1, h0 | ⟨e, cur, q1, q2, q3⟩⟩
  · exact ⟨h1, .inl h0⟩
  · by_cases hx : xs = []
    · subst hx; exact ⟨h1, .inl (by rw [← h1]; rfl)⟩
    · exact ⟨h1, .inr ⟨e, cur, (hh hx).trans q1, q2, q3⟩⟩

theorem Ob.lt {w : World} {a : Option Addr} {b m : Nat} {X : List Int} (ho : Ob w a b m X) (hx : X ≠ []) : b < w.heap.size := by
  rcases ho with ⟨q, h0 | ⟨_, cur, hh, _⟩⟩
  · exact absurd (List.length_eq_zero_iff.mp (q.trans h0)) hx
  · exact (Array.getElem?_eq_some_iff.mp hh).1

structure SpInv (w3 wr : World) (V : Nat) (p : Int) (k : Nat) (L : List (List Int)) (v : Value) (cells : List Value) : Prop where
  var : wr.heap[V]? = some (.cells #[.int .i64 p, v] 26 (0, 0))
  hV : w3.heap.size = V
  bel : Below w3.heap.size w3 wr
  own : wr.ownsRow (V + 1) 39 3 v k cells
  tris : ∃ (A : Nat → Option Addr) (f cap : Nat → Nat), ∀ j, j < 3 * k → cells[j]? = some (.slice (A j) (turnF L k j).length (cap j)) ∧ Ob wr (A j) (f j) (turnF L k j).length (turnF L k j) ∧ (turnF L k j ≠ [] → f j < wr.heap.size ∧ V < f j ∧ v.ownBlock ≠ some (f j))

theorem SpInv.lt {w3 wr : World} {V : Nat} {p : Int} {k : Nat} {L : List (List Int)} {v : Value} {cells : List Value} (h : SpInv w3 wr V p k L v cells) : V < wr.heap.size := (Array.getElem?_eq_some_iff.mp h.var).1

theorem SpInv.grow {w3 wr w' : World} {V : Nat} {p : Int} {k : Nat} {L : List (List Int)} {v : Value} {cells : List Value} (h : SpInv w3 wr V p k L v cells) (hb : Below wr.heap.size wr w') : SpInv w3 w' V p k L v cells := by
  obtain ⟨A, f, cap, ht⟩ := h.tris
  refine ⟨(hb.block V h.lt).trans h.var, h.hV, h.bel.trans (hb.mono h.bel.size), ?_, A, f, cap, fun j hj => ?_⟩
  · refine ⟨h.own.1, ?_⟩
    rcases h.own.2 with hn | ⟨g, cp, cur, e, hg, hh, r⟩
    · exact .inl hn
    · exact .inr ⟨g, cp, cur, e, hg, (hb.block g (Array.getElem?_eq_some_iff.mp hh).1).trans hh, r⟩
  · obtain ⟨q1, q2, q3⟩ := ht j hj
    exact ⟨q1, q2.grow hb, fun hx => ⟨by have := (q3 hx).1; have := hb.size; omega, (q3 hx).2⟩⟩

theorem SpInv.step {w3 wr v1 v2 v3 W : World} {V : Nat} {p : Int} {k : Nat} {L : List (List Int)} {v : Value} {cells : List Value} (h : SpInv w3 wr V p k L v cells) {a1 a2 : Option Addr} {b1 b2 m1 m2 c1 c2 g cp : Nat} {X1 X2 : List Int}
    (hb1 : Below wr.heap.size wr v1) (g1 : wr.heap.size ≤ b1) (o1 : Ob v1 a1 b1 m1 X1) (hb2 : Below v1.heap.size v1 v2) (g2 : v1.heap.size ≤ b2) (o2 : Ob v2 a2 b2 m2 X2) (hb3 : Below v2.heap.size v2 v3)
    (e1 : X1 = L.getD (3 * k + 1) []) (e2 : X2 = L.getD (3 * k) [])
    (hown : W.ownsRow (V + 1) 39 3 (.slice (some ⟨g, 0, none⟩) (k + 1) cp) (k + 1) (cells ++ [.slice a1 m1 c1, .slice a2 m2 c2, .slice none 0 0])) (hgr : v3.grownBy W v.ownBlock) (hl : v.ownBlock = some g ∨ g = v3.heap.size) :
    SpInv w3 (W.setCell ⟨V, 1, none⟩ (.slice (some ⟨g, 0, none⟩) (k + 1) cp)) V p (k + 1) L (.slice (some ⟨g, 0, none⟩) (k + 1) cp) (cells ++ [.slice a1 m1 c1, .slice a2 m2 c2, .slice none 0 0]) := by
  have hV := h.lt
  have s1 := hb1.size
  have s2 := hb2.size
  have s3 := hb3.size
  have hg3 := ((h.grow hb1).grow hb2).grow hb3
  have hob : ∀ q, v.ownBlock = some q → V + 1 ≤ q ∧ q < wr.heap.size := h.own.lt
  have hVo : some V ≠ v.ownBlock := fun e => by have := hob V e.symm; omega
  have hWV : W.heap[V]? = some (.cells #[.int .i64 p, v] 26 (0, 0)) := (hgr.block V hg3.lt hVo).trans hg3.var
  have hset : ∀ q, q ≠ V → (W.setCell ⟨V, 1, none⟩ (.slice (some ⟨g, 0, none⟩) (k + 1) cp)).heap[q]? = W.heap[q]? := fun q hq => Below.heap_setCell _ _ _ _ hq
  have hcl : cells.length = 3 * k := by have := h.own.1; omega
  have hWs : (W.setCell ⟨V, 1, none⟩ (.slice (some ⟨g, 0, none⟩) (k + 1) cp)).heap.size = W.heap.size := by simp [World.setCell]
  have hgs := hgr.size
  obtain ⟨A, f, cap, ht⟩ := h.tris
  refine ⟨?_, h.hV, ?_, ?_, fun j => if j = 3 * k then a1 else if j = 3 * k + 1 then a2 else if j = 3 * k + 2 then none else A j, fun j => if j = 3 * k then b1 else if j = 3 * k + 1 then b2 else f j, fun j => if j = 3 * k then c1 else if j = 3 * k + 1 then c2 else if j = 3 * k + 2 then 0 else cap j, fun j hj => ?_⟩
  · rw [heap_setCell_same _ _ _ _ _ _ hWV]; rfl
  · refine Below.setCell (p := ⟨V, 1, none⟩) ?_ (by have := h.hV; show _ ≤ V; omega) _
    refine hg3.bel.grown hgr hg3.bel.size fun q hq => ?_
    have := hob q hq; have := h.hV; omega
  · refine ⟨hown.1, ?_⟩
    rcases hown.2 with hn | ⟨g', cp', cur, e, hg, hh, r⟩
    · exact .inl hn
    · exact .inr ⟨g', cp', cur, e, hg, (hset g' (by omega)).trans hh, r⟩
  · have hnew : ∀ {b : Nat}, wr.heap.size ≤ b → b < v3.heap.size → some b ≠ v.ownBlock ∧ b ≠ g := by
      intro b hb hb'
      refine ⟨fun e => by have := hob b e.symm; omega, fun e => ?_⟩
      rcases hl with hl | hl
      · have := hob g hl; omega
      · omega
    by_cases j0 : j = 3 * k
    · subst j0
      simp only [if_true]
      rw [turnF_0, ← e1, o1.1]
      refine ⟨by rw [List.getElem?_append_right (by omega), hcl]; simp, ?_, fun hx => ?_⟩
      · refine ((o1.grow hb2).grow hb3).moved fun hx => ?_
        have hlt := o1.lt hx
        obtain ⟨n1, n2⟩ := hnew g1 (show b1 < v3.heap.size by omega)
        rw [hset b1 (by omega)]
        exact hgr.block b1 (by omega) n1
      · have hlt := o1.lt hx
        obtain ⟨n1, n2⟩ := hnew g1 (show b1 < v3.heap.size by omega)
        exact ⟨by omega, by omega, fun e => n2 (by simpa [Value.ownBlock] using e.symm)⟩
    · by_cases j1 : j = 3 * k + 1
      · subst j1
        simp only [if_neg j0, if_true]
        rw [turnF_1, ← e2, o2.1]
        refine ⟨by rw [List.getElem?_append_right (by omega), hcl]; simp [show 3 * k + 1 - 3 * k = 1 by omega], ?_, fun hx => ?_⟩
        · refine (o2.grow hb3).moved fun hx => ?_
          have hlt := o2.lt hx
          obtain ⟨n1, n2⟩ := hnew (show wr.heap.size ≤ b2 by omega) (show b2 < v3.heap.size by omega)
          rw [hset b2 (by omega)]
          exact hgr.block b2 (by omega) n1
        · have hlt := o2.lt hx
          obtain ⟨n1, n2⟩ := hnew (show wr.heap.size ≤ b2 by omega) (show b2 < v3.heap.size by omega)
          exact ⟨by omega, by omega, fun e => n2 (by simpa [Value.ownBlock] using e.symm)⟩
      · by_cases j2 : j = 3 * k + 2
        · subst j2
          simp only [if_neg j0, if_neg j1, if_true]
          rw [turnF_2]
          exact ⟨by rw [List.getElem?_append_right (by omega), hcl]; simp [show 3 * k + 2 - 3 * k = 2 by omega], ⟨rfl, .inl rfl⟩, fun hx => absurd rfl hx⟩
        · simp only [if_neg j0, if_neg j1, if_neg j2]
          have hlt : j < 3 * k := by omega
          obtain ⟨q1, q2, q3⟩ := ht j hlt
          rw [turnF_old hlt]
          refine ⟨by rw [List.getElem?_append_left (by omega)]; exact q1, ?_, fun hx => ?_⟩
          · refine (((q2.grow hb1).grow hb2).grow hb3).moved fun hx => ?_
            obtain ⟨r1, r2, r3⟩ := q3 hx
            rw [hset (f j) (by omega)]
            exact hgr.block (f j) (by omega) (fun e => r3 e.symm)
          · obtain ⟨r1, r2, r3⟩ := q3 hx
            refine ⟨by omega, r2, fun e => ?_⟩
            have e' : g = f j := by simpa [Value.ownBlock] using e
            rcases hl with hl | hl
            · rw [e'] at hl; exact r3 hl
            · omega

/-- At the end: a net that can be read. -/
theorem SpInv.lists_low {w3 wr w' : World} {V : Nat} {p : Int} {n : Nat} {L : List (List Int)} {v : Value} {cells : List Value} (h : SpInv w3 wr V p n L v cells) (hs : sizeN n (turnL n L) ≤ 1048576) (hk : ∀ q, V ≤ q → w'.heap[q]? = wr.heap[q]?) : ∃ a c, v = .slice a n c ∧ Lists w' a (3 * n) (turnL n L) := by
  obtain ⟨A, f, cap, ht⟩ := h.tris
  have hcl : cells.length = 3 * n := by have := h.own.1; omega
  rcases h.own.2 with ⟨e, h0⟩ | ⟨g, cp, cur, e, hg, hh, _, _, hsz, htk⟩
  · subst h0
    exact ⟨none, 0, e, turnL_len 0 L, .inl rfl⟩
  · have hh' := (hk g (by omega)).trans hh
    refine ⟨_, cp, e, turnL_len n L, .inr ⟨g, 0, rfl, (Array.getElem?_eq_some_iff.mp hh').1, fun j hj => ?_⟩⟩
    obtain ⟨q1, q2, q3⟩ := ht j hj
    have hget : (turnL n L).getD j [] = turnF L n j := congrFun (turnL_get n L) j
    have hlen := len_le (turnL n L) j
    refine ⟨A j, (turnF L n j).length, cap j, ?_, ?_, by rw [hget]; exact (q2.moved fun hx => hk _ (by have := (q3 hx).2.1; omega)).row⟩
    · rw [cell_of_row w' g (0 + j) cur _ _ hh', Nat.zero_add]
      have e2 : (cur.toList.take (n * 3))[j]? = cells[j]? := by rw [htk]
      rw [List.getElem?_take_of_lt (by omega), Array.getElem?_toList] at e2
      rw [e2, q1]
    · rw [hget] at hlen
      unfold sizeN at hs; unfold maxLen; omega

theorem SpInv.lists {w3 wr : World} {V : Nat} {p : Int} {n : Nat} {L : List (List Int)} {v : Value} {cells : List Value} (h : SpInv w3 wr V p n L v cells) (hs : sizeN n (turnL n L) ≤ 1048576) : ∃ a c, v = .slice a n c ∧ Lists wr a (3 * n) (turnL n L) := h.lists_low hs fun _ _ => rfl
end Go.Proofs.Ytbobppcnmpiacaa
