/- Contracts that the proof stands on, one behind the other. -/
import Derived.Test.YtakenobplljkbaaP4
import Derived.Deep.AppendLies
import Derived.Deep.RegionLaw
/- What the specification's TurnNet keeps in mind while it appends to the turned net. -/
namespace Go.Proofs.Ytakenobplljkbaa
open Go.RowKit

theorem Ob.moved {w w' : World} {a : Option Addr} {b n : Nat} {xs : List Int} (h : Ob w a b n xs) (hh : xs ≠ [] → w'.heap[b]? = w.heap[b]?) : Ob w' a b n xs := by
  rcases h with ⟨h1, h0 | ⟨e, cur, q1, q2, q3⟩⟩
  · exact ⟨h1, .inl h0⟩
  · by_cases hx : xs = []
    · subst hx; exact ⟨h1, .inl (by rw [← h1]; rfl)⟩
    · exact ⟨h1, .inr ⟨e, cur, (hh hx).trans q1, q2, q3⟩⟩

theorem Ob.lt {w : World} {a : Option Addr} {b m : Nat} {X : List Int} (ho : Ob w a b m X) (hx : X ≠ []) : b < w.heap.size := by
  rcases ho with ⟨q, h0 | ⟨_, cur, hh, _⟩⟩
  · exact absurd (List.length_eq_zero_iff.mp (q.trans h0)) hx
  · exact (Array.getElem?_eq_some_iff.mp hh).1

structure SpInv (w3 wr : World) (V : Nat) (p : Int) (k : Nat) (L : List (List Int)) (v : Value) (cells : List Value) : Prop where
  var : wr.heap[V]? = some (.cells #[.int .i64 p, v] 28 (0, 0))
  hV : w3.heap.size = V
  bel : Below w3.heap.size w3 wr
  own : wr.ownsRow (V + 1) 50 3 v k cells
  tris : ∃ (A : Nat → Option Addr) (f cap : Nat → Nat), ∀ j, j < 3 * k → cells[j]? = some (.slice (A j) (turnF L k j).length (cap j)) ∧ Ob wr (A j) (f j) (turnF L k j).length (turnF L k j) ∧ (turnF L k j ≠ [] → f j < wr.heap.size ∧ V < f j ∧ v.ownBlock ≠ some (f j))

theorem SpInv.lt {w3 wr : World} {V : Nat} {p : Int} {k : Nat} {L : List (List Int)} {v : Value} {cells : List Value} (h : SpInv w3 wr V p k L v cells) : V < wr.heap.size := (Array.getElem?_eq_some_iff.mp h.var).1

theorem SpInv.grow {w3 wr w' : World} {V : Nat} {p : Int} {k : Nat} {L : List (List Int)} {v : Value} {cells : List Value} (h : SpInv w3 wr V p k L v cells) (hb : Below wr.heap.size wr w') : SpInv w3 w' V p k L v cells := by
  obtain ⟨A, f, cap, ht⟩ := h.tris
  refine ⟨(hb.block V h.lt).trans h.var, h.hV, h.bel.trans (hb.mono h.bel.size), ?_, A, f, cap, fun j hj => ?_⟩
  · refine ⟨h.own.1, ?_⟩
    rcases h.own.2 with hn | ⟨g, cp, cur, e, hg, hh, r⟩
    · exact .inl hn
    · exact .inr ⟨g, cp, cur, e, hg, (hb.block g (Array.getElem?_eq_some_iff.mp hh).1).trans hh, r⟩
  · obtain ⟨q1, q2, q3⟩ := ht j hj
    exact ⟨q1, q2.grow hb, fun hx => ⟨by have := (q3 hx).1; have := hb.size; omega, (q3 hx).2⟩⟩

theorem SpInv.step {w3 wr v1 v2 v3 W : World} {V : Nat} {p : Int} {k : Nat} {L : List (List Int)} {v : Value} {cells : List Value} (h : SpInv w3 wr V p k L v cells) {a1 a2 : Option Addr} {b1 b2 m1 m2 c1 c2 g cp : Nat} {X1 X2 : List Int}
    (hb1 : Below wr.heap.size wr v1) (g1 : wr.heap.size ≤ b1) (o1 : Ob v1 a1 b1 m1 X1) (hb2 : Below v1.heap.size v1 v2) (g2 : v1.heap.size ≤ b2) (o2 : Ob v2 a2 b2 m2 X2) (hb3 : Below v2.heap.size v2 v3)
    (e1 : X1 = L.getD (3 * k + 1) []) (e2 : X2 = L.getD (3 * k) [])
    (hown : W.ownsRow (V + 1) 50 3 (.slice (some ⟨g, 0, none⟩) (k + 1) cp) (k + 1) (cells ++ [.slice a1 m1 c1, .slice a2 m2 c2, .slice none 0 0])) (hgr : v3.grownBy W v.ownBlock) (hl : v.ownBlock = some g ∨ g = v3.heap.size) :
    SpInv w3 (W.setCell ⟨V, 1, none⟩ (.slice (some ⟨g, 0, none⟩) (k + 1) cp)) V p (k + 1) L (.slice (some ⟨g, 0, none⟩) (k + 1) cp) (cells ++ [.slice a1 m1 c1, .slice a2 m2 c2, .slice none 0 0]) := by
  have hV := h.lt
  have s1 := hb1.size
  have s2 := hb2.size
  have s3 := hb3.size
  have hg3 := ((h.grow hb1).grow hb2).grow hb3
  have hob : ∀ q, v.ownBlock = some q → V + 1 ≤ q ∧ q < wr.heap.size := h.own.lt
  have hVo : some V ≠ v.ownBlock := fun e => by have := hob V e.symm; omega
  have hWV : W.heap[V]? = some (.cells #[.int .i64 p, v] 28 (0, 0)) := (hgr.block V hg3.lt hVo).trans hg3.var
  have hset : ∀ q, q ≠ V → (W.setCell ⟨V, 1, none⟩ (.slice (some ⟨g, 0, none⟩) (k + 1) cp)).heap[q]? = W.heap[q]? := fun q hq => Below.heap_setCell _ _ _ _ hq
  have hcl : cells.length = 3 * k := by have := h.own.1; omega
  have hWs : (W.setCell ⟨V, 1, none⟩ (.slice (some ⟨g, 0, none⟩) (k + 1) cp)).heap.size = W.heap.size := by simp [World.setCell]
  have hgs := hgr.size
  obtain ⟨A, f, cap, ht⟩ := h.tris
  refine ⟨?_, h.hV, ?_, ?_, fun j => if j = 3 * k then a1 else if j = 3 * k + 1 then a2 else if j = 3 * k + 2 then none else A j, fun j => if j = 3 * k then b1 else if j = 3 * k + 1 then b2 else f j, fun j => if j = 3 * k then c1 else if j = 3 * k + 1 then c2 else if j = 3 * k + 2 then 0 else cap j, fun j hj => ?_⟩
  · rw [heap_setCell_same _ _ _ _ _ _ hWV]; rfl
  · refine Below.setCell (p := ⟨V, 1, none⟩) ?_ (by have := h.hV; show _ ≤ V; omega) _
    refine hg3.bel.grown hgr hg3.bel.size fun q hq => ?_
    have := hob q hq; have := h.hV; omega
  · refine ⟨hown.1, ?_⟩
    rcases hown.2 with hn | ⟨g', cp', cur, e, hg, hh, r⟩
    · exact .inl hn
    · exact .inr ⟨g', cp', cur, e, hg, (hset g' (by omega)).trans hh, r⟩
  · have hnew : ∀ {b : Nat}, wr.heap.size ≤ b → b < v3.heap.size → some b ≠ v.ownBlock ∧ b ≠ g := by
      intro b hb hb'
      refine ⟨fun e => by have := hob b e.symm; omega, fun e => ?_⟩
      rcases hl with hl | hl
      · have := hob g hl; omega
      · omega
    by_cases j0 : j = 3 * k
    · subst j0
      simp only [if_true]
      rw [turnF_0, ← e1, o1.1]
      refine ⟨by rw [List.getElem?_append_right (by omega), hcl]; simp, ?_, fun hx => ?_⟩
      · refine ((o1.grow hb2).grow hb3).moved fun hx => ?_
        have hlt := o1.lt hx
        obtain ⟨n1, n2⟩ := hnew g1 (show b1 < v3.heap.size by omega)
        rw [hset b1 (by omega)]
        exact hgr.block b1 (by omega) n1
      · have hlt := o1.lt hx
        obtain ⟨n1, n2⟩ := hnew g1 (show b1 < v3.heap.size by omega)
        exact ⟨by omega, by omega, fun e => n2 (by simpa [Value.ownBlock] using e.symm)⟩
    · by_cases j1 : j = 3 * k + 1
      · subst j1
        simp only [if_neg j0, if_true]
        rw [turnF_1, ← e2, o2.1]
        refine ⟨by rw [List.getElem?_append_right (by omega), hcl]; simp [show 3 * k + 1 - 3 * k = 1 by omega], ?_, fun hx => ?_⟩
        · refine (o2.grow hb3).moved fun hx => ?_
          have hlt := o2.lt hx
          obtain ⟨n1, n2⟩ := hnew (show wr.heap.size ≤ b2 by omega) (show b2 < v3.heap.size by omega)
          rw [hset b2 (by omega)]
          exact hgr.block b2 (by omega) n1
        · have hlt := o2.lt hx
          obtain ⟨n1, n2⟩ := hnew (show wr.heap.size ≤ b2 by omega) (show b2 < v3.heap.size by omega)
          exact ⟨by omega, by omega, fun e => n2 (by simpa [Value.ownBlock] using e.symm)⟩
      · by_cases j2 : j = 3 * k + 2
        · subst j2
          simp only [if_neg j0, if_neg j1, if_true]
          rw [turnF_2]
          exact ⟨by rw [List.getElem?_append_right (by omega), hcl]; simp [show 3 * k + 2 - 3 * k = 2 by omega], ⟨rfl, .inl rfl⟩, fun hx => absurd rfl hx⟩
        · simp only [if_neg j0, if_neg j1, if_neg j2]
          have hlt : j < 3 * k := by omega
          obtain ⟨q1, q2, q3⟩ := ht j hlt
          rw [turnF_old hlt]
          refine ⟨by rw [List.getElem?_append_left (by omega)]; exact q1, ?_, fun hx => ?_⟩
          · refine (((q2.grow hb1).grow hb2).grow hb3).moved fun hx => ?_
            obtain ⟨r1, r2, r3⟩ := q3 hx
            rw [hset (f j) (by omega)]
            exact hgr.block (f j) (by omega) (fun e => r3 e.symm)
          · obtain ⟨r1, r2, r3⟩ := q3 hx
            refine ⟨by omega, r2, fun e => ?_⟩
            have e' : g = f j := by simpa [Value.ownBlock] using e
            rcases hl with hl | hl
            · rw [e'] at hl; exact r3 hl
            · omega

/-- At the end: a net that can be read. -/
theorem SpInv.lists_low {w3 wr w' : World} {V : Nat} {p : Int} {n : Nat} {L : List (List Int)} {v : Value} {cells : List Value} (h : SpInv w3 wr V p n L v cells) (hs : sizeN n (turnL n L) ≤ 1048576) (hk : ∀ q, V ≤ q → w'.heap[q]? = wr.heap[q]?) : ∃ a c, v = .slice a n c ∧ Lists w' a (3 * n) (turnL n L) := by
  obtain ⟨A, f, cap, ht⟩ := h.tris
  have hcl : cells.length = 3 * n := by have := h.own.1; omega
  rcases h.own.2 with ⟨e, h0⟩ | ⟨g, cp, cur, e, hg, hh, _, _, hsz, htk⟩
  · subst h0
    exact ⟨none, 0, e, turnL_len 0 L, .inl rfl⟩
  · have hh' := (hk g (by omega)).trans hh
    refine ⟨_, cp, e, turnL_len n L, .inr ⟨g, 0, rfl, (Array.getElem?_eq_some_iff.mp hh').1, fun j hj => ?_⟩⟩
    obtain ⟨q1, q2, q3⟩ := ht j hj
    have hget : (turnL n L).getD j [] = turnF L n j := congrFun (turnL_get n L) j
    have hlen := len_le (turnL n L) j
    refine ⟨A j, (turnF L n j).length, cap j, ?_, ?_, by rw [hget]; exact (q2.moved fun hx => hk _ (by have := (q3 hx).2.1; omega)).row⟩
    · rw [cell_of_row w' g (0 + j) cur _ _ hh', Nat.zero_add]
      have e2 : (cur.toList.take (n * 3))[j]? = cells[j]? := by rw [htk]
      rw [List.getElem?_take_of_lt (by omega), Array.getElem?_toList] at e2
      rw [e2, q1]
    · rw [hget] at hlen
      unfold sizeN at hs; unfold maxLen; omega

theorem SpInv.lists {w3 wr : World} {V : Nat} {p : Int} {n : Nat} {L : List (List Int)} {v : Value} {cells : List Value} (h : SpInv w3 wr V p n L v cells) (hs : sizeN n (turnL n L) ≤ 1048576) : ∃ a c, v = .slice a n c ∧ Lists wr a (3 * n) (turnL n L) := h.lists_low hs fun _ _ => rfl
end Go.Proofs.Ytakenobplljkbaa


/- TurnNet of the specification. -/
namespace Go.Proofs.Ytakenobplljkbaa
open Go.RowKit

/-- A transition of a net that the law made, its two lists. -/
theorem PartF.tri {w : World} {B hi n : Nat} {L : List (List Int)} (h : PartF w B hi (3 * n) 50 (fun j => L.getD j [])) {k : Nat} (hk : k < n) :
    ∃ d0 d1 d2 l0 l1 l2, w.cell? ⟨B, k * 3, none⟩ = some (.slice (some ⟨d0, 0, none⟩) l0 l0) ∧ w.cell? ⟨B, k * 3 + 1, none⟩ = some (.slice (some ⟨d1, 0, none⟩) l1 l1) ∧ w.cell? ⟨B, k * 3 + 2, none⟩ = some (.slice (some ⟨d2, 0, none⟩) l2 l2) ∧
      Hid (Row w (some ⟨d0, 0, none⟩) l0 (L.getD (3 * k) [])) ∧ Hid (Row w (some ⟨d1, 0, none⟩) l1 (L.getD (3 * k + 1) [])) := by
  obtain ⟨d0, c0, _, _, r0, _⟩ := h.one (show 3 * k < 3 * n by omega)
  obtain ⟨d1, c1, _, _, r1, _⟩ := h.one (show 3 * k + 1 < 3 * n by omega)
  obtain ⟨d2, c2, _, _, r2, _⟩ := h.one (show 3 * k + 2 < 3 * n by omega)
  have hm : 3 * k = k * 3 := Nat.mul_comm _ _
  exact ⟨d0, d1, d2, (L.getD (3 * k) []).length, (L.getD (3 * k + 1) []).length, (L.getD (3 * k + 2) []).length, hm ▸ c0, hm ▸ c1, hm ▸ c2, r0.row, r1.row⟩

theorem run_callh {P : Program} {o : Oper} {a : Act} {w : World} (f : FuncId) (fn : Func) (xs : Array Operand) (ts : Array TypeId) (hop : o.op = Op.call { callee := Callee.value (Operand.func f), args := xs, argTypes := ts })
    (hfn : P.funcs[f]? = some fn) (hnm : (fn.name == "runtime.NumGoroutine") = false) (hbd : fn.body.isNone = false) : (execOp a.eval o).run P w = .ok (.enter f (xs.map a.eval)) w := by
  have hnm' : ¬ fn.name = "runtime.NumGoroutine" := by simpa using hnm
  have hbd' : ¬ fn.body = none := by intro e; rw [e] at hbd; simp at hbd
  unfold execOp
  simp only [hop]
  simp [resolve, invoke, go_sem, Act.eval, callFunc, hfn, hnm', hbd']

theorem maph1 (g : Operand → Value) (x : Operand) (v : Value) (h : g x = v) : (#[x] : Array Operand).map g = #[v] := by simp [h]

/-- A call as one step of a region that draws its order. -/
theorem step_callE {P : Program} {ops : Array Oper} {o : Oper} {a : Act} {w : World} {K : Act → World → Prop} {Q : Exit → Act → World → Prop} {E : Prop}
    (hg : o.guard = none) (f : FuncId) (fn : Func) (xs : Array Operand) (ts : Array TypeId) (hop : o.op = Op.call { callee := Callee.value (Operand.func f), args := xs, argTypes := ts })
    (hfn : P.funcs[f]? = some fn) (hnm : (fn.name == "runtime.NumGoroutine") = false) (hbd : fn.body.isNone = false) (args : Array Value) (hargs : xs.map a.eval = args) (R : Ending → World → Prop) (hc : Calls P f args w R)
    (h : ∀ e w', R e w' → ∃ v, e = .returned v ∧ K (a.put o.dst v) w') :
    if Region.wanted o (yielded ops a.tmps) = true then Oper.wp P o a w K Q else E := by
  have hw : Region.wanted o (yielded ops a.tmps) = true := by simp [Region.wanted, hg]
  rw [if_pos hw]
  unfold Oper.wp
  rw [run_callh f fn xs ts hop hfn hnm hbd, hargs, Oper.upon_enter]
  refine hc.mono fun e w'' hh => ?_
  obtain ⟨v, rfl, hk⟩ := h e w'' hh
  exact hk

theorem news3 (w : World) (x y z : Value) : ∀ j u, ([x, y, z] : List Value)[j]? = some u → (w.alloc (.cells #[x, y, z] 50)).cell? ((⟨w.heap.size, 0, none⟩ : Addr).add j) = some u := by
  intro j u hu
  rw [Addr.add_mid, cell_of_row _ w.heap.size (0 + j) #[x, y, z] _ _ (heap_alloc_new _ _), Nat.zero_add]
  simpa using hu

/-- How it ends: the net can be read. -/
def SpEnd (g : Bool) (p : Int) (n : Nat) (L : List (List Int)) (w : World) (e : Ending) (w' : World) : Prop :=
  ∃ a c, e = .returned (.tuple #[.agg #[.int .i64 (if g then p else 0), .slice a (if g then n else 0) c], .bool g]) ∧ (g = true → Lists w' a (3 * n) (turnL n L)) ∧ Below w.heap.size w w'

theorem spEnd_no {p : Int} {n : Nat} {L : List (List Int)} {w w' : World} (hb : Below w.heap.size w w') : SpEnd false p n L w (.returned (.tuple #[.agg #[.int .i64 0, .slice none 0 0], .bool false])) w' :=
  ⟨none, 0, rfl, fun h => by simp at h, hb⟩
theorem spEnd_yes {p : Int} {n : Nat} {L : List (List Int)} {w w' : World} {a : Option Addr} {c : Nat} (hl : Lists w' a (3 * n) (turnL n L)) (hb : Below w.heap.size w w') : SpEnd true p n L w (.returned (.tuple #[.agg #[.int .i64 p, .slice a n c], .bool true])) w' :=
  ⟨a, c, rfl, fun _ => hl, hb⟩

theorem SpInv.first (w3 : World) (p : Int) (L : List (List Int)) : SpInv w3 (w3.alloc (.cells #[.int .i64 p, .slice none 0 0] 28)) w3.heap.size p 0 L (.slice none 0 0) [] :=
  ⟨heap_alloc_new _ _, rfl, below_al _ _, ⟨rfl, .inl ⟨rfl, rfl⟩⟩, fun _ => none, fun _ => 0, fun _ => 0, fun j hj => absurd hj (by omega)⟩

set_option maxHeartbeats 8000000 in
theorem turnS_any (p : Int) (B hi n c : Nat) (L : List (List Int)) (w : World) (hpf : PartF w B hi (3 * n) 50 (fun j => L.getD j [])) (hlen : L.length = 3 * n) (hs : sizeN n L ≤ 1048576) :
    Calls Try.prog 10 #[.agg #[.int .i64 p, .slice (some ⟨B, 0, none⟩) n c]] w fun e w' => SpEnd (turnOk p n L) p n L w e w' := by
  have h := hpf.lists hlen hs
  have HPF := hide hpf
  have HA := hide (below_two w (.cells #[.int .i64 p, .slice (some ⟨B, 0, none⟩) n c] 28) (.cells #[.int .i64 0, .slice none 0 0] 28))
  have PAR : Hid (((w.alloc (.cells #[.int .i64 p, .slice (some ⟨B, 0, none⟩) n c] 28)).alloc (.cells #[.int .i64 0, .slice none 0 0] 28)).heap[w.heap.size]? = some (.cells #[.int .i64 p, .slice (some ⟨B, 0, none⟩) n c] 28 (0, 0))) := by
    show ((w.alloc _).alloc _).heap[w.heap.size]? = _
    rw [heap_al_old _ _ _ (by simp)]; exact heap_alloc_new _ _
  have HR0 : Hid (((w.alloc (.cells #[.int .i64 p, .slice (some ⟨B, 0, none⟩) n c] 28)).alloc (.cells #[.int .i64 0, .slice none 0 0] 28)).heap[w.heap.size + 1]? = some (.cells #[.int .i64 0, .slice none 0 0] 28 (0, 0))) := by
    have := heap_alloc_new (w.alloc (.cells #[.int .i64 p, .slice (some ⟨B, 0, none⟩) n c] 28)) (.cells #[.int .i64 0, .slice none 0 0] 28)
    rw [show (w.alloc (.cells #[.int .i64 p, .slice (some ⟨B, 0, none⟩) n c] 28)).heap.size = w.heap.size + 1 by simp] at this
    exact this
  have HG := hide (goodNetS_any p (some ⟨B, 0, none⟩) n c L _ (h.below HA.out) hs)
  have HL := hide h
  obtain ⟨i1, hi1, hz0, hz1, hz2⟩ := info_split2 Try.info50
  clear h hpf
  by_cases hg : netOk p n L = true
  rotate_left
  · have hg' : netOk p n L = false := by simpa using hg
    rw [turnOk_net hg']
    rw [hg'] at HG
    clear hg hg'
    go_enter Try.func10, Try.ntmps10
    go_wp2_with fail
    refine HG.out.mono ?_
    rintro e w2 ⟨rfl, hb⟩
    have HB2 := hide (HA.out.trans (hb.mono HA.out.size))
    have hR := keep HR0.out hb
    have hr0 : w2.cell? ⟨w.heap.size + 1, 0, none⟩ = some (.int .i64 0) := cell_of_row w2 _ 0 _ _ _ hR
    have hr1 : w2.cell? ⟨w.heap.size + 1, 1, none⟩ = some (.slice none 0 0) := cell_of_row w2 _ 1 _ _ _ hR
    have hf0 : w2.frozen? ⟨w.heap.size + 1, 0, none⟩ = false := frozen_of_row w2 _ 0 _ _ hR
    have hf1 : w2.frozen? ⟨w.heap.size + 1, 1, none⟩ = false := frozen_of_row w2 _ 1 _ _ hR
    clear hb HG hR
    go_wp2_with fail
    refine bodyPost_ret (v := .tuple #[.agg #[.int .i64 0, .slice none 0 0], .bool false]) (by simp [results, Try.results10, go_sem, hr0, hr1]) rfl ?_
    exact spEnd_no ((HB2.out.setCell (by simp) _).setCell (by simp) _)
  have hn := netN hg
  have HGO := hide hg
  have HSZ := hide (turnL_size hg)
  rw [hg] at HG
  clear hg
  go_enter Try.func10, Try.ntmps10
  go_wp2_with fail
  refine HG.out.mono ?_
  rintro e w2 ⟨rfl, hb⟩
  have HB2 := hide (HA.out.trans (hb.mono HA.out.size))
  have PAR2 := hide (keep PAR.out hb)
  have HR2 := hide (keep HR0.out hb)
  obtain ⟨hc0, hc1⟩ := cells2 PAR2.out
  have hl2 := row_lt PAR2.out
  clear hb PAR HR0 HG HA
  go_wp2_with fail
  refine (resS_any _ _ _ _ L _ (HL.out.below HB2.out) hn).mono ?_
  rintro e w3 ⟨rfl, hb⟩
  have HB3 := hide (HB2.out.trans (hb.mono HB2.out.size))
  have PAR3 := hide (keep PAR2.out hb)
  have HRW := hide (keep HR2.out hb)
  have HRS := hide (row_lt HRW.out)
  clear hc0 hc1 hl2
  obtain ⟨hc0, hc1⟩ := cells2 PAR3.out
  have hl3 := row_lt PAR3.out
  clear hb PAR2 HR2 HB2 PAR3
  by_cases hrm : resB n L = true
  · have HTO := hide (turnOk_res (p := p) hrm)
    rw [hrm]
    have hR := HRW.out
    have hr0 : w3.cell? ⟨w.heap.size + 1, 0, none⟩ = some (.int .i64 0) := cell_of_row w3 _ 0 _ _ _ hR
    have hr1 : w3.cell? ⟨w.heap.size + 1, 1, none⟩ = some (.slice none 0 0) := cell_of_row w3 _ 1 _ _ _ hR
    have hf0 : w3.frozen? ⟨w.heap.size + 1, 0, none⟩ = false := frozen_of_row w3 _ 0 _ _ hR
    have hf1 : w3.frozen? ⟨w.heap.size + 1, 1, none⟩ = false := frozen_of_row w3 _ 1 _ _ hR
    clear hR hrm
    go_wp2_with fail
    refine bodyPost_ret (v := .tuple #[.agg #[.int .i64 0, .slice none 0 0], .bool false]) (by simp [results, Try.results10, go_sem, hr0, hr1]) rfl ?_
    rw [HTO.out]
    exact spEnd_no ((HB3.out.setCell (by simp) _).setCell (by simp) _)
  have HRB : Hid (resB n L = false) := by simpa [Hid] using hrm
  rw [HRB.out]
  clear hrm
  go_wp2_with fail
  have HI := hide (SpInv.first w3 p L)
  generalize w3.alloc (.cells #[.int .i64 p, .slice none 0 0] 28) = W at HI ⊢
  generalize hVV : w3.heap.size = V at HI ⊢
  clear hc0 hc1 hl3
  go_loopw [21] (fun i wr => ∃ (k : Nat) (v : Value) (cells : List Value), k ≤ n ∧ i = .int .i64 k ∧ Hid (SpInv w3 wr V p k L v cells)) (fun i _ => n - (intOf i).toNat)
  case atStart => exact ⟨0, _, _, Nat.zero_le _, rfl, HI⟩
  case round =>
    obtain ⟨k, v, cells, hk, rfl, hin⟩ := hrel
    clear HI
    by_cases hlt : k < n
    rotate_left
    · have hk' : k = n := by omega
      subst hk'
      obtain ⟨av, cv, rfl, hlv⟩ := hin.out.lists HSZ.out
      have hVr := hin.out.var
      obtain ⟨hV0, hV1⟩ := cells2 hVr
      have hlV := row_lt hVr
      have HGN := hide (goodNetS_any p av k cv (turnL k L) wr hlv HSZ.out)
      have HLV := hide hlv
      clear hVr hlv
      go_wp2_with fail
      refine HGN.out.mono ?_
      rintro e w4 ⟨rfl, hb4⟩
      have h40 : w4.cell? ⟨V, 0, none⟩ = some (.int .i64 p) := (hb4.cell hlV).trans hV0
      have h41 : w4.cell? ⟨V, 1, none⟩ = some (.slice av k cv) := (hb4.cell hlV).trans hV1
      have HB4 := hide (hin.out.bel.trans (hb4.mono hin.out.bel.size))
      have hR4 := (HB4.out.block (w.heap.size + 1) HRS.out).trans HRW.out
      have hr0 : w4.cell? ⟨w.heap.size + 1, 0, none⟩ = some (.int .i64 0) := cell_of_row w4 _ 0 _ _ _ hR4
      have hr1 : w4.cell? ⟨w.heap.size + 1, 1, none⟩ = some (.slice none 0 0) := cell_of_row w4 _ 1 _ _ _ hR4
      have hf0 : w4.frozen? ⟨w.heap.size + 1, 0, none⟩ = false := frozen_of_row w4 _ 0 _ _ hR4
      have hf1 : w4.frozen? ⟨w.heap.size + 1, 1, none⟩ = false := frozen_of_row w4 _ 1 _ _ hR4
      have HBF := hide (HB3.out.trans (HB4.out.mono HB3.out.size))
      have HTO := hide (turnOk_last HGO.out HRB.out)
      have HI4 := hide (hin.out.grow hb4)
      have H41 := hide (show w.heap.size + 1 < V by have := HRS.out; omega)
      clear hV0 hV1 HGN hR4 hin hb4 HLV
      cases hgt : netOk p k (turnL k L)
      · rw [hgt] at HTO
        go_wp2_with fail
        refine bodyPost_ret (v := .tuple #[.agg #[.int .i64 0, .slice none 0 0], .bool false]) (by simp [results, Try.results10, go_sem, hr0, hr1]) rfl ?_
        rw [HTO.out]
        exact spEnd_no ((HBF.out.setCell (by simp) _).setCell (by simp) _)
      · rw [hgt] at HTO
        go_wp2_with fail
        refine bodyPost_ret (v := .tuple #[.agg #[.int .i64 p, .slice av k cv], .bool true]) (by simp [results, Try.results10, go_sem, hr0, hr1]) rfl ?_
        rw [HTO.out]
        obtain ⟨a5, c5, e5, h5⟩ := HI4.out.lists_low HSZ.out (high_set2 w4 V (w.heap.size + 1) 0 1 (.int .i64 p) (.slice av k cv) H41.out)
        obtain ⟨rfl, rfl⟩ : av = a5 ∧ cv = c5 := by simpa using e5
        exact spEnd_yes h5 ((HBF.out.setCell (by simp) _).setCell (by simp) _)
    have HBr := hide (HB3.out.trans (hin.out.bel.mono HB3.out.size))
    obtain ⟨d0, d1, d2, l0, l1, l2, hx0, hx1, hx2, R0, R1⟩ := (HPF.out.grow HBr.out).tri hlt
    have hA1 := below_al wr (.cells #[.slice (some ⟨d0, 0, none⟩) l0 l0, .slice (some ⟨d1, 0, none⟩) l1 l1, .slice (some ⟨d2, 0, none⟩) l2 l2] 50)
    have HI1 := hide (hin.out.grow hA1)
    have HR0 := hide (R0.out.below hA1)
    have HR1 := hide (R1.out.below hA1)
    have HC := hide (show (wr.alloc (.cells #[.slice (some ⟨d0, 0, none⟩) l0 l0, .slice (some ⟨d1, 0, none⟩) l1 l1, .slice (some ⟨d2, 0, none⟩) l2 l2] 50)).cell? ⟨wr.heap.size, 0, none⟩ = some (.slice (some ⟨d0, 0, none⟩) l0 l0) ∧ (wr.alloc (.cells #[.slice (some ⟨d0, 0, none⟩) l0 l0, .slice (some ⟨d1, 0, none⟩) l1 l1, .slice (some ⟨d2, 0, none⟩) l2 l2] 50)).cell? ⟨wr.heap.size, 1, none⟩ = some (.slice (some ⟨d1, 0, none⟩) l1 l1) by simp)
    have hm0 : l0 ≤ 1048576 := by have h1 := R0.out.1; have h2 := getLen16 HGO.out (3 * k) (by omega); omega
    have hm1 : l1 ≤ 1048576 := by have h1 := R1.out.1; have h2 := getLen16 HGO.out (3 * k + 1) (by omega); omega
    clear hin hA1 R0 R1
    go_wp2_with fail
    clear hx0 hx1 hx2
    generalize wr.alloc (.cells #[.slice (some ⟨d0, 0, none⟩) l0 l0, .slice (some ⟨d1, 0, none⟩) l1 l1, .slice (some ⟨d2, 0, none⟩) l2 l2] 50) = W0 at HI1 HC HR0 HR1 ⊢
    generalize wr.heap.size = tB at HC ⊢
    have HI2 := hide (HI1.out.grow (Below.refl _ W0).drew)
    have hq0 : W0.cell? ⟨V, 1, none⟩ = some v := cell_of_row W0 V 1 _ _ _ HI1.out.var
    obtain ⟨hq1, hq2⟩ := HC.out
    have HQ := hide (show W0.drew.cell? ⟨V, 1, none⟩ = some v ∧ W0.drew.cell? ⟨tB, 0, none⟩ = some (.slice (some ⟨d0, 0, none⟩) l0 l0) ∧ W0.drew.cell? ⟨tB, 1, none⟩ = some (.slice (some ⟨d1, 0, none⟩) l1 l1) from ⟨hq0, hq1, hq2⟩)
    have HR0' := hide (HR0.out.below (Below.refl _ W0).drew)
    have HR1' := hide (HR1.out.below (Below.refl _ W0).drew)
    clear HC HI1 HR0 HR1
    go_region_law (first
      | (refine step_callE (by rfl) 33 _ #[.tmp 28] #[35] (by rfl) Try.func33 (by decide) (by rfl) #[.slice (some ⟨d1, 0, none⟩) l1 l1] (maph1 _ _ _ (by rfl)) _ (own2_any d1 0 l1 l1 _ _ HR1'.out hm1) ?_; rintro e v1 ⟨a1, b1, c1, rfl, hg1, ho1, hbl1⟩; refine ⟨_, rfl, ?_⟩; obtain ⟨hs0, hs1, hs2⟩ := keep3 hbl1 HQ.out)
      | (refine step_callE (by rfl) 33 _ #[.tmp 31] #[35] (by rfl) Try.func33 (by decide) (by rfl) #[.slice (some ⟨d0, 0, none⟩) l0 l0] (maph1 _ _ _ (by rfl)) _ (own2_any d0 0 l0 l0 _ _ (HR0'.out.below hbl1) hm0) ?_; rintro e v2 ⟨a2, b2, c2, rfl, hg2, ho2, hbl2⟩; refine ⟨_, rfl, ?_⟩; obtain ⟨ht0, ht1, ht2⟩ := keep3 hbl2 (keep3 hbl1 HQ.out); have hA2 := below_al v2 (.cells #[.slice a1 l1 c1, .slice a2 l0 c2, .slice none 0 0] 50); obtain ⟨hy0, hy1, hy2⟩ := keep3 hA2 ⟨ht0, ht1, ht2⟩; have HI4 := hide (((HI2.out.grow hbl1).grow hbl2).grow hA2); have HNW := hide (news3 v2 (.slice a1 l1 c1) (.slice a2 l0 c2) (.slice none 0 0)))
      | (refine step_append_lies _ (by rfl) (.tmp 26) (.tmp 34) 26 (by rfl) (V + 1) 50 i1 _ 3 72 Try.underlying26 hi1 hz0 hz1 hz2 (by rfl) (by decide) v k cells (by rfl) HI4.out.own ⟨v2.heap.size, 0, none⟩ 1 1 [.slice a1 l1 c1, .slice a2 l0 c2, .slice none 0 0] (by rfl) (by rfl) HNW.out (by simp [Value.oneCell']) (by decide) (by unfold maxLen; omega) (by omega) (by have := HI4.out.lt; omega) (v2.heap.size + 1) (by simp) ?_; intro g cp W' hown hgr hlies hglt; have hV' := (hgr.block V HI4.out.lt (fun e => by have := HI4.out.own.lt V e.symm; omega)).trans HI4.out.var; have hz3 : W'.cell? ⟨V, 1, none⟩ = some v := cell_of_row W' V 1 _ _ _ hV'; have hz4 : W'.frozen? ⟨V, 1, none⟩ = false := frozen_of_row W' V 1 _ _ hV'))
    all_goals (have HI3 := hide (HI2.out.step hbl1 hg1 ho1 hbl2 hg2 ho2 hA2 rfl rfl hown hgr (by simpa using hlies)); clear hown hgr hlies hglt hV' hz3 hz4 HNW HI4 hA2)
    all_goals go_wp2_with fail
    all_goals go_roundw
    all_goals first | exact ⟨k + 1, _, _, by omega, by go_num, HI3⟩ | (simp [intOf]; omega)
end Go.Proofs.Ytakenobplljkbaa


/- TurnNet of both, told alike; what the law keeps in mind. -/
namespace Go.Proofs.Ytakenobplljkbaa
open Go.RowKit

theorem NetG.lower {w : World} {a : Option Addr} {B lo lo' hi n : Nat} {M : Nat → List Int} (h : NetG w a B lo hi n M) (hl : lo' ≤ lo) : NetG w a B lo' hi n M := by
  rcases h with h0 | ⟨e, C, A, f, cap, h1, h2, h3, h4⟩
  · exact .inl h0
  · refine .inr ⟨e, C, A, f, cap, h1, h2, fun j hj => ?_, h4⟩
    obtain ⟨q1, q2, q3⟩ := h3 j hj
    exact ⟨q1, q2, fun hm => ⟨Nat.le_trans hl (q3 hm).1, (q3 hm).2⟩⟩

/-- Both answer the same net, good or the zero one. -/
theorem turn_pack (p : Int) (n : Nat) (L : List (List Int)) (hs : sizeN n L ≤ 1048576) (hlen : L.length = 3 * n) : ∃ (g : Bool) (P : Int) (N : Nat) (K : List (List Int)), Hid (K.length = 3 * N ∧ sizeN N K ≤ 1048576 ∧ cntF (fun j => K.getD j []) (3 * N) ≤ 1048576) ∧ N ≤ 1048576 ∧
    Hid (∀ (B hi c : Nat) (w : World), PartF w B hi (3 * n) 50 (fun j => L.getD j []) → Calls Try.prog 10 #[.agg #[.int .i64 p, .slice (some ⟨B, 0, none⟩) n c]] w fun e w' => ∃ a c, e = .returned (.tuple #[.agg #[.int .i64 P, .slice a N c], .bool g]) ∧ Lists w' a (3 * N) K ∧ Below w.heap.size w w') ∧
    Hid (∀ (a : Option Addr) (c : Nat) (w : World), Lists w a (3 * n) L → Calls Try.prog 12 #[.agg #[.int .i64 p, .slice a n c]] w fun e w' => ∃ a B lo hi c, e = .returned (.tuple #[.agg #[.int .i64 P, .slice a N c], .bool g]) ∧ NetG w' a B lo hi N (fun j => K.getD j []) ∧ w.heap.size ≤ B ∧ w.heap.size ≤ lo ∧ hi ≤ w'.heap.size ∧ lo ≤ w'.heap.size ∧ Below w.heap.size w w') := by
  cases hg : turnOk p n L
  · refine ⟨false, 0, 0, [], ⟨rfl, by decide, by decide⟩, by decide, fun B hi c w hp => ?_, fun a c w hl => ?_⟩
    · refine (turnS_any p B hi n c L w hp hlen hs).mono ?_
      rw [hg]
      rintro e w' ⟨a', c', rfl, _, hb⟩
      exact ⟨a', c', rfl, ⟨rfl, .inl rfl⟩, hb⟩
    · refine (turnI_any p a n c L w hl hs).mono ?_
      rw [hg]
      rintro e w' ⟨a', B', lo, hi, c', rfl, _, h3, h1, h2, hb⟩
      exact ⟨a', B', w.heap.size, hi, c', rfl, .inl rfl, h3, Nat.le_refl _, h2, hb.size, hb⟩
  · have hok : netOk p n L = true := by unfold turnOk at hg; simp only [Bool.and_eq_true] at hg; exact hg.1.1
    have hz := turnL_size hok
    have hn := netN hok
    refine ⟨true, p, n, turnL n L, ⟨turnL_len n L, hz, ?_⟩, by omega, fun B hi c w hp => ?_, fun a c w hl => ?_⟩
    · rw [cntF_all (turnL_len n L)]; unfold sizeN at hz; omega
    · refine (turnS_any p B hi n c L w hp hlen hs).mono ?_
      rw [hg]
      rintro e w' ⟨a', c', rfl, h1, hb⟩
      exact ⟨a', c', rfl, h1 rfl, hb⟩
    · refine (turnI_any p a n c L w hl hs).mono ?_
      rw [hg]
      rintro e w' ⟨a', B', lo, hi, c', rfl, h0, h3, h1, h2, hb⟩
      exact ⟨a', B', w.heap.size, hi, c', rfl, by rw [turnL_get]; exact (h0 rfl).lower h1, h3, Nat.le_refl _, h2, hb.size, hb⟩

theorem NetG.grow {w w' : World} {a : Option Addr} {B lo hi n : Nat} {M : Nat → List Int} (h : NetG w a B lo hi n M) (hb : Below w.heap.size w w') : NetG w' a B lo hi n M := by
  rcases h with h0 | ⟨e, hp⟩
  · exact .inl h0
  · exact .inr ⟨e, hp.grow hb⟩

theorem NetG.keeps {w w' : World} {a : Option Addr} {B lo hi n lo' hi' : Nat} {M : Nat → List Int} (h : NetG w a B lo hi n M) (hk : Keeps lo' hi' w w') (h1 : hi' ≤ lo) (h2 : hi' ≤ B) : NetG w' a B lo hi n M := by
  rcases h with h0 | ⟨e, hp⟩
  · exact .inl h0
  · exact .inr ⟨e, hp.keeps hk h1 h2⟩

theorem Keeps.atTop {lo hi : Nat} {w w' : World} (h : Keeps lo hi w w') {b : Nat} {o : Obj} (hb : w.heap[b]? = some o) (hh : hi ≤ b) : w'.heap[b]? = some o := (h.top b hh (Array.getElem?_eq_some_iff.mp hb).1).trans hb
theorem Keeps.atLow {lo hi : Nat} {w w' : World} (h : Keeps lo hi w w') {b : Nat} {o : Obj} (hb : w.heap[b]? = some o) (hh : b < lo) : w'.heap[b]? = some o := (h.bel.block b hh).trans hb

structure Su (w u v : World) (p : Int) (a : Option Addr) (n c B hi bx : Nat) (M : Nat → List Int) (P : Int) (ag : Option Addr) (Bg lo hig N cg bg : Nat) (Mg : Nat → List Int) : Prop where
  old : Below w.heap.size w v
  mid : Below u.heap.size u v
  par : v.heap[w.heap.size]? = some (.cells #[.int .i64 p, .slice a n c] 24 (0, 0))
  x0 : v.heap[bx]? = some (.cells #[.int .i64 p, .slice (some ⟨B, 0, none⟩) n n] 28 (0, 0))
  net : PartF v B hi (3 * n) 50 M
  g0 : v.heap[bg]? = some (.cells #[.int .i64 P, .slice ag N cg] 28 (0, 0))
  gn : NetG v ag Bg lo hig N Mg

section
variable {w u v v' : World} {p : Int} {a : Option Addr} {n c B hi bx : Nat} {M M' : Nat → List Int} {P : Int} {ag : Option Addr} {Bg lo hig N cg bg : Nat} {Mg Mg' : Nat → List Int}

theorem Su.grow (h : Su w u v p a n c B hi bx M P ag Bg lo hig N cg bg Mg) (hb : Below v.heap.size v v') : Su w u v' p a n c B hi bx M P ag Bg lo hig N cg bg Mg :=
  ⟨h.old.trans (hb.mono h.old.size), h.mid.trans (hb.mono h.mid.size), keep h.par hb, keep h.x0 hb, h.net.grow hb, keep h.g0 hb, h.gn.grow hb⟩

theorem Su.markN (h : Su w u v p a n c B hi bx M P ag Bg lo hig N cg bg Mg) (hm : PartF v' B hi (3 * n) 50 M') (hk : Keeps (B + 1) hi v v') (h1 : w.heap.size ≤ B) (h2 : u.heap.size ≤ B) (hx : hi ≤ bx) (hb : hi ≤ bg) (hl : hi ≤ lo) (hg : hi ≤ Bg) : Su w u v' p a n c B hi bx M' P ag Bg lo hig N cg bg Mg :=
  ⟨h.old.trans (hk.bel.mono (by omega)), h.mid.trans (hk.bel.mono (by omega)), hk.atLow h.par (by omega), hk.atTop h.x0 hx, hm, hk.atTop h.g0 hb, h.gn.keeps hk hl hg⟩

theorem PartF.low {w w' : World} {B hi n lo : Nat} {T : TypeId} {M : Nat → List Int} (h : PartF w B hi n T M) (hb : Below lo w w') (hB : B < lo) (hh : hi ≤ lo) : PartF w' B hi n T M := by
  obtain ⟨C, f, h1, h2, h3, h4⟩ := h
  refine ⟨C, f, (hb.block B hB).trans h1, h2, fun j hj => ?_, h4⟩
  obtain ⟨e1, e2, e3, e4⟩ := h3 j hj
  refine ⟨e1, e2, e3, e4.1, ?_⟩
  rcases e4.2 with h0 | ⟨e, hh'⟩
  · exact .inl h0
  · exact .inr ⟨e, (hb.block _ (by omega)).trans hh'⟩

theorem Su.markG (h : Su w u v p a n c B hi bx M P ag Bg lo hig N cg bg Mg) (hm : NetG v' ag Bg lo hig N Mg') (hk : Keeps lo hig v v') (h1 : w.heap.size < lo) (h2 : u.heap.size ≤ lo) (hx : bx < lo) (hB : B < lo) (hh : hi ≤ lo) (hb : hig ≤ bg) : Su w u v' p a n c B hi bx M P ag Bg lo hig N cg bg Mg' :=
  ⟨h.old.trans (hk.bel.mono (by omega)), h.mid.trans (hk.bel.mono h2), hk.atLow h.par h1, hk.atLow h.x0 hx, h.net.low hk.bel hB hh, hk.atTop h.g0 hb, hm⟩
end
end Go.Proofs.Ytakenobplljkbaa
