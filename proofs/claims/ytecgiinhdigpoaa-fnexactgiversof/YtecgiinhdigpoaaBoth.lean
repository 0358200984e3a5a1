/- What bothTokensOf answers, for every number of places and every two lists: both arrays and true where both are good marks, else false; nothing that was there is written. -/
import Derived.Test.YtecgiinhdigpoaaGood
import Derived.Deep.RegionHeld3
import Derived.Deep.MidRow
namespace Go.Proofs.Ytecgiinhdigpoaa
open Go.RowKit

def tokL (f : Nat → Int) : List Value := (tokF f).toList

theorem tokL_len (f : Nat → Int) : (tokL f).length = 16 := by simp [tokL, tokF_size]
theorem tokL_arr (f : Nat → Int) : (tokL f).toArray = tokF f := by simp [tokL]
theorem tokL_one (f : Nat → Int) : ∀ v ∈ tokL f, v.oneCell' = true := by
  intro v hv
  exact Array.all_eq_true_iff_forall_mem.1 (tokF_one f) v (by simpa [tokL] using hv)

theorem range_of_block {w : World} {b : Nat} {f : Nat → Int} {t : TypeId} {fr : Nat × Nat} (hb : w.heap[b]? = some (.cells (tokF f) t fr)) : w.rangeAt b 0 (tokL f) := by
  intro j v hv
  rw [cell_of_row w b (0 + j) _ t fr hb, Nat.zero_add]
  simpa [tokL] using hv

theorem there_of_block {w : World} {b : Nat} {C : Array Value} {t : TypeId} (hb : w.heap[b]? = some (.cells C t (0, 0))) (hs : C.size = 16) : w.there b 0 16 := by
  intro j hj
  refine ⟨?_, frozen_of_row w b _ C t hb⟩
  rw [cell_of_row w b (0 + j) _ t (0, 0) hb, Nat.zero_add, Array.getElem?_eq_getElem (by omega)]
  rfl

theorem setRow_same {w : World} {b : Nat} {C : Array Value} {t : TypeId} (hb : w.heap[b]? = some (.cells C t (0, 0))) (D : Array Value) : (w.setRow b D).heap[b]? = some (.cells D t (0, 0)) := by
  simp only [World.setRow, Array.getElem?_modify]
  rw [if_pos trivial, hb]
  rfl

theorem setRow_other (w : World) (b k : Nat) (D : Array Value) (h : k ≠ b) : (w.setRow b D).heap[k]? = w.heap[k]? := by
  simp only [World.setRow, Array.getElem?_modify]
  rw [if_neg (by omega)]

theorem below_setCells {B : Nat} {a w : World} (h : Below B a w) (b o : Nat) (hb : B ≤ b) (vs : List Value) : Below B a (w.setCells b o vs) := by
  induction vs generalizing w o with
  | nil => exact h
  | cons v r ih => exact ih (h.setCell hb v) (o + 1)

theorem results_cells_tmp {fn : Func} {p q u : Tmp} {ty tz : TypeId} (h : fn.results = #[.cell p ty, .cell q tz, .tmp u]) (tmps : Array Value) (P : Program) (w : World) :
    (results fn tmps).run P w =
      ((asAddr (tmps.getD p undef)).run P w).andThen fun a w₁ => ((loadVar ty a).run P w₁).andThen fun v w₂ =>
        ((asAddr (tmps.getD q undef)).run P w₂).andThen fun b w₃ => ((loadVar tz b).run P w₃).andThen fun v' w₄ => .ok (.tuple #[v, v', tmps.getD u undef]) w₄ := by
  simp only [results, h]
  simp [Sem.run_bind, Result.andThen]

theorem cons_store {P : Program} {md : Region.Mode} {ops : Array Oper} {Q : Exit → Act → World → Prop} {fuel : Nat} {listed : Array Bool} {a : Act} {w : World} {i : Nat} {o : Oper} {rs : List Nat} (ho : ops[i]? = some o)
    (hgd : o.guard = none) (hd : o.dst = none) (ty : TypeId) (x y : Operand) (hop : o.op = .store ty x y)
    (g : Nat) (cells : Array Value) (hx : a.eval x = .pointer (some ⟨g, 0, none⟩)) (hy : a.eval y = .agg cells)
    (t : TypeId) (old : Array Value) (hg : w.heap[g]? = some (.cells old t (0, 0))) (hi : (P.info? ty).map (·.size) = some cells.size)
    (hold : old.size = cells.size) (h1 : cells.all (·.oneCell') = true)
    (h : wpAny P md ops Q fuel (listed.setIfInBounds i true) a (w.setRow g cells))
    (hs : AllReady P md ops Q fuel listed a w rs) : AllReady P md ops Q fuel listed a w (i :: rs) := by
  refine AllReady.cons ho (fun K hK => ?_) hs
  rw [if_pos (by simp [Region.wanted, hgd])]
  refine wp_store_row ty x y hop g cells hx hy t old hg hi hold h1 (hK _ _ ?_)
  rw [hd]
  exact h

theorem cons_load {P : Program} {md : Region.Mode} {ops : Array Oper} {Q : Exit → Act → World → Prop} {fuel : Nat} {listed : Array Bool} {a : Act} {w : World} {i : Nat} {o : Oper} {rs : List Nat} (ho : ops[i]? = some o)
    (hgd : o.guard = none) (d : Option Tmp) (hd : o.dst = d) (ty : TypeId) (x : Operand) (hop : o.op = .load ty x)
    (g : Nat) (cells : Array Value) (hx : a.eval x = .pointer (some ⟨g, 0, none⟩))
    (t : TypeId) (n : Nat) (e : TypeId) (hu : P.underlying ty = some (.array n e)) (hg : w.heap[g]? = some (.cells cells t (0, 0))) (hi : (P.info? ty).map (·.size) = some cells.size)
    (h : wpAny P md ops Q fuel (listed.setIfInBounds i true) (a.put d (.agg cells)) w)
    (hs : AllReady P md ops Q fuel listed a w rs) : AllReady P md ops Q fuel listed a w (i :: rs) := by
  refine AllReady.cons ho (fun K hK => ?_) hs
  rw [if_pos (by simp [Region.wanted, hgd])]
  refine wp_load_row ty x hop g hx t cells (0, 0) _ hg hu rfl hi (hK _ _ ?_)
  rw [hd]
  exact h

theorem cons_assign {P : Program} {md : Region.Mode} {ops : Array Oper} {Q : Exit → Act → World → Prop} {fuel : Nat} {listed : Array Bool} {a : Act} {w : World} {i : Nat} {o : Oper} {rs : List Nat} (ho : ops[i]? = some o)
    (hgd : o.guard = none) (d : Option Tmp) (hd : o.dst = d) (x : Operand) (hop : o.op = .assign x)
    (h : wpAny P md ops Q fuel (listed.setIfInBounds i true) (a.put d (a.eval x)) w)
    (hs : AllReady P md ops Q fuel listed a w rs) : AllReady P md ops Q fuel listed a w (i :: rs) := by
  refine AllReady.cons ho (fun K hK => ?_) hs
  rw [if_pos (by simp [Region.wanted, hgd])]
  unfold Oper.wp
  simp only [execOp, hop, Sem.run_pure]
  refine hK _ _ ?_
  rw [hd]
  exact h

theorem below_rows {B : Nat} {w V : World} (h : Below B w V) (b c : Nat) (hb : B ≤ b) (hc : B ≤ c) (C D : Array Value) : Below B w ((V.drew.setRow b C).setRow c D) :=
  below_setRow (below_setRow h.drew _ hb _) _ hc _

theorem lit_one : (#[.int .u8 0, .int .u8 0, .int .u8 0, .int .u8 0, .int .u8 0, .int .u8 0, .int .u8 0, .int .u8 0, .int .u8 0, .int .u8 0, .int .u8 0, .int .u8 0, .int .u8 0, .int .u8 0, .int .u8 0, .int .u8 0] : Array Value).all (·.oneCell') = true := by
  rw [← packOf_zero []]; exact packOf_one _ _

end Go.Proofs.Ytecgiinhdigpoaa
