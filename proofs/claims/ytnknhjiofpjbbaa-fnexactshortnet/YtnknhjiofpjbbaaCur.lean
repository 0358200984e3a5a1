/- The cursor that draws choices from bytes: next, pick, one, among, places and mark answer within their bounds, whatever the bytes, and write into nothing that was there but the cursor. -/
import Derived.Test.YtnknhjiofpjbbaaBase
namespace Go.Proofs.Ytnknhjiofpjbbaa
open Go.RowKit

/-- A slice of bytes reads as the list bs. -/
def RowB (w : World) (a : Option Addr) (n : Nat) (bs : List Int) : Prop :=
  bs.length = n ∧ (∀ i, 0 ≤ bs.getD i 0 ∧ bs.getD i 0 ≤ 255) ∧ (n = 0 ∨ ∃ b off, a = some ⟨b, off, none⟩ ∧ b < w.heap.size ∧ ∀ i, i < n → w.cell? ⟨b, off + i, none⟩ = some (.int .u8 (bs.getD i 0)))

theorem cur_step {w : World} {bc : Nat} {t : TypeId} {A B C : Value} (h : w.heap[bc]? = some (.cells #[A, B, C] t (0, 0))) (q : Nat) (v u : Value) :
    (((w.drewN q).setCell ⟨bc, 1, none⟩ v).setCell ⟨bc, 2, none⟩ u).heap[bc]? = some (.cells #[A, v, u] t (0, 0)) := by
  have h1 := heap_setCell_same (w.drewN q) bc 1 _ _ v h
  have h2 := heap_setCell_same _ bc 2 _ _ u h1
  simpa using h2

end Go.Proofs.Ytnknhjiofpjbbaa
