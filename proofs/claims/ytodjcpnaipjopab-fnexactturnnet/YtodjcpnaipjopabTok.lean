/- What tokensOf answers for a list of as many numbers as there are places: the array of its numbers and true just where each is in 0..50; nothing that was there is written. -/
import Derived.Test.YtodjcpnaipjopabBase
import Derived.Laws.Tables
import Derived.Laws.ResultCell
namespace Go.Proofs.Ytodjcpnaipjopab
open Go.RowKit

theorem below_two (w : World) (A B : Obj) : Below w.heap.size w ((w.alloc A).alloc B) :=
  ((Below.refl _ _).alloc (Nat.le_refl _) _).alloc (by simp) _

theorem below_setRow {B : Nat} {a w : World} (h : Below B a w) (g : Nat) (hg : B ≤ g) (cs : Array Value) : Below B a (w.setRow g cs) := by
  refine h.trans ⟨rfl, rfl, rfl, by simp, fun k hk => ?_⟩
  simp only [World.setRow, Array.getElem?_modify]
  rw [if_neg (by omega)]

end Go.Proofs.Ytodjcpnaipjopab
