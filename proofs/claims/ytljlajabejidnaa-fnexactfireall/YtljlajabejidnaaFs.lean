/- The specification's small functions on lists: l1Has, l2Meet and l1Same. -/
import Derived.Test.YtljlajabejidnaaNs
namespace Go.Proofs.Ytljlajabejidnaa
open Go.RowKit

def hasB (xs : List Int) (x : Int) : Bool := xs.contains x

theorem hasB_take {xs : List Int} {k : Nat} {x y : Int} (h : hasB (xs.take k) y = false) (hx : xs[k]? = some x) (hne : ¬ x = y) : hasB (xs.take (k + 1)) y = false := by
  unfold hasB at *
  rw [List.take_add_one, hx]
  simp at h ⊢
  exact ⟨h, fun e => hne e.symm⟩

theorem hasB_yes {xs : List Int} {k : Nat} {x : Int} (hx : xs[k]? = some x) : hasB xs x = true := by
  unfold hasB
  simpa using List.mem_of_getElem? hx



end Go.Proofs.Ytljlajabejidnaa
