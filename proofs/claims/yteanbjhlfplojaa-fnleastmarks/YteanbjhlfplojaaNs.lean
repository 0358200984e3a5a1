/- What netSteps and the program's GoodNet answer, for every net in memory. -/
import Derived.Test.YteanbjhlfplojaaPs
namespace Go.Proofs.Yteanbjhlfplojaa
open Go.RowKit

theorem triOk_eq (p : Int) (L : List (List Int)) (i : Nat) : triOk p L i = tri3Ok p (L.getD (3 * i) []) (L.getD (3 * i + 1) []) (L.getD (3 * i + 2) []) := rfl

end Go.Proofs.Yteanbjhlfplojaa
