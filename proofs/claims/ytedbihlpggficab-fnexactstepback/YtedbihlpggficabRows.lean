/-
  No cell of these rows narrows 'for every input' (looked for: loops, veiled, ifaces, maps, wideKeys, modest, calm, conditions, laid).
  DERIVED. THE GIVEN ROWS OF THIS SEAT. 6 by the template 'for every input the law returns true; each argument reads behind the call as it read before'; 0 by the template 'total and deterministic' (their statements: YtedbihlpggficabTotals.lean).
  GIVEN WITH THE SEED: the statements are not yours to turn. If you find one false, say at which input.
  Laid BY PROGRAM, IN A SANDBOX (cutbox-rows.mjs): the forced cells as the released guide's own fill.sh prints them over the translation bb058b88d9a7bb04… (all of the seat's roots in one cut). By AI agents, Wed Nov 11 2026. No macro, syntax, notation, axiom, sorry.
-/
import Derived.Test.YtedbihlpggficabChecked
import GoSem.Claim
import GoSem.ClaimJoined
import GoSem.ClaimMapViews
import Derived.JoinedTies
import Derived.KernelRfl
namespace Go.Proofs.Ytedbihlpggficab
/- THE CELL 'sum', in the pinned program and in every row, IS THE sha256 OF THE DUMP (.gsa) THAT YtedbihlpggficabProg.lean LOADS. Nothing in Lean hashes anything: it is a label: what it is worth is what the hold of that sum in a sandbox is worth. -/
noncomputable def Try.pinned : Pinned := { name := "ytedbihlpggficab", sum := "bb058b88d9a7bb04b570e21740aa6589f293b0ff0b809832597bcacd01bb1f8c", checked := Try.checked }
namespace Rows
def none {H : Type} : Left H := { results := [], args := [] }

/-- 'laws.FnExactIsBounded': WHATEVER THE INPUT: true; the input reads as it did. -/
def fnExactIsBoundedSpec : ChangeSpec := { name := "fnExactIsBounded", fn := fun _ => fun
  | [d1, d2, d3] => { results := [.lit (.bool true)], args := [d1, d2, d3] }
  | _ => none }
def fnExactIsBoundedRow : OpenClaim := { program := "ytedbihlpggficab", sum := "bb058b88d9a7bb04b570e21740aa6589f293b0ff0b809832597bcacd01bb1f8c", func := "loop.example/g00662/laws.FnExactIsBounded", spec := "fnExactIsBounded", unfollowed := true, recurses := true, apart := false }
def FnExactIsBoundedSaid : Prop := fnExactIsBoundedRow.holds Try.pinned (OpenSpec.ofChange fnExactIsBoundedSpec)

/-- ITS FALSE NEIGHBOUR: 'it returns false'. Refute it at one input. -/
def fnExactIsBoundedWrong : ChangeSpec := { name := "fnExactIsBounded", fn := fun _ => fun
  | [d1, d2, d3] => { results := [.lit (.bool false)], args := [d1, d2, d3] }
  | _ => none }
def FnExactIsBoundedWrongFalsely : Prop := fnExactIsBoundedRow.holds Try.pinned (OpenSpec.ofChange fnExactIsBoundedWrong)

/-- 'laws.FnExactUnlimited': WHATEVER THE INPUT: true; the input reads as it did. -/
def fnExactUnlimitedSpec : ChangeSpec := { name := "fnExactUnlimited", fn := fun _ => fun
  | [d1, d2, d3] => { results := [.lit (.bool true)], args := [d1, d2, d3] }
  | _ => none }
def fnExactUnlimitedRow : OpenClaim := { program := "ytedbihlpggficab", sum := "bb058b88d9a7bb04b570e21740aa6589f293b0ff0b809832597bcacd01bb1f8c", func := "loop.example/g00662/laws.FnExactUnlimited", spec := "fnExactUnlimited", unfollowed := true, recurses := true, apart := false }
def FnExactUnlimitedSaid : Prop := fnExactUnlimitedRow.holds Try.pinned (OpenSpec.ofChange fnExactUnlimitedSpec)

/-- ITS FALSE NEIGHBOUR: 'it returns false'. Refute it at one input. -/
def fnExactUnlimitedWrong : ChangeSpec := { name := "fnExactUnlimited", fn := fun _ => fun
  | [d1, d2, d3] => { results := [.lit (.bool false)], args := [d1, d2, d3] }
  | _ => none }
def FnExactUnlimitedWrongFalsely : Prop := fnExactUnlimitedRow.holds Try.pinned (OpenSpec.ofChange fnExactUnlimitedWrong)

/-- 'laws.FnExactCanCover': WHATEVER THE INPUT: true; the input reads as it did. -/
def fnExactCanCoverSpec : ChangeSpec := { name := "fnExactCanCover", fn := fun _ => fun
  | [d1, d2, d3, d4] => { results := [.lit (.bool true)], args := [d1, d2, d3, d4] }
  | _ => none }
def fnExactCanCoverRow : OpenClaim := { program := "ytedbihlpggficab", sum := "bb058b88d9a7bb04b570e21740aa6589f293b0ff0b809832597bcacd01bb1f8c", func := "loop.example/g00662/laws.FnExactCanCover", spec := "fnExactCanCover", unfollowed := true, recurses := true, apart := false }
def FnExactCanCoverSaid : Prop := fnExactCanCoverRow.holds Try.pinned (OpenSpec.ofChange fnExactCanCoverSpec)

/-- ITS FALSE NEIGHBOUR: 'it returns false'. Refute it at one input. -/
def fnExactCanCoverWrong : ChangeSpec := { name := "fnExactCanCover", fn := fun _ => fun
  | [d1, d2, d3, d4] => { results := [.lit (.bool false)], args := [d1, d2, d3, d4] }
  | _ => none }
def FnExactCanCoverWrongFalsely : Prop := fnExactCanCoverRow.holds Try.pinned (OpenSpec.ofChange fnExactCanCoverWrong)

/-- 'laws.FnExactStepBack': WHATEVER THE INPUT: true; the input reads as it did. -/
def fnExactStepBackSpec : ChangeSpec := { name := "fnExactStepBack", fn := fun _ => fun
  | [d1, d2, d3] => { results := [.lit (.bool true)], args := [d1, d2, d3] }
  | _ => none }
def fnExactStepBackRow : OpenClaim := { program := "ytedbihlpggficab", sum := "bb058b88d9a7bb04b570e21740aa6589f293b0ff0b809832597bcacd01bb1f8c", func := "loop.example/g00662/laws.FnExactStepBack", spec := "fnExactStepBack", apart := false }
def FnExactStepBackSaid : Prop := fnExactStepBackRow.holds Try.pinned (OpenSpec.ofChange fnExactStepBackSpec)

/-- ITS FALSE NEIGHBOUR: 'it returns false'. Refute it at one input. -/
def fnExactStepBackWrong : ChangeSpec := { name := "fnExactStepBack", fn := fun _ => fun
  | [d1, d2, d3] => { results := [.lit (.bool false)], args := [d1, d2, d3] }
  | _ => none }
def FnExactStepBackWrongFalsely : Prop := fnExactStepBackRow.holds Try.pinned (OpenSpec.ofChange fnExactStepBackWrong)

/-- 'laws.FnExactBackBasis': WHATEVER THE INPUT: true; the input reads as it did. -/
def fnExactBackBasisSpec : ChangeSpec := { name := "fnExactBackBasis", fn := fun _ => fun
  | [d1, d2, d3] => { results := [.lit (.bool true)], args := [d1, d2, d3] }
  | _ => none }
def fnExactBackBasisRow : OpenClaim := { program := "ytedbihlpggficab", sum := "bb058b88d9a7bb04b570e21740aa6589f293b0ff0b809832597bcacd01bb1f8c", func := "loop.example/g00662/laws.FnExactBackBasis", spec := "fnExactBackBasis", unfollowed := true, recurses := true, apart := false }
def FnExactBackBasisSaid : Prop := fnExactBackBasisRow.holds Try.pinned (OpenSpec.ofChange fnExactBackBasisSpec)

/-- ITS FALSE NEIGHBOUR: 'it returns false'. Refute it at one input. -/
def fnExactBackBasisWrong : ChangeSpec := { name := "fnExactBackBasis", fn := fun _ => fun
  | [d1, d2, d3] => { results := [.lit (.bool false)], args := [d1, d2, d3] }
  | _ => none }
def FnExactBackBasisWrongFalsely : Prop := fnExactBackBasisRow.holds Try.pinned (OpenSpec.ofChange fnExactBackBasisWrong)

/-- 'laws.FnExactCoversBack': WHATEVER THE INPUT: true; the input reads as it did. -/
def fnExactCoversBackSpec : ChangeSpec := { name := "fnExactCoversBack", fn := fun _ => fun
  | [d1, d2, d3, d4] => { results := [.lit (.bool true)], args := [d1, d2, d3, d4] }
  | _ => none }
def fnExactCoversBackRow : OpenClaim := { program := "ytedbihlpggficab", sum := "bb058b88d9a7bb04b570e21740aa6589f293b0ff0b809832597bcacd01bb1f8c", func := "loop.example/g00662/laws.FnExactCoversBack", spec := "fnExactCoversBack", unfollowed := true, recurses := true, apart := false }
def FnExactCoversBackSaid : Prop := fnExactCoversBackRow.holds Try.pinned (OpenSpec.ofChange fnExactCoversBackSpec)

/-- ITS FALSE NEIGHBOUR: 'it returns false'. Refute it at one input. -/
def fnExactCoversBackWrong : ChangeSpec := { name := "fnExactCoversBack", fn := fun _ => fun
  | [d1, d2, d3, d4] => { results := [.lit (.bool false)], args := [d1, d2, d3, d4] }
  | _ => none }
def FnExactCoversBackWrongFalsely : Prop := fnExactCoversBackRow.holds Try.pinned (OpenSpec.ofChange fnExactCoversBackWrong)

/- THE SECOND FORM. 'bulk': how many values and letters a reading holds, each counted each time it is reached (what is shared counts as often as it is met; a slice's spare places count too). A statement '..UptoSaid' is the law's where the arguments, and the package variables that the reading takes, are together of bulk at most 1048576: NARROWER than '..Said'. Prove '..Said' where nothing that the law and all that it calls make is longer than what came in: it says more and counts as full. Else prove '..UptoSaid'. A law counts once. -/
mutual
def uptoBulk {H : Type} : DataW H → Nat
  | .lit (.string bytes) => bytes.length + 1
  | .lit _ => 1
  | .nil => 1
  | .ptr d => uptoBulk d + 1
  | .slice elems spare => uptoBulkAll elems + uptoBulkAll spare + 1
  | .agg parts => uptoBulkAll parts + 1
  | .iface _ d => uptoBulk d + 1
  | .map entries => uptoBulkEntries entries + 1
  | .held _ => 1
def uptoBulkAll {H : Type} : List (DataW H) → Nat
  | [] => 0
  | d :: r => uptoBulk d + uptoBulkAll r
def uptoBulkEntries {H : Type} : List (Lit × DataW H) → Nat
  | [] => 0
  | x :: r => uptoBulkEntry x + uptoBulkEntries r
def uptoBulkEntry {H : Type} : Lit × DataW H → Nat
  | (.string bytes, d) => bytes.length + uptoBulk d + 1
  | (_, d) => uptoBulk d + 1
 end
def uptoSmall : (H : Type) → List (DataW H) → Bool := fun _ ds => decide (uptoBulkAll ds ≤ 1048576)
def OpenSpec.upto (s : _root_.Go.ChangeSpec) : _root_.Go.OpenSpec := { _root_.Go.OpenSpec.ofChange s with cond := some uptoSmall }

/-- 'laws.FnExactIsBounded', WHERE WHAT IT READS IS OF BULK AT MOST 1048576: true; the input reads as it did. -/
def fnExactIsBoundedUptoRow : OpenClaim := { program := "ytedbihlpggficab", sum := "bb058b88d9a7bb04b570e21740aa6589f293b0ff0b809832597bcacd01bb1f8c", func := "loop.example/g00662/laws.FnExactIsBounded", spec := "fnExactIsBounded", unfollowed := true, recurses := true, apart := false, narrowed := true }
def FnExactIsBoundedUptoSaid : Prop := fnExactIsBoundedUptoRow.holds Try.pinned (OpenSpec.upto fnExactIsBoundedSpec)

/-- 'laws.FnExactUnlimited', WHERE WHAT IT READS IS OF BULK AT MOST 1048576: true; the input reads as it did. -/
def fnExactUnlimitedUptoRow : OpenClaim := { program := "ytedbihlpggficab", sum := "bb058b88d9a7bb04b570e21740aa6589f293b0ff0b809832597bcacd01bb1f8c", func := "loop.example/g00662/laws.FnExactUnlimited", spec := "fnExactUnlimited", unfollowed := true, recurses := true, apart := false, narrowed := true }
def FnExactUnlimitedUptoSaid : Prop := fnExactUnlimitedUptoRow.holds Try.pinned (OpenSpec.upto fnExactUnlimitedSpec)

/-- 'laws.FnExactCanCover', WHERE WHAT IT READS IS OF BULK AT MOST 1048576: true; the input reads as it did. -/
def fnExactCanCoverUptoRow : OpenClaim := { program := "ytedbihlpggficab", sum := "bb058b88d9a7bb04b570e21740aa6589f293b0ff0b809832597bcacd01bb1f8c", func := "loop.example/g00662/laws.FnExactCanCover", spec := "fnExactCanCover", unfollowed := true, recurses := true, apart := false, narrowed := true }
def FnExactCanCoverUptoSaid : Prop := fnExactCanCoverUptoRow.holds Try.pinned (OpenSpec.upto fnExactCanCoverSpec)

/-- 'laws.FnExactStepBack', WHERE WHAT IT READS IS OF BULK AT MOST 1048576: true; the input reads as it did. -/
def fnExactStepBackUptoRow : OpenClaim := { program := "ytedbihlpggficab", sum := "bb058b88d9a7bb04b570e21740aa6589f293b0ff0b809832597bcacd01bb1f8c", func := "loop.example/g00662/laws.FnExactStepBack", spec := "fnExactStepBack", apart := false, narrowed := true }
def FnExactStepBackUptoSaid : Prop := fnExactStepBackUptoRow.holds Try.pinned (OpenSpec.upto fnExactStepBackSpec)

/-- 'laws.FnExactBackBasis', WHERE WHAT IT READS IS OF BULK AT MOST 1048576: true; the input reads as it did. -/
def fnExactBackBasisUptoRow : OpenClaim := { program := "ytedbihlpggficab", sum := "bb058b88d9a7bb04b570e21740aa6589f293b0ff0b809832597bcacd01bb1f8c", func := "loop.example/g00662/laws.FnExactBackBasis", spec := "fnExactBackBasis", unfollowed := true, recurses := true, apart := false, narrowed := true }
def FnExactBackBasisUptoSaid : Prop := fnExactBackBasisUptoRow.holds Try.pinned (OpenSpec.upto fnExactBackBasisSpec)

/-- 'laws.FnExactCoversBack', WHERE WHAT IT READS IS OF BULK AT MOST 1048576: true; the input reads as it did. -/
def fnExactCoversBackUptoRow : OpenClaim := { program := "ytedbihlpggficab", sum := "bb058b88d9a7bb04b570e21740aa6589f293b0ff0b809832597bcacd01bb1f8c", func := "loop.example/g00662/laws.FnExactCoversBack", spec := "fnExactCoversBack", unfollowed := true, recurses := true, apart := false, narrowed := true }
def FnExactCoversBackUptoSaid : Prop := fnExactCoversBackUptoRow.holds Try.pinned (OpenSpec.upto fnExactCoversBackSpec)

end Rows
end Go.Proofs.Ytedbihlpggficab
