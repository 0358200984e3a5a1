/-
  No cell of these rows narrows 'for every input' (looked for: loops, veiled, ifaces, maps, wideKeys, modest, calm, conditions, laid).
  DERIVED. THE GIVEN ROWS OF THIS SEAT. 6 by the template 'for every input the law returns true; each argument reads behind the call as it read before'; 0 by the template 'total and deterministic' (their statements: YtmicboobfnbclaaTotals.lean).
  GIVEN WITH THE SEED: the statements are not yours to turn. If you find one false, say at which input.
  Laid BY PROGRAM, IN A SANDBOX (cutbox-rows.mjs): the forced cells as the released guide's own fill.sh prints them over the translation b4afdb853f3d6fb7… (all of the seat's roots in one cut). By AI agents, Wed Nov 11 2026. No macro, syntax, notation, axiom, sorry.
-/
import Derived.Test.YtmicboobfnbclaaChecked
import GoSem.Claim
import GoSem.ClaimJoined
import GoSem.ClaimMapViews
import Derived.JoinedTies
import Derived.KernelRfl
namespace Go.Proofs.Ytmicboobfnbclaa
/- THE CELL 'sum', in the pinned program and in every row, IS THE sha256 OF THE DUMP (.gsa) THAT YtmicboobfnbclaaProg.lean LOADS. Nothing in Lean hashes anything: it is a label: what it is worth is what the hold of that sum in a sandbox is worth. -/
noncomputable def Try.pinned : Pinned := { name := "ytmicboobfnbclaa", sum := "b4afdb853f3d6fb7074c3272edb0a63d0f7b079cd06dd741ce5871c45d94a37a", checked := Try.checked }
namespace Rows
def none {H : Type} : Left H := { results := [], args := [] }

/-- 'laws.FnExactExplore': WHATEVER THE INPUT: true; the input reads as it did. -/
def fnExactExploreSpec : ChangeSpec := { name := "fnExactExplore", fn := fun _ => fun
  | [d1, d2, d3] => { results := [.lit (.bool true)], args := [d1, d2, d3] }
  | _ => none }
def fnExactExploreRow : OpenClaim := { program := "ytmicboobfnbclaa", sum := "b4afdb853f3d6fb7074c3272edb0a63d0f7b079cd06dd741ce5871c45d94a37a", func := "loop.example/g00662/laws.FnExactExplore", spec := "fnExactExplore", plainKeys := false, apart := false }
def FnExactExploreSaid : Prop := fnExactExploreRow.holds Try.pinned (OpenSpec.ofChange fnExactExploreSpec)

/-- ITS FALSE NEIGHBOUR: 'it returns false'. Refute it at one input. -/
def fnExactExploreWrong : ChangeSpec := { name := "fnExactExplore", fn := fun _ => fun
  | [d1, d2, d3] => { results := [.lit (.bool false)], args := [d1, d2, d3] }
  | _ => none }
def FnExactExploreWrongFalsely : Prop := fnExactExploreRow.holds Try.pinned (OpenSpec.ofChange fnExactExploreWrong)

/-- 'laws.FnExactWayTo': WHATEVER THE INPUT: true; the input reads as it did. -/
def fnExactWayToSpec : ChangeSpec := { name := "fnExactWayTo", fn := fun _ => fun
  | [d1, d2, d3, d4] => { results := [.lit (.bool true)], args := [d1, d2, d3, d4] }
  | _ => none }
def fnExactWayToRow : OpenClaim := { program := "ytmicboobfnbclaa", sum := "b4afdb853f3d6fb7074c3272edb0a63d0f7b079cd06dd741ce5871c45d94a37a", func := "loop.example/g00662/laws.FnExactWayTo", spec := "fnExactWayTo", unfollowed := true, recurses := true, plainKeys := false, apart := false }
def FnExactWayToSaid : Prop := fnExactWayToRow.holds Try.pinned (OpenSpec.ofChange fnExactWayToSpec)

/-- ITS FALSE NEIGHBOUR: 'it returns false'. Refute it at one input. -/
def fnExactWayToWrong : ChangeSpec := { name := "fnExactWayTo", fn := fun _ => fun
  | [d1, d2, d3, d4] => { results := [.lit (.bool false)], args := [d1, d2, d3, d4] }
  | _ => none }
def FnExactWayToWrongFalsely : Prop := fnExactWayToRow.holds Try.pinned (OpenSpec.ofChange fnExactWayToWrong)

/-- 'laws.FnExactCanCome': WHATEVER THE INPUT: true; the input reads as it did. -/
def fnExactCanComeSpec : ChangeSpec := { name := "fnExactCanCome", fn := fun _ => fun
  | [d1, d2, d3, d4] => { results := [.lit (.bool true)], args := [d1, d2, d3, d4] }
  | _ => none }
def fnExactCanComeRow : OpenClaim := { program := "ytmicboobfnbclaa", sum := "b4afdb853f3d6fb7074c3272edb0a63d0f7b079cd06dd741ce5871c45d94a37a", func := "loop.example/g00662/laws.FnExactCanCome", spec := "fnExactCanCome", plainKeys := false, apart := false }
def FnExactCanComeSaid : Prop := fnExactCanComeRow.holds Try.pinned (OpenSpec.ofChange fnExactCanComeSpec)

/-- ITS FALSE NEIGHBOUR: 'it returns false'. Refute it at one input. -/
def fnExactCanComeWrong : ChangeSpec := { name := "fnExactCanCome", fn := fun _ => fun
  | [d1, d2, d3, d4] => { results := [.lit (.bool false)], args := [d1, d2, d3, d4] }
  | _ => none }
def FnExactCanComeWrongFalsely : Prop := fnExactCanComeRow.holds Try.pinned (OpenSpec.ofChange fnExactCanComeWrong)

/-- 'laws.FnExactFirstDead': WHATEVER THE INPUT: true; the input reads as it did. -/
def fnExactFirstDeadSpec : ChangeSpec := { name := "fnExactFirstDead", fn := fun _ => fun
  | [d1, d2, d3] => { results := [.lit (.bool true)], args := [d1, d2, d3] }
  | _ => none }
def fnExactFirstDeadRow : OpenClaim := { program := "ytmicboobfnbclaa", sum := "b4afdb853f3d6fb7074c3272edb0a63d0f7b079cd06dd741ce5871c45d94a37a", func := "loop.example/g00662/laws.FnExactFirstDead", spec := "fnExactFirstDead", unfollowed := true, recurses := true, plainKeys := false, apart := false }
def FnExactFirstDeadSaid : Prop := fnExactFirstDeadRow.holds Try.pinned (OpenSpec.ofChange fnExactFirstDeadSpec)

/-- ITS FALSE NEIGHBOUR: 'it returns false'. Refute it at one input. -/
def fnExactFirstDeadWrong : ChangeSpec := { name := "fnExactFirstDead", fn := fun _ => fun
  | [d1, d2, d3] => { results := [.lit (.bool false)], args := [d1, d2, d3] }
  | _ => none }
def FnExactFirstDeadWrongFalsely : Prop := fnExactFirstDeadRow.holds Try.pinned (OpenSpec.ofChange fnExactFirstDeadWrong)

/-- 'laws.FnExactDeadTrans': WHATEVER THE INPUT: true; the input reads as it did. -/
def fnExactDeadTransSpec : ChangeSpec := { name := "fnExactDeadTrans", fn := fun _ => fun
  | [d1, d2, d3] => { results := [.lit (.bool true)], args := [d1, d2, d3] }
  | _ => none }
def fnExactDeadTransRow : OpenClaim := { program := "ytmicboobfnbclaa", sum := "b4afdb853f3d6fb7074c3272edb0a63d0f7b079cd06dd741ce5871c45d94a37a", func := "loop.example/g00662/laws.FnExactDeadTrans", spec := "fnExactDeadTrans", plainKeys := false, apart := false }
def FnExactDeadTransSaid : Prop := fnExactDeadTransRow.holds Try.pinned (OpenSpec.ofChange fnExactDeadTransSpec)

/-- ITS FALSE NEIGHBOUR: 'it returns false'. Refute it at one input. -/
def fnExactDeadTransWrong : ChangeSpec := { name := "fnExactDeadTrans", fn := fun _ => fun
  | [d1, d2, d3] => { results := [.lit (.bool false)], args := [d1, d2, d3] }
  | _ => none }
def FnExactDeadTransWrongFalsely : Prop := fnExactDeadTransRow.holds Try.pinned (OpenSpec.ofChange fnExactDeadTransWrong)

/-- 'laws.FnExactBoundOf': WHATEVER THE INPUT: true; the input reads as it did. -/
def fnExactBoundOfSpec : ChangeSpec := { name := "fnExactBoundOf", fn := fun _ => fun
  | [d1, d2, d3, d4] => { results := [.lit (.bool true)], args := [d1, d2, d3, d4] }
  | _ => none }
def fnExactBoundOfRow : OpenClaim := { program := "ytmicboobfnbclaa", sum := "b4afdb853f3d6fb7074c3272edb0a63d0f7b079cd06dd741ce5871c45d94a37a", func := "loop.example/g00662/laws.FnExactBoundOf", spec := "fnExactBoundOf", plainKeys := false, apart := false }
def FnExactBoundOfSaid : Prop := fnExactBoundOfRow.holds Try.pinned (OpenSpec.ofChange fnExactBoundOfSpec)

/-- ITS FALSE NEIGHBOUR: 'it returns false'. Refute it at one input. -/
def fnExactBoundOfWrong : ChangeSpec := { name := "fnExactBoundOf", fn := fun _ => fun
  | [d1, d2, d3, d4] => { results := [.lit (.bool false)], args := [d1, d2, d3, d4] }
  | _ => none }
def FnExactBoundOfWrongFalsely : Prop := fnExactBoundOfRow.holds Try.pinned (OpenSpec.ofChange fnExactBoundOfWrong)

/- THE SECOND FORM. 'bulk': how many values and letters a reading holds, each counted each time it is reached (what is shared counts as often as it is met; a slice's spare places count too). A statement '..UptoSaid' is the law's where the arguments, and the package variables that the reading takes, are together of bulk at most 1048576: NARROWER than '..Said'. Prove '..Said' where nothing that the law and all that it calls make is longer than what came in: it says more and counts as full. Else prove '..UptoSaid'. A law counts once. -/
mutual
def uptoBulk {H : Type} : DataW H → Nat
  | .lit (.string bytes) => bytes.length + 1
  | .lit _ => 1
  | .nil => 1
  | .ptr d => uptoBulk d + 1
  | .slice elems spare => uptoBulkAll elems + uptoBulkAll spare + 1
  | .agg parts => uptoBulkAll parts + 1
  | .iface _ d => uptoBulk d + 1
  | .map entries => uptoBulkEntries entries + 1
  | .held _ => 1
def uptoBulkAll {H : Type} : List (DataW H) → Nat
  | [] => 0
  | d :: r => uptoBulk d + uptoBulkAll r
def uptoBulkEntries {H : Type} : List (Lit × DataW H) → Nat
  | [] => 0
  | x :: r => uptoBulkEntry x + uptoBulkEntries r
def uptoBulkEntry {H : Type} : Lit × DataW H → Nat
  | (.string bytes, d) => bytes.length + uptoBulk d + 1
  | (_, d) => uptoBulk d + 1
 end
def uptoSmall : (H : Type) → List (DataW H) → Bool := fun _ ds => decide (uptoBulkAll ds ≤ 1048576)
def OpenSpec.upto (s : _root_.Go.ChangeSpec) : _root_.Go.OpenSpec := { _root_.Go.OpenSpec.ofChange s with cond := some uptoSmall }

/-- 'laws.FnExactExplore', WHERE WHAT IT READS IS OF BULK AT MOST 1048576: true; the input reads as it did. -/
def fnExactExploreUptoRow : OpenClaim := { program := "ytmicboobfnbclaa", sum := "b4afdb853f3d6fb7074c3272edb0a63d0f7b079cd06dd741ce5871c45d94a37a", func := "loop.example/g00662/laws.FnExactExplore", spec := "fnExactExplore", plainKeys := false, apart := false, narrowed := true }
def FnExactExploreUptoSaid : Prop := fnExactExploreUptoRow.holds Try.pinned (OpenSpec.upto fnExactExploreSpec)

/-- 'laws.FnExactWayTo', WHERE WHAT IT READS IS OF BULK AT MOST 1048576: true; the input reads as it did. -/
def fnExactWayToUptoRow : OpenClaim := { program := "ytmicboobfnbclaa", sum := "b4afdb853f3d6fb7074c3272edb0a63d0f7b079cd06dd741ce5871c45d94a37a", func := "loop.example/g00662/laws.FnExactWayTo", spec := "fnExactWayTo", unfollowed := true, recurses := true, plainKeys := false, apart := false, narrowed := true }
def FnExactWayToUptoSaid : Prop := fnExactWayToUptoRow.holds Try.pinned (OpenSpec.upto fnExactWayToSpec)

/-- 'laws.FnExactCanCome', WHERE WHAT IT READS IS OF BULK AT MOST 1048576: true; the input reads as it did. -/
def fnExactCanComeUptoRow : OpenClaim := { program := "ytmicboobfnbclaa", sum := "b4afdb853f3d6fb7074c3272edb0a63d0f7b079cd06dd741ce5871c45d94a37a", func := "loop.example/g00662/laws.FnExactCanCome", spec := "fnExactCanCome", plainKeys := false, apart := false, narrowed := true }
def FnExactCanComeUptoSaid : Prop := fnExactCanComeUptoRow.holds Try.pinned (OpenSpec.upto fnExactCanComeSpec)

/-- 'laws.FnExactFirstDead', WHERE WHAT IT READS IS OF BULK AT MOST 1048576: true; the input reads as it did. -/
def fnExactFirstDeadUptoRow : OpenClaim := { program := "ytmicboobfnbclaa", sum := "b4afdb853f3d6fb7074c3272edb0a63d0f7b079cd06dd741ce5871c45d94a37a", func := "loop.example/g00662/laws.FnExactFirstDead", spec := "fnExactFirstDead", unfollowed := true, recurses := true, plainKeys := false, apart := false, narrowed := true }
def FnExactFirstDeadUptoSaid : Prop := fnExactFirstDeadUptoRow.holds Try.pinned (OpenSpec.upto fnExactFirstDeadSpec)

/-- 'laws.FnExactDeadTrans', WHERE WHAT IT READS IS OF BULK AT MOST 1048576: true; the input reads as it did. -/
def fnExactDeadTransUptoRow : OpenClaim := { program := "ytmicboobfnbclaa", sum := "b4afdb853f3d6fb7074c3272edb0a63d0f7b079cd06dd741ce5871c45d94a37a", func := "loop.example/g00662/laws.FnExactDeadTrans", spec := "fnExactDeadTrans", plainKeys := false, apart := false, narrowed := true }
def FnExactDeadTransUptoSaid : Prop := fnExactDeadTransUptoRow.holds Try.pinned (OpenSpec.upto fnExactDeadTransSpec)

/-- 'laws.FnExactBoundOf', WHERE WHAT IT READS IS OF BULK AT MOST 1048576: true; the input reads as it did. -/
def fnExactBoundOfUptoRow : OpenClaim := { program := "ytmicboobfnbclaa", sum := "b4afdb853f3d6fb7074c3272edb0a63d0f7b079cd06dd741ce5871c45d94a37a", func := "loop.example/g00662/laws.FnExactBoundOf", spec := "fnExactBoundOf", plainKeys := false, apart := false, narrowed := true }
def FnExactBoundOfUptoSaid : Prop := fnExactBoundOfUptoRow.holds Try.pinned (OpenSpec.upto fnExactBoundOfSpec)

end Rows
end Go.Proofs.Ytmicboobfnbclaa
