/-
  No cell of these rows narrows 'for every input' (looked for: loops, veiled, ifaces, maps, wideKeys, modest, calm, conditions, laid).
  DERIVED. THE GIVEN ROWS OF THIS SEAT. 6 by the template 'for every input the law returns true; each argument reads behind the call as it read before'; 0 by the template 'total and deterministic' (their statements: YtedbihlpggficaaTotals.lean).
  GIVEN WITH THE SEED: the statements are not yours to turn. If you find one false, say at which input.
  Laid BY PROGRAM, IN A SANDBOX (cutbox-rows.mjs): the forced cells as the released guide's own fill.sh prints them over the translation c6c772fffef95d08… (all of the seat's roots in one cut). By AI agents, Wed Nov 11 2026. No macro, syntax, notation, axiom, sorry.
-/
import Derived.Test.YtedbihlpggficaaChecked
import GoSem.Claim
import GoSem.ClaimJoined
import GoSem.ClaimMapViews
import Derived.JoinedTies
import Derived.KernelRfl
namespace Go.Proofs.Ytedbihlpggficaa
/- THE CELL 'sum', in the pinned program and in every row, IS THE sha256 OF THE DUMP (.gsa) THAT YtedbihlpggficaaProg.lean LOADS. Nothing in Lean hashes anything: it is a label: what it is worth is what the hold of that sum in a sandbox is worth. -/
noncomputable def Try.pinned : Pinned := { name := "ytedbihlpggficaa", sum := "c6c772fffef95d082d45d62a688a2a2466053fd351f5c3478cbdb099a9a3355a", checked := Try.checked }
namespace Rows
def none {H : Type} : Left H := { results := [], args := [] }

/-- 'laws.FnExactExplore': WHATEVER THE INPUT: true; the input reads as it did. -/
def fnExactExploreSpec : ChangeSpec := { name := "fnExactExplore", fn := fun _ => fun
  | [d1, d2, d3] => { results := [.lit (.bool true)], args := [d1, d2, d3] }
  | _ => none }
def fnExactExploreRow : OpenClaim := { program := "ytedbihlpggficaa", sum := "c6c772fffef95d082d45d62a688a2a2466053fd351f5c3478cbdb099a9a3355a", func := "loop.example/g00662/laws.FnExactExplore", spec := "fnExactExplore", plainKeys := false, apart := false }
def FnExactExploreSaid : Prop := fnExactExploreRow.holds Try.pinned (OpenSpec.ofChange fnExactExploreSpec)

/-- ITS FALSE NEIGHBOUR: 'it returns false'. Refute it at one input. -/
def fnExactExploreWrong : ChangeSpec := { name := "fnExactExplore", fn := fun _ => fun
  | [d1, d2, d3] => { results := [.lit (.bool false)], args := [d1, d2, d3] }
  | _ => none }
def FnExactExploreWrongFalsely : Prop := fnExactExploreRow.holds Try.pinned (OpenSpec.ofChange fnExactExploreWrong)

/-- 'laws.FnExactLeastMarks': WHATEVER THE INPUT: true; the input reads as it did. -/
def fnExactLeastMarksSpec : ChangeSpec := { name := "fnExactLeastMarks", fn := fun _ => fun
  | [d1, d2] => { results := [.lit (.bool true)], args := [d1, d2] }
  | _ => none }
def fnExactLeastMarksRow : OpenClaim := { program := "ytedbihlpggficaa", sum := "c6c772fffef95d082d45d62a688a2a2466053fd351f5c3478cbdb099a9a3355a", func := "loop.example/g00662/laws.FnExactLeastMarks", spec := "fnExactLeastMarks", unfollowed := true, recurses := true, plainKeys := false, apart := false }
def FnExactLeastMarksSaid : Prop := fnExactLeastMarksRow.holds Try.pinned (OpenSpec.ofChange fnExactLeastMarksSpec)

/-- ITS FALSE NEIGHBOUR: 'it returns false'. Refute it at one input. -/
def fnExactLeastMarksWrong : ChangeSpec := { name := "fnExactLeastMarks", fn := fun _ => fun
  | [d1, d2] => { results := [.lit (.bool false)], args := [d1, d2] }
  | _ => none }
def FnExactLeastMarksWrongFalsely : Prop := fnExactLeastMarksRow.holds Try.pinned (OpenSpec.ofChange fnExactLeastMarksWrong)

/-- 'laws.FnExactWayTo': WHATEVER THE INPUT: true; the input reads as it did. -/
def fnExactWayToSpec : ChangeSpec := { name := "fnExactWayTo", fn := fun _ => fun
  | [d1, d2, d3, d4] => { results := [.lit (.bool true)], args := [d1, d2, d3, d4] }
  | _ => none }
def fnExactWayToRow : OpenClaim := { program := "ytedbihlpggficaa", sum := "c6c772fffef95d082d45d62a688a2a2466053fd351f5c3478cbdb099a9a3355a", func := "loop.example/g00662/laws.FnExactWayTo", spec := "fnExactWayTo", unfollowed := true, recurses := true, plainKeys := false, apart := false }
def FnExactWayToSaid : Prop := fnExactWayToRow.holds Try.pinned (OpenSpec.ofChange fnExactWayToSpec)

/-- ITS FALSE NEIGHBOUR: 'it returns false'. Refute it at one input. -/
def fnExactWayToWrong : ChangeSpec := { name := "fnExactWayTo", fn := fun _ => fun
  | [d1, d2, d3, d4] => { results := [.lit (.bool false)], args := [d1, d2, d3, d4] }
  | _ => none }
def FnExactWayToWrongFalsely : Prop := fnExactWayToRow.holds Try.pinned (OpenSpec.ofChange fnExactWayToWrong)

/-- 'laws.FnExactIsLive': WHATEVER THE INPUT: true; the input reads as it did. -/
def fnExactIsLiveSpec : ChangeSpec := { name := "fnExactIsLive", fn := fun _ => fun
  | [d1, d2, d3] => { results := [.lit (.bool true)], args := [d1, d2, d3] }
  | _ => none }
def fnExactIsLiveRow : OpenClaim := { program := "ytedbihlpggficaa", sum := "c6c772fffef95d082d45d62a688a2a2466053fd351f5c3478cbdb099a9a3355a", func := "loop.example/g00662/laws.FnExactIsLive", spec := "fnExactIsLive", unfollowed := true, recurses := true, plainKeys := false, apart := false }
def FnExactIsLiveSaid : Prop := fnExactIsLiveRow.holds Try.pinned (OpenSpec.ofChange fnExactIsLiveSpec)

/-- ITS FALSE NEIGHBOUR: 'it returns false'. Refute it at one input. -/
def fnExactIsLiveWrong : ChangeSpec := { name := "fnExactIsLive", fn := fun _ => fun
  | [d1, d2, d3] => { results := [.lit (.bool false)], args := [d1, d2, d3] }
  | _ => none }
def FnExactIsLiveWrongFalsely : Prop := fnExactIsLiveRow.holds Try.pinned (OpenSpec.ofChange fnExactIsLiveWrong)

/-- 'laws.FnExactIsHome': WHATEVER THE INPUT: true; the input reads as it did. -/
def fnExactIsHomeSpec : ChangeSpec := { name := "fnExactIsHome", fn := fun _ => fun
  | [d1, d2, d3, d4] => { results := [.lit (.bool true)], args := [d1, d2, d3, d4] }
  | _ => none }
def fnExactIsHomeRow : OpenClaim := { program := "ytedbihlpggficaa", sum := "c6c772fffef95d082d45d62a688a2a2466053fd351f5c3478cbdb099a9a3355a", func := "loop.example/g00662/laws.FnExactIsHome", spec := "fnExactIsHome", unfollowed := true, recurses := true, plainKeys := false, apart := false }
def FnExactIsHomeSaid : Prop := fnExactIsHomeRow.holds Try.pinned (OpenSpec.ofChange fnExactIsHomeSpec)

/-- ITS FALSE NEIGHBOUR: 'it returns false'. Refute it at one input. -/
def fnExactIsHomeWrong : ChangeSpec := { name := "fnExactIsHome", fn := fun _ => fun
  | [d1, d2, d3, d4] => { results := [.lit (.bool false)], args := [d1, d2, d3, d4] }
  | _ => none }
def FnExactIsHomeWrongFalsely : Prop := fnExactIsHomeRow.holds Try.pinned (OpenSpec.ofChange fnExactIsHomeWrong)

/-- 'laws.FnExactCoverTree': WHATEVER THE INPUT: true; the input reads as it did. -/
def fnExactCoverTreeSpec : ChangeSpec := { name := "fnExactCoverTree", fn := fun _ => fun
  | [d1, d2, d3] => { results := [.lit (.bool true)], args := [d1, d2, d3] }
  | _ => none }
def fnExactCoverTreeRow : OpenClaim := { program := "ytedbihlpggficaa", sum := "c6c772fffef95d082d45d62a688a2a2466053fd351f5c3478cbdb099a9a3355a", func := "loop.example/g00662/laws.FnExactCoverTree", spec := "fnExactCoverTree", unfollowed := true, recurses := true, plainKeys := false, apart := false }
def FnExactCoverTreeSaid : Prop := fnExactCoverTreeRow.holds Try.pinned (OpenSpec.ofChange fnExactCoverTreeSpec)

/-- ITS FALSE NEIGHBOUR: 'it returns false'. Refute it at one input. -/
def fnExactCoverTreeWrong : ChangeSpec := { name := "fnExactCoverTree", fn := fun _ => fun
  | [d1, d2, d3] => { results := [.lit (.bool false)], args := [d1, d2, d3] }
  | _ => none }
def FnExactCoverTreeWrongFalsely : Prop := fnExactCoverTreeRow.holds Try.pinned (OpenSpec.ofChange fnExactCoverTreeWrong)

/- THE SECOND FORM. 'bulk': how many values and letters a reading holds, each counted each time it is reached (what is shared counts as often as it is met; a slice's spare places count too). A statement '..UptoSaid' is the law's where the arguments, and the package variables that the reading takes, are together of bulk at most 1048576: NARROWER than '..Said'. Prove '..Said' where nothing that the law and all that it calls make is longer than what came in: it says more and counts as full. Else prove '..UptoSaid'. A law counts once. -/
mutual
def uptoBulk {H : Type} : DataW H → Nat
  | .lit (.string bytes) => bytes.length + 1
  | .lit _ => 1
  | .nil => 1
  | .ptr d => uptoBulk d + 1
  | .slice elems spare => uptoBulkAll elems + uptoBulkAll spare + 1
  | .agg parts => uptoBulkAll parts + 1
  | .iface _ d => uptoBulk d + 1
  | .map entries => uptoBulkEntries entries + 1
  | .held _ => 1
def uptoBulkAll {H : Type} : List (DataW H) → Nat
  | [] => 0
  | d :: r => uptoBulk d + uptoBulkAll r
def uptoBulkEntries {H : Type} : List (Lit × DataW H) → Nat
  | [] => 0
  | x :: r => uptoBulkEntry x + uptoBulkEntries r
def uptoBulkEntry {H : Type} : Lit × DataW H → Nat
  | (.string bytes, d) => bytes.length + uptoBulk d + 1
  | (_, d) => uptoBulk d + 1
 end
def uptoSmall : (H : Type) → List (DataW H) → Bool := fun _ ds => decide (uptoBulkAll ds ≤ 1048576)
def OpenSpec.upto (s : _root_.Go.ChangeSpec) : _root_.Go.OpenSpec := { _root_.Go.OpenSpec.ofChange s with cond := some uptoSmall }

/-- 'laws.FnExactExplore', WHERE WHAT IT READS IS OF BULK AT MOST 1048576: true; the input reads as it did. -/
def fnExactExploreUptoRow : OpenClaim := { program := "ytedbihlpggficaa", sum := "c6c772fffef95d082d45d62a688a2a2466053fd351f5c3478cbdb099a9a3355a", func := "loop.example/g00662/laws.FnExactExplore", spec := "fnExactExplore", plainKeys := false, apart := false, narrowed := true }
def FnExactExploreUptoSaid : Prop := fnExactExploreUptoRow.holds Try.pinned (OpenSpec.upto fnExactExploreSpec)

/-- 'laws.FnExactLeastMarks', WHERE WHAT IT READS IS OF BULK AT MOST 1048576: true; the input reads as it did. -/
def fnExactLeastMarksUptoRow : OpenClaim := { program := "ytedbihlpggficaa", sum := "c6c772fffef95d082d45d62a688a2a2466053fd351f5c3478cbdb099a9a3355a", func := "loop.example/g00662/laws.FnExactLeastMarks", spec := "fnExactLeastMarks", unfollowed := true, recurses := true, plainKeys := false, apart := false, narrowed := true }
def FnExactLeastMarksUptoSaid : Prop := fnExactLeastMarksUptoRow.holds Try.pinned (OpenSpec.upto fnExactLeastMarksSpec)

/-- 'laws.FnExactWayTo', WHERE WHAT IT READS IS OF BULK AT MOST 1048576: true; the input reads as it did. -/
def fnExactWayToUptoRow : OpenClaim := { program := "ytedbihlpggficaa", sum := "c6c772fffef95d082d45d62a688a2a2466053fd351f5c3478cbdb099a9a3355a", func := "loop.example/g00662/laws.FnExactWayTo", spec := "fnExactWayTo", unfollowed := true, recurses := true, plainKeys := false, apart := false, narrowed := true }
def FnExactWayToUptoSaid : Prop := fnExactWayToUptoRow.holds Try.pinned (OpenSpec.upto fnExactWayToSpec)

/-- 'laws.FnExactIsLive', WHERE WHAT IT READS IS OF BULK AT MOST 1048576: true; the input reads as it did. -/
def fnExactIsLiveUptoRow : OpenClaim := { program := "ytedbihlpggficaa", sum := "c6c772fffef95d082d45d62a688a2a2466053fd351f5c3478cbdb099a9a3355a", func := "loop.example/g00662/laws.FnExactIsLive", spec := "fnExactIsLive", unfollowed := true, recurses := true, plainKeys := false, apart := false, narrowed := true }
def FnExactIsLiveUptoSaid : Prop := fnExactIsLiveUptoRow.holds Try.pinned (OpenSpec.upto fnExactIsLiveSpec)

/-- 'laws.FnExactIsHome', WHERE WHAT IT READS IS OF BULK AT MOST 1048576: true; the input reads as it did. -/
def fnExactIsHomeUptoRow : OpenClaim := { program := "ytedbihlpggficaa", sum := "c6c772fffef95d082d45d62a688a2a2466053fd351f5c3478cbdb099a9a3355a", func := "loop.example/g00662/laws.FnExactIsHome", spec := "fnExactIsHome", unfollowed := true, recurses := true, plainKeys := false, apart := false, narrowed := true }
def FnExactIsHomeUptoSaid : Prop := fnExactIsHomeUptoRow.holds Try.pinned (OpenSpec.upto fnExactIsHomeSpec)

/-- 'laws.FnExactCoverTree', WHERE WHAT IT READS IS OF BULK AT MOST 1048576: true; the input reads as it did. -/
def fnExactCoverTreeUptoRow : OpenClaim := { program := "ytedbihlpggficaa", sum := "c6c772fffef95d082d45d62a688a2a2466053fd351f5c3478cbdb099a9a3355a", func := "loop.example/g00662/laws.FnExactCoverTree", spec := "fnExactCoverTree", unfollowed := true, recurses := true, plainKeys := false, apart := false, narrowed := true }
def FnExactCoverTreeUptoSaid : Prop := fnExactCoverTreeUptoRow.holds Try.pinned (OpenSpec.upto fnExactCoverTreeSpec)

end Rows
end Go.Proofs.Ytedbihlpggficaa
