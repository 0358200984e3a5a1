/-
  No cell of these rows narrows 'for every input' (looked for: loops, veiled, ifaces, maps, wideKeys, modest, calm, conditions, laid).
  DERIVED. THE GIVEN ROWS OF THIS SEAT. 4 by the template 'for every input the law returns true; each argument reads behind the call as it read before'; 0 by the template 'total and deterministic' (their statements: YtajcmamapmeglaaTotals.lean).
  GIVEN WITH THE SEED: the statements are not yours to turn. If you find one false, say at which input.
  Laid BY PROGRAM, IN A SANDBOX (cutbox-rows.mjs): the forced cells as the released guide's own fill.sh prints them over the translation fa6ef05155d3198e… (all of the seat's roots in one cut). By AI agents, Wed Nov 11 2026. No macro, syntax, notation, axiom, sorry.
-/
import Derived.Test.YtajcmamapmeglaaChecked
import GoSem.Claim
import GoSem.ClaimJoined
import GoSem.ClaimMapViews
import Derived.JoinedTies
import Derived.KernelRfl
namespace Go.Proofs.Ytajcmamapmeglaa
/- THE CELL 'sum', in the pinned program and in every row, IS THE sha256 OF THE DUMP (.gsa) THAT YtajcmamapmeglaaProg.lean LOADS. Nothing in Lean hashes anything: it is a label: what it is worth is what the hold of that sum in a sandbox is worth. -/
noncomputable def Try.pinned : Pinned := { name := "ytajcmamapmeglaa", sum := "fa6ef05155d3198eb4da90380ea5badc7907faabef3d36fbcec3e0885c8e1700", checked := Try.checked }
namespace Rows
def none {H : Type} : Left H := { results := [], args := [] }

/-- 'laws.FnKeptSum': WHATEVER THE INPUT: true; the input reads as it did. -/
def fnKeptSumSpec : ChangeSpec := { name := "fnKeptSum", fn := fun _ => fun
  | [d1, d2] => { results := [.lit (.bool true)], args := [d1, d2] }
  | _ => none }
def fnKeptSumRow : OpenClaim := { program := "ytajcmamapmeglaa", sum := "fa6ef05155d3198eb4da90380ea5badc7907faabef3d36fbcec3e0885c8e1700", func := "loop.example/g00662/laws.FnKeptSum", spec := "fnKeptSum", unfollowed := true, recurses := true, plainKeys := false, apart := false }
def FnKeptSumSaid : Prop := fnKeptSumRow.holds Try.pinned (OpenSpec.ofChange fnKeptSumSpec)

/-- ITS FALSE NEIGHBOUR: 'it returns false'. Refute it at one input. -/
def fnKeptSumWrong : ChangeSpec := { name := "fnKeptSum", fn := fun _ => fun
  | [d1, d2] => { results := [.lit (.bool false)], args := [d1, d2] }
  | _ => none }
def FnKeptSumWrongFalsely : Prop := fnKeptSumRow.holds Try.pinned (OpenSpec.ofChange fnKeptSumWrong)

/-- 'laws.FnKeptAll': WHATEVER THE INPUT: true; the input reads as it did. -/
def fnKeptAllSpec : ChangeSpec := { name := "fnKeptAll", fn := fun _ => fun
  | [d1, d2] => { results := [.lit (.bool true)], args := [d1, d2] }
  | _ => none }
def fnKeptAllRow : OpenClaim := { program := "ytajcmamapmeglaa", sum := "fa6ef05155d3198eb4da90380ea5badc7907faabef3d36fbcec3e0885c8e1700", func := "loop.example/g00662/laws.FnKeptAll", spec := "fnKeptAll", unfollowed := true, recurses := true, plainKeys := false, apart := false }
def FnKeptAllSaid : Prop := fnKeptAllRow.holds Try.pinned (OpenSpec.ofChange fnKeptAllSpec)

/-- ITS FALSE NEIGHBOUR: 'it returns false'. Refute it at one input. -/
def fnKeptAllWrong : ChangeSpec := { name := "fnKeptAll", fn := fun _ => fun
  | [d1, d2] => { results := [.lit (.bool false)], args := [d1, d2] }
  | _ => none }
def FnKeptAllWrongFalsely : Prop := fnKeptAllRow.holds Try.pinned (OpenSpec.ofChange fnKeptAllWrong)

/-- 'laws.FnSiphons': WHATEVER THE INPUT: true; the input reads as it did. -/
def fnSiphonsSpec : ChangeSpec := { name := "fnSiphons", fn := fun _ => fun
  | [d1, d2] => { results := [.lit (.bool true)], args := [d1, d2] }
  | _ => none }
def fnSiphonsRow : OpenClaim := { program := "ytajcmamapmeglaa", sum := "fa6ef05155d3198eb4da90380ea5badc7907faabef3d36fbcec3e0885c8e1700", func := "loop.example/g00662/laws.FnSiphons", spec := "fnSiphons", unfollowed := true, recurses := true, plainKeys := false, apart := false }
def FnSiphonsSaid : Prop := fnSiphonsRow.holds Try.pinned (OpenSpec.ofChange fnSiphonsSpec)

/-- ITS FALSE NEIGHBOUR: 'it returns false'. Refute it at one input. -/
def fnSiphonsWrong : ChangeSpec := { name := "fnSiphons", fn := fun _ => fun
  | [d1, d2] => { results := [.lit (.bool false)], args := [d1, d2] }
  | _ => none }
def FnSiphonsWrongFalsely : Prop := fnSiphonsRow.holds Try.pinned (OpenSpec.ofChange fnSiphonsWrong)

/-- 'laws.FnGuarded': WHATEVER THE INPUT: true; the input reads as it did. -/
def fnGuardedSpec : ChangeSpec := { name := "fnGuarded", fn := fun _ => fun
  | [d1, d2] => { results := [.lit (.bool true)], args := [d1, d2] }
  | _ => none }
def fnGuardedRow : OpenClaim := { program := "ytajcmamapmeglaa", sum := "fa6ef05155d3198eb4da90380ea5badc7907faabef3d36fbcec3e0885c8e1700", func := "loop.example/g00662/laws.FnGuarded", spec := "fnGuarded", unfollowed := true, recurses := true, plainKeys := false, apart := false }
def FnGuardedSaid : Prop := fnGuardedRow.holds Try.pinned (OpenSpec.ofChange fnGuardedSpec)

/-- ITS FALSE NEIGHBOUR: 'it returns false'. Refute it at one input. -/
def fnGuardedWrong : ChangeSpec := { name := "fnGuarded", fn := fun _ => fun
  | [d1, d2] => { results := [.lit (.bool false)], args := [d1, d2] }
  | _ => none }
def FnGuardedWrongFalsely : Prop := fnGuardedRow.holds Try.pinned (OpenSpec.ofChange fnGuardedWrong)

/- THE SECOND FORM. 'bulk': how many values and letters a reading holds, each counted each time it is reached (what is shared counts as often as it is met; a slice's spare places count too). A statement '..UptoSaid' is the law's where the arguments, and the package variables that the reading takes, are together of bulk at most 1048576: NARROWER than '..Said'. Prove '..Said' where nothing that the law and all that it calls make is longer than what came in: it says more and counts as full. Else prove '..UptoSaid'. A law counts once. -/
mutual
def uptoBulk {H : Type} : DataW H → Nat
  | .lit (.string bytes) => bytes.length + 1
  | .lit _ => 1
  | .nil => 1
  | .ptr d => uptoBulk d + 1
  | .slice elems spare => uptoBulkAll elems + uptoBulkAll spare + 1
  | .agg parts => uptoBulkAll parts + 1
  | .iface _ d => uptoBulk d + 1
  | .map entries => uptoBulkEntries entries + 1
  | .held _ => 1
def uptoBulkAll {H : Type} : List (DataW H) → Nat
  | [] => 0
  | d :: r => uptoBulk d + uptoBulkAll r
def uptoBulkEntries {H : Type} : List (Lit × DataW H) → Nat
  | [] => 0
  | x :: r => uptoBulkEntry x + uptoBulkEntries r
def uptoBulkEntry {H : Type} : Lit × DataW H → Nat
  | (.string bytes, d) => bytes.length + uptoBulk d + 1
  | (_, d) => uptoBulk d + 1
 end
def uptoSmall : (H : Type) → List (DataW H) → Bool := fun _ ds => decide (uptoBulkAll ds ≤ 1048576)
def OpenSpec.upto (s : _root_.Go.ChangeSpec) : _root_.Go.OpenSpec := { _root_.Go.OpenSpec.ofChange s with cond := some uptoSmall }

/-- 'laws.FnKeptSum', WHERE WHAT IT READS IS OF BULK AT MOST 1048576: true; the input reads as it did. -/
def fnKeptSumUptoRow : OpenClaim := { program := "ytajcmamapmeglaa", sum := "fa6ef05155d3198eb4da90380ea5badc7907faabef3d36fbcec3e0885c8e1700", func := "loop.example/g00662/laws.FnKeptSum", spec := "fnKeptSum", unfollowed := true, recurses := true, plainKeys := false, apart := false, narrowed := true }
def FnKeptSumUptoSaid : Prop := fnKeptSumUptoRow.holds Try.pinned (OpenSpec.upto fnKeptSumSpec)

/-- 'laws.FnKeptAll', WHERE WHAT IT READS IS OF BULK AT MOST 1048576: true; the input reads as it did. -/
def fnKeptAllUptoRow : OpenClaim := { program := "ytajcmamapmeglaa", sum := "fa6ef05155d3198eb4da90380ea5badc7907faabef3d36fbcec3e0885c8e1700", func := "loop.example/g00662/laws.FnKeptAll", spec := "fnKeptAll", unfollowed := true, recurses := true, plainKeys := false, apart := false, narrowed := true }
def FnKeptAllUptoSaid : Prop := fnKeptAllUptoRow.holds Try.pinned (OpenSpec.upto fnKeptAllSpec)

/-- 'laws.FnSiphons', WHERE WHAT IT READS IS OF BULK AT MOST 1048576: true; the input reads as it did. -/
def fnSiphonsUptoRow : OpenClaim := { program := "ytajcmamapmeglaa", sum := "fa6ef05155d3198eb4da90380ea5badc7907faabef3d36fbcec3e0885c8e1700", func := "loop.example/g00662/laws.FnSiphons", spec := "fnSiphons", unfollowed := true, recurses := true, plainKeys := false, apart := false, narrowed := true }
def FnSiphonsUptoSaid : Prop := fnSiphonsUptoRow.holds Try.pinned (OpenSpec.upto fnSiphonsSpec)

/-- 'laws.FnGuarded', WHERE WHAT IT READS IS OF BULK AT MOST 1048576: true; the input reads as it did. -/
def fnGuardedUptoRow : OpenClaim := { program := "ytajcmamapmeglaa", sum := "fa6ef05155d3198eb4da90380ea5badc7907faabef3d36fbcec3e0885c8e1700", func := "loop.example/g00662/laws.FnGuarded", spec := "fnGuarded", unfollowed := true, recurses := true, plainKeys := false, apart := false, narrowed := true }
def FnGuardedUptoSaid : Prop := fnGuardedUptoRow.holds Try.pinned (OpenSpec.upto fnGuardedSpec)

end Rows
end Go.Proofs.Ytajcmamapmeglaa
