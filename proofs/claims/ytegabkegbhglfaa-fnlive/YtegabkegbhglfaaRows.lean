/-
  No cell of these rows narrows 'for every input' (looked for: loops, veiled, ifaces, maps, wideKeys, modest, calm, conditions, laid).
  DERIVED. THE GIVEN ROWS OF THIS SEAT. 5 by the template 'for every input the law returns true; each argument reads behind the call as it read before'; 0 by the template 'total and deterministic' (their statements: YtegabkegbhglfaaTotals.lean).
  GIVEN WITH THE SEED: the statements are not yours to turn. If you find one false, say at which input.
  Laid BY PROGRAM, IN A SANDBOX (cutbox-rows.mjs): the forced cells as the released guide's own fill.sh prints them over the translation 450442bcce91cc70… (all of the seat's roots in one cut). By AI agents, Wed Nov 11 2026. No macro, syntax, notation, axiom, sorry.
-/
import Derived.Test.YtegabkegbhglfaaChecked
import GoSem.Claim
import GoSem.ClaimJoined
import GoSem.ClaimMapViews
import Derived.JoinedTies
import Derived.KernelRfl
namespace Go.Proofs.Ytegabkegbhglfaa
/- THE CELL 'sum', in the pinned program and in every row, IS THE sha256 OF THE DUMP (.gsa) THAT YtegabkegbhglfaaProg.lean LOADS. Nothing in Lean hashes anything: it is a label: what it is worth is what the hold of that sum in a sandbox is worth. -/
noncomputable def Try.pinned : Pinned := { name := "ytegabkegbhglfaa", sum := "450442bcce91cc7028876b20a4d1737ddbbc663a2bbc16e911ca4ce3e87c4cfd", checked := Try.checked }
namespace Rows
def none {H : Type} : Left H := { results := [], args := [] }

/-- 'laws.FnLeastMarks': WHATEVER THE INPUT: true; the input reads as it did. -/
def fnLeastMarksSpec : ChangeSpec := { name := "fnLeastMarks", fn := fun _ => fun
  | [d1, d2] => { results := [.lit (.bool true)], args := [d1, d2] }
  | _ => none }
def fnLeastMarksRow : OpenClaim := { program := "ytegabkegbhglfaa", sum := "450442bcce91cc7028876b20a4d1737ddbbc663a2bbc16e911ca4ce3e87c4cfd", func := "loop.example/g00662/laws.FnLeastMarks", spec := "fnLeastMarks", unfollowed := true, recurses := true, plainKeys := false, apart := false }
def FnLeastMarksSaid : Prop := fnLeastMarksRow.holds Try.pinned (OpenSpec.ofChange fnLeastMarksSpec)

/-- ITS FALSE NEIGHBOUR: 'it returns false'. Refute it at one input. -/
def fnLeastMarksWrong : ChangeSpec := { name := "fnLeastMarks", fn := fun _ => fun
  | [d1, d2] => { results := [.lit (.bool false)], args := [d1, d2] }
  | _ => none }
def FnLeastMarksWrongFalsely : Prop := fnLeastMarksRow.holds Try.pinned (OpenSpec.ofChange fnLeastMarksWrong)

/-- 'laws.FnSpace': WHATEVER THE INPUT: true; the input reads as it did. -/
def fnSpaceSpec : ChangeSpec := { name := "fnSpace", fn := fun _ => fun
  | [d1, d2] => { results := [.lit (.bool true)], args := [d1, d2] }
  | _ => none }
def fnSpaceRow : OpenClaim := { program := "ytegabkegbhglfaa", sum := "450442bcce91cc7028876b20a4d1737ddbbc663a2bbc16e911ca4ce3e87c4cfd", func := "loop.example/g00662/laws.FnSpace", spec := "fnSpace", unfollowed := true, recurses := true, plainKeys := false, apart := false }
def FnSpaceSaid : Prop := fnSpaceRow.holds Try.pinned (OpenSpec.ofChange fnSpaceSpec)

/-- ITS FALSE NEIGHBOUR: 'it returns false'. Refute it at one input. -/
def fnSpaceWrong : ChangeSpec := { name := "fnSpace", fn := fun _ => fun
  | [d1, d2] => { results := [.lit (.bool false)], args := [d1, d2] }
  | _ => none }
def FnSpaceWrongFalsely : Prop := fnSpaceRow.holds Try.pinned (OpenSpec.ofChange fnSpaceWrong)

/-- 'laws.FnLive': WHATEVER THE INPUT: true; the input reads as it did. -/
def fnLiveSpec : ChangeSpec := { name := "fnLive", fn := fun _ => fun
  | [d1, d2] => { results := [.lit (.bool true)], args := [d1, d2] }
  | _ => none }
def fnLiveRow : OpenClaim := { program := "ytegabkegbhglfaa", sum := "450442bcce91cc7028876b20a4d1737ddbbc663a2bbc16e911ca4ce3e87c4cfd", func := "loop.example/g00662/laws.FnLive", spec := "fnLive", unfollowed := true, recurses := true, plainKeys := false, apart := false }
def FnLiveSaid : Prop := fnLiveRow.holds Try.pinned (OpenSpec.ofChange fnLiveSpec)

/-- ITS FALSE NEIGHBOUR: 'it returns false'. Refute it at one input. -/
def fnLiveWrong : ChangeSpec := { name := "fnLive", fn := fun _ => fun
  | [d1, d2] => { results := [.lit (.bool false)], args := [d1, d2] }
  | _ => none }
def FnLiveWrongFalsely : Prop := fnLiveRow.holds Try.pinned (OpenSpec.ofChange fnLiveWrong)

/-- 'laws.FnHome': WHATEVER THE INPUT: true; the input reads as it did. -/
def fnHomeSpec : ChangeSpec := { name := "fnHome", fn := fun _ => fun
  | [d1, d2] => { results := [.lit (.bool true)], args := [d1, d2] }
  | _ => none }
def fnHomeRow : OpenClaim := { program := "ytegabkegbhglfaa", sum := "450442bcce91cc7028876b20a4d1737ddbbc663a2bbc16e911ca4ce3e87c4cfd", func := "loop.example/g00662/laws.FnHome", spec := "fnHome", unfollowed := true, recurses := true, plainKeys := false, apart := false }
def FnHomeSaid : Prop := fnHomeRow.holds Try.pinned (OpenSpec.ofChange fnHomeSpec)

/-- ITS FALSE NEIGHBOUR: 'it returns false'. Refute it at one input. -/
def fnHomeWrong : ChangeSpec := { name := "fnHome", fn := fun _ => fun
  | [d1, d2] => { results := [.lit (.bool false)], args := [d1, d2] }
  | _ => none }
def FnHomeWrongFalsely : Prop := fnHomeRow.holds Try.pinned (OpenSpec.ofChange fnHomeWrong)

/-- 'laws.FnStepBack': WHATEVER THE INPUT: true; the input reads as it did. -/
def fnStepBackSpec : ChangeSpec := { name := "fnStepBack", fn := fun _ => fun
  | [d1, d2] => { results := [.lit (.bool true)], args := [d1, d2] }
  | _ => none }
def fnStepBackRow : OpenClaim := { program := "ytegabkegbhglfaa", sum := "450442bcce91cc7028876b20a4d1737ddbbc663a2bbc16e911ca4ce3e87c4cfd", func := "loop.example/g00662/laws.FnStepBack", spec := "fnStepBack", recurses := true, plainKeys := false, apart := false }
def FnStepBackSaid : Prop := fnStepBackRow.holds Try.pinned (OpenSpec.ofChange fnStepBackSpec)

/-- ITS FALSE NEIGHBOUR: 'it returns false'. Refute it at one input. -/
def fnStepBackWrong : ChangeSpec := { name := "fnStepBack", fn := fun _ => fun
  | [d1, d2] => { results := [.lit (.bool false)], args := [d1, d2] }
  | _ => none }
def FnStepBackWrongFalsely : Prop := fnStepBackRow.holds Try.pinned (OpenSpec.ofChange fnStepBackWrong)

/- THE SECOND FORM. 'bulk': how many values and letters a reading holds, each counted each time it is reached (what is shared counts as often as it is met; a slice's spare places count too). A statement '..UptoSaid' is the law's where the arguments, and the package variables that the reading takes, are together of bulk at most 1048576: NARROWER than '..Said'. Prove '..Said' where nothing that the law and all that it calls make is longer than what came in: it says more and counts as full. Else prove '..UptoSaid'. A law counts once. -/
mutual
def uptoBulk {H : Type} : DataW H → Nat
  | .lit (.string bytes) => bytes.length + 1
  | .lit _ => 1
  | .nil => 1
  | .ptr d => uptoBulk d + 1
  | .slice elems spare => uptoBulkAll elems + uptoBulkAll spare + 1
  | .agg parts => uptoBulkAll parts + 1
  | .iface _ d => uptoBulk d + 1
  | .map entries => uptoBulkEntries entries + 1
  | .held _ => 1
def uptoBulkAll {H : Type} : List (DataW H) → Nat
  | [] => 0
  | d :: r => uptoBulk d + uptoBulkAll r
def uptoBulkEntries {H : Type} : List (Lit × DataW H) → Nat
  | [] => 0
  | x :: r => uptoBulkEntry x + uptoBulkEntries r
def uptoBulkEntry {H : Type} : Lit × DataW H → Nat
  | (.string bytes, d) => bytes.length + uptoBulk d + 1
  | (_, d) => uptoBulk d + 1
 end
def uptoSmall : (H : Type) → List (DataW H) → Bool := fun _ ds => decide (uptoBulkAll ds ≤ 1048576)
def OpenSpec.upto (s : _root_.Go.ChangeSpec) : _root_.Go.OpenSpec := { _root_.Go.OpenSpec.ofChange s with cond := some uptoSmall }

/-- 'laws.FnLeastMarks', WHERE WHAT IT READS IS OF BULK AT MOST 1048576: true; the input reads as it did. -/
def fnLeastMarksUptoRow : OpenClaim := { program := "ytegabkegbhglfaa", sum := "450442bcce91cc7028876b20a4d1737ddbbc663a2bbc16e911ca4ce3e87c4cfd", func := "loop.example/g00662/laws.FnLeastMarks", spec := "fnLeastMarks", unfollowed := true, recurses := true, plainKeys := false, apart := false, narrowed := true }
def FnLeastMarksUptoSaid : Prop := fnLeastMarksUptoRow.holds Try.pinned (OpenSpec.upto fnLeastMarksSpec)

/-- 'laws.FnSpace', WHERE WHAT IT READS IS OF BULK AT MOST 1048576: true; the input reads as it did. -/
def fnSpaceUptoRow : OpenClaim := { program := "ytegabkegbhglfaa", sum := "450442bcce91cc7028876b20a4d1737ddbbc663a2bbc16e911ca4ce3e87c4cfd", func := "loop.example/g00662/laws.FnSpace", spec := "fnSpace", unfollowed := true, recurses := true, plainKeys := false, apart := false, narrowed := true }
def FnSpaceUptoSaid : Prop := fnSpaceUptoRow.holds Try.pinned (OpenSpec.upto fnSpaceSpec)

/-- 'laws.FnLive', WHERE WHAT IT READS IS OF BULK AT MOST 1048576: true; the input reads as it did. -/
def fnLiveUptoRow : OpenClaim := { program := "ytegabkegbhglfaa", sum := "450442bcce91cc7028876b20a4d1737ddbbc663a2bbc16e911ca4ce3e87c4cfd", func := "loop.example/g00662/laws.FnLive", spec := "fnLive", unfollowed := true, recurses := true, plainKeys := false, apart := false, narrowed := true }
def FnLiveUptoSaid : Prop := fnLiveUptoRow.holds Try.pinned (OpenSpec.upto fnLiveSpec)

/-- 'laws.FnHome', WHERE WHAT IT READS IS OF BULK AT MOST 1048576: true; the input reads as it did. -/
def fnHomeUptoRow : OpenClaim := { program := "ytegabkegbhglfaa", sum := "450442bcce91cc7028876b20a4d1737ddbbc663a2bbc16e911ca4ce3e87c4cfd", func := "loop.example/g00662/laws.FnHome", spec := "fnHome", unfollowed := true, recurses := true, plainKeys := false, apart := false, narrowed := true }
def FnHomeUptoSaid : Prop := fnHomeUptoRow.holds Try.pinned (OpenSpec.upto fnHomeSpec)

/-- 'laws.FnStepBack', WHERE WHAT IT READS IS OF BULK AT MOST 1048576: true; the input reads as it did. -/
def fnStepBackUptoRow : OpenClaim := { program := "ytegabkegbhglfaa", sum := "450442bcce91cc7028876b20a4d1737ddbbc663a2bbc16e911ca4ce3e87c4cfd", func := "loop.example/g00662/laws.FnStepBack", spec := "fnStepBack", recurses := true, plainKeys := false, apart := false, narrowed := true }
def FnStepBackUptoSaid : Prop := fnStepBackUptoRow.holds Try.pinned (OpenSpec.upto fnStepBackSpec)

end Rows
end Go.Proofs.Ytegabkegbhglfaa
