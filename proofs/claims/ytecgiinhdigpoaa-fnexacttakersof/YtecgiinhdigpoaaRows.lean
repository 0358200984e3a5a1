/-
  No cell of these rows narrows 'for every input' (looked for: loops, veiled, ifaces, maps, wideKeys, modest, calm, conditions, laid).
  DERIVED. THE GIVEN ROWS OF THIS SEAT. 2 by the template 'for every input the law returns true; each argument reads behind the call as it read before'; 0 by the template 'total and deterministic' (their statements: YtecgiinhdigpoaaTotals.lean).
  GIVEN WITH THE SEED: the statements are not yours to turn. If you find one false, say at which input.
  Laid BY PROGRAM, IN A SANDBOX (cutbox-rows.mjs): the forced cells as the released guide's own fill.sh prints them over the translation 2a8eea353e3cb9d5… (all of the seat's roots in one cut). By AI agents, Wed Nov 11 2026. No macro, syntax, notation, axiom, sorry.
-/
import Derived.Test.YtecgiinhdigpoaaChecked
import GoSem.Claim
import GoSem.ClaimJoined
import GoSem.ClaimMapViews
import Derived.JoinedTies
import Derived.KernelRfl
namespace Go.Proofs.Ytecgiinhdigpoaa
/- THE CELL 'sum', in the pinned program and in every row, IS THE sha256 OF THE DUMP (.gsa) THAT YtecgiinhdigpoaaProg.lean LOADS. Nothing in Lean hashes anything: it is a label: what it is worth is what the hold of that sum in a sandbox is worth. -/
noncomputable def Try.pinned : Pinned := { name := "ytecgiinhdigpoaa", sum := "2a8eea353e3cb9d540d5bf7cab921856373541ebe6691b1d112f487e47d7b58c", checked := Try.checked }
namespace Rows
def none {H : Type} : Left H := { results := [], args := [] }

/-- 'laws.FnExactTakersOf': WHATEVER THE INPUT: true; the input reads as it did. -/
def fnExactTakersOfSpec : ChangeSpec := { name := "fnExactTakersOf", fn := fun _ => fun
  | [d1, d2] => { results := [.lit (.bool true)], args := [d1, d2] }
  | _ => none }
def fnExactTakersOfRow : OpenClaim := { program := "ytecgiinhdigpoaa", sum := "2a8eea353e3cb9d540d5bf7cab921856373541ebe6691b1d112f487e47d7b58c", func := "loop.example/g00662/laws.FnExactTakersOf", spec := "fnExactTakersOf", unfollowed := true, recurses := true, apart := false }
def FnExactTakersOfSaid : Prop := fnExactTakersOfRow.holds Try.pinned (OpenSpec.ofChange fnExactTakersOfSpec)

/-- ITS FALSE NEIGHBOUR: 'it returns false'. Refute it at one input. -/
def fnExactTakersOfWrong : ChangeSpec := { name := "fnExactTakersOf", fn := fun _ => fun
  | [d1, d2] => { results := [.lit (.bool false)], args := [d1, d2] }
  | _ => none }
def FnExactTakersOfWrongFalsely : Prop := fnExactTakersOfRow.holds Try.pinned (OpenSpec.ofChange fnExactTakersOfWrong)

/-- 'laws.FnExactGiversOf': WHATEVER THE INPUT: true; the input reads as it did. -/
def fnExactGiversOfSpec : ChangeSpec := { name := "fnExactGiversOf", fn := fun _ => fun
  | [d1, d2] => { results := [.lit (.bool true)], args := [d1, d2] }
  | _ => none }
def fnExactGiversOfRow : OpenClaim := { program := "ytecgiinhdigpoaa", sum := "2a8eea353e3cb9d540d5bf7cab921856373541ebe6691b1d112f487e47d7b58c", func := "loop.example/g00662/laws.FnExactGiversOf", spec := "fnExactGiversOf", unfollowed := true, recurses := true, apart := false }
def FnExactGiversOfSaid : Prop := fnExactGiversOfRow.holds Try.pinned (OpenSpec.ofChange fnExactGiversOfSpec)

/-- ITS FALSE NEIGHBOUR: 'it returns false'. Refute it at one input. -/
def fnExactGiversOfWrong : ChangeSpec := { name := "fnExactGiversOf", fn := fun _ => fun
  | [d1, d2] => { results := [.lit (.bool false)], args := [d1, d2] }
  | _ => none }
def FnExactGiversOfWrongFalsely : Prop := fnExactGiversOfRow.holds Try.pinned (OpenSpec.ofChange fnExactGiversOfWrong)

/- THE SECOND FORM. 'bulk': how many values and letters a reading holds, each counted each time it is reached (what is shared counts as often as it is met; a slice's spare places count too). A statement '..UptoSaid' is the law's where the arguments, and the package variables that the reading takes, are together of bulk at most 1048576: NARROWER than '..Said'. Prove '..Said' where nothing that the law and all that it calls make is longer than what came in: it says more and counts as full. Else prove '..UptoSaid'. A law counts once. -/
mutual
def uptoBulk {H : Type} : DataW H → Nat
  | .lit (.string bytes) => bytes.length + 1
  | .lit _ => 1
  | .nil => 1
  | .ptr d => uptoBulk d + 1
  | .slice elems spare => uptoBulkAll elems + uptoBulkAll spare + 1
  | .agg parts => uptoBulkAll parts + 1
  | .iface _ d => uptoBulk d + 1
  | .map entries => uptoBulkEntries entries + 1
  | .held _ => 1
def uptoBulkAll {H : Type} : List (DataW H) → Nat
  | [] => 0
  | d :: r => uptoBulk d + uptoBulkAll r
def uptoBulkEntries {H : Type} : List (Lit × DataW H) → Nat
  | [] => 0
  | x :: r => uptoBulkEntry x + uptoBulkEntries r
def uptoBulkEntry {H : Type} : Lit × DataW H → Nat
  | (.string bytes, d) => bytes.length + uptoBulk d + 1
  | (_, d) => uptoBulk d + 1
 end
def uptoSmall : (H : Type) → List (DataW H) → Bool := fun _ ds => decide (uptoBulkAll ds ≤ 1048576)
def OpenSpec.upto (s : _root_.Go.ChangeSpec) : _root_.Go.OpenSpec := { _root_.Go.OpenSpec.ofChange s with cond := some uptoSmall }

/-- 'laws.FnExactTakersOf', WHERE WHAT IT READS IS OF BULK AT MOST 1048576: true; the input reads as it did. -/
def fnExactTakersOfUptoRow : OpenClaim := { program := "ytecgiinhdigpoaa", sum := "2a8eea353e3cb9d540d5bf7cab921856373541ebe6691b1d112f487e47d7b58c", func := "loop.example/g00662/laws.FnExactTakersOf", spec := "fnExactTakersOf", unfollowed := true, recurses := true, apart := false, narrowed := true }
def FnExactTakersOfUptoSaid : Prop := fnExactTakersOfUptoRow.holds Try.pinned (OpenSpec.upto fnExactTakersOfSpec)

/-- 'laws.FnExactGiversOf', WHERE WHAT IT READS IS OF BULK AT MOST 1048576: true; the input reads as it did. -/
def fnExactGiversOfUptoRow : OpenClaim := { program := "ytecgiinhdigpoaa", sum := "2a8eea353e3cb9d540d5bf7cab921856373541ebe6691b1d112f487e47d7b58c", func := "loop.example/g00662/laws.FnExactGiversOf", spec := "fnExactGiversOf", unfollowed := true, recurses := true, apart := false, narrowed := true }
def FnExactGiversOfUptoSaid : Prop := fnExactGiversOfUptoRow.holds Try.pinned (OpenSpec.upto fnExactGiversOfSpec)

end Rows
end Go.Proofs.Ytecgiinhdigpoaa
