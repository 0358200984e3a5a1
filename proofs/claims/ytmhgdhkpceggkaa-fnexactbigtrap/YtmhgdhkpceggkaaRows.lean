/-
  No cell of these rows narrows 'for every input' (looked for: loops, veiled, ifaces, maps, wideKeys, modest, calm, conditions, laid).
  DERIVED. THE GIVEN ROWS OF THIS SEAT. 6 by the template 'for every input the law returns true; each argument reads behind the call as it read before'; 0 by the template 'total and deterministic' (their statements: YtmhgdhkpceggkaaTotals.lean).
  GIVEN WITH THE SEED: the statements are not yours to turn. If you find one false, say at which input.
  Laid BY PROGRAM, IN A SANDBOX (cutbox-rows.mjs): the forced cells as the released guide's own fill.sh prints them over the translation d93f54660af3c0e9… (all of the seat's roots in one cut). By AI agents, Wed Nov 11 2026. No macro, syntax, notation, axiom, sorry.
-/
import Derived.Test.YtmhgdhkpceggkaaChecked
import GoSem.Claim
import GoSem.ClaimJoined
import GoSem.ClaimMapViews
import Derived.JoinedTies
import Derived.KernelRfl
namespace Go.Proofs.Ytmhgdhkpceggkaa
/- THE CELL 'sum', in the pinned program and in every row, IS THE sha256 OF THE DUMP (.gsa) THAT YtmhgdhkpceggkaaProg.lean LOADS. Nothing in Lean hashes anything: it is a label: what it is worth is what the hold of that sum in a sandbox is worth. -/
noncomputable def Try.pinned : Pinned := { name := "ytmhgdhkpceggkaa", sum := "d93f54660af3c0e9faf0a40dbe66b5ee3810c56d74bf69c67e92b058a3c52124", checked := Try.checked }
namespace Rows
def none {H : Type} : Left H := { results := [], args := [] }

/-- 'laws.FnExactSmallInvariants': WHATEVER THE INPUT: true; the input reads as it did. -/
def fnExactSmallInvariantsSpec : ChangeSpec := { name := "fnExactSmallInvariants", fn := fun _ => fun
  | [d] => { results := [.lit (.bool true)], args := [d] }
  | _ => none }
def fnExactSmallInvariantsRow : OpenClaim := { program := "ytmhgdhkpceggkaa", sum := "d93f54660af3c0e9faf0a40dbe66b5ee3810c56d74bf69c67e92b058a3c52124", func := "loop.example/g00662/laws.FnExactSmallInvariants", spec := "fnExactSmallInvariants", unfollowed := true, recurses := true, apart := false }
def FnExactSmallInvariantsSaid : Prop := fnExactSmallInvariantsRow.holds Try.pinned (OpenSpec.ofChange fnExactSmallInvariantsSpec)

/-- ITS FALSE NEIGHBOUR: 'it returns false'. Refute it at one input. -/
def fnExactSmallInvariantsWrong : ChangeSpec := { name := "fnExactSmallInvariants", fn := fun _ => fun
  | [d] => { results := [.lit (.bool false)], args := [d] }
  | _ => none }
def FnExactSmallInvariantsWrongFalsely : Prop := fnExactSmallInvariantsRow.holds Try.pinned (OpenSpec.ofChange fnExactSmallInvariantsWrong)

/-- 'laws.FnExactIsKept': WHATEVER THE INPUT: true; the input reads as it did. -/
def fnExactIsKeptSpec : ChangeSpec := { name := "fnExactIsKept", fn := fun _ => fun
  | [d] => { results := [.lit (.bool true)], args := [d] }
  | _ => none }
def fnExactIsKeptRow : OpenClaim := { program := "ytmhgdhkpceggkaa", sum := "d93f54660af3c0e9faf0a40dbe66b5ee3810c56d74bf69c67e92b058a3c52124", func := "loop.example/g00662/laws.FnExactIsKept", spec := "fnExactIsKept", unfollowed := true, recurses := true, apart := false }
def FnExactIsKeptSaid : Prop := fnExactIsKeptRow.holds Try.pinned (OpenSpec.ofChange fnExactIsKeptSpec)

/-- ITS FALSE NEIGHBOUR: 'it returns false'. Refute it at one input. -/
def fnExactIsKeptWrong : ChangeSpec := { name := "fnExactIsKept", fn := fun _ => fun
  | [d] => { results := [.lit (.bool false)], args := [d] }
  | _ => none }
def FnExactIsKeptWrongFalsely : Prop := fnExactIsKeptRow.holds Try.pinned (OpenSpec.ofChange fnExactIsKeptWrong)

/-- 'laws.FnExactIsSiphon': WHATEVER THE INPUT: true; the input reads as it did. -/
def fnExactIsSiphonSpec : ChangeSpec := { name := "fnExactIsSiphon", fn := fun _ => fun
  | [d1, d2] => { results := [.lit (.bool true)], args := [d1, d2] }
  | _ => none }
def fnExactIsSiphonRow : OpenClaim := { program := "ytmhgdhkpceggkaa", sum := "d93f54660af3c0e9faf0a40dbe66b5ee3810c56d74bf69c67e92b058a3c52124", func := "loop.example/g00662/laws.FnExactIsSiphon", spec := "fnExactIsSiphon", unfollowed := true, recurses := true, apart := false }
def FnExactIsSiphonSaid : Prop := fnExactIsSiphonRow.holds Try.pinned (OpenSpec.ofChange fnExactIsSiphonSpec)

/-- ITS FALSE NEIGHBOUR: 'it returns false'. Refute it at one input. -/
def fnExactIsSiphonWrong : ChangeSpec := { name := "fnExactIsSiphon", fn := fun _ => fun
  | [d1, d2] => { results := [.lit (.bool false)], args := [d1, d2] }
  | _ => none }
def FnExactIsSiphonWrongFalsely : Prop := fnExactIsSiphonRow.holds Try.pinned (OpenSpec.ofChange fnExactIsSiphonWrong)

/-- 'laws.FnExactIsTrap': WHATEVER THE INPUT: true; the input reads as it did. -/
def fnExactIsTrapSpec : ChangeSpec := { name := "fnExactIsTrap", fn := fun _ => fun
  | [d1, d2] => { results := [.lit (.bool true)], args := [d1, d2] }
  | _ => none }
def fnExactIsTrapRow : OpenClaim := { program := "ytmhgdhkpceggkaa", sum := "d93f54660af3c0e9faf0a40dbe66b5ee3810c56d74bf69c67e92b058a3c52124", func := "loop.example/g00662/laws.FnExactIsTrap", spec := "fnExactIsTrap", unfollowed := true, recurses := true, apart := false }
def FnExactIsTrapSaid : Prop := fnExactIsTrapRow.holds Try.pinned (OpenSpec.ofChange fnExactIsTrapSpec)

/-- ITS FALSE NEIGHBOUR: 'it returns false'. Refute it at one input. -/
def fnExactIsTrapWrong : ChangeSpec := { name := "fnExactIsTrap", fn := fun _ => fun
  | [d1, d2] => { results := [.lit (.bool false)], args := [d1, d2] }
  | _ => none }
def FnExactIsTrapWrongFalsely : Prop := fnExactIsTrapRow.holds Try.pinned (OpenSpec.ofChange fnExactIsTrapWrong)

/-- 'laws.FnExactBigTrap': WHATEVER THE INPUT: true; the input reads as it did. -/
def fnExactBigTrapSpec : ChangeSpec := { name := "fnExactBigTrap", fn := fun _ => fun
  | [d1, d2] => { results := [.lit (.bool true)], args := [d1, d2] }
  | _ => none }
def fnExactBigTrapRow : OpenClaim := { program := "ytmhgdhkpceggkaa", sum := "d93f54660af3c0e9faf0a40dbe66b5ee3810c56d74bf69c67e92b058a3c52124", func := "loop.example/g00662/laws.FnExactBigTrap", spec := "fnExactBigTrap", unfollowed := true, recurses := true, apart := false }
def FnExactBigTrapSaid : Prop := fnExactBigTrapRow.holds Try.pinned (OpenSpec.ofChange fnExactBigTrapSpec)

/-- ITS FALSE NEIGHBOUR: 'it returns false'. Refute it at one input. -/
def fnExactBigTrapWrong : ChangeSpec := { name := "fnExactBigTrap", fn := fun _ => fun
  | [d1, d2] => { results := [.lit (.bool false)], args := [d1, d2] }
  | _ => none }
def FnExactBigTrapWrongFalsely : Prop := fnExactBigTrapRow.holds Try.pinned (OpenSpec.ofChange fnExactBigTrapWrong)

/-- 'laws.FnExactBigSiphon': WHATEVER THE INPUT: true; the input reads as it did. -/
def fnExactBigSiphonSpec : ChangeSpec := { name := "fnExactBigSiphon", fn := fun _ => fun
  | [d1, d2] => { results := [.lit (.bool true)], args := [d1, d2] }
  | _ => none }
def fnExactBigSiphonRow : OpenClaim := { program := "ytmhgdhkpceggkaa", sum := "d93f54660af3c0e9faf0a40dbe66b5ee3810c56d74bf69c67e92b058a3c52124", func := "loop.example/g00662/laws.FnExactBigSiphon", spec := "fnExactBigSiphon", unfollowed := true, recurses := true, apart := false }
def FnExactBigSiphonSaid : Prop := fnExactBigSiphonRow.holds Try.pinned (OpenSpec.ofChange fnExactBigSiphonSpec)

/-- ITS FALSE NEIGHBOUR: 'it returns false'. Refute it at one input. -/
def fnExactBigSiphonWrong : ChangeSpec := { name := "fnExactBigSiphon", fn := fun _ => fun
  | [d1, d2] => { results := [.lit (.bool false)], args := [d1, d2] }
  | _ => none }
def FnExactBigSiphonWrongFalsely : Prop := fnExactBigSiphonRow.holds Try.pinned (OpenSpec.ofChange fnExactBigSiphonWrong)

/- THE SECOND FORM. 'bulk': how many values and letters a reading holds, each counted each time it is reached (what is shared counts as often as it is met; a slice's spare places count too). A statement '..UptoSaid' is the law's where the arguments, and the package variables that the reading takes, are together of bulk at most 1048576: NARROWER than '..Said'. Prove '..Said' where nothing that the law and all that it calls make is longer than what came in: it says more and counts as full. Else prove '..UptoSaid'. A law counts once. -/
mutual
def uptoBulk {H : Type} : DataW H → Nat
  | .lit (.string bytes) => bytes.length + 1
  | .lit _ => 1
  | .nil => 1
  | .ptr d => uptoBulk d + 1
  | .slice elems spare => uptoBulkAll elems + uptoBulkAll spare + 1
  | .agg parts => uptoBulkAll parts + 1
  | .iface _ d => uptoBulk d + 1
  | .map entries => uptoBulkEntries entries + 1
  | .held _ => 1
def uptoBulkAll {H : Type} : List (DataW H) → Nat
  | [] => 0
  | d :: r => uptoBulk d + uptoBulkAll r
def uptoBulkEntries {H : Type} : List (Lit × DataW H) → Nat
  | [] => 0
  | x :: r => uptoBulkEntry x + uptoBulkEntries r
def uptoBulkEntry {H : Type} : Lit × DataW H → Nat
  | (.string bytes, d) => bytes.length + uptoBulk d + 1
  | (_, d) => uptoBulk d + 1
 end
def uptoSmall : (H : Type) → List (DataW H) → Bool := fun _ ds => decide (uptoBulkAll ds ≤ 1048576)
def OpenSpec.upto (s : _root_.Go.ChangeSpec) : _root_.Go.OpenSpec := { _root_.Go.OpenSpec.ofChange s with cond := some uptoSmall }

/-- 'laws.FnExactSmallInvariants', WHERE WHAT IT READS IS OF BULK AT MOST 1048576: true; the input reads as it did. -/
def fnExactSmallInvariantsUptoRow : OpenClaim := { program := "ytmhgdhkpceggkaa", sum := "d93f54660af3c0e9faf0a40dbe66b5ee3810c56d74bf69c67e92b058a3c52124", func := "loop.example/g00662/laws.FnExactSmallInvariants", spec := "fnExactSmallInvariants", unfollowed := true, recurses := true, apart := false, narrowed := true }
def FnExactSmallInvariantsUptoSaid : Prop := fnExactSmallInvariantsUptoRow.holds Try.pinned (OpenSpec.upto fnExactSmallInvariantsSpec)

/-- 'laws.FnExactIsKept', WHERE WHAT IT READS IS OF BULK AT MOST 1048576: true; the input reads as it did. -/
def fnExactIsKeptUptoRow : OpenClaim := { program := "ytmhgdhkpceggkaa", sum := "d93f54660af3c0e9faf0a40dbe66b5ee3810c56d74bf69c67e92b058a3c52124", func := "loop.example/g00662/laws.FnExactIsKept", spec := "fnExactIsKept", unfollowed := true, recurses := true, apart := false, narrowed := true }
def FnExactIsKeptUptoSaid : Prop := fnExactIsKeptUptoRow.holds Try.pinned (OpenSpec.upto fnExactIsKeptSpec)

/-- 'laws.FnExactIsSiphon', WHERE WHAT IT READS IS OF BULK AT MOST 1048576: true; the input reads as it did. -/
def fnExactIsSiphonUptoRow : OpenClaim := { program := "ytmhgdhkpceggkaa", sum := "d93f54660af3c0e9faf0a40dbe66b5ee3810c56d74bf69c67e92b058a3c52124", func := "loop.example/g00662/laws.FnExactIsSiphon", spec := "fnExactIsSiphon", unfollowed := true, recurses := true, apart := false, narrowed := true }
def FnExactIsSiphonUptoSaid : Prop := fnExactIsSiphonUptoRow.holds Try.pinned (OpenSpec.upto fnExactIsSiphonSpec)

/-- 'laws.FnExactIsTrap', WHERE WHAT IT READS IS OF BULK AT MOST 1048576: true; the input reads as it did. -/
def fnExactIsTrapUptoRow : OpenClaim := { program := "ytmhgdhkpceggkaa", sum := "d93f54660af3c0e9faf0a40dbe66b5ee3810c56d74bf69c67e92b058a3c52124", func := "loop.example/g00662/laws.FnExactIsTrap", spec := "fnExactIsTrap", unfollowed := true, recurses := true, apart := false, narrowed := true }
def FnExactIsTrapUptoSaid : Prop := fnExactIsTrapUptoRow.holds Try.pinned (OpenSpec.upto fnExactIsTrapSpec)

/-- 'laws.FnExactBigTrap', WHERE WHAT IT READS IS OF BULK AT MOST 1048576: true; the input reads as it did. -/
def fnExactBigTrapUptoRow : OpenClaim := { program := "ytmhgdhkpceggkaa", sum := "d93f54660af3c0e9faf0a40dbe66b5ee3810c56d74bf69c67e92b058a3c52124", func := "loop.example/g00662/laws.FnExactBigTrap", spec := "fnExactBigTrap", unfollowed := true, recurses := true, apart := false, narrowed := true }
def FnExactBigTrapUptoSaid : Prop := fnExactBigTrapUptoRow.holds Try.pinned (OpenSpec.upto fnExactBigTrapSpec)

/-- 'laws.FnExactBigSiphon', WHERE WHAT IT READS IS OF BULK AT MOST 1048576: true; the input reads as it did. -/
def fnExactBigSiphonUptoRow : OpenClaim := { program := "ytmhgdhkpceggkaa", sum := "d93f54660af3c0e9faf0a40dbe66b5ee3810c56d74bf69c67e92b058a3c52124", func := "loop.example/g00662/laws.FnExactBigSiphon", spec := "fnExactBigSiphon", unfollowed := true, recurses := true, apart := false, narrowed := true }
def FnExactBigSiphonUptoSaid : Prop := fnExactBigSiphonUptoRow.holds Try.pinned (OpenSpec.upto fnExactBigSiphonSpec)

end Rows
end Go.Proofs.Ytmhgdhkpceggkaa
