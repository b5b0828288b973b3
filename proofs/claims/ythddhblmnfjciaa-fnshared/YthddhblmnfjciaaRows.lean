/-
  No cell of these rows narrows 'for every input' (looked for: loops, veiled, ifaces, maps, wideKeys, modest, calm, conditions, laid).
  DERIVED. THE GIVEN ROWS OF THIS SEAT. 11 by the template 'for every input the law returns true; each argument reads behind the call as it read before'; 0 by the template 'total and deterministic' (their statements: YthddhblmnfjciaaTotals.lean).
  GIVEN WITH THE SEED: the statements are not yours to turn. If you find one false, say at which input.
  Laid BY PROGRAM, IN A SANDBOX (cutbox-rows.mjs): the forced cells as the released guide's own fill.sh prints them over the translation 2e64199a249f2969… (all of the seat's roots in one cut). By AI agents, Wed Nov 11 2026. No macro, syntax, notation, axiom, sorry.
-/
import Derived.Test.YthddhblmnfjciaaChecked
import GoSem.Claim
import GoSem.ClaimJoined
import GoSem.ClaimMapViews
import Derived.JoinedTies
import Derived.KernelRfl
namespace Go.Proofs.Ythddhblmnfjciaa
/- THE CELL 'sum', in the pinned program and in every row, IS THE sha256 OF THE DUMP (.gsa) THAT YthddhblmnfjciaaProg.lean LOADS. Nothing in Lean hashes anything: it is a label: what it is worth is what the hold of that sum in a sandbox is worth. -/
noncomputable def Try.pinned : Pinned := { name := "ythddhblmnfjciaa", sum := "2e64199a249f2969e3955b0d12ba22d593b9cddb1b0729645bc36e250a874ce2", checked := Try.checked }
namespace Rows
def none {H : Type} : Left H := { results := [], args := [] }

/-- 'laws.FnExactKnotsOk': WHATEVER THE INPUT: true; the input reads as it did. -/
def fnExactKnotsOkSpec : ChangeSpec := { name := "fnExactKnotsOk", fn := fun _ => fun
  | [d] => { results := [.lit (.bool true)], args := [d] }
  | _ => none }
def fnExactKnotsOkRow : OpenClaim := { program := "ythddhblmnfjciaa", sum := "2e64199a249f2969e3955b0d12ba22d593b9cddb1b0729645bc36e250a874ce2", func := "loop.example/g00273/laws.FnExactKnotsOk", spec := "fnExactKnotsOk", unfollowed := true, recurses := true, plainKeys := false, apart := false }
def FnExactKnotsOkSaid : Prop := fnExactKnotsOkRow.holds Try.pinned (OpenSpec.ofChange fnExactKnotsOkSpec)

/-- ITS FALSE NEIGHBOUR: 'it returns false'. Refute it at one input. -/
def fnExactKnotsOkWrong : ChangeSpec := { name := "fnExactKnotsOk", fn := fun _ => fun
  | [d] => { results := [.lit (.bool false)], args := [d] }
  | _ => none }
def FnExactKnotsOkWrongFalsely : Prop := fnExactKnotsOkRow.holds Try.pinned (OpenSpec.ofChange fnExactKnotsOkWrong)

/-- 'laws.FnExactTall': WHATEVER THE INPUT: true; the input reads as it did. -/
def fnExactTallSpec : ChangeSpec := { name := "fnExactTall", fn := fun _ => fun
  | [d] => { results := [.lit (.bool true)], args := [d] }
  | _ => none }
def fnExactTallRow : OpenClaim := { program := "ythddhblmnfjciaa", sum := "2e64199a249f2969e3955b0d12ba22d593b9cddb1b0729645bc36e250a874ce2", func := "loop.example/g00273/laws.FnExactTall", spec := "fnExactTall", unfollowed := true, recurses := true, plainKeys := false, apart := false }
def FnExactTallSaid : Prop := fnExactTallRow.holds Try.pinned (OpenSpec.ofChange fnExactTallSpec)

/-- ITS FALSE NEIGHBOUR: 'it returns false'. Refute it at one input. -/
def fnExactTallWrong : ChangeSpec := { name := "fnExactTall", fn := fun _ => fun
  | [d] => { results := [.lit (.bool false)], args := [d] }
  | _ => none }
def FnExactTallWrongFalsely : Prop := fnExactTallRow.holds Try.pinned (OpenSpec.ofChange fnExactTallWrong)

/-- 'laws.FnExactBalls': WHATEVER THE INPUT: true; the input reads as it did. -/
def fnExactBallsSpec : ChangeSpec := { name := "fnExactBalls", fn := fun _ => fun
  | [d] => { results := [.lit (.bool true)], args := [d] }
  | _ => none }
def fnExactBallsRow : OpenClaim := { program := "ythddhblmnfjciaa", sum := "2e64199a249f2969e3955b0d12ba22d593b9cddb1b0729645bc36e250a874ce2", func := "loop.example/g00273/laws.FnExactBalls", spec := "fnExactBalls", unfollowed := true, recurses := true, plainKeys := false, apart := false }
def FnExactBallsSaid : Prop := fnExactBallsRow.holds Try.pinned (OpenSpec.ofChange fnExactBallsSpec)

/-- ITS FALSE NEIGHBOUR: 'it returns false'. Refute it at one input. -/
def fnExactBallsWrong : ChangeSpec := { name := "fnExactBalls", fn := fun _ => fun
  | [d] => { results := [.lit (.bool false)], args := [d] }
  | _ => none }
def FnExactBallsWrongFalsely : Prop := fnExactBallsRow.holds Try.pinned (OpenSpec.ofChange fnExactBallsWrong)

/-- 'laws.FnExactBallsOk': WHATEVER THE INPUT: true; the input reads as it did. -/
def fnExactBallsOkSpec : ChangeSpec := { name := "fnExactBallsOk", fn := fun _ => fun
  | [d] => { results := [.lit (.bool true)], args := [d] }
  | _ => none }
def fnExactBallsOkRow : OpenClaim := { program := "ythddhblmnfjciaa", sum := "2e64199a249f2969e3955b0d12ba22d593b9cddb1b0729645bc36e250a874ce2", func := "loop.example/g00273/laws.FnExactBallsOk", spec := "fnExactBallsOk", unfollowed := true, recurses := true, plainKeys := false, apart := false }
def FnExactBallsOkSaid : Prop := fnExactBallsOkRow.holds Try.pinned (OpenSpec.ofChange fnExactBallsOkSpec)

/-- ITS FALSE NEIGHBOUR: 'it returns false'. Refute it at one input. -/
def fnExactBallsOkWrong : ChangeSpec := { name := "fnExactBallsOk", fn := fun _ => fun
  | [d] => { results := [.lit (.bool false)], args := [d] }
  | _ => none }
def FnExactBallsOkWrongFalsely : Prop := fnExactBallsOkRow.holds Try.pinned (OpenSpec.ofChange fnExactBallsOkWrong)

/-- 'laws.FnExactClosest': WHATEVER THE INPUT: true; the input reads as it did. -/
def fnExactClosestSpec : ChangeSpec := { name := "fnExactClosest", fn := fun _ => fun
  | [d1, d2] => { results := [.lit (.bool true)], args := [d1, d2] }
  | _ => none }
def fnExactClosestRow : OpenClaim := { program := "ythddhblmnfjciaa", sum := "2e64199a249f2969e3955b0d12ba22d593b9cddb1b0729645bc36e250a874ce2", func := "loop.example/g00273/laws.FnExactClosest", spec := "fnExactClosest", unfollowed := true, recurses := true, plainKeys := false, apart := false }
def FnExactClosestSaid : Prop := fnExactClosestRow.holds Try.pinned (OpenSpec.ofChange fnExactClosestSpec)

/-- ITS FALSE NEIGHBOUR: 'it returns false'. Refute it at one input. -/
def fnExactClosestWrong : ChangeSpec := { name := "fnExactClosest", fn := fun _ => fun
  | [d1, d2] => { results := [.lit (.bool false)], args := [d1, d2] }
  | _ => none }
def FnExactClosestWrongFalsely : Prop := fnExactClosestRow.holds Try.pinned (OpenSpec.ofChange fnExactClosestWrong)

/-- 'laws.FnExactSpared': WHATEVER THE INPUT: true; the input reads as it did. -/
def fnExactSparedSpec : ChangeSpec := { name := "fnExactSpared", fn := fun _ => fun
  | [d1, d2] => { results := [.lit (.bool true)], args := [d1, d2] }
  | _ => none }
def fnExactSparedRow : OpenClaim := { program := "ythddhblmnfjciaa", sum := "2e64199a249f2969e3955b0d12ba22d593b9cddb1b0729645bc36e250a874ce2", func := "loop.example/g00273/laws.FnExactSpared", spec := "fnExactSpared", unfollowed := true, recurses := true, plainKeys := false, apart := false }
def FnExactSparedSaid : Prop := fnExactSparedRow.holds Try.pinned (OpenSpec.ofChange fnExactSparedSpec)

/-- ITS FALSE NEIGHBOUR: 'it returns false'. Refute it at one input. -/
def fnExactSparedWrong : ChangeSpec := { name := "fnExactSpared", fn := fun _ => fun
  | [d1, d2] => { results := [.lit (.bool false)], args := [d1, d2] }
  | _ => none }
def FnExactSparedWrongFalsely : Prop := fnExactSparedRow.holds Try.pinned (OpenSpec.ofChange fnExactSparedWrong)

/-- 'laws.FnExactCell': WHATEVER THE INPUT: true; the input reads as it did. -/
def fnExactCellSpec : ChangeSpec := { name := "fnExactCell", fn := fun _ => fun
  | [d1, d2] => { results := [.lit (.bool true)], args := [d1, d2] }
  | _ => none }
def fnExactCellRow : OpenClaim := { program := "ythddhblmnfjciaa", sum := "2e64199a249f2969e3955b0d12ba22d593b9cddb1b0729645bc36e250a874ce2", func := "loop.example/g00273/laws.FnExactCell", spec := "fnExactCell", unfollowed := true, recurses := true, plainKeys := false, apart := false }
def FnExactCellSaid : Prop := fnExactCellRow.holds Try.pinned (OpenSpec.ofChange fnExactCellSpec)

/-- ITS FALSE NEIGHBOUR: 'it returns false'. Refute it at one input. -/
def fnExactCellWrong : ChangeSpec := { name := "fnExactCell", fn := fun _ => fun
  | [d1, d2] => { results := [.lit (.bool false)], args := [d1, d2] }
  | _ => none }
def FnExactCellWrongFalsely : Prop := fnExactCellRow.holds Try.pinned (OpenSpec.ofChange fnExactCellWrong)

/-- 'laws.FnExactCells': WHATEVER THE INPUT: true; the input reads as it did. -/
def fnExactCellsSpec : ChangeSpec := { name := "fnExactCells", fn := fun _ => fun
  | [d] => { results := [.lit (.bool true)], args := [d] }
  | _ => none }
def fnExactCellsRow : OpenClaim := { program := "ythddhblmnfjciaa", sum := "2e64199a249f2969e3955b0d12ba22d593b9cddb1b0729645bc36e250a874ce2", func := "loop.example/g00273/laws.FnExactCells", spec := "fnExactCells", unfollowed := true, recurses := true, plainKeys := false, apart := false }
def FnExactCellsSaid : Prop := fnExactCellsRow.holds Try.pinned (OpenSpec.ofChange fnExactCellsSpec)

/-- ITS FALSE NEIGHBOUR: 'it returns false'. Refute it at one input. -/
def fnExactCellsWrong : ChangeSpec := { name := "fnExactCells", fn := fun _ => fun
  | [d] => { results := [.lit (.bool false)], args := [d] }
  | _ => none }
def FnExactCellsWrongFalsely : Prop := fnExactCellsRow.holds Try.pinned (OpenSpec.ofChange fnExactCellsWrong)

/-- 'laws.FnExactCrowd': WHATEVER THE INPUT: true; the input reads as it did. -/
def fnExactCrowdSpec : ChangeSpec := { name := "fnExactCrowd", fn := fun _ => fun
  | [d] => { results := [.lit (.bool true)], args := [d] }
  | _ => none }
def fnExactCrowdRow : OpenClaim := { program := "ythddhblmnfjciaa", sum := "2e64199a249f2969e3955b0d12ba22d593b9cddb1b0729645bc36e250a874ce2", func := "loop.example/g00273/laws.FnExactCrowd", spec := "fnExactCrowd", unfollowed := true, recurses := true, plainKeys := false, apart := false }
def FnExactCrowdSaid : Prop := fnExactCrowdRow.holds Try.pinned (OpenSpec.ofChange fnExactCrowdSpec)

/-- ITS FALSE NEIGHBOUR: 'it returns false'. Refute it at one input. -/
def fnExactCrowdWrong : ChangeSpec := { name := "fnExactCrowd", fn := fun _ => fun
  | [d] => { results := [.lit (.bool false)], args := [d] }
  | _ => none }
def FnExactCrowdWrongFalsely : Prop := fnExactCrowdRow.holds Try.pinned (OpenSpec.ofChange fnExactCrowdWrong)

/-- 'laws.FnExactInCell': WHATEVER THE INPUT: true; the input reads as it did. -/
def fnExactInCellSpec : ChangeSpec := { name := "fnExactInCell", fn := fun _ => fun
  | [d1, d2] => { results := [.lit (.bool true)], args := [d1, d2] }
  | _ => none }
def fnExactInCellRow : OpenClaim := { program := "ythddhblmnfjciaa", sum := "2e64199a249f2969e3955b0d12ba22d593b9cddb1b0729645bc36e250a874ce2", func := "loop.example/g00273/laws.FnExactInCell", spec := "fnExactInCell", unfollowed := true, recurses := true, plainKeys := false, apart := false }
def FnExactInCellSaid : Prop := fnExactInCellRow.holds Try.pinned (OpenSpec.ofChange fnExactInCellSpec)

/-- ITS FALSE NEIGHBOUR: 'it returns false'. Refute it at one input. -/
def fnExactInCellWrong : ChangeSpec := { name := "fnExactInCell", fn := fun _ => fun
  | [d1, d2] => { results := [.lit (.bool false)], args := [d1, d2] }
  | _ => none }
def FnExactInCellWrongFalsely : Prop := fnExactInCellRow.holds Try.pinned (OpenSpec.ofChange fnExactInCellWrong)

/-- 'laws.FnShared': WHATEVER THE INPUT: true; the input reads as it did. -/
def fnSharedSpec : ChangeSpec := { name := "fnShared", fn := fun _ => fun
  | [d] => { results := [.lit (.bool true)], args := [d] }
  | _ => none }
def fnSharedRow : OpenClaim := { program := "ythddhblmnfjciaa", sum := "2e64199a249f2969e3955b0d12ba22d593b9cddb1b0729645bc36e250a874ce2", func := "loop.example/g00273/laws.FnShared", spec := "fnShared", unfollowed := true, recurses := true, plainKeys := false, apart := false }
def FnSharedSaid : Prop := fnSharedRow.holds Try.pinned (OpenSpec.ofChange fnSharedSpec)

/-- ITS FALSE NEIGHBOUR: 'it returns false'. Refute it at one input. -/
def fnSharedWrong : ChangeSpec := { name := "fnShared", fn := fun _ => fun
  | [d] => { results := [.lit (.bool false)], args := [d] }
  | _ => none }
def FnSharedWrongFalsely : Prop := fnSharedRow.holds Try.pinned (OpenSpec.ofChange fnSharedWrong)

/- THE SECOND FORM. 'bulk': how many values and letters a reading holds, each counted each time it is reached (what is shared counts as often as it is met; a slice's spare places count too). A statement '..UptoSaid' is the law's where the arguments, and the package variables that the reading takes, are together of bulk at most 1048576: NARROWER than '..Said'. Prove '..Said' where nothing that the law and all that it calls make is longer than what came in: it says more and counts as full. Else prove '..UptoSaid'. A law counts once. -/
mutual
def uptoBulk {H : Type} : DataW H → Nat
  | .lit (.string bytes) => bytes.length + 1
  | .lit _ => 1
  | .nil => 1
  | .ptr d => uptoBulk d + 1
  | .slice elems spare => uptoBulkAll elems + uptoBulkAll spare + 1
  | .agg parts => uptoBulkAll parts + 1
  | .iface _ d => uptoBulk d + 1
  | .map entries => uptoBulkEntries entries + 1
  | .held _ => 1
def uptoBulkAll {H : Type} : List (DataW H) → Nat
  | [] => 0
  | d :: r => uptoBulk d + uptoBulkAll r
def uptoBulkEntries {H : Type} : List (Lit × DataW H) → Nat
  | [] => 0
  | x :: r => uptoBulkEntry x + uptoBulkEntries r
def uptoBulkEntry {H : Type} : Lit × DataW H → Nat
  | (.string bytes, d) => bytes.length + uptoBulk d + 1
  | (_, d) => uptoBulk d + 1
 end
def uptoSmall : (H : Type) → List (DataW H) → Bool := fun _ ds => decide (uptoBulkAll ds ≤ 1048576)
def OpenSpec.upto (s : _root_.Go.ChangeSpec) : _root_.Go.OpenSpec := { _root_.Go.OpenSpec.ofChange s with cond := some uptoSmall }

/-- 'laws.FnExactKnotsOk', WHERE WHAT IT READS IS OF BULK AT MOST 1048576: true; the input reads as it did. -/
def fnExactKnotsOkUptoRow : OpenClaim := { program := "ythddhblmnfjciaa", sum := "2e64199a249f2969e3955b0d12ba22d593b9cddb1b0729645bc36e250a874ce2", func := "loop.example/g00273/laws.FnExactKnotsOk", spec := "fnExactKnotsOk", unfollowed := true, recurses := true, plainKeys := false, apart := false, narrowed := true }
def FnExactKnotsOkUptoSaid : Prop := fnExactKnotsOkUptoRow.holds Try.pinned (OpenSpec.upto fnExactKnotsOkSpec)

/-- 'laws.FnExactTall', WHERE WHAT IT READS IS OF BULK AT MOST 1048576: true; the input reads as it did. -/
def fnExactTallUptoRow : OpenClaim := { program := "ythddhblmnfjciaa", sum := "2e64199a249f2969e3955b0d12ba22d593b9cddb1b0729645bc36e250a874ce2", func := "loop.example/g00273/laws.FnExactTall", spec := "fnExactTall", unfollowed := true, recurses := true, plainKeys := false, apart := false, narrowed := true }
def FnExactTallUptoSaid : Prop := fnExactTallUptoRow.holds Try.pinned (OpenSpec.upto fnExactTallSpec)

/-- 'laws.FnExactBalls', WHERE WHAT IT READS IS OF BULK AT MOST 1048576: true; the input reads as it did. -/
def fnExactBallsUptoRow : OpenClaim := { program := "ythddhblmnfjciaa", sum := "2e64199a249f2969e3955b0d12ba22d593b9cddb1b0729645bc36e250a874ce2", func := "loop.example/g00273/laws.FnExactBalls", spec := "fnExactBalls", unfollowed := true, recurses := true, plainKeys := false, apart := false, narrowed := true }
def FnExactBallsUptoSaid : Prop := fnExactBallsUptoRow.holds Try.pinned (OpenSpec.upto fnExactBallsSpec)

/-- 'laws.FnExactBallsOk', WHERE WHAT IT READS IS OF BULK AT MOST 1048576: true; the input reads as it did. -/
def fnExactBallsOkUptoRow : OpenClaim := { program := "ythddhblmnfjciaa", sum := "2e64199a249f2969e3955b0d12ba22d593b9cddb1b0729645bc36e250a874ce2", func := "loop.example/g00273/laws.FnExactBallsOk", spec := "fnExactBallsOk", unfollowed := true, recurses := true, plainKeys := false, apart := false, narrowed := true }
def FnExactBallsOkUptoSaid : Prop := fnExactBallsOkUptoRow.holds Try.pinned (OpenSpec.upto fnExactBallsOkSpec)

/-- 'laws.FnExactClosest', WHERE WHAT IT READS IS OF BULK AT MOST 1048576: true; the input reads as it did. -/
def fnExactClosestUptoRow : OpenClaim := { program := "ythddhblmnfjciaa", sum := "2e64199a249f2969e3955b0d12ba22d593b9cddb1b0729645bc36e250a874ce2", func := "loop.example/g00273/laws.FnExactClosest", spec := "fnExactClosest", unfollowed := true, recurses := true, plainKeys := false, apart := false, narrowed := true }
def FnExactClosestUptoSaid : Prop := fnExactClosestUptoRow.holds Try.pinned (OpenSpec.upto fnExactClosestSpec)

/-- 'laws.FnExactSpared', WHERE WHAT IT READS IS OF BULK AT MOST 1048576: true; the input reads as it did. -/
def fnExactSparedUptoRow : OpenClaim := { program := "ythddhblmnfjciaa", sum := "2e64199a249f2969e3955b0d12ba22d593b9cddb1b0729645bc36e250a874ce2", func := "loop.example/g00273/laws.FnExactSpared", spec := "fnExactSpared", unfollowed := true, recurses := true, plainKeys := false, apart := false, narrowed := true }
def FnExactSparedUptoSaid : Prop := fnExactSparedUptoRow.holds Try.pinned (OpenSpec.upto fnExactSparedSpec)

/-- 'laws.FnExactCell', WHERE WHAT IT READS IS OF BULK AT MOST 1048576: true; the input reads as it did. -/
def fnExactCellUptoRow : OpenClaim := { program := "ythddhblmnfjciaa", sum := "2e64199a249f2969e3955b0d12ba22d593b9cddb1b0729645bc36e250a874ce2", func := "loop.example/g00273/laws.FnExactCell", spec := "fnExactCell", unfollowed := true, recurses := true, plainKeys := false, apart := false, narrowed := true }
def FnExactCellUptoSaid : Prop := fnExactCellUptoRow.holds Try.pinned (OpenSpec.upto fnExactCellSpec)

/-- 'laws.FnExactCells', WHERE WHAT IT READS IS OF BULK AT MOST 1048576: true; the input reads as it did. -/
def fnExactCellsUptoRow : OpenClaim := { program := "ythddhblmnfjciaa", sum := "2e64199a249f2969e3955b0d12ba22d593b9cddb1b0729645bc36e250a874ce2", func := "loop.example/g00273/laws.FnExactCells", spec := "fnExactCells", unfollowed := true, recurses := true, plainKeys := false, apart := false, narrowed := true }
def FnExactCellsUptoSaid : Prop := fnExactCellsUptoRow.holds Try.pinned (OpenSpec.upto fnExactCellsSpec)

/-- 'laws.FnExactCrowd', WHERE WHAT IT READS IS OF BULK AT MOST 1048576: true; the input reads as it did. -/
def fnExactCrowdUptoRow : OpenClaim := { program := "ythddhblmnfjciaa", sum := "2e64199a249f2969e3955b0d12ba22d593b9cddb1b0729645bc36e250a874ce2", func := "loop.example/g00273/laws.FnExactCrowd", spec := "fnExactCrowd", unfollowed := true, recurses := true, plainKeys := false, apart := false, narrowed := true }
def FnExactCrowdUptoSaid : Prop := fnExactCrowdUptoRow.holds Try.pinned (OpenSpec.upto fnExactCrowdSpec)

/-- 'laws.FnExactInCell', WHERE WHAT IT READS IS OF BULK AT MOST 1048576: true; the input reads as it did. -/
def fnExactInCellUptoRow : OpenClaim := { program := "ythddhblmnfjciaa", sum := "2e64199a249f2969e3955b0d12ba22d593b9cddb1b0729645bc36e250a874ce2", func := "loop.example/g00273/laws.FnExactInCell", spec := "fnExactInCell", unfollowed := true, recurses := true, plainKeys := false, apart := false, narrowed := true }
def FnExactInCellUptoSaid : Prop := fnExactInCellUptoRow.holds Try.pinned (OpenSpec.upto fnExactInCellSpec)

/-- 'laws.FnShared', WHERE WHAT IT READS IS OF BULK AT MOST 1048576: true; the input reads as it did. -/
def fnSharedUptoRow : OpenClaim := { program := "ythddhblmnfjciaa", sum := "2e64199a249f2969e3955b0d12ba22d593b9cddb1b0729645bc36e250a874ce2", func := "loop.example/g00273/laws.FnShared", spec := "fnShared", unfollowed := true, recurses := true, plainKeys := false, apart := false, narrowed := true }
def FnSharedUptoSaid : Prop := fnSharedUptoRow.holds Try.pinned (OpenSpec.upto fnSharedSpec)

end Rows
end Go.Proofs.Ythddhblmnfjciaa
