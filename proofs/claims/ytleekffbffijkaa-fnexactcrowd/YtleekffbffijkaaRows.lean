/-
  No cell of these rows narrows 'for every input' (looked for: loops, veiled, ifaces, maps, wideKeys, modest, calm, conditions, laid).
  DERIVED. THE GIVEN ROWS OF THIS SEAT. 10 by the template 'for every input the law returns true; each argument reads behind the call as it read before'; 0 by the template 'total and deterministic' (their statements: YtleekffbffijkaaTotals.lean).
  GIVEN WITH THE SEED: the statements are not yours to turn. If you find one false, say at which input.
  Laid BY PROGRAM, IN A SANDBOX (cutbox-rows.mjs): the forced cells as the released guide's own fill.sh prints them over the translation be90d6c0b2b6aa8e… (all of the seat's roots in one cut). By AI agents, Wed Nov 11 2026. No macro, syntax, notation, axiom, sorry.
-/
import Derived.Test.YtleekffbffijkaaChecked
import GoSem.Claim
import GoSem.ClaimJoined
import GoSem.ClaimMapViews
import Derived.JoinedTies
import Derived.KernelRfl
namespace Go.Proofs.Ytleekffbffijkaa
/- THE CELL 'sum', in the pinned program and in every row, IS THE sha256 OF THE DUMP (.gsa) THAT YtleekffbffijkaaProg.lean LOADS. Nothing in Lean hashes anything: it is a label: what it is worth is what the hold of that sum in a sandbox is worth. -/
noncomputable def Try.pinned : Pinned := { name := "ytleekffbffijkaa", sum := "be90d6c0b2b6aa8e87dfdc0b482591d6886390cea726e150dabee827c3d1d08c", checked := Try.checked }
namespace Rows
def none {H : Type} : Left H := { results := [], args := [] }

/-- 'laws.FnLooked': WHATEVER THE INPUT: true; the input reads as it did. -/
def fnLookedSpec : ChangeSpec := { name := "fnLooked", fn := fun _ => fun
  | [d] => { results := [.lit (.bool true)], args := [d] }
  | _ => none }
def fnLookedRow : OpenClaim := { program := "ytleekffbffijkaa", sum := "be90d6c0b2b6aa8e87dfdc0b482591d6886390cea726e150dabee827c3d1d08c", func := "loop.example/g00273/laws.FnLooked", spec := "fnLooked", inPlace := ["slices.overlaps[loop.example/g00273/impl.Hit]"], unfollowed := true, recurses := true, plainKeys := false, apart := false }
def FnLookedSaid : Prop := fnLookedRow.holds Try.pinned (OpenSpec.ofChange fnLookedSpec)

/-- ITS FALSE NEIGHBOUR: 'it returns false'. Refute it at one input. -/
def fnLookedWrong : ChangeSpec := { name := "fnLooked", fn := fun _ => fun
  | [d] => { results := [.lit (.bool false)], args := [d] }
  | _ => none }
def FnLookedWrongFalsely : Prop := fnLookedRow.holds Try.pinned (OpenSpec.ofChange fnLookedWrong)

/-- 'laws.FnBalls': WHATEVER THE INPUT: true; the input reads as it did. -/
def fnBallsSpec : ChangeSpec := { name := "fnBalls", fn := fun _ => fun
  | [d] => { results := [.lit (.bool true)], args := [d] }
  | _ => none }
def fnBallsRow : OpenClaim := { program := "ytleekffbffijkaa", sum := "be90d6c0b2b6aa8e87dfdc0b482591d6886390cea726e150dabee827c3d1d08c", func := "loop.example/g00273/laws.FnBalls", spec := "fnBalls", unfollowed := true, recurses := true, plainKeys := false, apart := false }
def FnBallsSaid : Prop := fnBallsRow.holds Try.pinned (OpenSpec.ofChange fnBallsSpec)

/-- ITS FALSE NEIGHBOUR: 'it returns false'. Refute it at one input. -/
def fnBallsWrong : ChangeSpec := { name := "fnBalls", fn := fun _ => fun
  | [d] => { results := [.lit (.bool false)], args := [d] }
  | _ => none }
def FnBallsWrongFalsely : Prop := fnBallsRow.holds Try.pinned (OpenSpec.ofChange fnBallsWrong)

/-- 'laws.FnExactLooked': WHATEVER THE INPUT: true; the input reads as it did. -/
def fnExactLookedSpec : ChangeSpec := { name := "fnExactLooked", fn := fun _ => fun
  | [d1, d2] => { results := [.lit (.bool true)], args := [d1, d2] }
  | _ => none }
def fnExactLookedRow : OpenClaim := { program := "ytleekffbffijkaa", sum := "be90d6c0b2b6aa8e87dfdc0b482591d6886390cea726e150dabee827c3d1d08c", func := "loop.example/g00273/laws.FnExactLooked", spec := "fnExactLooked", inPlace := ["slices.overlaps[loop.example/g00273/impl.Hit]"], unfollowed := true, recurses := true, plainKeys := false, apart := false }
def FnExactLookedSaid : Prop := fnExactLookedRow.holds Try.pinned (OpenSpec.ofChange fnExactLookedSpec)

/-- ITS FALSE NEIGHBOUR: 'it returns false'. Refute it at one input. -/
def fnExactLookedWrong : ChangeSpec := { name := "fnExactLooked", fn := fun _ => fun
  | [d1, d2] => { results := [.lit (.bool false)], args := [d1, d2] }
  | _ => none }
def FnExactLookedWrongFalsely : Prop := fnExactLookedRow.holds Try.pinned (OpenSpec.ofChange fnExactLookedWrong)

/-- 'laws.FnExactClosest': WHATEVER THE INPUT: true; the input reads as it did. -/
def fnExactClosestSpec : ChangeSpec := { name := "fnExactClosest", fn := fun _ => fun
  | [d1, d2] => { results := [.lit (.bool true)], args := [d1, d2] }
  | _ => none }
def fnExactClosestRow : OpenClaim := { program := "ytleekffbffijkaa", sum := "be90d6c0b2b6aa8e87dfdc0b482591d6886390cea726e150dabee827c3d1d08c", func := "loop.example/g00273/laws.FnExactClosest", spec := "fnExactClosest", unfollowed := true, recurses := true, plainKeys := false, apart := false }
def FnExactClosestSaid : Prop := fnExactClosestRow.holds Try.pinned (OpenSpec.ofChange fnExactClosestSpec)

/-- ITS FALSE NEIGHBOUR: 'it returns false'. Refute it at one input. -/
def fnExactClosestWrong : ChangeSpec := { name := "fnExactClosest", fn := fun _ => fun
  | [d1, d2] => { results := [.lit (.bool false)], args := [d1, d2] }
  | _ => none }
def FnExactClosestWrongFalsely : Prop := fnExactClosestRow.holds Try.pinned (OpenSpec.ofChange fnExactClosestWrong)

/-- 'laws.FnExactSpared': WHATEVER THE INPUT: true; the input reads as it did. -/
def fnExactSparedSpec : ChangeSpec := { name := "fnExactSpared", fn := fun _ => fun
  | [d1, d2] => { results := [.lit (.bool true)], args := [d1, d2] }
  | _ => none }
def fnExactSparedRow : OpenClaim := { program := "ytleekffbffijkaa", sum := "be90d6c0b2b6aa8e87dfdc0b482591d6886390cea726e150dabee827c3d1d08c", func := "loop.example/g00273/laws.FnExactSpared", spec := "fnExactSpared", unfollowed := true, recurses := true, plainKeys := false, apart := false }
def FnExactSparedSaid : Prop := fnExactSparedRow.holds Try.pinned (OpenSpec.ofChange fnExactSparedSpec)

/-- ITS FALSE NEIGHBOUR: 'it returns false'. Refute it at one input. -/
def fnExactSparedWrong : ChangeSpec := { name := "fnExactSpared", fn := fun _ => fun
  | [d1, d2] => { results := [.lit (.bool false)], args := [d1, d2] }
  | _ => none }
def FnExactSparedWrongFalsely : Prop := fnExactSparedRow.holds Try.pinned (OpenSpec.ofChange fnExactSparedWrong)

/-- 'laws.FnExactCell': WHATEVER THE INPUT: true; the input reads as it did. -/
def fnExactCellSpec : ChangeSpec := { name := "fnExactCell", fn := fun _ => fun
  | [d1, d2] => { results := [.lit (.bool true)], args := [d1, d2] }
  | _ => none }
def fnExactCellRow : OpenClaim := { program := "ytleekffbffijkaa", sum := "be90d6c0b2b6aa8e87dfdc0b482591d6886390cea726e150dabee827c3d1d08c", func := "loop.example/g00273/laws.FnExactCell", spec := "fnExactCell", unfollowed := true, recurses := true, plainKeys := false, apart := false }
def FnExactCellSaid : Prop := fnExactCellRow.holds Try.pinned (OpenSpec.ofChange fnExactCellSpec)

/-- ITS FALSE NEIGHBOUR: 'it returns false'. Refute it at one input. -/
def fnExactCellWrong : ChangeSpec := { name := "fnExactCell", fn := fun _ => fun
  | [d1, d2] => { results := [.lit (.bool false)], args := [d1, d2] }
  | _ => none }
def FnExactCellWrongFalsely : Prop := fnExactCellRow.holds Try.pinned (OpenSpec.ofChange fnExactCellWrong)

/-- 'laws.FnExactInCell': WHATEVER THE INPUT: true; the input reads as it did. -/
def fnExactInCellSpec : ChangeSpec := { name := "fnExactInCell", fn := fun _ => fun
  | [d1, d2] => { results := [.lit (.bool true)], args := [d1, d2] }
  | _ => none }
def fnExactInCellRow : OpenClaim := { program := "ytleekffbffijkaa", sum := "be90d6c0b2b6aa8e87dfdc0b482591d6886390cea726e150dabee827c3d1d08c", func := "loop.example/g00273/laws.FnExactInCell", spec := "fnExactInCell", unfollowed := true, recurses := true, plainKeys := false, apart := false }
def FnExactInCellSaid : Prop := fnExactInCellRow.holds Try.pinned (OpenSpec.ofChange fnExactInCellSpec)

/-- ITS FALSE NEIGHBOUR: 'it returns false'. Refute it at one input. -/
def fnExactInCellWrong : ChangeSpec := { name := "fnExactInCell", fn := fun _ => fun
  | [d1, d2] => { results := [.lit (.bool false)], args := [d1, d2] }
  | _ => none }
def FnExactInCellWrongFalsely : Prop := fnExactInCellRow.holds Try.pinned (OpenSpec.ofChange fnExactInCellWrong)

/-- 'laws.FnExactCells': WHATEVER THE INPUT: true; the input reads as it did. -/
def fnExactCellsSpec : ChangeSpec := { name := "fnExactCells", fn := fun _ => fun
  | [d] => { results := [.lit (.bool true)], args := [d] }
  | _ => none }
def fnExactCellsRow : OpenClaim := { program := "ytleekffbffijkaa", sum := "be90d6c0b2b6aa8e87dfdc0b482591d6886390cea726e150dabee827c3d1d08c", func := "loop.example/g00273/laws.FnExactCells", spec := "fnExactCells", unfollowed := true, recurses := true, plainKeys := false, apart := false }
def FnExactCellsSaid : Prop := fnExactCellsRow.holds Try.pinned (OpenSpec.ofChange fnExactCellsSpec)

/-- ITS FALSE NEIGHBOUR: 'it returns false'. Refute it at one input. -/
def fnExactCellsWrong : ChangeSpec := { name := "fnExactCells", fn := fun _ => fun
  | [d] => { results := [.lit (.bool false)], args := [d] }
  | _ => none }
def FnExactCellsWrongFalsely : Prop := fnExactCellsRow.holds Try.pinned (OpenSpec.ofChange fnExactCellsWrong)

/-- 'laws.FnExactNear': WHATEVER THE INPUT: true; the input reads as it did. -/
def fnExactNearSpec : ChangeSpec := { name := "fnExactNear", fn := fun _ => fun
  | [d1, d2, d3] => { results := [.lit (.bool true)], args := [d1, d2, d3] }
  | _ => none }
def fnExactNearRow : OpenClaim := { program := "ytleekffbffijkaa", sum := "be90d6c0b2b6aa8e87dfdc0b482591d6886390cea726e150dabee827c3d1d08c", func := "loop.example/g00273/laws.FnExactNear", spec := "fnExactNear", unfollowed := true, recurses := true, plainKeys := false, apart := false }
def FnExactNearSaid : Prop := fnExactNearRow.holds Try.pinned (OpenSpec.ofChange fnExactNearSpec)

/-- ITS FALSE NEIGHBOUR: 'it returns false'. Refute it at one input. -/
def fnExactNearWrong : ChangeSpec := { name := "fnExactNear", fn := fun _ => fun
  | [d1, d2, d3] => { results := [.lit (.bool false)], args := [d1, d2, d3] }
  | _ => none }
def FnExactNearWrongFalsely : Prop := fnExactNearRow.holds Try.pinned (OpenSpec.ofChange fnExactNearWrong)

/-- 'laws.FnExactCrowd': WHATEVER THE INPUT: true; the input reads as it did. -/
def fnExactCrowdSpec : ChangeSpec := { name := "fnExactCrowd", fn := fun _ => fun
  | [d] => { results := [.lit (.bool true)], args := [d] }
  | _ => none }
def fnExactCrowdRow : OpenClaim := { program := "ytleekffbffijkaa", sum := "be90d6c0b2b6aa8e87dfdc0b482591d6886390cea726e150dabee827c3d1d08c", func := "loop.example/g00273/laws.FnExactCrowd", spec := "fnExactCrowd", unfollowed := true, recurses := true, plainKeys := false, apart := false }
def FnExactCrowdSaid : Prop := fnExactCrowdRow.holds Try.pinned (OpenSpec.ofChange fnExactCrowdSpec)

/-- ITS FALSE NEIGHBOUR: 'it returns false'. Refute it at one input. -/
def fnExactCrowdWrong : ChangeSpec := { name := "fnExactCrowd", fn := fun _ => fun
  | [d] => { results := [.lit (.bool false)], args := [d] }
  | _ => none }
def FnExactCrowdWrongFalsely : Prop := fnExactCrowdRow.holds Try.pinned (OpenSpec.ofChange fnExactCrowdWrong)

/- THE SECOND FORM. 'bulk': how many values and letters a reading holds, each counted each time it is reached (what is shared counts as often as it is met; a slice's spare places count too). A statement '..UptoSaid' is the law's where the arguments, and the package variables that the reading takes, are together of bulk at most 1048576: NARROWER than '..Said'. Prove '..Said' where nothing that the law and all that it calls make is longer than what came in: it says more and counts as full. Else prove '..UptoSaid'. A law counts once. -/
mutual
def uptoBulk {H : Type} : DataW H → Nat
  | .lit (.string bytes) => bytes.length + 1
  | .lit _ => 1
  | .nil => 1
  | .ptr d => uptoBulk d + 1
  | .slice elems spare => uptoBulkAll elems + uptoBulkAll spare + 1
  | .agg parts => uptoBulkAll parts + 1
  | .iface _ d => uptoBulk d + 1
  | .map entries => uptoBulkEntries entries + 1
  | .held _ => 1
def uptoBulkAll {H : Type} : List (DataW H) → Nat
  | [] => 0
  | d :: r => uptoBulk d + uptoBulkAll r
def uptoBulkEntries {H : Type} : List (Lit × DataW H) → Nat
  | [] => 0
  | x :: r => uptoBulkEntry x + uptoBulkEntries r
def uptoBulkEntry {H : Type} : Lit × DataW H → Nat
  | (.string bytes, d) => bytes.length + uptoBulk d + 1
  | (_, d) => uptoBulk d + 1
 end
def uptoSmall : (H : Type) → List (DataW H) → Bool := fun _ ds => decide (uptoBulkAll ds ≤ 1048576)
def OpenSpec.upto (s : _root_.Go.ChangeSpec) : _root_.Go.OpenSpec := { _root_.Go.OpenSpec.ofChange s with cond := some uptoSmall }

/-- 'laws.FnLooked', WHERE WHAT IT READS IS OF BULK AT MOST 1048576: true; the input reads as it did. -/
def fnLookedUptoRow : OpenClaim := { program := "ytleekffbffijkaa", sum := "be90d6c0b2b6aa8e87dfdc0b482591d6886390cea726e150dabee827c3d1d08c", func := "loop.example/g00273/laws.FnLooked", spec := "fnLooked", inPlace := ["slices.overlaps[loop.example/g00273/impl.Hit]"], unfollowed := true, recurses := true, plainKeys := false, apart := false, narrowed := true }
def FnLookedUptoSaid : Prop := fnLookedUptoRow.holds Try.pinned (OpenSpec.upto fnLookedSpec)

/-- 'laws.FnBalls', WHERE WHAT IT READS IS OF BULK AT MOST 1048576: true; the input reads as it did. -/
def fnBallsUptoRow : OpenClaim := { program := "ytleekffbffijkaa", sum := "be90d6c0b2b6aa8e87dfdc0b482591d6886390cea726e150dabee827c3d1d08c", func := "loop.example/g00273/laws.FnBalls", spec := "fnBalls", unfollowed := true, recurses := true, plainKeys := false, apart := false, narrowed := true }
def FnBallsUptoSaid : Prop := fnBallsUptoRow.holds Try.pinned (OpenSpec.upto fnBallsSpec)

/-- 'laws.FnExactLooked', WHERE WHAT IT READS IS OF BULK AT MOST 1048576: true; the input reads as it did. -/
def fnExactLookedUptoRow : OpenClaim := { program := "ytleekffbffijkaa", sum := "be90d6c0b2b6aa8e87dfdc0b482591d6886390cea726e150dabee827c3d1d08c", func := "loop.example/g00273/laws.FnExactLooked", spec := "fnExactLooked", inPlace := ["slices.overlaps[loop.example/g00273/impl.Hit]"], unfollowed := true, recurses := true, plainKeys := false, apart := false, narrowed := true }
def FnExactLookedUptoSaid : Prop := fnExactLookedUptoRow.holds Try.pinned (OpenSpec.upto fnExactLookedSpec)

/-- 'laws.FnExactClosest', WHERE WHAT IT READS IS OF BULK AT MOST 1048576: true; the input reads as it did. -/
def fnExactClosestUptoRow : OpenClaim := { program := "ytleekffbffijkaa", sum := "be90d6c0b2b6aa8e87dfdc0b482591d6886390cea726e150dabee827c3d1d08c", func := "loop.example/g00273/laws.FnExactClosest", spec := "fnExactClosest", unfollowed := true, recurses := true, plainKeys := false, apart := false, narrowed := true }
def FnExactClosestUptoSaid : Prop := fnExactClosestUptoRow.holds Try.pinned (OpenSpec.upto fnExactClosestSpec)

/-- 'laws.FnExactSpared', WHERE WHAT IT READS IS OF BULK AT MOST 1048576: true; the input reads as it did. -/
def fnExactSparedUptoRow : OpenClaim := { program := "ytleekffbffijkaa", sum := "be90d6c0b2b6aa8e87dfdc0b482591d6886390cea726e150dabee827c3d1d08c", func := "loop.example/g00273/laws.FnExactSpared", spec := "fnExactSpared", unfollowed := true, recurses := true, plainKeys := false, apart := false, narrowed := true }
def FnExactSparedUptoSaid : Prop := fnExactSparedUptoRow.holds Try.pinned (OpenSpec.upto fnExactSparedSpec)

/-- 'laws.FnExactCell', WHERE WHAT IT READS IS OF BULK AT MOST 1048576: true; the input reads as it did. -/
def fnExactCellUptoRow : OpenClaim := { program := "ytleekffbffijkaa", sum := "be90d6c0b2b6aa8e87dfdc0b482591d6886390cea726e150dabee827c3d1d08c", func := "loop.example/g00273/laws.FnExactCell", spec := "fnExactCell", unfollowed := true, recurses := true, plainKeys := false, apart := false, narrowed := true }
def FnExactCellUptoSaid : Prop := fnExactCellUptoRow.holds Try.pinned (OpenSpec.upto fnExactCellSpec)

/-- 'laws.FnExactInCell', WHERE WHAT IT READS IS OF BULK AT MOST 1048576: true; the input reads as it did. -/
def fnExactInCellUptoRow : OpenClaim := { program := "ytleekffbffijkaa", sum := "be90d6c0b2b6aa8e87dfdc0b482591d6886390cea726e150dabee827c3d1d08c", func := "loop.example/g00273/laws.FnExactInCell", spec := "fnExactInCell", unfollowed := true, recurses := true, plainKeys := false, apart := false, narrowed := true }
def FnExactInCellUptoSaid : Prop := fnExactInCellUptoRow.holds Try.pinned (OpenSpec.upto fnExactInCellSpec)

/-- 'laws.FnExactCells', WHERE WHAT IT READS IS OF BULK AT MOST 1048576: true; the input reads as it did. -/
def fnExactCellsUptoRow : OpenClaim := { program := "ytleekffbffijkaa", sum := "be90d6c0b2b6aa8e87dfdc0b482591d6886390cea726e150dabee827c3d1d08c", func := "loop.example/g00273/laws.FnExactCells", spec := "fnExactCells", unfollowed := true, recurses := true, plainKeys := false, apart := false, narrowed := true }
def FnExactCellsUptoSaid : Prop := fnExactCellsUptoRow.holds Try.pinned (OpenSpec.upto fnExactCellsSpec)

/-- 'laws.FnExactNear', WHERE WHAT IT READS IS OF BULK AT MOST 1048576: true; the input reads as it did. -/
def fnExactNearUptoRow : OpenClaim := { program := "ytleekffbffijkaa", sum := "be90d6c0b2b6aa8e87dfdc0b482591d6886390cea726e150dabee827c3d1d08c", func := "loop.example/g00273/laws.FnExactNear", spec := "fnExactNear", unfollowed := true, recurses := true, plainKeys := false, apart := false, narrowed := true }
def FnExactNearUptoSaid : Prop := fnExactNearUptoRow.holds Try.pinned (OpenSpec.upto fnExactNearSpec)

/-- 'laws.FnExactCrowd', WHERE WHAT IT READS IS OF BULK AT MOST 1048576: true; the input reads as it did. -/
def fnExactCrowdUptoRow : OpenClaim := { program := "ytleekffbffijkaa", sum := "be90d6c0b2b6aa8e87dfdc0b482591d6886390cea726e150dabee827c3d1d08c", func := "loop.example/g00273/laws.FnExactCrowd", spec := "fnExactCrowd", unfollowed := true, recurses := true, plainKeys := false, apart := false, narrowed := true }
def FnExactCrowdUptoSaid : Prop := fnExactCrowdUptoRow.holds Try.pinned (OpenSpec.upto fnExactCrowdSpec)

end Rows
end Go.Proofs.Ytleekffbffijkaa
