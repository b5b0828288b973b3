/-
  No cell of these rows narrows 'for every input' (looked for: loops, veiled, ifaces, maps, wideKeys, modest, calm, conditions, laid).
  DERIVED. THE GIVEN ROWS OF THIS SEAT. 5 by the template 'for every input the law returns true; each argument reads behind the call as it read before'; 0 by the template 'total and deterministic' (their statements: YtodielfilhodeaaTotals.lean).
  GIVEN WITH THE SEED: the statements are not yours to turn. If you find one false, say at which input.
  Laid BY PROGRAM, IN A SANDBOX (cutbox-rows.mjs): the forced cells as the released guide's own fill.sh prints them over the translation 2646eb44829d3c5a… (all of the seat's roots in one cut). By AI agents, Wed Nov 11 2026. No macro, syntax, notation, axiom, sorry.
-/
import Derived.Test.YtodielfilhodeaaChecked
import GoSem.Claim
import GoSem.ClaimJoined
import GoSem.ClaimMapViews
import Derived.JoinedTies
import Derived.KernelRfl
namespace Go.Proofs.Ytodielfilhodeaa
/- THE CELL 'sum', in the pinned program and in every row, IS THE sha256 OF THE DUMP (.gsa) THAT YtodielfilhodeaaProg.lean LOADS. Nothing in Lean hashes anything: it is a label: what it is worth is what the hold of that sum in a sandbox is worth. -/
noncomputable def Try.pinned : Pinned := { name := "ytodielfilhodeaa", sum := "2646eb44829d3c5abec9ba20a0ba21add9d2fac147f3a3d216326eb7d9ddef55", checked := Try.checked }
namespace Rows
def none {H : Type} : Left H := { results := [], args := [] }

/-- 'laws.FnBoxes': WHATEVER THE INPUT: true; the input reads as it did. -/
def fnBoxesSpec : ChangeSpec := { name := "fnBoxes", fn := fun _ => fun
  | [d] => { results := [.lit (.bool true)], args := [d] }
  | _ => none }
def fnBoxesRow : OpenClaim := { program := "ytodielfilhodeaa", sum := "2646eb44829d3c5abec9ba20a0ba21add9d2fac147f3a3d216326eb7d9ddef55", func := "loop.example/g00273/laws.FnBoxes", spec := "fnBoxes", unfollowed := true, recurses := true, plainKeys := false, apart := false }
def FnBoxesSaid : Prop := fnBoxesRow.holds Try.pinned (OpenSpec.ofChange fnBoxesSpec)

/-- ITS FALSE NEIGHBOUR: 'it returns false'. Refute it at one input. -/
def fnBoxesWrong : ChangeSpec := { name := "fnBoxes", fn := fun _ => fun
  | [d] => { results := [.lit (.bool false)], args := [d] }
  | _ => none }
def FnBoxesWrongFalsely : Prop := fnBoxesRow.holds Try.pinned (OpenSpec.ofChange fnBoxesWrong)

/-- 'laws.FnLooked': WHATEVER THE INPUT: true; the input reads as it did. -/
def fnLookedSpec : ChangeSpec := { name := "fnLooked", fn := fun _ => fun
  | [d] => { results := [.lit (.bool true)], args := [d] }
  | _ => none }
def fnLookedRow : OpenClaim := { program := "ytodielfilhodeaa", sum := "2646eb44829d3c5abec9ba20a0ba21add9d2fac147f3a3d216326eb7d9ddef55", func := "loop.example/g00273/laws.FnLooked", spec := "fnLooked", inPlace := ["slices.overlaps[loop.example/g00273/impl.Hit]"], unfollowed := true, recurses := true, plainKeys := false, apart := false }
def FnLookedSaid : Prop := fnLookedRow.holds Try.pinned (OpenSpec.ofChange fnLookedSpec)

/-- ITS FALSE NEIGHBOUR: 'it returns false'. Refute it at one input. -/
def fnLookedWrong : ChangeSpec := { name := "fnLooked", fn := fun _ => fun
  | [d] => { results := [.lit (.bool false)], args := [d] }
  | _ => none }
def FnLookedWrongFalsely : Prop := fnLookedRow.holds Try.pinned (OpenSpec.ofChange fnLookedWrong)

/-- 'laws.FnBalls': WHATEVER THE INPUT: true; the input reads as it did. -/
def fnBallsSpec : ChangeSpec := { name := "fnBalls", fn := fun _ => fun
  | [d] => { results := [.lit (.bool true)], args := [d] }
  | _ => none }
def fnBallsRow : OpenClaim := { program := "ytodielfilhodeaa", sum := "2646eb44829d3c5abec9ba20a0ba21add9d2fac147f3a3d216326eb7d9ddef55", func := "loop.example/g00273/laws.FnBalls", spec := "fnBalls", unfollowed := true, recurses := true, plainKeys := false, apart := false }
def FnBallsSaid : Prop := fnBallsRow.holds Try.pinned (OpenSpec.ofChange fnBallsSpec)

/-- ITS FALSE NEIGHBOUR: 'it returns false'. Refute it at one input. -/
def fnBallsWrong : ChangeSpec := { name := "fnBalls", fn := fun _ => fun
  | [d] => { results := [.lit (.bool false)], args := [d] }
  | _ => none }
def FnBallsWrongFalsely : Prop := fnBallsRow.holds Try.pinned (OpenSpec.ofChange fnBallsWrong)

/-- 'laws.FnExactLooked': WHATEVER THE INPUT: true; the input reads as it did. -/
def fnExactLookedSpec : ChangeSpec := { name := "fnExactLooked", fn := fun _ => fun
  | [d1, d2] => { results := [.lit (.bool true)], args := [d1, d2] }
  | _ => none }
def fnExactLookedRow : OpenClaim := { program := "ytodielfilhodeaa", sum := "2646eb44829d3c5abec9ba20a0ba21add9d2fac147f3a3d216326eb7d9ddef55", func := "loop.example/g00273/laws.FnExactLooked", spec := "fnExactLooked", inPlace := ["slices.overlaps[loop.example/g00273/impl.Hit]"], unfollowed := true, recurses := true, plainKeys := false, apart := false }
def FnExactLookedSaid : Prop := fnExactLookedRow.holds Try.pinned (OpenSpec.ofChange fnExactLookedSpec)

/-- ITS FALSE NEIGHBOUR: 'it returns false'. Refute it at one input. -/
def fnExactLookedWrong : ChangeSpec := { name := "fnExactLooked", fn := fun _ => fun
  | [d1, d2] => { results := [.lit (.bool false)], args := [d1, d2] }
  | _ => none }
def FnExactLookedWrongFalsely : Prop := fnExactLookedRow.holds Try.pinned (OpenSpec.ofChange fnExactLookedWrong)

/-- 'laws.FnExactNear': WHATEVER THE INPUT: true; the input reads as it did. -/
def fnExactNearSpec : ChangeSpec := { name := "fnExactNear", fn := fun _ => fun
  | [d1, d2, d3] => { results := [.lit (.bool true)], args := [d1, d2, d3] }
  | _ => none }
def fnExactNearRow : OpenClaim := { program := "ytodielfilhodeaa", sum := "2646eb44829d3c5abec9ba20a0ba21add9d2fac147f3a3d216326eb7d9ddef55", func := "loop.example/g00273/laws.FnExactNear", spec := "fnExactNear", unfollowed := true, recurses := true, plainKeys := false, apart := false }
def FnExactNearSaid : Prop := fnExactNearRow.holds Try.pinned (OpenSpec.ofChange fnExactNearSpec)

/-- ITS FALSE NEIGHBOUR: 'it returns false'. Refute it at one input. -/
def fnExactNearWrong : ChangeSpec := { name := "fnExactNear", fn := fun _ => fun
  | [d1, d2, d3] => { results := [.lit (.bool false)], args := [d1, d2, d3] }
  | _ => none }
def FnExactNearWrongFalsely : Prop := fnExactNearRow.holds Try.pinned (OpenSpec.ofChange fnExactNearWrong)

/- THE SECOND FORM. 'bulk': how many values and letters a reading holds, each counted each time it is reached (what is shared counts as often as it is met; a slice's spare places count too). A statement '..UptoSaid' is the law's where the arguments, and the package variables that the reading takes, are together of bulk at most 1048576: NARROWER than '..Said'. Prove '..Said' where nothing that the law and all that it calls make is longer than what came in: it says more and counts as full. Else prove '..UptoSaid'. A law counts once. -/
mutual
def uptoBulk {H : Type} : DataW H → Nat
  | .lit (.string bytes) => bytes.length + 1
  | .lit _ => 1
  | .nil => 1
  | .ptr d => uptoBulk d + 1
  | .slice elems spare => uptoBulkAll elems + uptoBulkAll spare + 1
  | .agg parts => uptoBulkAll parts + 1
  | .iface _ d => uptoBulk d + 1
  | .map entries => uptoBulkEntries entries + 1
  | .held _ => 1
def uptoBulkAll {H : Type} : List (DataW H) → Nat
  | [] => 0
  | d :: r => uptoBulk d + uptoBulkAll r
def uptoBulkEntries {H : Type} : List (Lit × DataW H) → Nat
  | [] => 0
  | x :: r => uptoBulkEntry x + uptoBulkEntries r
def uptoBulkEntry {H : Type} : Lit × DataW H → Nat
  | (.string bytes, d) => bytes.length + uptoBulk d + 1
  | (_, d) => uptoBulk d + 1
 end
def uptoSmall : (H : Type) → List (DataW H) → Bool := fun _ ds => decide (uptoBulkAll ds ≤ 1048576)
def OpenSpec.upto (s : _root_.Go.ChangeSpec) : _root_.Go.OpenSpec := { _root_.Go.OpenSpec.ofChange s with cond := some uptoSmall }

/-- 'laws.FnBoxes', WHERE WHAT IT READS IS OF BULK AT MOST 1048576: true; the input reads as it did. -/
def fnBoxesUptoRow : OpenClaim := { program := "ytodielfilhodeaa", sum := "2646eb44829d3c5abec9ba20a0ba21add9d2fac147f3a3d216326eb7d9ddef55", func := "loop.example/g00273/laws.FnBoxes", spec := "fnBoxes", unfollowed := true, recurses := true, plainKeys := false, apart := false, narrowed := true }
def FnBoxesUptoSaid : Prop := fnBoxesUptoRow.holds Try.pinned (OpenSpec.upto fnBoxesSpec)

/-- 'laws.FnLooked', WHERE WHAT IT READS IS OF BULK AT MOST 1048576: true; the input reads as it did. -/
def fnLookedUptoRow : OpenClaim := { program := "ytodielfilhodeaa", sum := "2646eb44829d3c5abec9ba20a0ba21add9d2fac147f3a3d216326eb7d9ddef55", func := "loop.example/g00273/laws.FnLooked", spec := "fnLooked", inPlace := ["slices.overlaps[loop.example/g00273/impl.Hit]"], unfollowed := true, recurses := true, plainKeys := false, apart := false, narrowed := true }
def FnLookedUptoSaid : Prop := fnLookedUptoRow.holds Try.pinned (OpenSpec.upto fnLookedSpec)

/-- 'laws.FnBalls', WHERE WHAT IT READS IS OF BULK AT MOST 1048576: true; the input reads as it did. -/
def fnBallsUptoRow : OpenClaim := { program := "ytodielfilhodeaa", sum := "2646eb44829d3c5abec9ba20a0ba21add9d2fac147f3a3d216326eb7d9ddef55", func := "loop.example/g00273/laws.FnBalls", spec := "fnBalls", unfollowed := true, recurses := true, plainKeys := false, apart := false, narrowed := true }
def FnBallsUptoSaid : Prop := fnBallsUptoRow.holds Try.pinned (OpenSpec.upto fnBallsSpec)

/-- 'laws.FnExactLooked', WHERE WHAT IT READS IS OF BULK AT MOST 1048576: true; the input reads as it did. -/
def fnExactLookedUptoRow : OpenClaim := { program := "ytodielfilhodeaa", sum := "2646eb44829d3c5abec9ba20a0ba21add9d2fac147f3a3d216326eb7d9ddef55", func := "loop.example/g00273/laws.FnExactLooked", spec := "fnExactLooked", inPlace := ["slices.overlaps[loop.example/g00273/impl.Hit]"], unfollowed := true, recurses := true, plainKeys := false, apart := false, narrowed := true }
def FnExactLookedUptoSaid : Prop := fnExactLookedUptoRow.holds Try.pinned (OpenSpec.upto fnExactLookedSpec)

/-- 'laws.FnExactNear', WHERE WHAT IT READS IS OF BULK AT MOST 1048576: true; the input reads as it did. -/
def fnExactNearUptoRow : OpenClaim := { program := "ytodielfilhodeaa", sum := "2646eb44829d3c5abec9ba20a0ba21add9d2fac147f3a3d216326eb7d9ddef55", func := "loop.example/g00273/laws.FnExactNear", spec := "fnExactNear", unfollowed := true, recurses := true, plainKeys := false, apart := false, narrowed := true }
def FnExactNearUptoSaid : Prop := fnExactNearUptoRow.holds Try.pinned (OpenSpec.upto fnExactNearSpec)

end Rows
end Go.Proofs.Ytodielfilhodeaa
