/-
  No cell of these rows narrows 'for every input' (looked for: loops, veiled, ifaces, maps, wideKeys, modest, calm, conditions, laid).
  DERIVED. THE GIVEN ROWS OF THIS SEAT. 6 by the template 'for every input the law returns true; each argument reads behind the call as it read before'; 0 by the template 'total and deterministic' (their statements: YtlggpfgamjoeaaaTotals.lean).
  GIVEN WITH THE SEED: the statements are not yours to turn. If you find one false, say at which input.
  Laid BY PROGRAM, IN A SANDBOX (cutbox-rows.mjs): the forced cells as the released guide's own fill.sh prints them over the translation 37299c14e867c230… (all of the seat's roots in one cut). By AI agents, Wed Nov 11 2026. No macro, syntax, notation, axiom, sorry.
-/
import Derived.Test.YtlggpfgamjoeaaaChecked
import GoSem.Claim
import GoSem.ClaimJoined
import GoSem.ClaimMapViews
import Derived.JoinedTies
import Derived.KernelRfl
namespace Go.Proofs.Ytlggpfgamjoeaaa
/- THE CELL 'sum', in the pinned program and in every row, IS THE sha256 OF THE DUMP (.gsa) THAT YtlggpfgamjoeaaaProg.lean LOADS. Nothing in Lean hashes anything: it is a label: what it is worth is what the hold of that sum in a sandbox is worth. -/
noncomputable def Try.pinned : Pinned := { name := "ytlggpfgamjoeaaa", sum := "37299c14e867c230516c9dcb26c867bd3559cbba316988406174dca5a05a2a87", checked := Try.checked }
namespace Rows
def none {H : Type} : Left H := { results := [], args := [] }

/-- 'laws.FnWalks': WHATEVER THE INPUT: true; the input reads as it did. -/
def fnWalksSpec : ChangeSpec := { name := "fnWalks", fn := fun _ => fun
  | [d] => { results := [.lit (.bool true)], args := [d] }
  | _ => none }
def fnWalksRow : OpenClaim := { program := "ytlggpfgamjoeaaa", sum := "37299c14e867c230516c9dcb26c867bd3559cbba316988406174dca5a05a2a87", func := "loop.example/g00273/laws.FnWalks", spec := "fnWalks", inPlace := ["slices.overlaps[loop.example/g00273/impl.sight]"], unfollowed := true, recurses := true, apart := false }
def FnWalksSaid : Prop := fnWalksRow.holds Try.pinned (OpenSpec.ofChange fnWalksSpec)

/-- ITS FALSE NEIGHBOUR: 'it returns false'. Refute it at one input. -/
def fnWalksWrong : ChangeSpec := { name := "fnWalks", fn := fun _ => fun
  | [d] => { results := [.lit (.bool false)], args := [d] }
  | _ => none }
def FnWalksWrongFalsely : Prop := fnWalksRow.holds Try.pinned (OpenSpec.ofChange fnWalksWrong)

/-- 'laws.FnBeams': WHATEVER THE INPUT: true; the input reads as it did. -/
def fnBeamsSpec : ChangeSpec := { name := "fnBeams", fn := fun _ => fun
  | [d] => { results := [.lit (.bool true)], args := [d] }
  | _ => none }
def fnBeamsRow : OpenClaim := { program := "ytlggpfgamjoeaaa", sum := "37299c14e867c230516c9dcb26c867bd3559cbba316988406174dca5a05a2a87", func := "loop.example/g00273/laws.FnBeams", spec := "fnBeams", inPlace := ["slices.overlaps[loop.example/g00273/impl.sight]"], unfollowed := true, recurses := true, apart := false }
def FnBeamsSaid : Prop := fnBeamsRow.holds Try.pinned (OpenSpec.ofChange fnBeamsSpec)

/-- ITS FALSE NEIGHBOUR: 'it returns false'. Refute it at one input. -/
def fnBeamsWrong : ChangeSpec := { name := "fnBeams", fn := fun _ => fun
  | [d] => { results := [.lit (.bool false)], args := [d] }
  | _ => none }
def FnBeamsWrongFalsely : Prop := fnBeamsRow.holds Try.pinned (OpenSpec.ofChange fnBeamsWrong)

/-- 'laws.FnExactWebOk': WHATEVER THE INPUT: true; the input reads as it did. -/
def fnExactWebOkSpec : ChangeSpec := { name := "fnExactWebOk", fn := fun _ => fun
  | [d] => { results := [.lit (.bool true)], args := [d] }
  | _ => none }
def fnExactWebOkRow : OpenClaim := { program := "ytlggpfgamjoeaaa", sum := "37299c14e867c230516c9dcb26c867bd3559cbba316988406174dca5a05a2a87", func := "loop.example/g00273/laws.FnExactWebOk", spec := "fnExactWebOk", unfollowed := true, recurses := true, apart := false }
def FnExactWebOkSaid : Prop := fnExactWebOkRow.holds Try.pinned (OpenSpec.ofChange fnExactWebOkSpec)

/-- ITS FALSE NEIGHBOUR: 'it returns false'. Refute it at one input. -/
def fnExactWebOkWrong : ChangeSpec := { name := "fnExactWebOk", fn := fun _ => fun
  | [d] => { results := [.lit (.bool false)], args := [d] }
  | _ => none }
def FnExactWebOkWrongFalsely : Prop := fnExactWebOkRow.holds Try.pinned (OpenSpec.ofChange fnExactWebOkWrong)

/-- 'laws.FnExactWalk': WHATEVER THE INPUT: true; the input reads as it did. -/
def fnExactWalkSpec : ChangeSpec := { name := "fnExactWalk", fn := fun _ => fun
  | [d1, d2, d3] => { results := [.lit (.bool true)], args := [d1, d2, d3] }
  | _ => none }
def fnExactWalkRow : OpenClaim := { program := "ytlggpfgamjoeaaa", sum := "37299c14e867c230516c9dcb26c867bd3559cbba316988406174dca5a05a2a87", func := "loop.example/g00273/laws.FnExactWalk", spec := "fnExactWalk", inPlace := ["slices.overlaps[loop.example/g00273/impl.sight]"], unfollowed := true, recurses := true, apart := false }
def FnExactWalkSaid : Prop := fnExactWalkRow.holds Try.pinned (OpenSpec.ofChange fnExactWalkSpec)

/-- ITS FALSE NEIGHBOUR: 'it returns false'. Refute it at one input. -/
def fnExactWalkWrong : ChangeSpec := { name := "fnExactWalk", fn := fun _ => fun
  | [d1, d2, d3] => { results := [.lit (.bool false)], args := [d1, d2, d3] }
  | _ => none }
def FnExactWalkWrongFalsely : Prop := fnExactWalkRow.holds Try.pinned (OpenSpec.ofChange fnExactWalkWrong)

/-- 'laws.FnExactBeam': WHATEVER THE INPUT: true; the input reads as it did. -/
def fnExactBeamSpec : ChangeSpec := { name := "fnExactBeam", fn := fun _ => fun
  | [d1, d2, d3, d4] => { results := [.lit (.bool true)], args := [d1, d2, d3, d4] }
  | _ => none }
def fnExactBeamRow : OpenClaim := { program := "ytlggpfgamjoeaaa", sum := "37299c14e867c230516c9dcb26c867bd3559cbba316988406174dca5a05a2a87", func := "loop.example/g00273/laws.FnExactBeam", spec := "fnExactBeam", inPlace := ["slices.overlaps[loop.example/g00273/impl.sight]"], unfollowed := true, recurses := true, apart := false }
def FnExactBeamSaid : Prop := fnExactBeamRow.holds Try.pinned (OpenSpec.ofChange fnExactBeamSpec)

/-- ITS FALSE NEIGHBOUR: 'it returns false'. Refute it at one input. -/
def fnExactBeamWrong : ChangeSpec := { name := "fnExactBeam", fn := fun _ => fun
  | [d1, d2, d3, d4] => { results := [.lit (.bool false)], args := [d1, d2, d3, d4] }
  | _ => none }
def FnExactBeamWrongFalsely : Prop := fnExactBeamRow.holds Try.pinned (OpenSpec.ofChange fnExactBeamWrong)

/-- 'laws.FnExactIslands': WHATEVER THE INPUT: true; the input reads as it did. -/
def fnExactIslandsSpec : ChangeSpec := { name := "fnExactIslands", fn := fun _ => fun
  | [d] => { results := [.lit (.bool true)], args := [d] }
  | _ => none }
def fnExactIslandsRow : OpenClaim := { program := "ytlggpfgamjoeaaa", sum := "37299c14e867c230516c9dcb26c867bd3559cbba316988406174dca5a05a2a87", func := "loop.example/g00273/laws.FnExactIslands", spec := "fnExactIslands", inPlace := ["slices.overlaps[loop.example/g00273/impl.sight]"], unfollowed := true, recurses := true, apart := false }
def FnExactIslandsSaid : Prop := fnExactIslandsRow.holds Try.pinned (OpenSpec.ofChange fnExactIslandsSpec)

/-- ITS FALSE NEIGHBOUR: 'it returns false'. Refute it at one input. -/
def fnExactIslandsWrong : ChangeSpec := { name := "fnExactIslands", fn := fun _ => fun
  | [d] => { results := [.lit (.bool false)], args := [d] }
  | _ => none }
def FnExactIslandsWrongFalsely : Prop := fnExactIslandsRow.holds Try.pinned (OpenSpec.ofChange fnExactIslandsWrong)

/- THE SECOND FORM. 'bulk': how many values and letters a reading holds, each counted each time it is reached (what is shared counts as often as it is met; a slice's spare places count too). A statement '..UptoSaid' is the law's where the arguments, and the package variables that the reading takes, are together of bulk at most 1048576: NARROWER than '..Said'. Prove '..Said' where nothing that the law and all that it calls make is longer than what came in: it says more and counts as full. Else prove '..UptoSaid'. A law counts once. -/
mutual
def uptoBulk {H : Type} : DataW H → Nat
  | .lit (.string bytes) => bytes.length + 1
  | .lit _ => 1
  | .nil => 1
  | .ptr d => uptoBulk d + 1
  | .slice elems spare => uptoBulkAll elems + uptoBulkAll spare + 1
  | .agg parts => uptoBulkAll parts + 1
  | .iface _ d => uptoBulk d + 1
  | .map entries => uptoBulkEntries entries + 1
  | .held _ => 1
def uptoBulkAll {H : Type} : List (DataW H) → Nat
  | [] => 0
  | d :: r => uptoBulk d + uptoBulkAll r
def uptoBulkEntries {H : Type} : List (Lit × DataW H) → Nat
  | [] => 0
  | x :: r => uptoBulkEntry x + uptoBulkEntries r
def uptoBulkEntry {H : Type} : Lit × DataW H → Nat
  | (.string bytes, d) => bytes.length + uptoBulk d + 1
  | (_, d) => uptoBulk d + 1
 end
def uptoSmall : (H : Type) → List (DataW H) → Bool := fun _ ds => decide (uptoBulkAll ds ≤ 1048576)
def OpenSpec.upto (s : _root_.Go.ChangeSpec) : _root_.Go.OpenSpec := { _root_.Go.OpenSpec.ofChange s with cond := some uptoSmall }

/-- 'laws.FnWalks', WHERE WHAT IT READS IS OF BULK AT MOST 1048576: true; the input reads as it did. -/
def fnWalksUptoRow : OpenClaim := { program := "ytlggpfgamjoeaaa", sum := "37299c14e867c230516c9dcb26c867bd3559cbba316988406174dca5a05a2a87", func := "loop.example/g00273/laws.FnWalks", spec := "fnWalks", inPlace := ["slices.overlaps[loop.example/g00273/impl.sight]"], unfollowed := true, recurses := true, apart := false, narrowed := true }
def FnWalksUptoSaid : Prop := fnWalksUptoRow.holds Try.pinned (OpenSpec.upto fnWalksSpec)

/-- 'laws.FnBeams', WHERE WHAT IT READS IS OF BULK AT MOST 1048576: true; the input reads as it did. -/
def fnBeamsUptoRow : OpenClaim := { program := "ytlggpfgamjoeaaa", sum := "37299c14e867c230516c9dcb26c867bd3559cbba316988406174dca5a05a2a87", func := "loop.example/g00273/laws.FnBeams", spec := "fnBeams", inPlace := ["slices.overlaps[loop.example/g00273/impl.sight]"], unfollowed := true, recurses := true, apart := false, narrowed := true }
def FnBeamsUptoSaid : Prop := fnBeamsUptoRow.holds Try.pinned (OpenSpec.upto fnBeamsSpec)

/-- 'laws.FnExactWebOk', WHERE WHAT IT READS IS OF BULK AT MOST 1048576: true; the input reads as it did. -/
def fnExactWebOkUptoRow : OpenClaim := { program := "ytlggpfgamjoeaaa", sum := "37299c14e867c230516c9dcb26c867bd3559cbba316988406174dca5a05a2a87", func := "loop.example/g00273/laws.FnExactWebOk", spec := "fnExactWebOk", unfollowed := true, recurses := true, apart := false, narrowed := true }
def FnExactWebOkUptoSaid : Prop := fnExactWebOkUptoRow.holds Try.pinned (OpenSpec.upto fnExactWebOkSpec)

/-- 'laws.FnExactWalk', WHERE WHAT IT READS IS OF BULK AT MOST 1048576: true; the input reads as it did. -/
def fnExactWalkUptoRow : OpenClaim := { program := "ytlggpfgamjoeaaa", sum := "37299c14e867c230516c9dcb26c867bd3559cbba316988406174dca5a05a2a87", func := "loop.example/g00273/laws.FnExactWalk", spec := "fnExactWalk", inPlace := ["slices.overlaps[loop.example/g00273/impl.sight]"], unfollowed := true, recurses := true, apart := false, narrowed := true }
def FnExactWalkUptoSaid : Prop := fnExactWalkUptoRow.holds Try.pinned (OpenSpec.upto fnExactWalkSpec)

/-- 'laws.FnExactBeam', WHERE WHAT IT READS IS OF BULK AT MOST 1048576: true; the input reads as it did. -/
def fnExactBeamUptoRow : OpenClaim := { program := "ytlggpfgamjoeaaa", sum := "37299c14e867c230516c9dcb26c867bd3559cbba316988406174dca5a05a2a87", func := "loop.example/g00273/laws.FnExactBeam", spec := "fnExactBeam", inPlace := ["slices.overlaps[loop.example/g00273/impl.sight]"], unfollowed := true, recurses := true, apart := false, narrowed := true }
def FnExactBeamUptoSaid : Prop := fnExactBeamUptoRow.holds Try.pinned (OpenSpec.upto fnExactBeamSpec)

/-- 'laws.FnExactIslands', WHERE WHAT IT READS IS OF BULK AT MOST 1048576: true; the input reads as it did. -/
def fnExactIslandsUptoRow : OpenClaim := { program := "ytlggpfgamjoeaaa", sum := "37299c14e867c230516c9dcb26c867bd3559cbba316988406174dca5a05a2a87", func := "loop.example/g00273/laws.FnExactIslands", spec := "fnExactIslands", inPlace := ["slices.overlaps[loop.example/g00273/impl.sight]"], unfollowed := true, recurses := true, apart := false, narrowed := true }
def FnExactIslandsUptoSaid : Prop := fnExactIslandsUptoRow.holds Try.pinned (OpenSpec.upto fnExactIslandsSpec)

end Rows
end Go.Proofs.Ytlggpfgamjoeaaa
