/-
  No cell of these rows narrows 'for every input' (looked for: loops, veiled, ifaces, maps, wideKeys, modest, calm, conditions, laid).
  DERIVED. THE GIVEN ROWS OF THIS SEAT. 6 by the template 'for every input the law returns true; each argument reads behind the call as it read before'; 0 by the template 'total and deterministic' (their statements: YtmembegdbceooaaTotals.lean).
  GIVEN WITH THE SEED: the statements are not yours to turn. If you find one false, say at which input.
  Laid BY PROGRAM, IN A SANDBOX (cutbox-rows.mjs): the forced cells as the released guide's own fill.sh prints them over the translation d924c619dae6f772… (all of the seat's roots in one cut). By AI agents, Wed Nov 11 2026. No macro, syntax, notation, axiom, sorry.
-/
import Derived.Test.YtmembegdbceooaaChecked
import GoSem.Claim
import GoSem.ClaimJoined
import GoSem.ClaimMapViews
import Derived.JoinedTies
import Derived.KernelRfl
namespace Go.Proofs.Ytmembegdbceooaa
/- THE CELL 'sum', in the pinned program and in every row, IS THE sha256 OF THE DUMP (.gsa) THAT YtmembegdbceooaaProg.lean LOADS. Nothing in Lean hashes anything: it is a label: what it is worth is what the hold of that sum in a sandbox is worth. -/
noncomputable def Try.pinned : Pinned := { name := "ytmembegdbceooaa", sum := "d924c619dae6f772071002c8da2ceb2f4bec0d4c08ded3e0b55254b0d38113d6", checked := Try.checked }
namespace Rows
def none {H : Type} : Left H := { results := [], args := [] }

/-- 'laws.FnBeams': WHATEVER THE INPUT: true; the input reads as it did. -/
def fnBeamsSpec : ChangeSpec := { name := "fnBeams", fn := fun _ => fun
  | [d] => { results := [.lit (.bool true)], args := [d] }
  | _ => none }
def fnBeamsRow : OpenClaim := { program := "ytmembegdbceooaa", sum := "d924c619dae6f772071002c8da2ceb2f4bec0d4c08ded3e0b55254b0d38113d6", func := "loop.example/g00273/laws.FnBeams", spec := "fnBeams", inPlace := ["slices.overlaps[loop.example/g00273/impl.sight]"], unfollowed := true, recurses := true, apart := false }
def FnBeamsSaid : Prop := fnBeamsRow.holds Try.pinned (OpenSpec.ofChange fnBeamsSpec)

/-- ITS FALSE NEIGHBOUR: 'it returns false'. Refute it at one input. -/
def fnBeamsWrong : ChangeSpec := { name := "fnBeams", fn := fun _ => fun
  | [d] => { results := [.lit (.bool false)], args := [d] }
  | _ => none }
def FnBeamsWrongFalsely : Prop := fnBeamsRow.holds Try.pinned (OpenSpec.ofChange fnBeamsWrong)

/-- 'laws.FnDice': WHATEVER THE INPUT: true; the input reads as it did. -/
def fnDiceSpec : ChangeSpec := { name := "fnDice", fn := fun _ => fun
  | [d] => { results := [.lit (.bool true)], args := [d] }
  | _ => none }
def fnDiceRow : OpenClaim := { program := "ytmembegdbceooaa", sum := "d924c619dae6f772071002c8da2ceb2f4bec0d4c08ded3e0b55254b0d38113d6", func := "loop.example/g00273/laws.FnDice", spec := "fnDice", apart := false }
def FnDiceSaid : Prop := fnDiceRow.holds Try.pinned (OpenSpec.ofChange fnDiceSpec)

/-- ITS FALSE NEIGHBOUR: 'it returns false'. Refute it at one input. -/
def fnDiceWrong : ChangeSpec := { name := "fnDice", fn := fun _ => fun
  | [d] => { results := [.lit (.bool false)], args := [d] }
  | _ => none }
def FnDiceWrongFalsely : Prop := fnDiceRow.holds Try.pinned (OpenSpec.ofChange fnDiceWrong)

/-- 'laws.FnExactRolled': WHATEVER THE INPUT: true; the input reads as it did. -/
def fnExactRolledSpec : ChangeSpec := { name := "fnExactRolled", fn := fun _ => fun
  | [d] => { results := [.lit (.bool true)], args := [d] }
  | _ => none }
def fnExactRolledRow : OpenClaim := { program := "ytmembegdbceooaa", sum := "d924c619dae6f772071002c8da2ceb2f4bec0d4c08ded3e0b55254b0d38113d6", func := "loop.example/g00273/laws.FnExactRolled", spec := "fnExactRolled", apart := false }
def FnExactRolledSaid : Prop := fnExactRolledRow.holds Try.pinned (OpenSpec.ofChange fnExactRolledSpec)

/-- ITS FALSE NEIGHBOUR: 'it returns false'. Refute it at one input. -/
def fnExactRolledWrong : ChangeSpec := { name := "fnExactRolled", fn := fun _ => fun
  | [d] => { results := [.lit (.bool false)], args := [d] }
  | _ => none }
def FnExactRolledWrongFalsely : Prop := fnExactRolledRow.holds Try.pinned (OpenSpec.ofChange fnExactRolledWrong)

/-- 'laws.FnExactLevel': WHATEVER THE INPUT: true; the input reads as it did. -/
def fnExactLevelSpec : ChangeSpec := { name := "fnExactLevel", fn := fun _ => fun
  | [d] => { results := [.lit (.bool true)], args := [d] }
  | _ => none }
def fnExactLevelRow : OpenClaim := { program := "ytmembegdbceooaa", sum := "d924c619dae6f772071002c8da2ceb2f4bec0d4c08ded3e0b55254b0d38113d6", func := "loop.example/g00273/laws.FnExactLevel", spec := "fnExactLevel", apart := false }
def FnExactLevelSaid : Prop := fnExactLevelRow.holds Try.pinned (OpenSpec.ofChange fnExactLevelSpec)

/-- ITS FALSE NEIGHBOUR: 'it returns false'. Refute it at one input. -/
def fnExactLevelWrong : ChangeSpec := { name := "fnExactLevel", fn := fun _ => fun
  | [d] => { results := [.lit (.bool false)], args := [d] }
  | _ => none }
def FnExactLevelWrongFalsely : Prop := fnExactLevelRow.holds Try.pinned (OpenSpec.ofChange fnExactLevelWrong)

/-- 'laws.FnExactTowerOk': WHATEVER THE INPUT: true; the input reads as it did. -/
def fnExactTowerOkSpec : ChangeSpec := { name := "fnExactTowerOk", fn := fun _ => fun
  | [d] => { results := [.lit (.bool true)], args := [d] }
  | _ => none }
def fnExactTowerOkRow : OpenClaim := { program := "ytmembegdbceooaa", sum := "d924c619dae6f772071002c8da2ceb2f4bec0d4c08ded3e0b55254b0d38113d6", func := "loop.example/g00273/laws.FnExactTowerOk", spec := "fnExactTowerOk", unfollowed := true, recurses := true, apart := false }
def FnExactTowerOkSaid : Prop := fnExactTowerOkRow.holds Try.pinned (OpenSpec.ofChange fnExactTowerOkSpec)

/-- ITS FALSE NEIGHBOUR: 'it returns false'. Refute it at one input. -/
def fnExactTowerOkWrong : ChangeSpec := { name := "fnExactTowerOk", fn := fun _ => fun
  | [d] => { results := [.lit (.bool false)], args := [d] }
  | _ => none }
def FnExactTowerOkWrongFalsely : Prop := fnExactTowerOkRow.holds Try.pinned (OpenSpec.ofChange fnExactTowerOkWrong)

/-- 'laws.FnExactNewTower': WHATEVER THE INPUT: true; the input reads as it did. -/
def fnExactNewTowerSpec : ChangeSpec := { name := "fnExactNewTower", fn := fun _ => fun
  | [] => { results := [.lit (.bool true)], args := [] }
  | _ => none }
def fnExactNewTowerRow : OpenClaim := { program := "ytmembegdbceooaa", sum := "d924c619dae6f772071002c8da2ceb2f4bec0d4c08ded3e0b55254b0d38113d6", func := "loop.example/g00273/laws.FnExactNewTower", spec := "fnExactNewTower", apart := false }
def FnExactNewTowerSaid : Prop := fnExactNewTowerRow.holds Try.pinned (OpenSpec.ofChange fnExactNewTowerSpec)

/-- ITS FALSE NEIGHBOUR: 'it returns false'. Refute it at one input. -/
def fnExactNewTowerWrong : ChangeSpec := { name := "fnExactNewTower", fn := fun _ => fun
  | [] => { results := [.lit (.bool false)], args := [] }
  | _ => none }
def FnExactNewTowerWrongFalsely : Prop := fnExactNewTowerRow.holds Try.pinned (OpenSpec.ofChange fnExactNewTowerWrong)

/- THE SECOND FORM. 'bulk': how many values and letters a reading holds, each counted each time it is reached (what is shared counts as often as it is met; a slice's spare places count too). A statement '..UptoSaid' is the law's where the arguments, and the package variables that the reading takes, are together of bulk at most 1048576: NARROWER than '..Said'. Prove '..Said' where nothing that the law and all that it calls make is longer than what came in: it says more and counts as full. Else prove '..UptoSaid'. A law counts once. -/
mutual
def uptoBulk {H : Type} : DataW H → Nat
  | .lit (.string bytes) => bytes.length + 1
  | .lit _ => 1
  | .nil => 1
  | .ptr d => uptoBulk d + 1
  | .slice elems spare => uptoBulkAll elems + uptoBulkAll spare + 1
  | .agg parts => uptoBulkAll parts + 1
  | .iface _ d => uptoBulk d + 1
  | .map entries => uptoBulkEntries entries + 1
  | .held _ => 1
def uptoBulkAll {H : Type} : List (DataW H) → Nat
  | [] => 0
  | d :: r => uptoBulk d + uptoBulkAll r
def uptoBulkEntries {H : Type} : List (Lit × DataW H) → Nat
  | [] => 0
  | x :: r => uptoBulkEntry x + uptoBulkEntries r
def uptoBulkEntry {H : Type} : Lit × DataW H → Nat
  | (.string bytes, d) => bytes.length + uptoBulk d + 1
  | (_, d) => uptoBulk d + 1
 end
def uptoSmall : (H : Type) → List (DataW H) → Bool := fun _ ds => decide (uptoBulkAll ds ≤ 1048576)
def OpenSpec.upto (s : _root_.Go.ChangeSpec) : _root_.Go.OpenSpec := { _root_.Go.OpenSpec.ofChange s with cond := some uptoSmall }

/-- 'laws.FnBeams', WHERE WHAT IT READS IS OF BULK AT MOST 1048576: true; the input reads as it did. -/
def fnBeamsUptoRow : OpenClaim := { program := "ytmembegdbceooaa", sum := "d924c619dae6f772071002c8da2ceb2f4bec0d4c08ded3e0b55254b0d38113d6", func := "loop.example/g00273/laws.FnBeams", spec := "fnBeams", inPlace := ["slices.overlaps[loop.example/g00273/impl.sight]"], unfollowed := true, recurses := true, apart := false, narrowed := true }
def FnBeamsUptoSaid : Prop := fnBeamsUptoRow.holds Try.pinned (OpenSpec.upto fnBeamsSpec)

/-- 'laws.FnDice', WHERE WHAT IT READS IS OF BULK AT MOST 1048576: true; the input reads as it did. -/
def fnDiceUptoRow : OpenClaim := { program := "ytmembegdbceooaa", sum := "d924c619dae6f772071002c8da2ceb2f4bec0d4c08ded3e0b55254b0d38113d6", func := "loop.example/g00273/laws.FnDice", spec := "fnDice", apart := false, narrowed := true }
def FnDiceUptoSaid : Prop := fnDiceUptoRow.holds Try.pinned (OpenSpec.upto fnDiceSpec)

/-- 'laws.FnExactRolled', WHERE WHAT IT READS IS OF BULK AT MOST 1048576: true; the input reads as it did. -/
def fnExactRolledUptoRow : OpenClaim := { program := "ytmembegdbceooaa", sum := "d924c619dae6f772071002c8da2ceb2f4bec0d4c08ded3e0b55254b0d38113d6", func := "loop.example/g00273/laws.FnExactRolled", spec := "fnExactRolled", apart := false, narrowed := true }
def FnExactRolledUptoSaid : Prop := fnExactRolledUptoRow.holds Try.pinned (OpenSpec.upto fnExactRolledSpec)

/-- 'laws.FnExactLevel', WHERE WHAT IT READS IS OF BULK AT MOST 1048576: true; the input reads as it did. -/
def fnExactLevelUptoRow : OpenClaim := { program := "ytmembegdbceooaa", sum := "d924c619dae6f772071002c8da2ceb2f4bec0d4c08ded3e0b55254b0d38113d6", func := "loop.example/g00273/laws.FnExactLevel", spec := "fnExactLevel", apart := false, narrowed := true }
def FnExactLevelUptoSaid : Prop := fnExactLevelUptoRow.holds Try.pinned (OpenSpec.upto fnExactLevelSpec)

/-- 'laws.FnExactTowerOk', WHERE WHAT IT READS IS OF BULK AT MOST 1048576: true; the input reads as it did. -/
def fnExactTowerOkUptoRow : OpenClaim := { program := "ytmembegdbceooaa", sum := "d924c619dae6f772071002c8da2ceb2f4bec0d4c08ded3e0b55254b0d38113d6", func := "loop.example/g00273/laws.FnExactTowerOk", spec := "fnExactTowerOk", unfollowed := true, recurses := true, apart := false, narrowed := true }
def FnExactTowerOkUptoSaid : Prop := fnExactTowerOkUptoRow.holds Try.pinned (OpenSpec.upto fnExactTowerOkSpec)

/-- 'laws.FnExactNewTower', WHERE WHAT IT READS IS OF BULK AT MOST 1048576: true; the input reads as it did. -/
def fnExactNewTowerUptoRow : OpenClaim := { program := "ytmembegdbceooaa", sum := "d924c619dae6f772071002c8da2ceb2f4bec0d4c08ded3e0b55254b0d38113d6", func := "loop.example/g00273/laws.FnExactNewTower", spec := "fnExactNewTower", apart := false, narrowed := true }
def FnExactNewTowerUptoSaid : Prop := fnExactNewTowerUptoRow.holds Try.pinned (OpenSpec.upto fnExactNewTowerSpec)

end Rows
end Go.Proofs.Ytmembegdbceooaa
