/-
  No cell of these rows narrows 'for every input' (looked for: loops, veiled, ifaces, maps, wideKeys, modest, calm, conditions, laid).
  DERIVED. THE GIVEN ROWS OF THIS SEAT. 6 by the template 'for every input the law returns true; each argument reads behind the call as it read before'; 0 by the template 'total and deterministic' (their statements: YtadcpiljhhfcpaaTotals.lean).
  GIVEN WITH THE SEED: the statements are not yours to turn. If you find one false, say at which input.
  Laid BY PROGRAM, IN A SANDBOX (cutbox-rows.mjs): the forced cells as the released guide's own fill.sh prints them over the translation 176334f7e6a04407… (all of the seat's roots in one cut). By AI agents, Wed Nov 11 2026. No macro, syntax, notation, axiom, sorry.
-/
import Derived.Test.YtadcpiljhhfcpaaChecked
import GoSem.Claim
import GoSem.ClaimJoined
import GoSem.ClaimMapViews
import Derived.JoinedTies
import Derived.KernelRfl
namespace Go.Proofs.Ytadcpiljhhfcpaa
/- THE CELL 'sum', in the pinned program and in every row, IS THE sha256 OF THE DUMP (.gsa) THAT YtadcpiljhhfcpaaProg.lean LOADS. Nothing in Lean hashes anything: it is a label: what it is worth is what the hold of that sum in a sandbox is worth. -/
noncomputable def Try.pinned : Pinned := { name := "ytadcpiljhhfcpaa", sum := "176334f7e6a04407e1d1206905b9fd358e1eb2209a33e07446ac10960bec7b98", checked := Try.checked }
namespace Rows
def none {H : Type} : Left H := { results := [], args := [] }

/-- 'laws.FnExactBoxOk': WHATEVER THE INPUT: true; the input reads as it did. -/
def fnExactBoxOkSpec : ChangeSpec := { name := "fnExactBoxOk", fn := fun _ => fun
  | [d] => { results := [.lit (.bool true)], args := [d] }
  | _ => none }
def fnExactBoxOkRow : OpenClaim := { program := "ytadcpiljhhfcpaa", sum := "176334f7e6a04407e1d1206905b9fd358e1eb2209a33e07446ac10960bec7b98", func := "loop.example/g00273/laws.FnExactBoxOk", spec := "fnExactBoxOk", apart := false }
def FnExactBoxOkSaid : Prop := fnExactBoxOkRow.holds Try.pinned (OpenSpec.ofChange fnExactBoxOkSpec)

/-- ITS FALSE NEIGHBOUR: 'it returns false'. Refute it at one input. -/
def fnExactBoxOkWrong : ChangeSpec := { name := "fnExactBoxOk", fn := fun _ => fun
  | [d] => { results := [.lit (.bool false)], args := [d] }
  | _ => none }
def FnExactBoxOkWrongFalsely : Prop := fnExactBoxOkRow.holds Try.pinned (OpenSpec.ofChange fnExactBoxOkWrong)

/-- 'laws.FnExactAround': WHATEVER THE INPUT: true; the input reads as it did. -/
def fnExactAroundSpec : ChangeSpec := { name := "fnExactAround", fn := fun _ => fun
  | [d] => { results := [.lit (.bool true)], args := [d] }
  | _ => none }
def fnExactAroundRow : OpenClaim := { program := "ytadcpiljhhfcpaa", sum := "176334f7e6a04407e1d1206905b9fd358e1eb2209a33e07446ac10960bec7b98", func := "loop.example/g00273/laws.FnExactAround", spec := "fnExactAround", unfollowed := true, recurses := true, apart := false }
def FnExactAroundSaid : Prop := fnExactAroundRow.holds Try.pinned (OpenSpec.ofChange fnExactAroundSpec)

/-- ITS FALSE NEIGHBOUR: 'it returns false'. Refute it at one input. -/
def fnExactAroundWrong : ChangeSpec := { name := "fnExactAround", fn := fun _ => fun
  | [d] => { results := [.lit (.bool false)], args := [d] }
  | _ => none }
def FnExactAroundWrongFalsely : Prop := fnExactAroundRow.holds Try.pinned (OpenSpec.ofChange fnExactAroundWrong)

/-- 'laws.FnExactInside': WHATEVER THE INPUT: true; the input reads as it did. -/
def fnExactInsideSpec : ChangeSpec := { name := "fnExactInside", fn := fun _ => fun
  | [d1, d2] => { results := [.lit (.bool true)], args := [d1, d2] }
  | _ => none }
def fnExactInsideRow : OpenClaim := { program := "ytadcpiljhhfcpaa", sum := "176334f7e6a04407e1d1206905b9fd358e1eb2209a33e07446ac10960bec7b98", func := "loop.example/g00273/laws.FnExactInside", spec := "fnExactInside", apart := false }
def FnExactInsideSaid : Prop := fnExactInsideRow.holds Try.pinned (OpenSpec.ofChange fnExactInsideSpec)

/-- ITS FALSE NEIGHBOUR: 'it returns false'. Refute it at one input. -/
def fnExactInsideWrong : ChangeSpec := { name := "fnExactInside", fn := fun _ => fun
  | [d1, d2] => { results := [.lit (.bool false)], args := [d1, d2] }
  | _ => none }
def FnExactInsideWrongFalsely : Prop := fnExactInsideRow.holds Try.pinned (OpenSpec.ofChange fnExactInsideWrong)

/-- 'laws.FnExactToBox': WHATEVER THE INPUT: true; the input reads as it did. -/
def fnExactToBoxSpec : ChangeSpec := { name := "fnExactToBox", fn := fun _ => fun
  | [d1, d2] => { results := [.lit (.bool true)], args := [d1, d2] }
  | _ => none }
def fnExactToBoxRow : OpenClaim := { program := "ytadcpiljhhfcpaa", sum := "176334f7e6a04407e1d1206905b9fd358e1eb2209a33e07446ac10960bec7b98", func := "loop.example/g00273/laws.FnExactToBox", spec := "fnExactToBox", unfollowed := true, recurses := true, apart := false }
def FnExactToBoxSaid : Prop := fnExactToBoxRow.holds Try.pinned (OpenSpec.ofChange fnExactToBoxSpec)

/-- ITS FALSE NEIGHBOUR: 'it returns false'. Refute it at one input. -/
def fnExactToBoxWrong : ChangeSpec := { name := "fnExactToBox", fn := fun _ => fun
  | [d1, d2] => { results := [.lit (.bool false)], args := [d1, d2] }
  | _ => none }
def FnExactToBoxWrongFalsely : Prop := fnExactToBoxRow.holds Try.pinned (OpenSpec.ofChange fnExactToBoxWrong)

/-- 'laws.FnExactCorner': WHATEVER THE INPUT: true; the input reads as it did. -/
def fnExactCornerSpec : ChangeSpec := { name := "fnExactCorner", fn := fun _ => fun
  | [d1, d2] => { results := [.lit (.bool true)], args := [d1, d2] }
  | _ => none }
def fnExactCornerRow : OpenClaim := { program := "ytadcpiljhhfcpaa", sum := "176334f7e6a04407e1d1206905b9fd358e1eb2209a33e07446ac10960bec7b98", func := "loop.example/g00273/laws.FnExactCorner", spec := "fnExactCorner", unfollowed := true, recurses := true, apart := false }
def FnExactCornerSaid : Prop := fnExactCornerRow.holds Try.pinned (OpenSpec.ofChange fnExactCornerSpec)

/-- ITS FALSE NEIGHBOUR: 'it returns false'. Refute it at one input. -/
def fnExactCornerWrong : ChangeSpec := { name := "fnExactCorner", fn := fun _ => fun
  | [d1, d2] => { results := [.lit (.bool false)], args := [d1, d2] }
  | _ => none }
def FnExactCornerWrongFalsely : Prop := fnExactCornerRow.holds Try.pinned (OpenSpec.ofChange fnExactCornerWrong)

/-- 'laws.FnExactShared': WHATEVER THE INPUT: true; the input reads as it did. -/
def fnExactSharedSpec : ChangeSpec := { name := "fnExactShared", fn := fun _ => fun
  | [d1, d2] => { results := [.lit (.bool true)], args := [d1, d2] }
  | _ => none }
def fnExactSharedRow : OpenClaim := { program := "ytadcpiljhhfcpaa", sum := "176334f7e6a04407e1d1206905b9fd358e1eb2209a33e07446ac10960bec7b98", func := "loop.example/g00273/laws.FnExactShared", spec := "fnExactShared", unfollowed := true, recurses := true, apart := false }
def FnExactSharedSaid : Prop := fnExactSharedRow.holds Try.pinned (OpenSpec.ofChange fnExactSharedSpec)

/-- ITS FALSE NEIGHBOUR: 'it returns false'. Refute it at one input. -/
def fnExactSharedWrong : ChangeSpec := { name := "fnExactShared", fn := fun _ => fun
  | [d1, d2] => { results := [.lit (.bool false)], args := [d1, d2] }
  | _ => none }
def FnExactSharedWrongFalsely : Prop := fnExactSharedRow.holds Try.pinned (OpenSpec.ofChange fnExactSharedWrong)

/- THE SECOND FORM. 'bulk': how many values and letters a reading holds, each counted each time it is reached (what is shared counts as often as it is met; a slice's spare places count too). A statement '..UptoSaid' is the law's where the arguments, and the package variables that the reading takes, are together of bulk at most 1048576: NARROWER than '..Said'. Prove '..Said' where nothing that the law and all that it calls make is longer than what came in: it says more and counts as full. Else prove '..UptoSaid'. A law counts once. -/
mutual
def uptoBulk {H : Type} : DataW H → Nat
  | .lit (.string bytes) => bytes.length + 1
  | .lit _ => 1
  | .nil => 1
  | .ptr d => uptoBulk d + 1
  | .slice elems spare => uptoBulkAll elems + uptoBulkAll spare + 1
  | .agg parts => uptoBulkAll parts + 1
  | .iface _ d => uptoBulk d + 1
  | .map entries => uptoBulkEntries entries + 1
  | .held _ => 1
def uptoBulkAll {H : Type} : List (DataW H) → Nat
  | [] => 0
  | d :: r => uptoBulk d + uptoBulkAll r
def uptoBulkEntries {H : Type} : List (Lit × DataW H) → Nat
  | [] => 0
  | x :: r => uptoBulkEntry x + uptoBulkEntries r
def uptoBulkEntry {H : Type} : Lit × DataW H → Nat
  | (.string bytes, d) => bytes.length + uptoBulk d + 1
  | (_, d) => uptoBulk d + 1
 end
def uptoSmall : (H : Type) → List (DataW H) → Bool := fun _ ds => decide (uptoBulkAll ds ≤ 1048576)
def OpenSpec.upto (s : _root_.Go.ChangeSpec) : _root_.Go.OpenSpec := { _root_.Go.OpenSpec.ofChange s with cond := some uptoSmall }

/-- 'laws.FnExactBoxOk', WHERE WHAT IT READS IS OF BULK AT MOST 1048576: true; the input reads as it did. -/
def fnExactBoxOkUptoRow : OpenClaim := { program := "ytadcpiljhhfcpaa", sum := "176334f7e6a04407e1d1206905b9fd358e1eb2209a33e07446ac10960bec7b98", func := "loop.example/g00273/laws.FnExactBoxOk", spec := "fnExactBoxOk", apart := false, narrowed := true }
def FnExactBoxOkUptoSaid : Prop := fnExactBoxOkUptoRow.holds Try.pinned (OpenSpec.upto fnExactBoxOkSpec)

/-- 'laws.FnExactAround', WHERE WHAT IT READS IS OF BULK AT MOST 1048576: true; the input reads as it did. -/
def fnExactAroundUptoRow : OpenClaim := { program := "ytadcpiljhhfcpaa", sum := "176334f7e6a04407e1d1206905b9fd358e1eb2209a33e07446ac10960bec7b98", func := "loop.example/g00273/laws.FnExactAround", spec := "fnExactAround", unfollowed := true, recurses := true, apart := false, narrowed := true }
def FnExactAroundUptoSaid : Prop := fnExactAroundUptoRow.holds Try.pinned (OpenSpec.upto fnExactAroundSpec)

/-- 'laws.FnExactInside', WHERE WHAT IT READS IS OF BULK AT MOST 1048576: true; the input reads as it did. -/
def fnExactInsideUptoRow : OpenClaim := { program := "ytadcpiljhhfcpaa", sum := "176334f7e6a04407e1d1206905b9fd358e1eb2209a33e07446ac10960bec7b98", func := "loop.example/g00273/laws.FnExactInside", spec := "fnExactInside", apart := false, narrowed := true }
def FnExactInsideUptoSaid : Prop := fnExactInsideUptoRow.holds Try.pinned (OpenSpec.upto fnExactInsideSpec)

/-- 'laws.FnExactToBox', WHERE WHAT IT READS IS OF BULK AT MOST 1048576: true; the input reads as it did. -/
def fnExactToBoxUptoRow : OpenClaim := { program := "ytadcpiljhhfcpaa", sum := "176334f7e6a04407e1d1206905b9fd358e1eb2209a33e07446ac10960bec7b98", func := "loop.example/g00273/laws.FnExactToBox", spec := "fnExactToBox", unfollowed := true, recurses := true, apart := false, narrowed := true }
def FnExactToBoxUptoSaid : Prop := fnExactToBoxUptoRow.holds Try.pinned (OpenSpec.upto fnExactToBoxSpec)

/-- 'laws.FnExactCorner', WHERE WHAT IT READS IS OF BULK AT MOST 1048576: true; the input reads as it did. -/
def fnExactCornerUptoRow : OpenClaim := { program := "ytadcpiljhhfcpaa", sum := "176334f7e6a04407e1d1206905b9fd358e1eb2209a33e07446ac10960bec7b98", func := "loop.example/g00273/laws.FnExactCorner", spec := "fnExactCorner", unfollowed := true, recurses := true, apart := false, narrowed := true }
def FnExactCornerUptoSaid : Prop := fnExactCornerUptoRow.holds Try.pinned (OpenSpec.upto fnExactCornerSpec)

/-- 'laws.FnExactShared', WHERE WHAT IT READS IS OF BULK AT MOST 1048576: true; the input reads as it did. -/
def fnExactSharedUptoRow : OpenClaim := { program := "ytadcpiljhhfcpaa", sum := "176334f7e6a04407e1d1206905b9fd358e1eb2209a33e07446ac10960bec7b98", func := "loop.example/g00273/laws.FnExactShared", spec := "fnExactShared", unfollowed := true, recurses := true, apart := false, narrowed := true }
def FnExactSharedUptoSaid : Prop := fnExactSharedUptoRow.holds Try.pinned (OpenSpec.upto fnExactSharedSpec)

end Rows
end Go.Proofs.Ytadcpiljhhfcpaa
