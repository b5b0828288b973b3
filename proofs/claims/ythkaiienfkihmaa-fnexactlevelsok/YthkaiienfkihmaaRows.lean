/-
  No cell of these rows narrows 'for every input' (looked for: loops, veiled, ifaces, maps, wideKeys, modest, calm, conditions, laid).
  DERIVED. THE GIVEN ROWS OF THIS SEAT. 6 by the template 'for every input the law returns true; each argument reads behind the call as it read before'; 0 by the template 'total and deterministic' (their statements: YthkaiienfkihmaaTotals.lean).
  GIVEN WITH THE SEED: the statements are not yours to turn. If you find one false, say at which input.
  Laid BY PROGRAM, IN A SANDBOX (cutbox-rows.mjs): the forced cells as the released guide's own fill.sh prints them over the translation 30aa5bd040663f37… (all of the seat's roots in one cut). By AI agents, Wed Nov 11 2026. No macro, syntax, notation, axiom, sorry.
-/
import Derived.Test.YthkaiienfkihmaaChecked
import GoSem.Claim
import GoSem.ClaimJoined
import GoSem.ClaimMapViews
import Derived.JoinedTies
import Derived.KernelRfl
namespace Go.Proofs.Ythkaiienfkihmaa
/- THE CELL 'sum', in the pinned program and in every row, IS THE sha256 OF THE DUMP (.gsa) THAT YthkaiienfkihmaaProg.lean LOADS. Nothing in Lean hashes anything: it is a label: what it is worth is what the hold of that sum in a sandbox is worth. -/
noncomputable def Try.pinned : Pinned := { name := "ythkaiienfkihmaa", sum := "30aa5bd040663f37eb7ecf3586890141f197af3c1fdaf580a20fe16c851f3cde", checked := Try.checked }
namespace Rows
def none {H : Type} : Left H := { results := [], args := [] }

/-- 'laws.FnQuant': WHATEVER THE INPUT: true; the input reads as it did. -/
def fnQuantSpec : ChangeSpec := { name := "fnQuant", fn := fun _ => fun
  | [d] => { results := [.lit (.bool true)], args := [d] }
  | _ => none }
def fnQuantRow : OpenClaim := { program := "ythkaiienfkihmaa", sum := "30aa5bd040663f37eb7ecf3586890141f197af3c1fdaf580a20fe16c851f3cde", func := "loop.example/g00273/laws.FnQuant", spec := "fnQuant", unfollowed := true, recurses := true, apart := false }
def FnQuantSaid : Prop := fnQuantRow.holds Try.pinned (OpenSpec.ofChange fnQuantSpec)

/-- ITS FALSE NEIGHBOUR: 'it returns false'. Refute it at one input. -/
def fnQuantWrong : ChangeSpec := { name := "fnQuant", fn := fun _ => fun
  | [d] => { results := [.lit (.bool false)], args := [d] }
  | _ => none }
def FnQuantWrongFalsely : Prop := fnQuantRow.holds Try.pinned (OpenSpec.ofChange fnQuantWrong)

/-- 'laws.FnExactLevelsOk': WHATEVER THE INPUT: true; the input reads as it did. -/
def fnExactLevelsOkSpec : ChangeSpec := { name := "fnExactLevelsOk", fn := fun _ => fun
  | [d] => { results := [.lit (.bool true)], args := [d] }
  | _ => none }
def fnExactLevelsOkRow : OpenClaim := { program := "ythkaiienfkihmaa", sum := "30aa5bd040663f37eb7ecf3586890141f197af3c1fdaf580a20fe16c851f3cde", func := "loop.example/g00273/laws.FnExactLevelsOk", spec := "fnExactLevelsOk", apart := false }
def FnExactLevelsOkSaid : Prop := fnExactLevelsOkRow.holds Try.pinned (OpenSpec.ofChange fnExactLevelsOkSpec)

/-- ITS FALSE NEIGHBOUR: 'it returns false'. Refute it at one input. -/
def fnExactLevelsOkWrong : ChangeSpec := { name := "fnExactLevelsOk", fn := fun _ => fun
  | [d] => { results := [.lit (.bool false)], args := [d] }
  | _ => none }
def FnExactLevelsOkWrongFalsely : Prop := fnExactLevelsOkRow.holds Try.pinned (OpenSpec.ofChange fnExactLevelsOkWrong)

/-- 'laws.FnExactCoded': WHATEVER THE INPUT: true; the input reads as it did. -/
def fnExactCodedSpec : ChangeSpec := { name := "fnExactCoded", fn := fun _ => fun
  | [d1, d2] => { results := [.lit (.bool true)], args := [d1, d2] }
  | _ => none }
def fnExactCodedRow : OpenClaim := { program := "ythkaiienfkihmaa", sum := "30aa5bd040663f37eb7ecf3586890141f197af3c1fdaf580a20fe16c851f3cde", func := "loop.example/g00273/laws.FnExactCoded", spec := "fnExactCoded", unfollowed := true, recurses := true, apart := false }
def FnExactCodedSaid : Prop := fnExactCodedRow.holds Try.pinned (OpenSpec.ofChange fnExactCodedSpec)

/-- ITS FALSE NEIGHBOUR: 'it returns false'. Refute it at one input. -/
def fnExactCodedWrong : ChangeSpec := { name := "fnExactCoded", fn := fun _ => fun
  | [d1, d2] => { results := [.lit (.bool false)], args := [d1, d2] }
  | _ => none }
def FnExactCodedWrongFalsely : Prop := fnExactCodedRow.holds Try.pinned (OpenSpec.ofChange fnExactCodedWrong)

/-- 'laws.FnExactDecoded': WHATEVER THE INPUT: true; the input reads as it did. -/
def fnExactDecodedSpec : ChangeSpec := { name := "fnExactDecoded", fn := fun _ => fun
  | [d1, d2] => { results := [.lit (.bool true)], args := [d1, d2] }
  | _ => none }
def fnExactDecodedRow : OpenClaim := { program := "ythkaiienfkihmaa", sum := "30aa5bd040663f37eb7ecf3586890141f197af3c1fdaf580a20fe16c851f3cde", func := "loop.example/g00273/laws.FnExactDecoded", spec := "fnExactDecoded", unfollowed := true, recurses := true, apart := false }
def FnExactDecodedSaid : Prop := fnExactDecodedRow.holds Try.pinned (OpenSpec.ofChange fnExactDecodedSpec)

/-- ITS FALSE NEIGHBOUR: 'it returns false'. Refute it at one input. -/
def fnExactDecodedWrong : ChangeSpec := { name := "fnExactDecoded", fn := fun _ => fun
  | [d1, d2] => { results := [.lit (.bool false)], args := [d1, d2] }
  | _ => none }
def FnExactDecodedWrongFalsely : Prop := fnExactDecodedRow.holds Try.pinned (OpenSpec.ofChange fnExactDecodedWrong)

/-- 'laws.FnExactOff': WHATEVER THE INPUT: true; the input reads as it did. -/
def fnExactOffSpec : ChangeSpec := { name := "fnExactOff", fn := fun _ => fun
  | [d1, d2] => { results := [.lit (.bool true)], args := [d1, d2] }
  | _ => none }
def fnExactOffRow : OpenClaim := { program := "ythkaiienfkihmaa", sum := "30aa5bd040663f37eb7ecf3586890141f197af3c1fdaf580a20fe16c851f3cde", func := "loop.example/g00273/laws.FnExactOff", spec := "fnExactOff", unfollowed := true, recurses := true, apart := false }
def FnExactOffSaid : Prop := fnExactOffRow.holds Try.pinned (OpenSpec.ofChange fnExactOffSpec)

/-- ITS FALSE NEIGHBOUR: 'it returns false'. Refute it at one input. -/
def fnExactOffWrong : ChangeSpec := { name := "fnExactOff", fn := fun _ => fun
  | [d1, d2] => { results := [.lit (.bool false)], args := [d1, d2] }
  | _ => none }
def FnExactOffWrongFalsely : Prop := fnExactOffRow.holds Try.pinned (OpenSpec.ofChange fnExactOffWrong)

/-- 'laws.FnExactSum': WHATEVER THE INPUT: true; the input reads as it did. -/
def fnExactSumSpec : ChangeSpec := { name := "fnExactSum", fn := fun _ => fun
  | [d1, d2, d3] => { results := [.lit (.bool true)], args := [d1, d2, d3] }
  | _ => none }
def fnExactSumRow : OpenClaim := { program := "ythkaiienfkihmaa", sum := "30aa5bd040663f37eb7ecf3586890141f197af3c1fdaf580a20fe16c851f3cde", func := "loop.example/g00273/laws.FnExactSum", spec := "fnExactSum", unfollowed := true, recurses := true, apart := false }
def FnExactSumSaid : Prop := fnExactSumRow.holds Try.pinned (OpenSpec.ofChange fnExactSumSpec)

/-- ITS FALSE NEIGHBOUR: 'it returns false'. Refute it at one input. -/
def fnExactSumWrong : ChangeSpec := { name := "fnExactSum", fn := fun _ => fun
  | [d1, d2, d3] => { results := [.lit (.bool false)], args := [d1, d2, d3] }
  | _ => none }
def FnExactSumWrongFalsely : Prop := fnExactSumRow.holds Try.pinned (OpenSpec.ofChange fnExactSumWrong)

/- THE SECOND FORM. 'bulk': how many values and letters a reading holds, each counted each time it is reached (what is shared counts as often as it is met; a slice's spare places count too). A statement '..UptoSaid' is the law's where the arguments, and the package variables that the reading takes, are together of bulk at most 1048576: NARROWER than '..Said'. Prove '..Said' where nothing that the law and all that it calls make is longer than what came in: it says more and counts as full. Else prove '..UptoSaid'. A law counts once. -/
mutual
def uptoBulk {H : Type} : DataW H → Nat
  | .lit (.string bytes) => bytes.length + 1
  | .lit _ => 1
  | .nil => 1
  | .ptr d => uptoBulk d + 1
  | .slice elems spare => uptoBulkAll elems + uptoBulkAll spare + 1
  | .agg parts => uptoBulkAll parts + 1
  | .iface _ d => uptoBulk d + 1
  | .map entries => uptoBulkEntries entries + 1
  | .held _ => 1
def uptoBulkAll {H : Type} : List (DataW H) → Nat
  | [] => 0
  | d :: r => uptoBulk d + uptoBulkAll r
def uptoBulkEntries {H : Type} : List (Lit × DataW H) → Nat
  | [] => 0
  | x :: r => uptoBulkEntry x + uptoBulkEntries r
def uptoBulkEntry {H : Type} : Lit × DataW H → Nat
  | (.string bytes, d) => bytes.length + uptoBulk d + 1
  | (_, d) => uptoBulk d + 1
 end
def uptoSmall : (H : Type) → List (DataW H) → Bool := fun _ ds => decide (uptoBulkAll ds ≤ 1048576)
def OpenSpec.upto (s : _root_.Go.ChangeSpec) : _root_.Go.OpenSpec := { _root_.Go.OpenSpec.ofChange s with cond := some uptoSmall }

/-- 'laws.FnQuant', WHERE WHAT IT READS IS OF BULK AT MOST 1048576: true; the input reads as it did. -/
def fnQuantUptoRow : OpenClaim := { program := "ythkaiienfkihmaa", sum := "30aa5bd040663f37eb7ecf3586890141f197af3c1fdaf580a20fe16c851f3cde", func := "loop.example/g00273/laws.FnQuant", spec := "fnQuant", unfollowed := true, recurses := true, apart := false, narrowed := true }
def FnQuantUptoSaid : Prop := fnQuantUptoRow.holds Try.pinned (OpenSpec.upto fnQuantSpec)

/-- 'laws.FnExactLevelsOk', WHERE WHAT IT READS IS OF BULK AT MOST 1048576: true; the input reads as it did. -/
def fnExactLevelsOkUptoRow : OpenClaim := { program := "ythkaiienfkihmaa", sum := "30aa5bd040663f37eb7ecf3586890141f197af3c1fdaf580a20fe16c851f3cde", func := "loop.example/g00273/laws.FnExactLevelsOk", spec := "fnExactLevelsOk", apart := false, narrowed := true }
def FnExactLevelsOkUptoSaid : Prop := fnExactLevelsOkUptoRow.holds Try.pinned (OpenSpec.upto fnExactLevelsOkSpec)

/-- 'laws.FnExactCoded', WHERE WHAT IT READS IS OF BULK AT MOST 1048576: true; the input reads as it did. -/
def fnExactCodedUptoRow : OpenClaim := { program := "ythkaiienfkihmaa", sum := "30aa5bd040663f37eb7ecf3586890141f197af3c1fdaf580a20fe16c851f3cde", func := "loop.example/g00273/laws.FnExactCoded", spec := "fnExactCoded", unfollowed := true, recurses := true, apart := false, narrowed := true }
def FnExactCodedUptoSaid : Prop := fnExactCodedUptoRow.holds Try.pinned (OpenSpec.upto fnExactCodedSpec)

/-- 'laws.FnExactDecoded', WHERE WHAT IT READS IS OF BULK AT MOST 1048576: true; the input reads as it did. -/
def fnExactDecodedUptoRow : OpenClaim := { program := "ythkaiienfkihmaa", sum := "30aa5bd040663f37eb7ecf3586890141f197af3c1fdaf580a20fe16c851f3cde", func := "loop.example/g00273/laws.FnExactDecoded", spec := "fnExactDecoded", unfollowed := true, recurses := true, apart := false, narrowed := true }
def FnExactDecodedUptoSaid : Prop := fnExactDecodedUptoRow.holds Try.pinned (OpenSpec.upto fnExactDecodedSpec)

/-- 'laws.FnExactOff', WHERE WHAT IT READS IS OF BULK AT MOST 1048576: true; the input reads as it did. -/
def fnExactOffUptoRow : OpenClaim := { program := "ythkaiienfkihmaa", sum := "30aa5bd040663f37eb7ecf3586890141f197af3c1fdaf580a20fe16c851f3cde", func := "loop.example/g00273/laws.FnExactOff", spec := "fnExactOff", unfollowed := true, recurses := true, apart := false, narrowed := true }
def FnExactOffUptoSaid : Prop := fnExactOffUptoRow.holds Try.pinned (OpenSpec.upto fnExactOffSpec)

/-- 'laws.FnExactSum', WHERE WHAT IT READS IS OF BULK AT MOST 1048576: true; the input reads as it did. -/
def fnExactSumUptoRow : OpenClaim := { program := "ythkaiienfkihmaa", sum := "30aa5bd040663f37eb7ecf3586890141f197af3c1fdaf580a20fe16c851f3cde", func := "loop.example/g00273/laws.FnExactSum", spec := "fnExactSum", unfollowed := true, recurses := true, apart := false, narrowed := true }
def FnExactSumUptoSaid : Prop := fnExactSumUptoRow.holds Try.pinned (OpenSpec.upto fnExactSumSpec)

end Rows
end Go.Proofs.Ythkaiienfkihmaa
