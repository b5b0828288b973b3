/-
  No cell of these rows narrows 'for every input' (looked for: loops, veiled, ifaces, maps, wideKeys, modest, calm, conditions, laid).
  DERIVED. THE GIVEN ROWS OF THIS SEAT. 4 by the template 'for every input the law returns true; each argument reads behind the call as it read before'; 0 by the template 'total and deterministic' (their statements: YtpcclaehcmnngaaTotals.lean).
  GIVEN WITH THE SEED: the statements are not yours to turn. If you find one false, say at which input.
  Laid BY PROGRAM, IN A SANDBOX (cutbox-rows.mjs): the forced cells as the released guide's own fill.sh prints them over the translation 3efe3fb2c2df7093… (all of the seat's roots in one cut). By AI agents, Wed Nov 11 2026. No macro, syntax, notation, axiom, sorry.
-/
import Derived.Test.YtpcclaehcmnngaaChecked
import GoSem.Claim
import GoSem.ClaimJoined
import GoSem.ClaimMapViews
import Derived.JoinedTies
import Derived.KernelRfl
namespace Go.Proofs.Ytpcclaehcmnngaa
/- THE CELL 'sum', in the pinned program and in every row, IS THE sha256 OF THE DUMP (.gsa) THAT YtpcclaehcmnngaaProg.lean LOADS. Nothing in Lean hashes anything: it is a label: what it is worth is what the hold of that sum in a sandbox is worth. -/
noncomputable def Try.pinned : Pinned := { name := "ytpcclaehcmnngaa", sum := "3efe3fb2c2df70938e8ae7ae8725aa950bb6f3c79768bcbc2e12c3ef8593dec1", checked := Try.checked }
namespace Rows
def none {H : Type} : Left H := { results := [], args := [] }

/-- 'laws.FnGonzalez': WHATEVER THE INPUT: true; the input reads as it did. -/
def fnGonzalezSpec : ChangeSpec := { name := "fnGonzalez", fn := fun _ => fun
  | [d] => { results := [.lit (.bool true)], args := [d] }
  | _ => none }
def fnGonzalezRow : OpenClaim := { program := "ytpcclaehcmnngaa", sum := "3efe3fb2c2df70938e8ae7ae8725aa950bb6f3c79768bcbc2e12c3ef8593dec1", func := "loop.example/g00273/laws.FnGonzalez", spec := "fnGonzalez", unfollowed := true, recurses := true, apart := false }
def FnGonzalezSaid : Prop := fnGonzalezRow.holds Try.pinned (OpenSpec.ofChange fnGonzalezSpec)

/-- ITS FALSE NEIGHBOUR: 'it returns false'. Refute it at one input. -/
def fnGonzalezWrong : ChangeSpec := { name := "fnGonzalez", fn := fun _ => fun
  | [d] => { results := [.lit (.bool false)], args := [d] }
  | _ => none }
def FnGonzalezWrongFalsely : Prop := fnGonzalezRow.holds Try.pinned (OpenSpec.ofChange fnGonzalezWrong)

/-- 'laws.FnExactChosen': WHATEVER THE INPUT: true; the input reads as it did. -/
def fnExactChosenSpec : ChangeSpec := { name := "fnExactChosen", fn := fun _ => fun
  | [d1, d2, d3] => { results := [.lit (.bool true)], args := [d1, d2, d3] }
  | _ => none }
def fnExactChosenRow : OpenClaim := { program := "ytpcclaehcmnngaa", sum := "3efe3fb2c2df70938e8ae7ae8725aa950bb6f3c79768bcbc2e12c3ef8593dec1", func := "loop.example/g00273/laws.FnExactChosen", spec := "fnExactChosen", unfollowed := true, recurses := true, apart := false }
def FnExactChosenSaid : Prop := fnExactChosenRow.holds Try.pinned (OpenSpec.ofChange fnExactChosenSpec)

/-- ITS FALSE NEIGHBOUR: 'it returns false'. Refute it at one input. -/
def fnExactChosenWrong : ChangeSpec := { name := "fnExactChosen", fn := fun _ => fun
  | [d1, d2, d3] => { results := [.lit (.bool false)], args := [d1, d2, d3] }
  | _ => none }
def FnExactChosenWrongFalsely : Prop := fnExactChosenRow.holds Try.pinned (OpenSpec.ofChange fnExactChosenWrong)

/-- 'laws.FnExactRadius': WHATEVER THE INPUT: true; the input reads as it did. -/
def fnExactRadiusSpec : ChangeSpec := { name := "fnExactRadius", fn := fun _ => fun
  | [d1, d2, d3] => { results := [.lit (.bool true)], args := [d1, d2, d3] }
  | _ => none }
def fnExactRadiusRow : OpenClaim := { program := "ytpcclaehcmnngaa", sum := "3efe3fb2c2df70938e8ae7ae8725aa950bb6f3c79768bcbc2e12c3ef8593dec1", func := "loop.example/g00273/laws.FnExactRadius", spec := "fnExactRadius", unfollowed := true, recurses := true, apart := false }
def FnExactRadiusSaid : Prop := fnExactRadiusRow.holds Try.pinned (OpenSpec.ofChange fnExactRadiusSpec)

/-- ITS FALSE NEIGHBOUR: 'it returns false'. Refute it at one input. -/
def fnExactRadiusWrong : ChangeSpec := { name := "fnExactRadius", fn := fun _ => fun
  | [d1, d2, d3] => { results := [.lit (.bool false)], args := [d1, d2, d3] }
  | _ => none }
def FnExactRadiusWrongFalsely : Prop := fnExactRadiusRow.holds Try.pinned (OpenSpec.ofChange fnExactRadiusWrong)

/-- 'laws.FnExactBestRadius': WHATEVER THE INPUT: true; the input reads as it did. -/
def fnExactBestRadiusSpec : ChangeSpec := { name := "fnExactBestRadius", fn := fun _ => fun
  | [d1, d2, d3] => { results := [.lit (.bool true)], args := [d1, d2, d3] }
  | _ => none }
def fnExactBestRadiusRow : OpenClaim := { program := "ytpcclaehcmnngaa", sum := "3efe3fb2c2df70938e8ae7ae8725aa950bb6f3c79768bcbc2e12c3ef8593dec1", func := "loop.example/g00273/laws.FnExactBestRadius", spec := "fnExactBestRadius", unfollowed := true, recurses := true, apart := false }
def FnExactBestRadiusSaid : Prop := fnExactBestRadiusRow.holds Try.pinned (OpenSpec.ofChange fnExactBestRadiusSpec)

/-- ITS FALSE NEIGHBOUR: 'it returns false'. Refute it at one input. -/
def fnExactBestRadiusWrong : ChangeSpec := { name := "fnExactBestRadius", fn := fun _ => fun
  | [d1, d2, d3] => { results := [.lit (.bool false)], args := [d1, d2, d3] }
  | _ => none }
def FnExactBestRadiusWrongFalsely : Prop := fnExactBestRadiusRow.holds Try.pinned (OpenSpec.ofChange fnExactBestRadiusWrong)

/- THE SECOND FORM. 'bulk': how many values and letters a reading holds, each counted each time it is reached (what is shared counts as often as it is met; a slice's spare places count too). A statement '..UptoSaid' is the law's where the arguments, and the package variables that the reading takes, are together of bulk at most 1048576: NARROWER than '..Said'. Prove '..Said' where nothing that the law and all that it calls make is longer than what came in: it says more and counts as full. Else prove '..UptoSaid'. A law counts once. -/
mutual
def uptoBulk {H : Type} : DataW H → Nat
  | .lit (.string bytes) => bytes.length + 1
  | .lit _ => 1
  | .nil => 1
  | .ptr d => uptoBulk d + 1
  | .slice elems spare => uptoBulkAll elems + uptoBulkAll spare + 1
  | .agg parts => uptoBulkAll parts + 1
  | .iface _ d => uptoBulk d + 1
  | .map entries => uptoBulkEntries entries + 1
  | .held _ => 1
def uptoBulkAll {H : Type} : List (DataW H) → Nat
  | [] => 0
  | d :: r => uptoBulk d + uptoBulkAll r
def uptoBulkEntries {H : Type} : List (Lit × DataW H) → Nat
  | [] => 0
  | x :: r => uptoBulkEntry x + uptoBulkEntries r
def uptoBulkEntry {H : Type} : Lit × DataW H → Nat
  | (.string bytes, d) => bytes.length + uptoBulk d + 1
  | (_, d) => uptoBulk d + 1
 end
def uptoSmall : (H : Type) → List (DataW H) → Bool := fun _ ds => decide (uptoBulkAll ds ≤ 1048576)
def OpenSpec.upto (s : _root_.Go.ChangeSpec) : _root_.Go.OpenSpec := { _root_.Go.OpenSpec.ofChange s with cond := some uptoSmall }

/-- 'laws.FnGonzalez', WHERE WHAT IT READS IS OF BULK AT MOST 1048576: true; the input reads as it did. -/
def fnGonzalezUptoRow : OpenClaim := { program := "ytpcclaehcmnngaa", sum := "3efe3fb2c2df70938e8ae7ae8725aa950bb6f3c79768bcbc2e12c3ef8593dec1", func := "loop.example/g00273/laws.FnGonzalez", spec := "fnGonzalez", unfollowed := true, recurses := true, apart := false, narrowed := true }
def FnGonzalezUptoSaid : Prop := fnGonzalezUptoRow.holds Try.pinned (OpenSpec.upto fnGonzalezSpec)

/-- 'laws.FnExactChosen', WHERE WHAT IT READS IS OF BULK AT MOST 1048576: true; the input reads as it did. -/
def fnExactChosenUptoRow : OpenClaim := { program := "ytpcclaehcmnngaa", sum := "3efe3fb2c2df70938e8ae7ae8725aa950bb6f3c79768bcbc2e12c3ef8593dec1", func := "loop.example/g00273/laws.FnExactChosen", spec := "fnExactChosen", unfollowed := true, recurses := true, apart := false, narrowed := true }
def FnExactChosenUptoSaid : Prop := fnExactChosenUptoRow.holds Try.pinned (OpenSpec.upto fnExactChosenSpec)

/-- 'laws.FnExactRadius', WHERE WHAT IT READS IS OF BULK AT MOST 1048576: true; the input reads as it did. -/
def fnExactRadiusUptoRow : OpenClaim := { program := "ytpcclaehcmnngaa", sum := "3efe3fb2c2df70938e8ae7ae8725aa950bb6f3c79768bcbc2e12c3ef8593dec1", func := "loop.example/g00273/laws.FnExactRadius", spec := "fnExactRadius", unfollowed := true, recurses := true, apart := false, narrowed := true }
def FnExactRadiusUptoSaid : Prop := fnExactRadiusUptoRow.holds Try.pinned (OpenSpec.upto fnExactRadiusSpec)

/-- 'laws.FnExactBestRadius', WHERE WHAT IT READS IS OF BULK AT MOST 1048576: true; the input reads as it did. -/
def fnExactBestRadiusUptoRow : OpenClaim := { program := "ytpcclaehcmnngaa", sum := "3efe3fb2c2df70938e8ae7ae8725aa950bb6f3c79768bcbc2e12c3ef8593dec1", func := "loop.example/g00273/laws.FnExactBestRadius", spec := "fnExactBestRadius", unfollowed := true, recurses := true, apart := false, narrowed := true }
def FnExactBestRadiusUptoSaid : Prop := fnExactBestRadiusUptoRow.holds Try.pinned (OpenSpec.upto fnExactBestRadiusSpec)

end Rows
end Go.Proofs.Ytpcclaehcmnngaa
