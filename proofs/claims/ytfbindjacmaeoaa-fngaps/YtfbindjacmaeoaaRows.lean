/-
  No cell of these rows narrows 'for every input' (looked for: loops, veiled, ifaces, maps, wideKeys, modest, calm, conditions, laid).
  DERIVED. THE GIVEN ROWS OF THIS SEAT. 7 by the template 'for every input the law returns true; each argument reads behind the call as it read before'; 0 by the template 'total and deterministic' (their statements: YtfbindjacmaeoaaTotals.lean).
  GIVEN WITH THE SEED: the statements are not yours to turn. If you find one false, say at which input.
  Laid BY PROGRAM, IN A SANDBOX (cutbox-rows.mjs): the forced cells as the released guide's own fill.sh prints them over the translation fd6a28625c472d1e… (all of the seat's roots in one cut). By AI agents, Wed Nov 11 2026. No macro, syntax, notation, axiom, sorry.
-/
import Derived.Test.YtfbindjacmaeoaaChecked
import GoSem.Claim
import GoSem.ClaimJoined
import GoSem.ClaimMapViews
import Derived.JoinedTies
import Derived.KernelRfl
namespace Go.Proofs.Ytfbindjacmaeoaa
/- THE CELL 'sum', in the pinned program and in every row, IS THE sha256 OF THE DUMP (.gsa) THAT YtfbindjacmaeoaaProg.lean LOADS. Nothing in Lean hashes anything: it is a label: what it is worth is what the hold of that sum in a sandbox is worth. -/
noncomputable def Try.pinned : Pinned := { name := "ytfbindjacmaeoaa", sum := "fd6a28625c472d1eb493301bc4530eb476ed8b501c4b86b4ba70415a61aa65aa", checked := Try.checked }
namespace Rows
def none {H : Type} : Left H := { results := [], args := [] }

/-- 'laws.FnKruskal': WHATEVER THE INPUT: true; the input reads as it did. -/
def fnKruskalSpec : ChangeSpec := { name := "fnKruskal", fn := fun _ => fun
  | [d] => { results := [.lit (.bool true)], args := [d] }
  | _ => none }
def fnKruskalRow : OpenClaim := { program := "ytfbindjacmaeoaa", sum := "fd6a28625c472d1eb493301bc4530eb476ed8b501c4b86b4ba70415a61aa65aa", func := "loop.example/g00273/laws.FnKruskal", spec := "fnKruskal", unfollowed := true, recurses := true, apart := false }
def FnKruskalSaid : Prop := fnKruskalRow.holds Try.pinned (OpenSpec.ofChange fnKruskalSpec)

/-- ITS FALSE NEIGHBOUR: 'it returns false'. Refute it at one input. -/
def fnKruskalWrong : ChangeSpec := { name := "fnKruskal", fn := fun _ => fun
  | [d] => { results := [.lit (.bool false)], args := [d] }
  | _ => none }
def FnKruskalWrongFalsely : Prop := fnKruskalRow.holds Try.pinned (OpenSpec.ofChange fnKruskalWrong)

/-- 'laws.FnGaps': WHATEVER THE INPUT: true; the input reads as it did. -/
def fnGapsSpec : ChangeSpec := { name := "fnGaps", fn := fun _ => fun
  | [d] => { results := [.lit (.bool true)], args := [d] }
  | _ => none }
def fnGapsRow : OpenClaim := { program := "ytfbindjacmaeoaa", sum := "fd6a28625c472d1eb493301bc4530eb476ed8b501c4b86b4ba70415a61aa65aa", func := "loop.example/g00273/laws.FnGaps", spec := "fnGaps", unfollowed := true, recurses := true, apart := false }
def FnGapsSaid : Prop := fnGapsRow.holds Try.pinned (OpenSpec.ofChange fnGapsSpec)

/-- ITS FALSE NEIGHBOUR: 'it returns false'. Refute it at one input. -/
def fnGapsWrong : ChangeSpec := { name := "fnGaps", fn := fun _ => fun
  | [d] => { results := [.lit (.bool false)], args := [d] }
  | _ => none }
def FnGapsWrongFalsely : Prop := fnGapsRow.holds Try.pinned (OpenSpec.ofChange fnGapsWrong)

/-- 'laws.FnExactThreads': WHATEVER THE INPUT: true; the input reads as it did. -/
def fnExactThreadsSpec : ChangeSpec := { name := "fnExactThreads", fn := fun _ => fun
  | [d1, d2] => { results := [.lit (.bool true)], args := [d1, d2] }
  | _ => none }
def fnExactThreadsRow : OpenClaim := { program := "ytfbindjacmaeoaa", sum := "fd6a28625c472d1eb493301bc4530eb476ed8b501c4b86b4ba70415a61aa65aa", func := "loop.example/g00273/laws.FnExactThreads", spec := "fnExactThreads", unfollowed := true, recurses := true, apart := false }
def FnExactThreadsSaid : Prop := fnExactThreadsRow.holds Try.pinned (OpenSpec.ofChange fnExactThreadsSpec)

/-- ITS FALSE NEIGHBOUR: 'it returns false'. Refute it at one input. -/
def fnExactThreadsWrong : ChangeSpec := { name := "fnExactThreads", fn := fun _ => fun
  | [d1, d2] => { results := [.lit (.bool false)], args := [d1, d2] }
  | _ => none }
def FnExactThreadsWrongFalsely : Prop := fnExactThreadsRow.holds Try.pinned (OpenSpec.ofChange fnExactThreadsWrong)

/-- 'laws.FnExactTied': WHATEVER THE INPUT: true; the input reads as it did. -/
def fnExactTiedSpec : ChangeSpec := { name := "fnExactTied", fn := fun _ => fun
  | [d1, d2, d3] => { results := [.lit (.bool true)], args := [d1, d2, d3] }
  | _ => none }
def fnExactTiedRow : OpenClaim := { program := "ytfbindjacmaeoaa", sum := "fd6a28625c472d1eb493301bc4530eb476ed8b501c4b86b4ba70415a61aa65aa", func := "loop.example/g00273/laws.FnExactTied", spec := "fnExactTied", unfollowed := true, recurses := true, apart := false }
def FnExactTiedSaid : Prop := fnExactTiedRow.holds Try.pinned (OpenSpec.ofChange fnExactTiedSpec)

/-- ITS FALSE NEIGHBOUR: 'it returns false'. Refute it at one input. -/
def fnExactTiedWrong : ChangeSpec := { name := "fnExactTied", fn := fun _ => fun
  | [d1, d2, d3] => { results := [.lit (.bool false)], args := [d1, d2, d3] }
  | _ => none }
def FnExactTiedWrongFalsely : Prop := fnExactTiedRow.holds Try.pinned (OpenSpec.ofChange fnExactTiedWrong)

/-- 'laws.FnExactTotal': WHATEVER THE INPUT: true; the input reads as it did. -/
def fnExactTotalSpec : ChangeSpec := { name := "fnExactTotal", fn := fun _ => fun
  | [d] => { results := [.lit (.bool true)], args := [d] }
  | _ => none }
def fnExactTotalRow : OpenClaim := { program := "ytfbindjacmaeoaa", sum := "fd6a28625c472d1eb493301bc4530eb476ed8b501c4b86b4ba70415a61aa65aa", func := "loop.example/g00273/laws.FnExactTotal", spec := "fnExactTotal", apart := false }
def FnExactTotalSaid : Prop := fnExactTotalRow.holds Try.pinned (OpenSpec.ofChange fnExactTotalSpec)

/-- ITS FALSE NEIGHBOUR: 'it returns false'. Refute it at one input. -/
def fnExactTotalWrong : ChangeSpec := { name := "fnExactTotal", fn := fun _ => fun
  | [d] => { results := [.lit (.bool false)], args := [d] }
  | _ => none }
def FnExactTotalWrongFalsely : Prop := fnExactTotalRow.holds Try.pinned (OpenSpec.ofChange fnExactTotalWrong)

/-- 'laws.FnExactGroups': WHATEVER THE INPUT: true; the input reads as it did. -/
def fnExactGroupsSpec : ChangeSpec := { name := "fnExactGroups", fn := fun _ => fun
  | [d1, d2, d3] => { results := [.lit (.bool true)], args := [d1, d2, d3] }
  | _ => none }
def fnExactGroupsRow : OpenClaim := { program := "ytfbindjacmaeoaa", sum := "fd6a28625c472d1eb493301bc4530eb476ed8b501c4b86b4ba70415a61aa65aa", func := "loop.example/g00273/laws.FnExactGroups", spec := "fnExactGroups", unfollowed := true, recurses := true, apart := false }
def FnExactGroupsSaid : Prop := fnExactGroupsRow.holds Try.pinned (OpenSpec.ofChange fnExactGroupsSpec)

/-- ITS FALSE NEIGHBOUR: 'it returns false'. Refute it at one input. -/
def fnExactGroupsWrong : ChangeSpec := { name := "fnExactGroups", fn := fun _ => fun
  | [d1, d2, d3] => { results := [.lit (.bool false)], args := [d1, d2, d3] }
  | _ => none }
def FnExactGroupsWrongFalsely : Prop := fnExactGroupsRow.holds Try.pinned (OpenSpec.ofChange fnExactGroupsWrong)

/-- 'laws.FnExactGap': WHATEVER THE INPUT: true; the input reads as it did. -/
def fnExactGapSpec : ChangeSpec := { name := "fnExactGap", fn := fun _ => fun
  | [d1, d2, d3] => { results := [.lit (.bool true)], args := [d1, d2, d3] }
  | _ => none }
def fnExactGapRow : OpenClaim := { program := "ytfbindjacmaeoaa", sum := "fd6a28625c472d1eb493301bc4530eb476ed8b501c4b86b4ba70415a61aa65aa", func := "loop.example/g00273/laws.FnExactGap", spec := "fnExactGap", unfollowed := true, recurses := true, apart := false }
def FnExactGapSaid : Prop := fnExactGapRow.holds Try.pinned (OpenSpec.ofChange fnExactGapSpec)

/-- ITS FALSE NEIGHBOUR: 'it returns false'. Refute it at one input. -/
def fnExactGapWrong : ChangeSpec := { name := "fnExactGap", fn := fun _ => fun
  | [d1, d2, d3] => { results := [.lit (.bool false)], args := [d1, d2, d3] }
  | _ => none }
def FnExactGapWrongFalsely : Prop := fnExactGapRow.holds Try.pinned (OpenSpec.ofChange fnExactGapWrong)

/- THE SECOND FORM. 'bulk': how many values and letters a reading holds, each counted each time it is reached (what is shared counts as often as it is met; a slice's spare places count too). A statement '..UptoSaid' is the law's where the arguments, and the package variables that the reading takes, are together of bulk at most 1048576: NARROWER than '..Said'. Prove '..Said' where nothing that the law and all that it calls make is longer than what came in: it says more and counts as full. Else prove '..UptoSaid'. A law counts once. -/
mutual
def uptoBulk {H : Type} : DataW H → Nat
  | .lit (.string bytes) => bytes.length + 1
  | .lit _ => 1
  | .nil => 1
  | .ptr d => uptoBulk d + 1
  | .slice elems spare => uptoBulkAll elems + uptoBulkAll spare + 1
  | .agg parts => uptoBulkAll parts + 1
  | .iface _ d => uptoBulk d + 1
  | .map entries => uptoBulkEntries entries + 1
  | .held _ => 1
def uptoBulkAll {H : Type} : List (DataW H) → Nat
  | [] => 0
  | d :: r => uptoBulk d + uptoBulkAll r
def uptoBulkEntries {H : Type} : List (Lit × DataW H) → Nat
  | [] => 0
  | x :: r => uptoBulkEntry x + uptoBulkEntries r
def uptoBulkEntry {H : Type} : Lit × DataW H → Nat
  | (.string bytes, d) => bytes.length + uptoBulk d + 1
  | (_, d) => uptoBulk d + 1
 end
def uptoSmall : (H : Type) → List (DataW H) → Bool := fun _ ds => decide (uptoBulkAll ds ≤ 1048576)
def OpenSpec.upto (s : _root_.Go.ChangeSpec) : _root_.Go.OpenSpec := { _root_.Go.OpenSpec.ofChange s with cond := some uptoSmall }

/-- 'laws.FnKruskal', WHERE WHAT IT READS IS OF BULK AT MOST 1048576: true; the input reads as it did. -/
def fnKruskalUptoRow : OpenClaim := { program := "ytfbindjacmaeoaa", sum := "fd6a28625c472d1eb493301bc4530eb476ed8b501c4b86b4ba70415a61aa65aa", func := "loop.example/g00273/laws.FnKruskal", spec := "fnKruskal", unfollowed := true, recurses := true, apart := false, narrowed := true }
def FnKruskalUptoSaid : Prop := fnKruskalUptoRow.holds Try.pinned (OpenSpec.upto fnKruskalSpec)

/-- 'laws.FnGaps', WHERE WHAT IT READS IS OF BULK AT MOST 1048576: true; the input reads as it did. -/
def fnGapsUptoRow : OpenClaim := { program := "ytfbindjacmaeoaa", sum := "fd6a28625c472d1eb493301bc4530eb476ed8b501c4b86b4ba70415a61aa65aa", func := "loop.example/g00273/laws.FnGaps", spec := "fnGaps", unfollowed := true, recurses := true, apart := false, narrowed := true }
def FnGapsUptoSaid : Prop := fnGapsUptoRow.holds Try.pinned (OpenSpec.upto fnGapsSpec)

/-- 'laws.FnExactThreads', WHERE WHAT IT READS IS OF BULK AT MOST 1048576: true; the input reads as it did. -/
def fnExactThreadsUptoRow : OpenClaim := { program := "ytfbindjacmaeoaa", sum := "fd6a28625c472d1eb493301bc4530eb476ed8b501c4b86b4ba70415a61aa65aa", func := "loop.example/g00273/laws.FnExactThreads", spec := "fnExactThreads", unfollowed := true, recurses := true, apart := false, narrowed := true }
def FnExactThreadsUptoSaid : Prop := fnExactThreadsUptoRow.holds Try.pinned (OpenSpec.upto fnExactThreadsSpec)

/-- 'laws.FnExactTied', WHERE WHAT IT READS IS OF BULK AT MOST 1048576: true; the input reads as it did. -/
def fnExactTiedUptoRow : OpenClaim := { program := "ytfbindjacmaeoaa", sum := "fd6a28625c472d1eb493301bc4530eb476ed8b501c4b86b4ba70415a61aa65aa", func := "loop.example/g00273/laws.FnExactTied", spec := "fnExactTied", unfollowed := true, recurses := true, apart := false, narrowed := true }
def FnExactTiedUptoSaid : Prop := fnExactTiedUptoRow.holds Try.pinned (OpenSpec.upto fnExactTiedSpec)

/-- 'laws.FnExactTotal', WHERE WHAT IT READS IS OF BULK AT MOST 1048576: true; the input reads as it did. -/
def fnExactTotalUptoRow : OpenClaim := { program := "ytfbindjacmaeoaa", sum := "fd6a28625c472d1eb493301bc4530eb476ed8b501c4b86b4ba70415a61aa65aa", func := "loop.example/g00273/laws.FnExactTotal", spec := "fnExactTotal", apart := false, narrowed := true }
def FnExactTotalUptoSaid : Prop := fnExactTotalUptoRow.holds Try.pinned (OpenSpec.upto fnExactTotalSpec)

/-- 'laws.FnExactGroups', WHERE WHAT IT READS IS OF BULK AT MOST 1048576: true; the input reads as it did. -/
def fnExactGroupsUptoRow : OpenClaim := { program := "ytfbindjacmaeoaa", sum := "fd6a28625c472d1eb493301bc4530eb476ed8b501c4b86b4ba70415a61aa65aa", func := "loop.example/g00273/laws.FnExactGroups", spec := "fnExactGroups", unfollowed := true, recurses := true, apart := false, narrowed := true }
def FnExactGroupsUptoSaid : Prop := fnExactGroupsUptoRow.holds Try.pinned (OpenSpec.upto fnExactGroupsSpec)

/-- 'laws.FnExactGap', WHERE WHAT IT READS IS OF BULK AT MOST 1048576: true; the input reads as it did. -/
def fnExactGapUptoRow : OpenClaim := { program := "ytfbindjacmaeoaa", sum := "fd6a28625c472d1eb493301bc4530eb476ed8b501c4b86b4ba70415a61aa65aa", func := "loop.example/g00273/laws.FnExactGap", spec := "fnExactGap", unfollowed := true, recurses := true, apart := false, narrowed := true }
def FnExactGapUptoSaid : Prop := fnExactGapUptoRow.holds Try.pinned (OpenSpec.upto fnExactGapSpec)

end Rows
end Go.Proofs.Ytfbindjacmaeoaa
