/-
  No cell of these rows narrows 'for every input' (looked for: loops, veiled, ifaces, maps, wideKeys, modest, calm, conditions, laid).
  DERIVED. THE GIVEN ROWS OF THIS SEAT. 7 by the template 'for every input the law returns true; each argument reads behind the call as it read before'; 0 by the template 'total and deterministic' (their statements: YtibkfdefoaimiaaTotals.lean).
  GIVEN WITH THE SEED: the statements are not yours to turn. If you find one false, say at which input.
  Laid BY PROGRAM, IN A SANDBOX (cutbox-rows.mjs): the forced cells as the released guide's own fill.sh prints them over the translation 4af7059562ab5412… (all of the seat's roots in one cut). By AI agents, Wed Nov 11 2026. No macro, syntax, notation, axiom, sorry.
-/
import Derived.Test.YtibkfdefoaimiaaChecked
import GoSem.Claim
import GoSem.ClaimJoined
import GoSem.ClaimMapViews
import Derived.JoinedTies
import Derived.KernelRfl
namespace Go.Proofs.Ytibkfdefoaimiaa
/- THE CELL 'sum', in the pinned program and in every row, IS THE sha256 OF THE DUMP (.gsa) THAT YtibkfdefoaimiaaProg.lean LOADS. Nothing in Lean hashes anything: it is a label: what it is worth is what the hold of that sum in a sandbox is worth. -/
noncomputable def Try.pinned : Pinned := { name := "ytibkfdefoaimiaa", sum := "4af7059562ab54122b4aef46d522d3484d818a3071caeb0f633dadf36984ebc1", checked := Try.checked }
namespace Rows
def none {H : Type} : Left H := { results := [], args := [] }

/-- 'laws.FnMorton': WHATEVER THE INPUT: true; the input reads as it did. -/
def fnMortonSpec : ChangeSpec := { name := "fnMorton", fn := fun _ => fun
  | [d] => { results := [.lit (.bool true)], args := [d] }
  | _ => none }
def fnMortonRow : OpenClaim := { program := "ytibkfdefoaimiaa", sum := "4af7059562ab54122b4aef46d522d3484d818a3071caeb0f633dadf36984ebc1", func := "loop.example/g00273/laws.FnMorton", spec := "fnMorton", unfollowed := true, recurses := true, apart := false }
def FnMortonSaid : Prop := fnMortonRow.holds Try.pinned (OpenSpec.ofChange fnMortonSpec)

/-- ITS FALSE NEIGHBOUR: 'it returns false'. Refute it at one input. -/
def fnMortonWrong : ChangeSpec := { name := "fnMorton", fn := fun _ => fun
  | [d] => { results := [.lit (.bool false)], args := [d] }
  | _ => none }
def FnMortonWrongFalsely : Prop := fnMortonRow.holds Try.pinned (OpenSpec.ofChange fnMortonWrong)

/-- 'laws.FnPrefix': WHATEVER THE INPUT: true; the input reads as it did. -/
def fnPrefixSpec : ChangeSpec := { name := "fnPrefix", fn := fun _ => fun
  | [d] => { results := [.lit (.bool true)], args := [d] }
  | _ => none }
def fnPrefixRow : OpenClaim := { program := "ytibkfdefoaimiaa", sum := "4af7059562ab54122b4aef46d522d3484d818a3071caeb0f633dadf36984ebc1", func := "loop.example/g00273/laws.FnPrefix", spec := "fnPrefix", unfollowed := true, recurses := true, apart := false }
def FnPrefixSaid : Prop := fnPrefixRow.holds Try.pinned (OpenSpec.ofChange fnPrefixSpec)

/-- ITS FALSE NEIGHBOUR: 'it returns false'. Refute it at one input. -/
def fnPrefixWrong : ChangeSpec := { name := "fnPrefix", fn := fun _ => fun
  | [d] => { results := [.lit (.bool false)], args := [d] }
  | _ => none }
def FnPrefixWrongFalsely : Prop := fnPrefixRow.holds Try.pinned (OpenSpec.ofChange fnPrefixWrong)

/-- 'laws.FnExactWeave': WHATEVER THE INPUT: true; the input reads as it did. -/
def fnExactWeaveSpec : ChangeSpec := { name := "fnExactWeave", fn := fun _ => fun
  | [d] => { results := [.lit (.bool true)], args := [d] }
  | _ => none }
def fnExactWeaveRow : OpenClaim := { program := "ytibkfdefoaimiaa", sum := "4af7059562ab54122b4aef46d522d3484d818a3071caeb0f633dadf36984ebc1", func := "loop.example/g00273/laws.FnExactWeave", spec := "fnExactWeave", unfollowed := true, recurses := true, apart := false }
def FnExactWeaveSaid : Prop := fnExactWeaveRow.holds Try.pinned (OpenSpec.ofChange fnExactWeaveSpec)

/-- ITS FALSE NEIGHBOUR: 'it returns false'. Refute it at one input. -/
def fnExactWeaveWrong : ChangeSpec := { name := "fnExactWeave", fn := fun _ => fun
  | [d] => { results := [.lit (.bool false)], args := [d] }
  | _ => none }
def FnExactWeaveWrongFalsely : Prop := fnExactWeaveRow.holds Try.pinned (OpenSpec.ofChange fnExactWeaveWrong)

/-- 'laws.FnExactUnweave': WHATEVER THE INPUT: true; the input reads as it did. -/
def fnExactUnweaveSpec : ChangeSpec := { name := "fnExactUnweave", fn := fun _ => fun
  | [d1, d2] => { results := [.lit (.bool true)], args := [d1, d2] }
  | _ => none }
def fnExactUnweaveRow : OpenClaim := { program := "ytibkfdefoaimiaa", sum := "4af7059562ab54122b4aef46d522d3484d818a3071caeb0f633dadf36984ebc1", func := "loop.example/g00273/laws.FnExactUnweave", spec := "fnExactUnweave", unfollowed := true, recurses := true, apart := false }
def FnExactUnweaveSaid : Prop := fnExactUnweaveRow.holds Try.pinned (OpenSpec.ofChange fnExactUnweaveSpec)

/-- ITS FALSE NEIGHBOUR: 'it returns false'. Refute it at one input. -/
def fnExactUnweaveWrong : ChangeSpec := { name := "fnExactUnweave", fn := fun _ => fun
  | [d1, d2] => { results := [.lit (.bool false)], args := [d1, d2] }
  | _ => none }
def FnExactUnweaveWrongFalsely : Prop := fnExactUnweaveRow.holds Try.pinned (OpenSpec.ofChange fnExactUnweaveWrong)

/-- 'laws.FnExactRanked': WHATEVER THE INPUT: true; the input reads as it did. -/
def fnExactRankedSpec : ChangeSpec := { name := "fnExactRanked", fn := fun _ => fun
  | [d] => { results := [.lit (.bool true)], args := [d] }
  | _ => none }
def fnExactRankedRow : OpenClaim := { program := "ytibkfdefoaimiaa", sum := "4af7059562ab54122b4aef46d522d3484d818a3071caeb0f633dadf36984ebc1", func := "loop.example/g00273/laws.FnExactRanked", spec := "fnExactRanked", unfollowed := true, recurses := true, apart := false }
def FnExactRankedSaid : Prop := fnExactRankedRow.holds Try.pinned (OpenSpec.ofChange fnExactRankedSpec)

/-- ITS FALSE NEIGHBOUR: 'it returns false'. Refute it at one input. -/
def fnExactRankedWrong : ChangeSpec := { name := "fnExactRanked", fn := fun _ => fun
  | [d] => { results := [.lit (.bool false)], args := [d] }
  | _ => none }
def FnExactRankedWrongFalsely : Prop := fnExactRankedRow.holds Try.pinned (OpenSpec.ofChange fnExactRankedWrong)

/-- 'laws.FnExactBelow': WHATEVER THE INPUT: true; the input reads as it did. -/
def fnExactBelowSpec : ChangeSpec := { name := "fnExactBelow", fn := fun _ => fun
  | [d1, d2] => { results := [.lit (.bool true)], args := [d1, d2] }
  | _ => none }
def fnExactBelowRow : OpenClaim := { program := "ytibkfdefoaimiaa", sum := "4af7059562ab54122b4aef46d522d3484d818a3071caeb0f633dadf36984ebc1", func := "loop.example/g00273/laws.FnExactBelow", spec := "fnExactBelow", apart := false }
def FnExactBelowSaid : Prop := fnExactBelowRow.holds Try.pinned (OpenSpec.ofChange fnExactBelowSpec)

/-- ITS FALSE NEIGHBOUR: 'it returns false'. Refute it at one input. -/
def fnExactBelowWrong : ChangeSpec := { name := "fnExactBelow", fn := fun _ => fun
  | [d1, d2] => { results := [.lit (.bool false)], args := [d1, d2] }
  | _ => none }
def FnExactBelowWrongFalsely : Prop := fnExactBelowRow.holds Try.pinned (OpenSpec.ofChange fnExactBelowWrong)

/-- 'laws.FnExactPrefix': WHATEVER THE INPUT: true; the input reads as it did. -/
def fnExactPrefixSpec : ChangeSpec := { name := "fnExactPrefix", fn := fun _ => fun
  | [d1, d2] => { results := [.lit (.bool true)], args := [d1, d2] }
  | _ => none }
def fnExactPrefixRow : OpenClaim := { program := "ytibkfdefoaimiaa", sum := "4af7059562ab54122b4aef46d522d3484d818a3071caeb0f633dadf36984ebc1", func := "loop.example/g00273/laws.FnExactPrefix", spec := "fnExactPrefix", unfollowed := true, recurses := true, apart := false }
def FnExactPrefixSaid : Prop := fnExactPrefixRow.holds Try.pinned (OpenSpec.ofChange fnExactPrefixSpec)

/-- ITS FALSE NEIGHBOUR: 'it returns false'. Refute it at one input. -/
def fnExactPrefixWrong : ChangeSpec := { name := "fnExactPrefix", fn := fun _ => fun
  | [d1, d2] => { results := [.lit (.bool false)], args := [d1, d2] }
  | _ => none }
def FnExactPrefixWrongFalsely : Prop := fnExactPrefixRow.holds Try.pinned (OpenSpec.ofChange fnExactPrefixWrong)

/- THE SECOND FORM. 'bulk': how many values and letters a reading holds, each counted each time it is reached (what is shared counts as often as it is met; a slice's spare places count too). A statement '..UptoSaid' is the law's where the arguments, and the package variables that the reading takes, are together of bulk at most 1048576: NARROWER than '..Said'. Prove '..Said' where nothing that the law and all that it calls make is longer than what came in: it says more and counts as full. Else prove '..UptoSaid'. A law counts once. -/
mutual
def uptoBulk {H : Type} : DataW H → Nat
  | .lit (.string bytes) => bytes.length + 1
  | .lit _ => 1
  | .nil => 1
  | .ptr d => uptoBulk d + 1
  | .slice elems spare => uptoBulkAll elems + uptoBulkAll spare + 1
  | .agg parts => uptoBulkAll parts + 1
  | .iface _ d => uptoBulk d + 1
  | .map entries => uptoBulkEntries entries + 1
  | .held _ => 1
def uptoBulkAll {H : Type} : List (DataW H) → Nat
  | [] => 0
  | d :: r => uptoBulk d + uptoBulkAll r
def uptoBulkEntries {H : Type} : List (Lit × DataW H) → Nat
  | [] => 0
  | x :: r => uptoBulkEntry x + uptoBulkEntries r
def uptoBulkEntry {H : Type} : Lit × DataW H → Nat
  | (.string bytes, d) => bytes.length + uptoBulk d + 1
  | (_, d) => uptoBulk d + 1
 end
def uptoSmall : (H : Type) → List (DataW H) → Bool := fun _ ds => decide (uptoBulkAll ds ≤ 1048576)
def OpenSpec.upto (s : _root_.Go.ChangeSpec) : _root_.Go.OpenSpec := { _root_.Go.OpenSpec.ofChange s with cond := some uptoSmall }

/-- 'laws.FnMorton', WHERE WHAT IT READS IS OF BULK AT MOST 1048576: true; the input reads as it did. -/
def fnMortonUptoRow : OpenClaim := { program := "ytibkfdefoaimiaa", sum := "4af7059562ab54122b4aef46d522d3484d818a3071caeb0f633dadf36984ebc1", func := "loop.example/g00273/laws.FnMorton", spec := "fnMorton", unfollowed := true, recurses := true, apart := false, narrowed := true }
def FnMortonUptoSaid : Prop := fnMortonUptoRow.holds Try.pinned (OpenSpec.upto fnMortonSpec)

/-- 'laws.FnPrefix', WHERE WHAT IT READS IS OF BULK AT MOST 1048576: true; the input reads as it did. -/
def fnPrefixUptoRow : OpenClaim := { program := "ytibkfdefoaimiaa", sum := "4af7059562ab54122b4aef46d522d3484d818a3071caeb0f633dadf36984ebc1", func := "loop.example/g00273/laws.FnPrefix", spec := "fnPrefix", unfollowed := true, recurses := true, apart := false, narrowed := true }
def FnPrefixUptoSaid : Prop := fnPrefixUptoRow.holds Try.pinned (OpenSpec.upto fnPrefixSpec)

/-- 'laws.FnExactWeave', WHERE WHAT IT READS IS OF BULK AT MOST 1048576: true; the input reads as it did. -/
def fnExactWeaveUptoRow : OpenClaim := { program := "ytibkfdefoaimiaa", sum := "4af7059562ab54122b4aef46d522d3484d818a3071caeb0f633dadf36984ebc1", func := "loop.example/g00273/laws.FnExactWeave", spec := "fnExactWeave", unfollowed := true, recurses := true, apart := false, narrowed := true }
def FnExactWeaveUptoSaid : Prop := fnExactWeaveUptoRow.holds Try.pinned (OpenSpec.upto fnExactWeaveSpec)

/-- 'laws.FnExactUnweave', WHERE WHAT IT READS IS OF BULK AT MOST 1048576: true; the input reads as it did. -/
def fnExactUnweaveUptoRow : OpenClaim := { program := "ytibkfdefoaimiaa", sum := "4af7059562ab54122b4aef46d522d3484d818a3071caeb0f633dadf36984ebc1", func := "loop.example/g00273/laws.FnExactUnweave", spec := "fnExactUnweave", unfollowed := true, recurses := true, apart := false, narrowed := true }
def FnExactUnweaveUptoSaid : Prop := fnExactUnweaveUptoRow.holds Try.pinned (OpenSpec.upto fnExactUnweaveSpec)

/-- 'laws.FnExactRanked', WHERE WHAT IT READS IS OF BULK AT MOST 1048576: true; the input reads as it did. -/
def fnExactRankedUptoRow : OpenClaim := { program := "ytibkfdefoaimiaa", sum := "4af7059562ab54122b4aef46d522d3484d818a3071caeb0f633dadf36984ebc1", func := "loop.example/g00273/laws.FnExactRanked", spec := "fnExactRanked", unfollowed := true, recurses := true, apart := false, narrowed := true }
def FnExactRankedUptoSaid : Prop := fnExactRankedUptoRow.holds Try.pinned (OpenSpec.upto fnExactRankedSpec)

/-- 'laws.FnExactBelow', WHERE WHAT IT READS IS OF BULK AT MOST 1048576: true; the input reads as it did. -/
def fnExactBelowUptoRow : OpenClaim := { program := "ytibkfdefoaimiaa", sum := "4af7059562ab54122b4aef46d522d3484d818a3071caeb0f633dadf36984ebc1", func := "loop.example/g00273/laws.FnExactBelow", spec := "fnExactBelow", apart := false, narrowed := true }
def FnExactBelowUptoSaid : Prop := fnExactBelowUptoRow.holds Try.pinned (OpenSpec.upto fnExactBelowSpec)

/-- 'laws.FnExactPrefix', WHERE WHAT IT READS IS OF BULK AT MOST 1048576: true; the input reads as it did. -/
def fnExactPrefixUptoRow : OpenClaim := { program := "ytibkfdefoaimiaa", sum := "4af7059562ab54122b4aef46d522d3484d818a3071caeb0f633dadf36984ebc1", func := "loop.example/g00273/laws.FnExactPrefix", spec := "fnExactPrefix", unfollowed := true, recurses := true, apart := false, narrowed := true }
def FnExactPrefixUptoSaid : Prop := fnExactPrefixUptoRow.holds Try.pinned (OpenSpec.upto fnExactPrefixSpec)

end Rows
end Go.Proofs.Ytibkfdefoaimiaa
