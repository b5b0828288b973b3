/-
  No cell of these rows narrows 'for every input' (looked for: loops, veiled, ifaces, maps, wideKeys, modest, calm, conditions, laid).
  DERIVED. THE GIVEN ROWS OF THIS SEAT. 6 by the template 'for every input the law returns true; each argument reads behind the call as it read before'; 0 by the template 'total and deterministic' (their statements: YtcdpmjeipagbnaaTotals.lean).
  GIVEN WITH THE SEED: the statements are not yours to turn. If you find one false, say at which input.
  Laid BY PROGRAM, IN A SANDBOX (cutbox-rows.mjs): the forced cells as the released guide's own fill.sh prints them over the translation 2fb7fe34f65cfb63… (all of the seat's roots in one cut). By AI agents, Wed Nov 11 2026. No macro, syntax, notation, axiom, sorry.
-/
import Derived.Test.YtcdpmjeipagbnaaChecked
import GoSem.Claim
import GoSem.ClaimJoined
import GoSem.ClaimMapViews
import Derived.JoinedTies
import Derived.KernelRfl
namespace Go.Proofs.Ytcdpmjeipagbnaa
/- THE CELL 'sum', in the pinned program and in every row, IS THE sha256 OF THE DUMP (.gsa) THAT YtcdpmjeipagbnaaProg.lean LOADS. Nothing in Lean hashes anything: it is a label: what it is worth is what the hold of that sum in a sandbox is worth. -/
noncomputable def Try.pinned : Pinned := { name := "ytcdpmjeipagbnaa", sum := "2fb7fe34f65cfb63b00d2ffa3d713c5dc503ca25aa28d3e92b5c5a9e2e8a4cbb", checked := Try.checked }
namespace Rows
def none {H : Type} : Left H := { results := [], args := [] }

/-- 'laws.FnLooked': WHATEVER THE INPUT: true; the input reads as it did. -/
def fnLookedSpec : ChangeSpec := { name := "fnLooked", fn := fun _ => fun
  | [d] => { results := [.lit (.bool true)], args := [d] }
  | _ => none }
def fnLookedRow : OpenClaim := { program := "ytcdpmjeipagbnaa", sum := "2fb7fe34f65cfb63b00d2ffa3d713c5dc503ca25aa28d3e92b5c5a9e2e8a4cbb", func := "loop.example/g00273/laws.FnLooked", spec := "fnLooked", inPlace := ["slices.overlaps[loop.example/g00273/impl.Hit]"], unfollowed := true, recurses := true, apart := false }
def FnLookedSaid : Prop := fnLookedRow.holds Try.pinned (OpenSpec.ofChange fnLookedSpec)

/-- ITS FALSE NEIGHBOUR: 'it returns false'. Refute it at one input. -/
def fnLookedWrong : ChangeSpec := { name := "fnLooked", fn := fun _ => fun
  | [d] => { results := [.lit (.bool false)], args := [d] }
  | _ => none }
def FnLookedWrongFalsely : Prop := fnLookedRow.holds Try.pinned (OpenSpec.ofChange fnLookedWrong)

/-- 'laws.FnExactHalved': WHATEVER THE INPUT: true; the input reads as it did. -/
def fnExactHalvedSpec : ChangeSpec := { name := "fnExactHalved", fn := fun _ => fun
  | [d] => { results := [.lit (.bool true)], args := [d] }
  | _ => none }
def fnExactHalvedRow : OpenClaim := { program := "ytcdpmjeipagbnaa", sum := "2fb7fe34f65cfb63b00d2ffa3d713c5dc503ca25aa28d3e92b5c5a9e2e8a4cbb", func := "loop.example/g00273/laws.FnExactHalved", spec := "fnExactHalved", unfollowed := true, recurses := true, apart := false }
def FnExactHalvedSaid : Prop := fnExactHalvedRow.holds Try.pinned (OpenSpec.ofChange fnExactHalvedSpec)

/-- ITS FALSE NEIGHBOUR: 'it returns false'. Refute it at one input. -/
def fnExactHalvedWrong : ChangeSpec := { name := "fnExactHalved", fn := fun _ => fun
  | [d] => { results := [.lit (.bool false)], args := [d] }
  | _ => none }
def FnExactHalvedWrongFalsely : Prop := fnExactHalvedRow.holds Try.pinned (OpenSpec.ofChange fnExactHalvedWrong)

/-- 'laws.FnExactKnotsOk': WHATEVER THE INPUT: true; the input reads as it did. -/
def fnExactKnotsOkSpec : ChangeSpec := { name := "fnExactKnotsOk", fn := fun _ => fun
  | [d] => { results := [.lit (.bool true)], args := [d] }
  | _ => none }
def fnExactKnotsOkRow : OpenClaim := { program := "ytcdpmjeipagbnaa", sum := "2fb7fe34f65cfb63b00d2ffa3d713c5dc503ca25aa28d3e92b5c5a9e2e8a4cbb", func := "loop.example/g00273/laws.FnExactKnotsOk", spec := "fnExactKnotsOk", unfollowed := true, recurses := true, apart := false }
def FnExactKnotsOkSaid : Prop := fnExactKnotsOkRow.holds Try.pinned (OpenSpec.ofChange fnExactKnotsOkSpec)

/-- ITS FALSE NEIGHBOUR: 'it returns false'. Refute it at one input. -/
def fnExactKnotsOkWrong : ChangeSpec := { name := "fnExactKnotsOk", fn := fun _ => fun
  | [d] => { results := [.lit (.bool false)], args := [d] }
  | _ => none }
def FnExactKnotsOkWrongFalsely : Prop := fnExactKnotsOkRow.holds Try.pinned (OpenSpec.ofChange fnExactKnotsOkWrong)

/-- 'laws.FnExactFound': WHATEVER THE INPUT: true; the input reads as it did. -/
def fnExactFoundSpec : ChangeSpec := { name := "fnExactFound", fn := fun _ => fun
  | [d1, d2, d3] => { results := [.lit (.bool true)], args := [d1, d2, d3] }
  | _ => none }
def fnExactFoundRow : OpenClaim := { program := "ytcdpmjeipagbnaa", sum := "2fb7fe34f65cfb63b00d2ffa3d713c5dc503ca25aa28d3e92b5c5a9e2e8a4cbb", func := "loop.example/g00273/laws.FnExactFound", spec := "fnExactFound", inPlace := ["slices.overlaps[loop.example/g00273/impl.Hit]"], unfollowed := true, recurses := true, apart := false }
def FnExactFoundSaid : Prop := fnExactFoundRow.holds Try.pinned (OpenSpec.ofChange fnExactFoundSpec)

/-- ITS FALSE NEIGHBOUR: 'it returns false'. Refute it at one input. -/
def fnExactFoundWrong : ChangeSpec := { name := "fnExactFound", fn := fun _ => fun
  | [d1, d2, d3] => { results := [.lit (.bool false)], args := [d1, d2, d3] }
  | _ => none }
def FnExactFoundWrongFalsely : Prop := fnExactFoundRow.holds Try.pinned (OpenSpec.ofChange fnExactFoundWrong)

/-- 'laws.FnExactLooked': WHATEVER THE INPUT: true; the input reads as it did. -/
def fnExactLookedSpec : ChangeSpec := { name := "fnExactLooked", fn := fun _ => fun
  | [d1, d2] => { results := [.lit (.bool true)], args := [d1, d2] }
  | _ => none }
def fnExactLookedRow : OpenClaim := { program := "ytcdpmjeipagbnaa", sum := "2fb7fe34f65cfb63b00d2ffa3d713c5dc503ca25aa28d3e92b5c5a9e2e8a4cbb", func := "loop.example/g00273/laws.FnExactLooked", spec := "fnExactLooked", inPlace := ["slices.overlaps[loop.example/g00273/impl.Hit]"], unfollowed := true, recurses := true, apart := false }
def FnExactLookedSaid : Prop := fnExactLookedRow.holds Try.pinned (OpenSpec.ofChange fnExactLookedSpec)

/-- ITS FALSE NEIGHBOUR: 'it returns false'. Refute it at one input. -/
def fnExactLookedWrong : ChangeSpec := { name := "fnExactLooked", fn := fun _ => fun
  | [d1, d2] => { results := [.lit (.bool false)], args := [d1, d2] }
  | _ => none }
def FnExactLookedWrongFalsely : Prop := fnExactLookedRow.holds Try.pinned (OpenSpec.ofChange fnExactLookedWrong)

/-- 'laws.FnExactTall': WHATEVER THE INPUT: true; the input reads as it did. -/
def fnExactTallSpec : ChangeSpec := { name := "fnExactTall", fn := fun _ => fun
  | [d] => { results := [.lit (.bool true)], args := [d] }
  | _ => none }
def fnExactTallRow : OpenClaim := { program := "ytcdpmjeipagbnaa", sum := "2fb7fe34f65cfb63b00d2ffa3d713c5dc503ca25aa28d3e92b5c5a9e2e8a4cbb", func := "loop.example/g00273/laws.FnExactTall", spec := "fnExactTall", unfollowed := true, recurses := true, apart := false }
def FnExactTallSaid : Prop := fnExactTallRow.holds Try.pinned (OpenSpec.ofChange fnExactTallSpec)

/-- ITS FALSE NEIGHBOUR: 'it returns false'. Refute it at one input. -/
def fnExactTallWrong : ChangeSpec := { name := "fnExactTall", fn := fun _ => fun
  | [d] => { results := [.lit (.bool false)], args := [d] }
  | _ => none }
def FnExactTallWrongFalsely : Prop := fnExactTallRow.holds Try.pinned (OpenSpec.ofChange fnExactTallWrong)

/- THE SECOND FORM. 'bulk': how many values and letters a reading holds, each counted each time it is reached (what is shared counts as often as it is met; a slice's spare places count too). A statement '..UptoSaid' is the law's where the arguments, and the package variables that the reading takes, are together of bulk at most 1048576: NARROWER than '..Said'. Prove '..Said' where nothing that the law and all that it calls make is longer than what came in: it says more and counts as full. Else prove '..UptoSaid'. A law counts once. -/
mutual
def uptoBulk {H : Type} : DataW H → Nat
  | .lit (.string bytes) => bytes.length + 1
  | .lit _ => 1
  | .nil => 1
  | .ptr d => uptoBulk d + 1
  | .slice elems spare => uptoBulkAll elems + uptoBulkAll spare + 1
  | .agg parts => uptoBulkAll parts + 1
  | .iface _ d => uptoBulk d + 1
  | .map entries => uptoBulkEntries entries + 1
  | .held _ => 1
def uptoBulkAll {H : Type} : List (DataW H) → Nat
  | [] => 0
  | d :: r => uptoBulk d + uptoBulkAll r
def uptoBulkEntries {H : Type} : List (Lit × DataW H) → Nat
  | [] => 0
  | x :: r => uptoBulkEntry x + uptoBulkEntries r
def uptoBulkEntry {H : Type} : Lit × DataW H → Nat
  | (.string bytes, d) => bytes.length + uptoBulk d + 1
  | (_, d) => uptoBulk d + 1
 end
def uptoSmall : (H : Type) → List (DataW H) → Bool := fun _ ds => decide (uptoBulkAll ds ≤ 1048576)
def OpenSpec.upto (s : _root_.Go.ChangeSpec) : _root_.Go.OpenSpec := { _root_.Go.OpenSpec.ofChange s with cond := some uptoSmall }

/-- 'laws.FnLooked', WHERE WHAT IT READS IS OF BULK AT MOST 1048576: true; the input reads as it did. -/
def fnLookedUptoRow : OpenClaim := { program := "ytcdpmjeipagbnaa", sum := "2fb7fe34f65cfb63b00d2ffa3d713c5dc503ca25aa28d3e92b5c5a9e2e8a4cbb", func := "loop.example/g00273/laws.FnLooked", spec := "fnLooked", inPlace := ["slices.overlaps[loop.example/g00273/impl.Hit]"], unfollowed := true, recurses := true, apart := false, narrowed := true }
def FnLookedUptoSaid : Prop := fnLookedUptoRow.holds Try.pinned (OpenSpec.upto fnLookedSpec)

/-- 'laws.FnExactHalved', WHERE WHAT IT READS IS OF BULK AT MOST 1048576: true; the input reads as it did. -/
def fnExactHalvedUptoRow : OpenClaim := { program := "ytcdpmjeipagbnaa", sum := "2fb7fe34f65cfb63b00d2ffa3d713c5dc503ca25aa28d3e92b5c5a9e2e8a4cbb", func := "loop.example/g00273/laws.FnExactHalved", spec := "fnExactHalved", unfollowed := true, recurses := true, apart := false, narrowed := true }
def FnExactHalvedUptoSaid : Prop := fnExactHalvedUptoRow.holds Try.pinned (OpenSpec.upto fnExactHalvedSpec)

/-- 'laws.FnExactKnotsOk', WHERE WHAT IT READS IS OF BULK AT MOST 1048576: true; the input reads as it did. -/
def fnExactKnotsOkUptoRow : OpenClaim := { program := "ytcdpmjeipagbnaa", sum := "2fb7fe34f65cfb63b00d2ffa3d713c5dc503ca25aa28d3e92b5c5a9e2e8a4cbb", func := "loop.example/g00273/laws.FnExactKnotsOk", spec := "fnExactKnotsOk", unfollowed := true, recurses := true, apart := false, narrowed := true }
def FnExactKnotsOkUptoSaid : Prop := fnExactKnotsOkUptoRow.holds Try.pinned (OpenSpec.upto fnExactKnotsOkSpec)

/-- 'laws.FnExactFound', WHERE WHAT IT READS IS OF BULK AT MOST 1048576: true; the input reads as it did. -/
def fnExactFoundUptoRow : OpenClaim := { program := "ytcdpmjeipagbnaa", sum := "2fb7fe34f65cfb63b00d2ffa3d713c5dc503ca25aa28d3e92b5c5a9e2e8a4cbb", func := "loop.example/g00273/laws.FnExactFound", spec := "fnExactFound", inPlace := ["slices.overlaps[loop.example/g00273/impl.Hit]"], unfollowed := true, recurses := true, apart := false, narrowed := true }
def FnExactFoundUptoSaid : Prop := fnExactFoundUptoRow.holds Try.pinned (OpenSpec.upto fnExactFoundSpec)

/-- 'laws.FnExactLooked', WHERE WHAT IT READS IS OF BULK AT MOST 1048576: true; the input reads as it did. -/
def fnExactLookedUptoRow : OpenClaim := { program := "ytcdpmjeipagbnaa", sum := "2fb7fe34f65cfb63b00d2ffa3d713c5dc503ca25aa28d3e92b5c5a9e2e8a4cbb", func := "loop.example/g00273/laws.FnExactLooked", spec := "fnExactLooked", inPlace := ["slices.overlaps[loop.example/g00273/impl.Hit]"], unfollowed := true, recurses := true, apart := false, narrowed := true }
def FnExactLookedUptoSaid : Prop := fnExactLookedUptoRow.holds Try.pinned (OpenSpec.upto fnExactLookedSpec)

/-- 'laws.FnExactTall', WHERE WHAT IT READS IS OF BULK AT MOST 1048576: true; the input reads as it did. -/
def fnExactTallUptoRow : OpenClaim := { program := "ytcdpmjeipagbnaa", sum := "2fb7fe34f65cfb63b00d2ffa3d713c5dc503ca25aa28d3e92b5c5a9e2e8a4cbb", func := "loop.example/g00273/laws.FnExactTall", spec := "fnExactTall", unfollowed := true, recurses := true, apart := false, narrowed := true }
def FnExactTallUptoSaid : Prop := fnExactTallUptoRow.holds Try.pinned (OpenSpec.upto fnExactTallSpec)

end Rows
end Go.Proofs.Ytcdpmjeipagbnaa
