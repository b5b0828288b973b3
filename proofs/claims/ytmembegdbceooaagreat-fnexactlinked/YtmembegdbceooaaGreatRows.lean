/-
  No cell of these rows narrows 'for every input' (looked for: loops, veiled, ifaces, maps, wideKeys, modest, calm, conditions, laid).
  DERIVED. THE GIVEN ROWS OF THIS SEAT. 5 by the template 'for every input the law returns true; each argument reads behind the call as it read before'; 0 by the template 'total and deterministic' (their statements: YtmembegdbceooaaGreatTotals.lean).
  GIVEN WITH THE SEED: the statements are not yours to turn. If you find one false, say at which input.
  Laid BY PROGRAM, IN A SANDBOX (cutbox-rows.mjs): the forced cells as the released guide's own fill.sh prints them over the translation 56a09487914e1d8b… (all of the seat's roots in one cut). By AI agents, Wed Nov 11 2026. No macro, syntax, notation, axiom, sorry.
-/
import Derived.Test.YtmembegdbceooaaGreatChecked
import GoSem.Claim
import GoSem.ClaimJoined
import GoSem.ClaimMapViews
import Derived.JoinedTies
import Derived.KernelRfl
namespace Go.Proofs.YtmembegdbceooaaGreat
/- THE CELL 'sum', in the pinned program and in every row, IS THE sha256 OF THE DUMP (.gsa) THAT YtmembegdbceooaaGreatProg.lean LOADS. Nothing in Lean hashes anything: it is a label: what it is worth is what the hold of that sum in a sandbox is worth. -/
noncomputable def Tryz.pinned : Pinned := { name := "ytmembegdbceooaagreat", sum := "56a09487914e1d8bda9855b823f894f39e464c40c7aca62fe8e2ee7a974de1a4", checked := Tryz.checked }
namespace Rows
def none {H : Type} : Left H := { results := [], args := [] }

/-- 'laws.FnWebs': WHATEVER THE INPUT: true; the input reads as it did. -/
def fnWebsSpec : ChangeSpec := { name := "fnWebs", fn := fun _ => fun
  | [d] => { results := [.lit (.bool true)], args := [d] }
  | _ => none }
def fnWebsRow : OpenClaim := { program := "ytmembegdbceooaagreat", sum := "56a09487914e1d8bda9855b823f894f39e464c40c7aca62fe8e2ee7a974de1a4", func := "loop.example/g00273/laws.FnWebs", spec := "fnWebs", inPlace := ["slices.overlaps[int64]", "slices.overlaps[loop.example/g00273/impl.sight]"], unfollowed := true, recurses := true, apart := false }
def FnWebsSaid : Prop := fnWebsRow.holds Tryz.pinned (OpenSpec.ofChange fnWebsSpec)

/-- ITS FALSE NEIGHBOUR: 'it returns false'. Refute it at one input. -/
def fnWebsWrong : ChangeSpec := { name := "fnWebs", fn := fun _ => fun
  | [d] => { results := [.lit (.bool false)], args := [d] }
  | _ => none }
def FnWebsWrongFalsely : Prop := fnWebsRow.holds Tryz.pinned (OpenSpec.ofChange fnWebsWrong)

/-- 'laws.FnTowers': WHATEVER THE INPUT: true; the input reads as it did. -/
def fnTowersSpec : ChangeSpec := { name := "fnTowers", fn := fun _ => fun
  | [d] => { results := [.lit (.bool true)], args := [d] }
  | _ => none }
def fnTowersRow : OpenClaim := { program := "ytmembegdbceooaagreat", sum := "56a09487914e1d8bda9855b823f894f39e464c40c7aca62fe8e2ee7a974de1a4", func := "loop.example/g00273/laws.FnTowers", spec := "fnTowers", inPlace := ["sync/atomic.LoadUint32", "(*internal/sync.Mutex).Lock", "internal/race.Disable", "sync/atomic.CompareAndSwapInt32", "internal/race.Enable", "internal/race.Acquire", "(*internal/sync.Mutex).lockSlow", "internal/sync.runtime_canSpin", "internal/sync.runtime_doSpin", "internal/sync.throw", "internal/sync.runtime_nanotime", "internal/sync.runtime_SemacquireMutex", "sync/atomic.AddInt32", "(*internal/sync.Mutex).Unlock", "internal/race.ReleaseMerge", "(*internal/sync.Mutex).unlockSlow", "internal/sync.fatal", "internal/sync.runtime_Semrelease", "sync/atomic.StoreUint32", "slices.overlaps[int64]", "slices.overlaps[loop.example/g00273/impl.sight]"], unfollowed := true, recurses := true, apart := false }
def FnTowersSaid : Prop := fnTowersRow.holds Tryz.pinned (OpenSpec.ofChange fnTowersSpec)

/-- ITS FALSE NEIGHBOUR: 'it returns false'. Refute it at one input. -/
def fnTowersWrong : ChangeSpec := { name := "fnTowers", fn := fun _ => fun
  | [d] => { results := [.lit (.bool false)], args := [d] }
  | _ => none }
def FnTowersWrongFalsely : Prop := fnTowersRow.holds Tryz.pinned (OpenSpec.ofChange fnTowersWrong)

/-- 'laws.FnExactLinked': WHATEVER THE INPUT: true; the input reads as it did. -/
def fnExactLinkedSpec : ChangeSpec := { name := "fnExactLinked", fn := fun _ => fun
  | [d1, d2, d3] => { results := [.lit (.bool true)], args := [d1, d2, d3] }
  | _ => none }
def fnExactLinkedRow : OpenClaim := { program := "ytmembegdbceooaagreat", sum := "56a09487914e1d8bda9855b823f894f39e464c40c7aca62fe8e2ee7a974de1a4", func := "loop.example/g00273/laws.FnExactLinked", spec := "fnExactLinked", inPlace := ["slices.overlaps[int64]"], unfollowed := true, recurses := true, apart := false }
def FnExactLinkedSaid : Prop := fnExactLinkedRow.holds Tryz.pinned (OpenSpec.ofChange fnExactLinkedSpec)

/-- ITS FALSE NEIGHBOUR: 'it returns false'. Refute it at one input. -/
def fnExactLinkedWrong : ChangeSpec := { name := "fnExactLinked", fn := fun _ => fun
  | [d1, d2, d3] => { results := [.lit (.bool false)], args := [d1, d2, d3] }
  | _ => none }
def FnExactLinkedWrongFalsely : Prop := fnExactLinkedRow.holds Tryz.pinned (OpenSpec.ofChange fnExactLinkedWrong)

/-- 'laws.FnExactRaised': WHATEVER THE INPUT: true; the input reads as it did. -/
def fnExactRaisedSpec : ChangeSpec := { name := "fnExactRaised", fn := fun _ => fun
  | [d1, d2] => { results := [.lit (.bool true)], args := [d1, d2] }
  | _ => none }
def fnExactRaisedRow : OpenClaim := { program := "ytmembegdbceooaagreat", sum := "56a09487914e1d8bda9855b823f894f39e464c40c7aca62fe8e2ee7a974de1a4", func := "loop.example/g00273/laws.FnExactRaised", spec := "fnExactRaised", inPlace := ["sync/atomic.LoadUint32", "(*internal/sync.Mutex).Lock", "internal/race.Disable", "sync/atomic.CompareAndSwapInt32", "internal/race.Enable", "internal/race.Acquire", "(*internal/sync.Mutex).lockSlow", "internal/sync.runtime_canSpin", "internal/sync.runtime_doSpin", "internal/sync.throw", "internal/sync.runtime_nanotime", "internal/sync.runtime_SemacquireMutex", "sync/atomic.AddInt32", "(*internal/sync.Mutex).Unlock", "internal/race.ReleaseMerge", "(*internal/sync.Mutex).unlockSlow", "internal/sync.fatal", "internal/sync.runtime_Semrelease", "sync/atomic.StoreUint32", "slices.overlaps[int64]"], unfollowed := true, recurses := true, apart := false }
def FnExactRaisedSaid : Prop := fnExactRaisedRow.holds Tryz.pinned (OpenSpec.ofChange fnExactRaisedSpec)

/-- ITS FALSE NEIGHBOUR: 'it returns false'. Refute it at one input. -/
def fnExactRaisedWrong : ChangeSpec := { name := "fnExactRaised", fn := fun _ => fun
  | [d1, d2] => { results := [.lit (.bool false)], args := [d1, d2] }
  | _ => none }
def FnExactRaisedWrongFalsely : Prop := fnExactRaisedRow.holds Tryz.pinned (OpenSpec.ofChange fnExactRaisedWrong)

/-- 'laws.FnExactAsked': WHATEVER THE INPUT: true; the input reads as it did. -/
def fnExactAskedSpec : ChangeSpec := { name := "fnExactAsked", fn := fun _ => fun
  | [d1, d2, d3] => { results := [.lit (.bool true)], args := [d1, d2, d3] }
  | _ => none }
def fnExactAskedRow : OpenClaim := { program := "ytmembegdbceooaagreat", sum := "56a09487914e1d8bda9855b823f894f39e464c40c7aca62fe8e2ee7a974de1a4", func := "loop.example/g00273/laws.FnExactAsked", spec := "fnExactAsked", inPlace := ["slices.overlaps[loop.example/g00273/impl.sight]"], unfollowed := true, recurses := true, apart := false }
def FnExactAskedSaid : Prop := fnExactAskedRow.holds Tryz.pinned (OpenSpec.ofChange fnExactAskedSpec)

/-- ITS FALSE NEIGHBOUR: 'it returns false'. Refute it at one input. -/
def fnExactAskedWrong : ChangeSpec := { name := "fnExactAsked", fn := fun _ => fun
  | [d1, d2, d3] => { results := [.lit (.bool false)], args := [d1, d2, d3] }
  | _ => none }
def FnExactAskedWrongFalsely : Prop := fnExactAskedRow.holds Tryz.pinned (OpenSpec.ofChange fnExactAskedWrong)

/- THE SECOND FORM. 'bulk': how many values and letters a reading holds, each counted each time it is reached (what is shared counts as often as it is met; a slice's spare places count too). A statement '..UptoSaid' is the law's where the arguments, and the package variables that the reading takes, are together of bulk at most 1048576: NARROWER than '..Said'. Prove '..Said' where nothing that the law and all that it calls make is longer than what came in: it says more and counts as full. Else prove '..UptoSaid'. A law counts once. -/
mutual
def uptoBulk {H : Type} : DataW H → Nat
  | .lit (.string bytes) => bytes.length + 1
  | .lit _ => 1
  | .nil => 1
  | .ptr d => uptoBulk d + 1
  | .slice elems spare => uptoBulkAll elems + uptoBulkAll spare + 1
  | .agg parts => uptoBulkAll parts + 1
  | .iface _ d => uptoBulk d + 1
  | .map entries => uptoBulkEntries entries + 1
  | .held _ => 1
def uptoBulkAll {H : Type} : List (DataW H) → Nat
  | [] => 0
  | d :: r => uptoBulk d + uptoBulkAll r
def uptoBulkEntries {H : Type} : List (Lit × DataW H) → Nat
  | [] => 0
  | x :: r => uptoBulkEntry x + uptoBulkEntries r
def uptoBulkEntry {H : Type} : Lit × DataW H → Nat
  | (.string bytes, d) => bytes.length + uptoBulk d + 1
  | (_, d) => uptoBulk d + 1
 end
def uptoSmall : (H : Type) → List (DataW H) → Bool := fun _ ds => decide (uptoBulkAll ds ≤ 1048576)
def OpenSpec.upto (s : _root_.Go.ChangeSpec) : _root_.Go.OpenSpec := { _root_.Go.OpenSpec.ofChange s with cond := some uptoSmall }

/-- 'laws.FnWebs', WHERE WHAT IT READS IS OF BULK AT MOST 1048576: true; the input reads as it did. -/
def fnWebsUptoRow : OpenClaim := { program := "ytmembegdbceooaagreat", sum := "56a09487914e1d8bda9855b823f894f39e464c40c7aca62fe8e2ee7a974de1a4", func := "loop.example/g00273/laws.FnWebs", spec := "fnWebs", inPlace := ["slices.overlaps[int64]", "slices.overlaps[loop.example/g00273/impl.sight]"], unfollowed := true, recurses := true, apart := false, narrowed := true }
def FnWebsUptoSaid : Prop := fnWebsUptoRow.holds Tryz.pinned (OpenSpec.upto fnWebsSpec)

/-- 'laws.FnTowers', WHERE WHAT IT READS IS OF BULK AT MOST 1048576: true; the input reads as it did. -/
def fnTowersUptoRow : OpenClaim := { program := "ytmembegdbceooaagreat", sum := "56a09487914e1d8bda9855b823f894f39e464c40c7aca62fe8e2ee7a974de1a4", func := "loop.example/g00273/laws.FnTowers", spec := "fnTowers", inPlace := ["sync/atomic.LoadUint32", "(*internal/sync.Mutex).Lock", "internal/race.Disable", "sync/atomic.CompareAndSwapInt32", "internal/race.Enable", "internal/race.Acquire", "(*internal/sync.Mutex).lockSlow", "internal/sync.runtime_canSpin", "internal/sync.runtime_doSpin", "internal/sync.throw", "internal/sync.runtime_nanotime", "internal/sync.runtime_SemacquireMutex", "sync/atomic.AddInt32", "(*internal/sync.Mutex).Unlock", "internal/race.ReleaseMerge", "(*internal/sync.Mutex).unlockSlow", "internal/sync.fatal", "internal/sync.runtime_Semrelease", "sync/atomic.StoreUint32", "slices.overlaps[int64]", "slices.overlaps[loop.example/g00273/impl.sight]"], unfollowed := true, recurses := true, apart := false, narrowed := true }
def FnTowersUptoSaid : Prop := fnTowersUptoRow.holds Tryz.pinned (OpenSpec.upto fnTowersSpec)

/-- 'laws.FnExactLinked', WHERE WHAT IT READS IS OF BULK AT MOST 1048576: true; the input reads as it did. -/
def fnExactLinkedUptoRow : OpenClaim := { program := "ytmembegdbceooaagreat", sum := "56a09487914e1d8bda9855b823f894f39e464c40c7aca62fe8e2ee7a974de1a4", func := "loop.example/g00273/laws.FnExactLinked", spec := "fnExactLinked", inPlace := ["slices.overlaps[int64]"], unfollowed := true, recurses := true, apart := false, narrowed := true }
def FnExactLinkedUptoSaid : Prop := fnExactLinkedUptoRow.holds Tryz.pinned (OpenSpec.upto fnExactLinkedSpec)

/-- 'laws.FnExactRaised', WHERE WHAT IT READS IS OF BULK AT MOST 1048576: true; the input reads as it did. -/
def fnExactRaisedUptoRow : OpenClaim := { program := "ytmembegdbceooaagreat", sum := "56a09487914e1d8bda9855b823f894f39e464c40c7aca62fe8e2ee7a974de1a4", func := "loop.example/g00273/laws.FnExactRaised", spec := "fnExactRaised", inPlace := ["sync/atomic.LoadUint32", "(*internal/sync.Mutex).Lock", "internal/race.Disable", "sync/atomic.CompareAndSwapInt32", "internal/race.Enable", "internal/race.Acquire", "(*internal/sync.Mutex).lockSlow", "internal/sync.runtime_canSpin", "internal/sync.runtime_doSpin", "internal/sync.throw", "internal/sync.runtime_nanotime", "internal/sync.runtime_SemacquireMutex", "sync/atomic.AddInt32", "(*internal/sync.Mutex).Unlock", "internal/race.ReleaseMerge", "(*internal/sync.Mutex).unlockSlow", "internal/sync.fatal", "internal/sync.runtime_Semrelease", "sync/atomic.StoreUint32", "slices.overlaps[int64]"], unfollowed := true, recurses := true, apart := false, narrowed := true }
def FnExactRaisedUptoSaid : Prop := fnExactRaisedUptoRow.holds Tryz.pinned (OpenSpec.upto fnExactRaisedSpec)

/-- 'laws.FnExactAsked', WHERE WHAT IT READS IS OF BULK AT MOST 1048576: true; the input reads as it did. -/
def fnExactAskedUptoRow : OpenClaim := { program := "ytmembegdbceooaagreat", sum := "56a09487914e1d8bda9855b823f894f39e464c40c7aca62fe8e2ee7a974de1a4", func := "loop.example/g00273/laws.FnExactAsked", spec := "fnExactAsked", inPlace := ["slices.overlaps[loop.example/g00273/impl.sight]"], unfollowed := true, recurses := true, apart := false, narrowed := true }
def FnExactAskedUptoSaid : Prop := fnExactAskedUptoRow.holds Tryz.pinned (OpenSpec.upto fnExactAskedSpec)

end Rows
end Go.Proofs.YtmembegdbceooaaGreat
