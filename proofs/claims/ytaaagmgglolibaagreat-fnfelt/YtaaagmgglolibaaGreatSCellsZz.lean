import Derived.Test.YtaaagmgglolibaaGreatPutZz
import Derived.Test.YtaaagmgglolibaaGreatMathZz
import Derived.Test.YtaaagmgglolibaaGreatAppendZz
import Derived.Test.YtaaagmgglolibaaGreatArgsZz
import Derived.Lib.AppendZerosOnto
import Derived.Test.YtaaagmgglolibaaGreatBMarkZz
import Derived.Test.YtaaagmgglolibaaGreatBCopyZz
import Derived.Test.YtaaagmgglolibaaGreatLastZz
import Derived.Test.YtaaagmgglolibaaGreatMMarkZz
import Derived.Test.YtaaagmgglolibaaGreatFeHelpZz
import Derived.Test.YtaaagmgglolibaaGreatHSpecZz
import Derived.Deep.CutRange
set_option maxHeartbeats 400000
namespace Go.Proofs.YtaaagmgglolibaaGreat
open Go Go.RowKit
def Zb2 (f : Nat -> Value) (m : Nat) (v : Value) (i : Nat) : Value := if i = m then v else f i
end Go.Proofs.YtaaagmgglolibaaGreat
namespace Go.Proofs.YtaaagmgglolibaaGreat
open Go
end Go.Proofs.YtaaagmgglolibaaGreat
namespace Go.Proofs.YtaaagmgglolibaaGreat
open Go Go.RowKit
theorem ZnF (ao : Option Addr) (cap : Nat) (xs : List Int) (x : Int) (w : World) (hv : Zp w ao xs) (hn : xs.length <= 4194304) :
 Calls Tryz.prog 303 #[.slice ao xs.length cap, .int .i64 x] w fun e w' => (∃ r : Int, e = .returned (.int .i64 r) /\ decide (0 <= r) = ZY xs x) /\ w' = w := by
 go_enter Tryz.func303, Tryz.ntmps303
 go_wp2_with fail
 go_loop [8] (fun i => ∃ k : Nat, k <= xs.length /\ i = .int .i64 k /\ ∀ j, j < k -> nth xs j ≠ x) (fun i => xs.length - (intOf i).toNat)
 case atStart => exact ⟨0, Nat.zero_le _, rfl, fun j hj => by omega⟩
 case round =>
  obtain ⟨k, hk, rfl, hall⟩ := hrel
  have HA := Za hall
  clear hall
  by_cases hlt : k < xs.length
  · obtain ⟨b, off, rfl, hb, hs⟩ : ∃ b off, ao = some ⟨b, off, none⟩ /\ b < w.heap.size /\ Seg w b off xs := by
     rcases hv with h | h
     · subst h; simp at hlt
     · exact h
    have hc := hs k hlt
    by_cases he : nth xs k = x
    · have HV := Za (ZdZ hlt he)
      have heb : (x == nth xs k) = true := by simp [he]
      clear he
      go_wp2_with fail
      go_ret
      exact ⟨⟨(k : Int), rfl, by rw [HV.out]; simp⟩, rfl⟩
    · have heb : (x == nth xs k) = false := by simp; exact fun e => he e.symm
      have HE := Za he
      clear he
      go_wp2_with fail
      go_round
      case rel => exact ⟨k + 1, by omega, by go_num, fun j hj => by
       rcases Nat.lt_or_ge j k with h | h
       · exact HA.out j h
       · rw [show j = k by omega]; exact HE.out⟩
      case measure => simp [intOf]; omega
  · go_wp2_with fail
    go_ret
    obtain rfl : k = xs.length := by omega
    exact ⟨⟨-1, rfl, by rw [Zds HA.out]; rfl⟩, rfl⟩
theorem pHas (ao : Option Addr) (cap : Nat) (xs : List Int) (x : Int) (w : World) (hv : Zp w ao xs) (hn : xs.length <= 4194304) :
 Calls Tryz.prog 285 #[.slice ao xs.length cap, .int .i64 x] w fun e w' => e = .returned (.bool (ZY xs x)) /\ w' = w := by
 have HI := Za (ZnF ao cap xs x w hv hn)
 clear hv
 go_enter Tryz.func285, Tryz.ntmps285
 go_wp2_with fail
 refine HI.out.mono ?_
 rintro e w2 ⟨⟨r, rfl, hr⟩, hw⟩
 subst w2
 go_wp2_with fail
 go_ret
 exact ⟨Zb (by rw [<- hr]), rfl⟩
end Go.Proofs.YtaaagmgglolibaaGreat
