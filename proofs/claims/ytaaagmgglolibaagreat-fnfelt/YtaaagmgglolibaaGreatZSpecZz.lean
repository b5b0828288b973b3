import Derived.Test.YtaaagmgglolibaaGreatMathZz
import Derived.Test.YtaaagmgglolibaaGreatBetZz
set_option maxHeartbeats 400000
namespace Go.Proofs.YtaaagmgglolibaaGreat
open Go Go.RowKit
theorem ZgJ {ms : List Mk} {id : Int} {m : Nat} (h : 0 <= Z2 ms id m) : ∀ n, m <= n -> Z2 ms id n = Z2 ms id m := by
 intro n hn
 induction n with
 | zero => rw [show m = 0 by omega]
 | succ n ih =>
   rcases Nat.lt_or_ge m (n + 1) with h1 | h1
   · have e := ih (by omega)
     simp only [Z2]
     rw [e, if_pos h]
   · rw [show m = n + 1 by omega]
theorem ZhV {ms : List Mk} {id : Int} {k : Nat} (hk : k < ms.length) (h : Z2 ms id k = -1) (e : mid ms k = id) : Zk ms id = k := by
 have h1 : Z2 ms id (k + 1) = k := by simp only [Z2]; rw [h, if_neg (by omega), if_pos e]
 have h2 := ZgJ (ms := ms) (id := id) (m := k + 1) (by omega) ms.length (by omega)
 unfold Zk
 omega
theorem ZgK {ms : List Mk} {id : Int} {k : Nat} (h : Z2 ms id k = -1) (e : ¬ mid ms k = id) : Z2 ms id (k + 1) = -1 := by
 simp only [Z2]; rw [h, if_neg (by omega), if_neg e]
theorem ZcM (ao : Option Addr) (cap : Nat) (ms : List Mk) (id : Int) (w : World) (hv : Zw w ao ms) (hn : ms.length <= 1048576) :
 Calls Tryz.prog 116 #[.slice ao ms.length cap, .int .i64 id] w fun e w' => e = .returned (.int .i64 (Zk ms id)) /\ w' = w := by
 go_enter Tryz.func116, Tryz.ntmps116
 go_wp2_with fail
 go_loop [5] (fun i => ∃ k : Nat, k <= ms.length /\ i = .int .i64 k /\ Z2 ms id k = -1) (fun i => ms.length - (intOf i).toNat)
 case atStart => exact ⟨0, Nat.zero_le _, rfl, rfl⟩
 case round =>
  obtain ⟨k, hk, rfl, hno⟩ := hrel
  have HN := Za hno
  clear hno
  by_cases hlt : k < ms.length
  · obtain ⟨b, off, rfl, hb, hs⟩ := ZaW.seg hv (by omega)
    have hc := (hs.at hlt).1
    have hi0 : (0 : Int) <= (k : Int) := Int.natCast_nonneg _
    have hi1 : (k : Int) < (ms.length : Int) := by omega
    clear hs
    by_cases he : mid ms k = id
    · have HV := Za (ZhV hlt HN.out he)
      have heb : (mid ms k == id) = true := by simp [he]
      clear he
      go_wp2_with fail
      go_ret
      exact ⟨ZV HV.out.symm, rfl⟩
    · have HV := Za (ZgK HN.out he)
      have heb : (mid ms k == id) = false := by simp [he]
      clear he
      go_wp2_with fail
      go_round
      case rel => exact ⟨k + 1, by omega, by go_num, HV.out⟩
      case measure => simp [intOf]; omega
  · go_wp2_with fail
    go_ret
    obtain rfl : k = ms.length := by omega
    exact ⟨ZV HN.out.symm, rfl⟩
end Go.Proofs.YtaaagmgglolibaaGreat
