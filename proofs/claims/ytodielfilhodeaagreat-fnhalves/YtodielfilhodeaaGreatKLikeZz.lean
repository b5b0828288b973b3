/-
  The named laws' helpers likeMark and likeKnots: of two rows that read as the same knots they say so.
-/
import Derived.Test.YtodielfilhodeaaGreatKTopZz
import Derived.Test.YtodielfilhodeaaGreatMovedSZz
namespace Go.Proofs.YtodielfilhodeaaGreat
open Go Go.RowKit

set_option maxRecDepth 100000 in
set_option maxHeartbeats 1000000 in
theorem likeMK (m : Mk) (ao ao' : Option Addr) (cap cap' : Nat) (w : World) (hv : View w ao m.2) (hv' : View w ao' m.2) (hn : m.2.length ≤ 1048576) :
    Calls Tryz.prog 61 #[.agg #[.int .i64 m.1, .slice ao m.2.length cap], .agg #[.int .i64 m.1, .slice ao' m.2.length cap']] w fun e w' => e = .returned (.bool true) ∧ Below w.heap.size w w' := by
  have L0 : Below w.heap.size w ((w.alloc (.cells #[.int .i64 m.1, .slice ao m.2.length cap] 40)).alloc (.cells #[.int .i64 m.1, .slice ao' m.2.length cap'] 40)) :=
    ((Below.refl _ _).alloc (Nat.le_refl _) _).alloc (by simp) _
  have hb : (m.1 == m.1) = true := by simp
  have hself : decide (m.2 = m.2) = true := by simp
  have HL := hidP (likeS ao ao' cap cap' m.2 m.2 _ (hv.next L0) (hv'.next L0) hn)
  rw [hself] at HL
  clear hv hv' hself
  go_enter Tryz.func61, Tryz.ntmps61
  go_wp2_with fail
  refine HL.out.mono ?_
  rintro e w1 ⟨rfl, n1, rfl⟩
  go_wp2_with fail
  go_ret
  exact ⟨rfl, below_drewN L0 _⟩

theorem likeKnS_nil (ao ao' : Option Addr) (cap cap' : Nat) (w : World) :
    Calls Tryz.prog 12 #[.slice ao 0 cap, .slice ao' 0 cap'] w fun e w' => e = .returned (.bool true) ∧ w' = w := by
  go_enter Tryz.func12, Tryz.ntmps12
  go_wp2
  refine wp_loop_rounds 1 ?_
  rw [rounds_succ]
  go_wp2
  go_ret
  exact ⟨rfl, rfl⟩

set_option maxRecDepth 100000 in
set_option maxHeartbeats 4000000 in
theorem likeKnS (ao ao' : Option Addr) (cap cap' : Nat) (ks : List Kn) (w : World) (hv : KView w ao ks) (hv' : KView w ao' ks) (hsm : KSmall ks) :
    Calls Tryz.prog 12 #[.slice ao ks.length cap, .slice ao' ks.length cap'] w fun e w' => e = .returned (.bool true) ∧ Below w.heap.size w w' := by
  rcases hv with rfl | ⟨b, off, rfl, hb, hs⟩
  · refine (likeKnS_nil ao ao' cap cap' w).mono ?_
    rintro e w' ⟨rfl, rfl⟩
    exact ⟨rfl, Below.refl _ _⟩
  · rcases hv' with rfl | ⟨b', off', rfl, hb', hs'⟩
    · refine (likeKnS_nil _ ao' cap cap' w).mono ?_
      rintro e w' ⟨rfl, rfl⟩
      exact ⟨rfl, Below.refl _ _⟩
    · obtain ⟨hn, hat⟩ := hsm
      have hlb : ((ks.length : Int) != (ks.length : Int)) = false := by simp
      have HS := hidP (And.intro hs hs')
      clear hs hs'
      go_enter Tryz.func12, Tryz.ntmps12
      go_wp2
      go_loopw [5] (fun i wr => ∃ k : Nat, k ≤ ks.length ∧ i = .int .i64 k ∧ Below w.heap.size w wr) (fun i _ => ks.length - (intOf i).toNat)
      case atStart => exact ⟨0, Nat.zero_le _, rfl, Below.refl _ _⟩
      case round =>
        obtain ⟨k, hk, rfl, L⟩ := hrel
        by_cases hlt : k < ks.length
        · obtain ⟨c0, ⟨ao, ca, c1, hv⟩, c2, c3, c4⟩ := (HS.out.1 k hlt).below hb L
          obtain ⟨d0, ⟨ao', ca', d1, hv'⟩, d2, d3, d4⟩ := (HS.out.2 k hlt).below hb' L
          have hi0 : (0 : Int) ≤ (k : Int) := Int.natCast_nonneg _
          have hi1 : (k : Int) < (ks.length : Int) := by omega
          have hz := L.size
          have hbw : b < wr.heap.size := by omega
          have hbw' : b' < wr.heap.size := by omega
          have HC := hidP (likeMK (knth ks k).1 ao ao' ca ca' wr.drew hv hv' (hat k))
          have HLL := hidP L
          have n1 : ((knth ks k).2.1 != (knth ks k).2.1) = false := by simp
          have n2 : ((knth ks k).2.2.1 != (knth ks k).2.2.1) = false := by simp
          have n3 : ((knth ks k).2.2.2 != (knth ks k).2.2.2) = false := by simp
          have HK : Hid (∀ w', Below wr.heap.size wr w' → (w'.cell? ⟨b, off + k * 5, none⟩ = some (.int .i64 (knth ks k).1.1) ∧ w'.cell? ⟨b, off + k * 5 + 1, none⟩ = some (.slice ao (knth ks k).1.2.length ca) ∧ w'.cell? ⟨b, off + k * 5 + 2, none⟩ = some (.int .i64 (knth ks k).2.1) ∧ w'.cell? ⟨b, off + k * 5 + 3, none⟩ = some (.int .i64 (knth ks k).2.2.1) ∧ w'.cell? ⟨b, off + k * 5 + 4, none⟩ = some (.int .i64 (knth ks k).2.2.2)) ∧ w'.cell? ⟨b', off' + k * 5, none⟩ = some (.int .i64 (knth ks k).1.1) ∧ w'.cell? ⟨b', off' + k * 5 + 1, none⟩ = some (.slice ao' (knth ks k).1.2.length ca') ∧ w'.cell? ⟨b', off' + k * 5 + 2, none⟩ = some (.int .i64 (knth ks k).2.1) ∧ w'.cell? ⟨b', off' + k * 5 + 3, none⟩ = some (.int .i64 (knth ks k).2.2.1) ∧ w'.cell? ⟨b', off' + k * 5 + 4, none⟩ = some (.int .i64 (knth ks k).2.2.2)) := fun w' M =>
            ⟨⟨(M.cell (p := ⟨b, off + k * 5, none⟩) hbw).trans c0, (M.cell (p := ⟨b, off + k * 5 + 1, none⟩) hbw).trans c1, (M.cell (p := ⟨b, off + k * 5 + 2, none⟩) hbw).trans c2, (M.cell (p := ⟨b, off + k * 5 + 3, none⟩) hbw).trans c3, (M.cell (p := ⟨b, off + k * 5 + 4, none⟩) hbw).trans c4⟩, (M.cell (p := ⟨b', off' + k * 5, none⟩) hbw').trans d0, (M.cell (p := ⟨b', off' + k * 5 + 1, none⟩) hbw').trans d1, (M.cell (p := ⟨b', off' + k * 5 + 2, none⟩) hbw').trans d2, (M.cell (p := ⟨b', off' + k * 5 + 3, none⟩) hbw').trans d3, (M.cell (p := ⟨b', off' + k * 5 + 4, none⟩) hbw').trans d4⟩
          clear L hv hv'
          generalize knth ks k = kn at *
          go_wp2_with fail
          go_region_held3 (fun w' => (w'.cell? ⟨b, off + k * 5, none⟩ = some (.int .i64 kn.1.1) ∧ w'.cell? ⟨b, off + k * 5 + 1, none⟩ = some (.slice ao kn.1.2.length ca) ∧ w'.cell? ⟨b, off + k * 5 + 2, none⟩ = some (.int .i64 kn.2.1) ∧ w'.cell? ⟨b, off + k * 5 + 3, none⟩ = some (.int .i64 kn.2.2.1) ∧ w'.cell? ⟨b, off + k * 5 + 4, none⟩ = some (.int .i64 kn.2.2.2)) ∧ w'.cell? ⟨b', off' + k * 5, none⟩ = some (.int .i64 kn.1.1) ∧ w'.cell? ⟨b', off' + k * 5 + 1, none⟩ = some (.slice ao' kn.1.2.length ca') ∧ w'.cell? ⟨b', off' + k * 5 + 2, none⟩ = some (.int .i64 kn.2.1) ∧ w'.cell? ⟨b', off' + k * 5 + 3, none⟩ = some (.int .i64 kn.2.2.1) ∧ w'.cell? ⟨b', off' + k * 5 + 4, none⟩ = some (.int .i64 kn.2.2.2))
            (first
              | exact HK.out _ (Below.refl _ _).drew
              | exact HK.out _ ((Below.refl _ _).drew.trans L1)
              | go_keep)
            (first
              | (go_at_call 61; refine HC.out.mono ?_; rintro e w1 ⟨rfl, L1⟩))
          have LF := hidP (HLL.out.drew.trans (L1.mono hz))
          clear L1 HC HK
          go_wp2_with fail
          go_roundw
          case rel => exact ⟨k + 1, by omega, by go_num, LF.out⟩
          case measure => simp [intOf]; omega
        · go_wp2
          go_ret
          exact ⟨rfl, L⟩

end Go.Proofs.YtodielfilhodeaaGreat
