/-
  The given DrawShared, and the laws' own likeBox.
-/
import Derived.Test.YtodielfilhodeaaBDrawZz
import Derived.Test.YtodielfilhodeaaMovedSZz
namespace Go.Proofs.Ytodielfilhodeaa
open Go Go.RowKit

set_option maxHeartbeats 1000000 in
theorem likeX (a1 a2 b1 b2 : Option Addr) (c1 c2 d1 d2 : Nat) (lo hi lo' hi' : List Int) (w : World) (h1 : View w a1 lo) (h2 : View w a2 hi) (h3 : View w b1 lo') (h4 : View w b2 hi') (n1 : lo.length ≤ 1048576) (n2 : hi.length ≤ 1048576) :
    Calls Try.prog 20 #[.agg #[.slice a1 lo.length c1, .slice a2 hi.length c2], .agg #[.slice b1 lo'.length d1, .slice b2 hi'.length d2]] w fun e w' => e = .returned (.bool (decide (lo = lo') && decide (hi = hi'))) ∧ Below w.heap.size w w' := by
  obtain ⟨W, hW⟩ : ∃ W, W = (w.alloc (.cells #[.slice a1 lo.length c1, .slice a2 hi.length c2] 26)).alloc (.cells #[.slice b1 lo'.length d1, .slice b2 hi'.length d2] 26) := ⟨_, rfl⟩
  have hB : Below w.heap.size w W := by rw [hW]; exact below_alloc (alloc_below w _) _
  have k2 : W.cell? ⟨w.heap.size, 1, none⟩ = some (.slice a2 hi.length c2) := by rw [hW]; exact (Two.made0.alloc _).c1
  have k4 : W.cell? ⟨w.heap.size + 1, 1, none⟩ = some (.slice b2 hi'.length d2) := by rw [hW]; exact Two.made1.c1
  have HS := hidP (likeS a1 b1 c1 d1 lo lo' W (h1.next hB) (h3.next hB) n1)
  have HV := hidP (And.intro (h2.next hB) (h4.next hB))
  have HB := hidP hB
  clear hB h1 h2 h3 h4
  rcases he : decide (lo = lo') with _ | _
  · rw [he] at HS
    go_enter Try.func20, Try.ntmps20
    go_wp2_with fail
    rw [← hW]
    refine HS.out.mono ?_
    rintro e w2 ⟨rfl, n, hw2⟩
    have HB2 : Hid (Below w.heap.size w w2) := by rw [hw2]; exact below_drewN HB.out n
    clear hw2 hW k2 k4
    go_wp2_with fail
    go_ret
    exact ⟨by simp, HB2.out⟩
  · rw [he] at HS
    go_enter Try.func20, Try.ntmps20
    go_wp2_with fail
    rw [← hW]
    refine HS.out.mono ?_
    rintro e w2 ⟨rfl, n, hw2⟩
    have q2 : w2.cell? ⟨w.heap.size, 1, none⟩ = some (.slice a2 hi.length c2) := by rw [hw2]; exact k2
    have q4 : w2.cell? ⟨w.heap.size + 1, 1, none⟩ = some (.slice b2 hi'.length d2) := by rw [hw2]; exact k4
    have HS2 := hidP (likeS a2 b2 c2 d2 hi hi' w2 (by rw [hw2]; exact HV.out.1) (by rw [hw2]; exact HV.out.2) n2)
    have HB2 : Hid (Below w.heap.size w w2) := by rw [hw2]; exact below_drewN HB.out n
    clear hw2 HS k2 k4 hW
    go_wp2_with fail
    refine HS2.out.mono ?_
    rintro e w3 ⟨rfl, n3, hw3⟩
    have HB3 : Hid (Below w.heap.size w w3) := by rw [hw3]; exact below_drewN HB2.out n3
    clear hw3
    go_wp2_with fail
    go_ret
    exact ⟨by simp, HB3.out⟩

end Go.Proofs.Ytodielfilhodeaa
