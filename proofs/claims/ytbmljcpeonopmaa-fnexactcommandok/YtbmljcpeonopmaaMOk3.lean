/-
  The program's MarksOk answers marksB.
-/
import Derived.Test.YtbmljcpeonopmaaMOk2
namespace Go.Proofs.Ytbmljcpeonopmaa
open Go Go.RowKit

theorem goodM_iff (m : Mk) : goodM m = true ↔ 1 ≤ m.1 ∧ m.1 ≤ 1000000 ∧ okB m.2 = true := by simp [goodM, inR, and_assoc]
theorem followsM_iff (m l : Mk) : followsM m l = true ↔ l.1 < m.1 ∧ m.2.length = l.2.length := by simp [followsM]
theorem mOk_zero {ms : List Mk} (h : goodM (mnth ms 0) = true) : mOkAt ms 0 = true := by
  rw [goodM_iff] at h
  exact (mOkAt_iff ms 0).2 ⟨h.1, h.2.1, h.2.2, rfl, Or.inl rfl⟩
theorem mOk_next {ms : List Mk} {j : Nat} (hp : mOkAt ms j = true) (h : goodM (mnth ms (j + 1)) = true) (hf : followsM (mnth ms (j + 1)) (mnth ms j) = true) : mOkAt ms (j + 1) = true := by
  rw [goodM_iff] at h
  rw [followsM_iff] at hf
  have := (mOkAt_iff ms j).1 hp
  exact (mOkAt_iff ms (j + 1)).2 ⟨h.1, h.2.1, h.2.2, hf.2.trans this.2.2.2.1, Or.inr hf.1⟩
theorem mOk_bad {ms : List Mk} {k : Nat} (h : goodM (mnth ms k) = false) : mOkAt ms k = false :=
  mOkAt_false ms k fun hh => by rw [(goodM_iff (mnth ms k)).2 ⟨hh.1, hh.2.1, hh.2.2.1⟩] at h; cases h
theorem mOk_apart {ms : List Mk} {j : Nat} (hp : mOkAt ms j = true) (hf : followsM (mnth ms (j + 1)) (mnth ms j) = false) : mOkAt ms (j + 1) = false :=
  mOkAt_false ms (j + 1) fun hh => by
    have := (mOkAt_iff ms j).1 hp
    have h5 := hh.2.2.2.2
    simp at h5
    rw [(followsM_iff (mnth ms (j + 1)) (mnth ms j)).2 ⟨h5, hh.2.2.2.1.trans this.2.2.2.1.symm⟩] at hf
    cases hf

set_option maxHeartbeats 400000 in
theorem iMarks_long (ao : Option Addr) (n cap : Nat) (w : World) (h : 60 < n) (hn : n ≤ 1048576) :
    Calls Try.prog 70 #[.slice ao n cap] w fun e w' => e = .returned (.bool false) ∧ w' = w := by
  go_enter Try.func70, Try.ntmps70
  go_wp2
  go_ret
  exact ⟨rfl, rfl⟩

set_option maxHeartbeats 400000 in
theorem iMarks_nil (ao : Option Addr) (cap : Nat) (w : World) :
    Calls Try.prog 70 #[.slice ao 0 cap] w fun e w' => e = .returned (.bool true) ∧ w' = w := by
  go_enter Try.func70, Try.ntmps70
  go_wp2
  refine wp_loop_rounds 1 ?_
  rw [rounds_succ]
  go_wp2
  go_ret
  exact ⟨rfl, rfl⟩

set_option maxHeartbeats 2000000 in
theorem iMarks_seg (b off cap : Nat) (ms : List Mk) (w : World) (hs : MSeg w b off ms) (hb : b < w.heap.size) (hsm : MSmall ms) (h60 : ms.length ≤ 60) :
    Calls Try.prog 70 #[.slice (some ⟨b, off, none⟩) ms.length cap] w fun e w' => e = .returned (.bool (marksB ms)) ∧ Below w.heap.size w w' := by
  obtain ⟨hn, hat⟩ := hsm
  have H60 := hidP h60
  go_enter Try.func70, Try.ntmps70
  go_wp2
  go_loopw [10] (fun i wr => ∃ k : Nat, k ≤ ms.length ∧ i = .int .i64 k ∧ (∀ j, j < k → mOkAt ms j = true) ∧ Below w.heap.size w wr) (fun i _ => ms.length - (intOf i).toNat)
  case atStart => exact ⟨0, Nat.zero_le _, rfl, fun j hj => by omega, Below.refl _ _⟩
  case round =>
    obtain ⟨k, hk, rfl, hall, L⟩ := hrel
    have HA := hidP hall
    clear hall
    by_cases hlt : k < ms.length
    · obtain ⟨hc0, ao, ca, hc1, hv⟩ := (hs.below hb (Nat.le_refl _) L).at hlt
      have hz := L.size
      have L0 : Below wr.heap.size wr (wr.alloc (.cells #[.int .i64 (mid ms k), .slice ao (mat ms k).length ca] 76)) := (Below.refl _ _).alloc (Nat.le_refl _) _
      have hv0 := View.next hv L0
      have c0 : (wr.alloc (.cells #[.int .i64 (mid ms k), .slice ao (mat ms k).length ca] 76)).cell? ⟨wr.heap.size, 0, none⟩ = some (.int .i64 (mid ms k)) := by go_simp
      have c1 : (wr.alloc (.cells #[.int .i64 (mid ms k), .slice ao (mat ms k).length ca] 76)).cell? ⟨wr.heap.size, 1, none⟩ = some (.slice ao (mat ms k).length ca) := by go_simp
      have hsz : (wr.alloc (.cells #[.int .i64 (mid ms k), .slice ao (mat ms k).length ca] 76)).heap.size = wr.heap.size + 1 := by simp
      have HC := hidP (iMarkOk (mnth ms k) ao ca _ hv0 (hat k))
      have HLL := hidP (L.trans (L0.mono hz))
      clear L hv hv0 L0
      go_wp2_with fail
      refine HC.out.mono ?_
      rintro e w1 ⟨rfl, L1⟩
      replace c0 := (L1.cell (p := ⟨wr.heap.size, 0, none⟩) (by simp)).trans c0
      replace c1 := (L1.cell (p := ⟨wr.heap.size, 1, none⟩) (by simp)).trans c1
      have L2 := hidP (HLL.out.trans (L1.mono (by omega)))
      have hz1 := L1.size
      rw [hsz] at hz1
      clear L1 HLL HC hsz hc0 hc1
      rcases hg : goodM (mnth ms k) with _ | _
      · go_wp2_with fail
        go_ret
        exact ⟨ret_bool (marksB_out hlt (mOk_bad hg)).symm, L2.out⟩
      · have HG := hidP hg
        rcases Nat.eq_zero_or_pos k with h0 | h0
        · subst h0
          have hgd : decide ((0 : Int) < 0) = false := by decide
          go_wp2_with fail
          go_quiet (fail)
          go_wp2_with fail
          go_roundw
          case rel => exact ⟨1, by omega, by go_num, fun j hj => by rw [show j = 0 by omega]; exact mOk_zero HG.out, below_drewN L2.out _⟩
          case measure => simp [intOf]; omega
        · obtain ⟨j, rfl⟩ : ∃ j, k = j + 1 := ⟨k - 1, by omega⟩
          obtain ⟨he0, ao', ca', he1, -⟩ := (hs.below hb (Nat.le_refl _) L2.out).at (i := j) (by omega)
          have hj0 : (0 : Int) ≤ (j : Int) := Int.natCast_nonneg _
          have hj1 : (j : Int) < (ms.length : Int) := by omega
          have hwr : IntKind.i64.wrap (((j + 1 : Nat) : Int) - 1) = j := by rw [IntWalk.i64_in _ ⟨by omega, by omega⟩]; omega
          have hwr2 : IntKind.i64.wrap ((j : Int) + 1 - 1) = j := by rw [IntWalk.i64_in _ ⟨by omega, by omega⟩]; omega
          have hwr3 : IntKind.i64.wrap (j : Int) = j := IntWalk.i64_in _ ⟨by omega, by omega⟩
          have hgd : (0 : Int) < ((j + 1 : Nat) : Int) := by omega
          have hgd2 : (0 : Int) < (j : Int) + 1 := by omega
          have hbw : b < w1.heap.size := by omega
          have HF := hidP (iFollows (mnth ms (j + 1)) (mnth ms j) ao ao' ca ca' w1.drew)
          go_wp2_with fail
          go_region_held3 (fun w' => w'.cell? ⟨wr.heap.size, 0, none⟩ = some (.int .i64 (mid ms (j + 1))) ∧ w'.cell? ⟨wr.heap.size, 1, none⟩ = some (.slice ao (mat ms (j + 1)).length ca) ∧ w'.cell? ⟨b, off + j * 2, none⟩ = some (.int .i64 (mid ms j)) ∧ w'.cell? ⟨b, off + j * 2 + 1, none⟩ = some (.slice ao' (mat ms j).length ca'))
            (first
              | go_keep
              | (refine ⟨(L3.cell (p := ⟨wr.heap.size, 0, none⟩) (by simp; omega)).trans c0, (L3.cell (p := ⟨wr.heap.size, 1, none⟩) (by simp; omega)).trans c1, (L3.cell (p := ⟨b, off + j * 2, none⟩) hbw).trans he0, (L3.cell (p := ⟨b, off + j * 2 + 1, none⟩) hbw).trans he1⟩))
            (first
              | (go_at_call 94; refine HF.out.mono ?_; rintro e w2 ⟨rfl, L3⟩))
          have LF := hidP (L2.out.drew.trans (L3.mono (by simp; omega)))
          clear L3
          rcases hf : followsM (mnth ms (j + 1)) (mnth ms j) with _ | _
          · go_wp2
            go_ret
            exact ⟨ret_bool (marksB_out hlt (mOk_apart (HA.out j (by omega)) hf)).symm, LF.out⟩
          · go_wp2
            go_roundw
            case rel => exact ⟨j + 1 + 1, by omega, by go_num, fun i hi => by
              rcases Nat.lt_or_ge i (j + 1) with h | h
              · exact HA.out i h
              · rw [show i = j + 1 by omega]; exact mOk_next (HA.out j (by omega)) HG.out hf, LF.out⟩
            case measure => simp [intOf]; omega
    · go_wp2
      go_ret
      obtain rfl : k = ms.length := by omega
      exact ⟨ret_bool (Eq.symm (marksB_mk H60.out HA.out)), L⟩

theorem iMarks (ao : Option Addr) (cap : Nat) (ms : List Mk) (w : World) (hv : MView w ao ms) (hsm : MSmall ms) :
    Calls Try.prog 70 #[.slice ao ms.length cap] w fun e w' => e = .returned (.bool (marksB ms)) ∧ Below w.heap.size w w' := by
  rcases Nat.lt_or_ge 60 ms.length with h | h
  · refine (iMarks_long ao ms.length cap w h hsm.1).mono ?_
    rintro e w' ⟨rfl, rfl⟩
    exact ⟨ret_bool (marksB_long h).symm, Below.refl _ _⟩
  · rcases hv with rfl | ⟨b, off, rfl, hb, hs⟩
    · refine (iMarks_nil ao cap w).mono ?_
      rintro e w' ⟨rfl, rfl⟩
      exact ⟨rfl, Below.refl _ _⟩
    · exact iMarks_seg b off cap ms w hs hb hsm h

end Go.Proofs.Ytbmljcpeonopmaa
