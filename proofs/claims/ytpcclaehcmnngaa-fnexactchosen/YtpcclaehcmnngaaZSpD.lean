/-
  The given Chosen and BestRadius, whole.
-/
import Derived.Test.YtpcclaehcmnngaaZSpC
namespace Go.Proofs.Ytpcclaehcmnngaa
open Go Go.RowKit

theorem choL_good {ms : List Mk} {k : Nat} {kd : Int} (h : chosB ms k kd = true) : choL ms k kd = choT ms kd k := by
  rw [choL, if_pos h, Int.toNat_natCast]; rfl
theorem choL_short (ms : List Mk) (k kd : Int) : (choL ms k kd).length ≤ 60 := by
  rcases h : chosB ms k kd with _ | _
  · rw [choL_no h]; simp
  · obtain ⟨hm, ⟨h1, h2⟩, -⟩ := (chosB_iff ms k kd).1 h
    obtain ⟨n, rfl⟩ : ∃ n : Nat, k = n := ⟨k.toNat, by omega⟩
    rw [choL_good h, choT_len (by omega)]
    have := marksB_len hm
    omega

/-- Chosen as given: a row of its own. -/
theorem sChosen (ao : Option Addr) (cap : Nat) (ms : List Mk) (k kd : Int) (w : World) (hv : MView w ao ms) (hsm : MSmall ms) :
    Calls Try.prog 15 #[.slice ao ms.length cap, .int .i64 k, .int .i64 kd] w fun e w' => ∃ g c, e = .returned (.slice (some ⟨g, 0, none⟩) (choL ms k kd).length c) ∧ IRow w.heap.size w' g c (choL ms k kd) ∧ Below w.heap.size w w' := by
  rcases h : chosB ms k kd with _ | _
  · refine (sChosen_no ao cap ms k kd w hv hsm h).mono ?_
    rintro e w' ⟨g, rfl, hr, L⟩
    rw [choL_no h]
    exact ⟨g, 0, rfl, hr, L⟩
  · obtain ⟨hm, ⟨h1, h2⟩, hkd⟩ := (chosB_iff ms k kd).1 h
    obtain ⟨n, rfl⟩ : ∃ n : Nat, k = n := ⟨k.toNat, by omega⟩
    obtain ⟨b, off, rfl, hb, hs⟩ := MSeg.seg hv (by omega)
    refine (sChosen_in b off cap ms n kd w hb hs hsm hm (by omega) (by omega) hkd).mono ?_
    rintro e w' ⟨g, c, rfl, hr, L⟩
    rw [choL_good h]
    exact ⟨g, c, by rw [choT_len (by omega)], hr, L⟩

theorem bradI_no {ms : List Mk} {k kd : Int} (h : bradB ms k kd = false) : bradI ms k kd = -1 := by rw [bradI, h]; rfl
theorem bradB_cho {ms : List Mk} {k kd : Int} (h : chosB ms k kd = false) : bradB ms k kd = false := by simp [bradB, h]
theorem bradB_many {ms : List Mk} {k kd : Int} (h : ¬ ms.length ≤ 8) : bradB ms k kd = false := by simp [bradB]; omega
theorem bradI_good {ms : List Mk} {k : Nat} {kd : Int} (h : chosB ms k kd = true) (h8 : ms.length ≤ 8) : bradI ms k kd = zBestI ms kd k [] 0 := by
  obtain ⟨hm, -, hkd⟩ := (chosB_iff ms k kd).1 h
  rw [bradI, if_pos (by simp [bradB, h, h8]), Int.toNat_natCast, zBestI_eq hm kd hkd k [] 0 (by simp)]
  rfl

set_option maxRecDepth 100000 in
set_option maxHeartbeats 1000000 in
theorem sBestR (ao : Option Addr) (cap : Nat) (ms : List Mk) (k kd : Int) (w : World) (hv : MView w ao ms) (hsm : MSmall ms) :
    Calls Try.prog 13 #[.slice ao ms.length cap, .int .i64 k, .int .i64 kd] w fun e w' => e = .returned (.int .i64 (bradI ms k kd)) ∧ Below w.heap.size w w' := by
  have HC := hidP (sMarks ao cap ms w hv hsm)
  have HI := fun w => hidP (sIn k 1 ms.length w)
  have HK := fun w => hidP (sKind kd w)
  have hn := hsm.1
  have HE : Hid (∀ w1, (∃ n, w1 = w.drewN n) → Below w.heap.size w w1) := fun w1 ⟨n, e⟩ => by rw [e]; exact below_drewN (Below.refl _ _) n
  rcases hm : marksB ms with _ | _
  · have HV := hidP (bradI_no (bradB_cho (k := k) (kd := kd) (chosB_marks hm)))
    rw [hm] at HC
    clear hv hsm hm
    go_enter Try.func13, Try.ntmps13
    go_wp2_with fail
    refine HC.out.mono ?_
    rintro e w1 ⟨rfl, hw1⟩
    have HX := hidP (HE.out w1 hw1)
    clear hw1 HE
    go_wp2_with fail
    go_ret
    exact ⟨ret_int HV.out.symm, HX.out⟩
  · rw [hm] at HC
    by_cases h8 : ms.length ≤ 8
    · have hq8 : ¬ ((ms.length : Int) > 8) := by omega
      rcases caseB ms k kd with h | ⟨h, h2⟩ | ⟨h, h2, h3⟩ | ⟨h, h2, h3⟩
      · rw [hm] at h; cases h
      · have HV := hidP (bradI_no (bradB_cho (k := k) (kd := kd) (chosB_count h2)))
        rw [h2] at HI
        clear hv hsm hm h h2 h8
        go_enter Try.func13, Try.ntmps13
        go_wp2_with fail
        refine HC.out.mono ?_
        rintro e w1 ⟨rfl, hw1⟩
        have HX := hidP (HE.out w1 hw1)
        clear hw1 HE
        go_wp2_with fail
        refine (HI _).out.mono ?_
        rintro e w2 ⟨rfl, hw2⟩
        subst w2
        go_wp2_with fail
        go_ret
        exact ⟨ret_int HV.out.symm, HX.out⟩
      · have HV := hidP (bradI_no (bradB_cho (ms := ms) (k := k) (kd := kd) (chosB_kind h3)))
        rw [h2] at HI
        rw [h3] at HK
        clear hv hsm hm h h2 h8 h3
        go_enter Try.func13, Try.ntmps13
        go_wp2_with fail
        refine HC.out.mono ?_
        rintro e w1 ⟨rfl, hw1⟩
        have HX := hidP (HE.out w1 hw1)
        clear hw1 HE
        go_wp2_with fail
        refine (HI _).out.mono ?_
        rintro e w2 ⟨rfl, hw2⟩
        subst w2
        go_wp2_with fail
        refine (HK _).out.mono ?_
        rintro e w2 ⟨rfl, hw2⟩
        subst w2
        go_wp2_with fail
        go_ret
        exact ⟨ret_int HV.out.symm, HX.out⟩
      · obtain ⟨q1, q2⟩ := (inR_iff k 1 ms.length).1 h2
        obtain ⟨n, rfl⟩ : ∃ n : Nat, k = n := ⟨k.toNat, by omega⟩
        have HV := hidP (bradI_good (chosB_good h h2 h3) h8)
        rw [h2] at HI
        rw [h3] at HK
        have HB : Hid (∀ w1, Below w.heap.size w w1 → Calls Try.prog 46 #[.slice ao ms.length cap, .slice (some ⟨w1.heap.size, 0, none⟩) 0 0, .int .i64 0, .int .i64 n, .int .i64 kd] (w1.alloc (.cells #[] 2)) fun e w' => e = .returned (.int .i64 (zBestI ms kd n [] 0)) ∧ Below w.heap.size w w') := fun w1 L1 => by
          have LA := L1.alloc L1.size (.cells #[] 2)
          refine (sBest ao cap ms kd hm hsm n [] 0 (some ⟨w1.heap.size, 0, none⟩) 0 (w1.alloc (.cells #[] 2)) (hv.next LA) (Or.inl rfl) (by simp) (Nat.zero_le _) (by simp; omega)).mono ?_
          rintro e w' ⟨rfl, L⟩
          exact ⟨rfl, chain LA L⟩
        clear hv hsm hm h h2 h8 h3 q1 q2
        go_enter Try.func13, Try.ntmps13
        go_wp2_with fail
        refine HC.out.mono ?_
        rintro e w1 ⟨rfl, hw1⟩
        have HX := hidP (HE.out w1 hw1)
        clear hw1 HE
        go_wp2_with fail
        refine (HI _).out.mono ?_
        rintro e w2 ⟨rfl, hw2⟩
        subst w2
        go_wp2_with fail
        refine (HK _).out.mono ?_
        rintro e w2 ⟨rfl, hw2⟩
        subst w2
        go_wp2_with fail
        refine (HB.out _ HX.out).mono ?_
        rintro e w3 ⟨rfl, L3⟩
        go_wp2_with fail
        go_ret
        exact ⟨ret_int HV.out.symm, L3⟩
    · have HV := hidP (bradI_no (bradB_many (k := k) (kd := kd) h8))
      have hq8 : ((ms.length : Int) > 8) := by omega
      clear hv hsm hm h8
      go_enter Try.func13, Try.ntmps13
      go_wp2_with fail
      refine HC.out.mono ?_
      rintro e w1 ⟨rfl, hw1⟩
      have HX := hidP (HE.out w1 hw1)
      clear hw1 HE
      go_wp2_with fail
      go_ret
      exact ⟨ret_int HV.out.symm, HX.out⟩

end Go.Proofs.Ytpcclaehcmnngaa
