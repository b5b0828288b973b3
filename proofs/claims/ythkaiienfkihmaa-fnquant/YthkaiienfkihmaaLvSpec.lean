/-
  The given l1Rises and LevelsOk.
-/
import Derived.Test.YthkaiienfkihmaaLvMath
import Derived.Test.YthkaiienfkihmaaJRw
import Derived.BigQuiet
namespace Go.Proofs.Ythkaiienfkihmaa
open Go Go.RowKit Go.BigFrame

set_option maxRecDepth 100000 in
set_option maxHeartbeats 1000000 in
theorem sRises (ao : Option Addr) (cap : Nat) (xs : List Int) (w : World) (hv : View w ao xs) (hn : xs.length ≤ 1048576) :
    Calls Try.prog 53 #[.slice ao xs.length cap] w fun e w' => e = .returned (.bool (lvRise xs)) ∧ ∃ n, w' = w.drewN n := by
  go_enter Try.func53, Try.ntmps53
  go_wp2_with fail
  go_loopw [3] (fun i wr => ∃ j : Nat, (j + 1 ≤ xs.length ∨ j = 0) ∧ i = .int .i64 ((j : Int) + 1) ∧ (∀ t, t < j → nth xs t < nth xs (t + 1)) ∧ ∃ n, wr = w.drewN n) (fun i _ => xs.length + 1 - (intOf i).toNat)
  case atStart => exact ⟨0, Or.inr rfl, rfl, fun t ht => by omega, 0, rfl⟩
  case round =>
    obtain ⟨j, hj, rfl, hall, n, rfl⟩ := hrel
    have HA := hidP hall
    clear hall
    by_cases hlt : j + 1 < xs.length
    · obtain ⟨b, off, rfl, hb, hs⟩ : ∃ b off, ao = some ⟨b, off, none⟩ ∧ b < w.heap.size ∧ Seg w b off xs := by
        rcases hv with h | h
        · subst h; simp at hlt
        · exact h
      have c0 := hs j (by omega)
      have c1 := hs (j + 1) hlt
      have hw0 : IntKind.i64.wrap ((j : Int) + 1 - 1) = (j : Int) := by rw [IntWalk.i64_in _ ⟨by omega, by omega⟩]; omega
      have hi0 : (0 : Int) ≤ (j : Int) + 1 := by omega
      have hi1 : (j : Int) + 1 < (xs.length : Int) := by omega
      have hi2 : (0 : Int) ≤ (j : Int) := by omega
      have hi3 : (j : Int) < (xs.length : Int) := by omega
      have hww : IntKind.i64.wrap ((j : Int) + 1 + 1) = ((j + 1 : Nat) : Int) + 1 := by rw [IntWalk.i64_in _ ⟨by omega, by omega⟩]; omega
      have HNO := hidP (lvRise_no hlt)
      by_cases he : nth xs (j + 1) ≤ nth xs j
      · have HN := hidP (HNO.out he)
        go_wp2_with fail
        go_quiet (fail)
        go_wp2_with fail
        go_ret
        exact ⟨ret_bool (Eq.symm HN.out), n + nq, by simp⟩
      · have HE := hidP he
        go_wp2_with fail
        go_quiet (fail)
        go_wp2_with fail
        go_roundw
        case rel => exact ⟨j + 1, Or.inl (by omega), by first | rfl | (congr 1; omega), fun t ht => by
          rcases Nat.lt_or_ge t j with h | h
          · exact HA.out t h
          · obtain rfl : t = j := by omega
            have := HE.out
            omega, n + nq, by simp⟩
        case measure => simp [intOf]; omega
    · have hcond : ¬ ((j : Int) + 1 < (xs.length : Int)) := by omega
      have HN : Hid (lvRise xs = true) := (lvRise_iff xs).2 (fun t ht => HA.out t (by omega))
      go_wp2_with fail
      go_ret
      exact ⟨ret_bool (Eq.symm HN.out), n, rfl⟩

set_option maxRecDepth 100000 in
set_option maxHeartbeats 4000000 in
theorem sLevels_many (ao : Option Addr) (n cap : Nat) (w : World) (h : n < 1 ∨ 4 < n) (hn : n ≤ 1048576) :
    Calls Try.prog 23 #[.slice ao n cap] w fun e w' => e = .returned (.bool false) ∧ w' = w := by
  rcases h with h | h
  · have h1 : (n : Int) < 1 := by omega
    go_enter Try.func23, Try.ntmps23
    go_wp2_with fail
    go_ret
    exact ⟨rfl, rfl⟩
  · have h1 : ¬ (n : Int) < 1 := by omega
    have h2 : (n : Int) > 4 := by omega
    go_enter Try.func23, Try.ntmps23
    go_wp2_with fail
    go_ret
    exact ⟨rfl, rfl⟩

set_option maxRecDepth 100000 in
set_option maxHeartbeats 8000000 in
theorem sLevels_in (b off cap : Nat) (ls : List (List Int)) (w : World) (hs : CSeg w b off ls) (hsm : CSmall ls) (h1 : 1 ≤ ls.length) (h4 : ls.length ≤ 4) :
    Calls Try.prog 23 #[.slice (some ⟨b, off, none⟩) ls.length cap] w fun e w' => e = .returned (.bool (levB ls)) ∧ ∃ n, w' = w.drewN n := by
  have HS := hidP hs
  have HAT := hidP hsm.2
  have g1 : ¬ (ls.length : Int) < 1 := by omega
  have g2 : ¬ (ls.length : Int) > 4 := by omega
  clear hs hsm
  go_enter Try.func23, Try.ntmps23
  go_wp2_with fail
  clear g1 g2
  go_loopw [3] (fun i wr => ∃ k : Nat, k ≤ ls.length ∧ i = .int .i64 k ∧ (∀ j, j < k → lvOk (cn ls j) = true) ∧ ∃ n, wr = w.drewN n) (fun i _ => ls.length - (intOf i).toNat)
  case atStart => exact ⟨0, Nat.zero_le _, rfl, fun j hj => by omega, 0, rfl⟩
  case round =>
    obtain ⟨k, hk, rfl, hall, hw⟩ := hrel
    have HA := hidP hall
    have HW := hidP hw
    clear hall
    by_cases hlt : k < ls.length
    · obtain ⟨a, c, hcw, hva⟩ := HS.out k hlt
      have hc : wr.cell? ⟨b, off + k, none⟩ = some (.slice a (cn ls k).length c) := by obtain ⟨n, rfl⟩ := hw; exact hcw
      have hv : View wr a (cn ls k) := by obtain ⟨n, rfl⟩ := hw; exact View.drewN hva n
      have hat := HAT.out k
      have hi0 : (0 : Int) ≤ (k : Int) := Int.natCast_nonneg _
      have hi1 : (k : Int) < (ls.length : Int) := by omega
      have HNB := hidP (levB_no hlt)
      have HIF := hidP (lvOk_iff (cn ls k))
      clear hw hcw hva
      generalize hcl : cn ls k = l at *
      have HLL := hidP hcl
      clear hcl
      have HB : Hid (lvOk l = false → levB ls = false) := HNB.out
      by_cases e1 : l.length < 1
      · have f1 : decide ((l.length : Int) < 1) = true := by simp; omega
        have HNO : Hid (levB ls = false) := HB.out (by rcases e : lvOk l with _ | _; rfl; have := HIF.out.1 e; omega)
        clear e1 hv
        go_wp2_with fail
        refine wp_region_quiet_lit (by kernel_rfl) (by kernel_rfl) ?_
        try simp only [List.append_eq, List.cons_append, List.nil_append]
        repeat (go_big_quiet_step (fail))
        refine wpQuiet_nil ?_
        intro _ hw'
        obtain ⟨nq, hw''⟩ := hw'
        subst hw''
        go_wp2_with fail
        go_ret
        exact ⟨ret_bool (Eq.symm HNO.out), by obtain ⟨n, hn⟩ := HW.out; exact ⟨n + nq, by rw [hn]; simp⟩⟩
      · have f1 : decide ((l.length : Int) < 1) = false := by simp; omega
        obtain ⟨b2, off2, rfl, hb2, hs2⟩ : ∃ b off, a = some ⟨b, off, none⟩ ∧ b < wr.heap.size ∧ Seg wr b off l := by
          rcases hv with h | h
          · subst h; simp at e1
          · exact h
        by_cases e2 : 16 < l.length
        · have f2 : decide ((l.length : Int) > 16) = true := by simp; omega
          have HNO : Hid (levB ls = false) := HB.out (by rcases e : lvOk l with _ | _; rfl; have := HIF.out.1 e; omega)
          clear e1 e2 hv hs2
          go_wp2_with fail
          refine wp_region_quiet_lit (by kernel_rfl) (by kernel_rfl) ?_
          try simp only [List.append_eq, List.cons_append, List.nil_append]
          repeat (go_big_quiet_step (fail))
          refine wpQuiet_nil ?_
          intro _ hw'
          obtain ⟨nq, hw''⟩ := hw'
          subst hw''
          go_wp2_with fail
          go_ret
          exact ⟨ret_bool (Eq.symm HNO.out), by obtain ⟨n, hn⟩ := HW.out; exact ⟨n + nq, by rw [hn]; simp⟩⟩
        · have f2 : decide ((l.length : Int) > 16) = false := by simp; omega
          have HC : Hid (∀ n, Calls Try.prog 53 #[.slice (some ⟨b2, off2, none⟩) l.length c] (wr.drewN n) fun e w'' => e = .returned (.bool (lvRise l)) ∧ ∃ m, w'' = wr.drewN m) := fun n =>
            (sRises (some ⟨b2, off2, none⟩) c l (wr.drewN n) (View.drewN hv n) hat).mono fun e w'' ⟨he, m, hm⟩ => ⟨he, n + m, by rw [hm, World.drewN_drewN]⟩
          rcases hr : lvRise l with _ | _
          · rw [hr] at HC
            have HNO : Hid (levB ls = false) := HB.out (by rcases e : lvOk l with _ | _; rfl; have := (HIF.out.1 e).2.2.1; rw [hr] at this; cases this)
            clear e1 e2 hv hs2 hr
            go_wp2_with fail
            refine wp_region_quiet_lit (by kernel_rfl) (by kernel_rfl) ?_
            try simp only [List.append_eq, List.cons_append, List.nil_append]
            repeat (go_big_quiet_step ((go_at_call 53; exact HC.out _)))
            refine wpQuiet_nil ?_
            intro _ hw'
            obtain ⟨nq, hw''⟩ := hw'
            subst hw''
            go_wp2_with fail
            go_ret
            exact ⟨ret_bool (Eq.symm HNO.out), by obtain ⟨n, hn⟩ := HW.out; exact ⟨n + nq, by rw [hn]; simp⟩⟩
          · rw [hr] at HC
            have q0 := hs2 0 (by omega)
            rw [Nat.add_zero] at q0
            have q1 := hs2 (l.length - 1) (by omega)
            have hne : l ≠ [] := fun e => by rw [e] at e1; simp at e1
            have hw1 : IntKind.i64.wrap ((l.length : Int) - 1) = ((l.length - 1 : Nat) : Int) := by rw [IntWalk.i64_in _ ⟨by omega, by omega⟩]; omega
            have hb0 : (0 : Int) ≤ ((l.length - 1 : Nat) : Int) := by omega
            have hb1 : ((l.length - 1 : Nat) : Int) < (l.length : Int) := by omega
            have hb2' : (0 : Int) < (l.length : Int) := by omega
            by_cases e3 : nth l 0 < -1000
            · have f3 : decide (nth l 0 < -1000) = true := by simp; omega
              have HNO : Hid (levB ls = false) := HB.out (by rcases e : lvOk l with _ | _; rfl; have := HIF.out.1 e; omega)
              clear e3 e1 e2 hv hs2 hr
              go_wp2_with fail
              refine wp_region_quiet_lit (by kernel_rfl) (by kernel_rfl) ?_
              try simp only [List.append_eq, List.cons_append, List.nil_append]
              repeat (go_big_quiet_step ((go_at_call 53; exact HC.out _)))
              refine wpQuiet_nil ?_
              intro _ hw'
              obtain ⟨nq, hw''⟩ := hw'
              subst hw''
              go_wp2_with fail
              go_ret
              exact ⟨ret_bool (Eq.symm HNO.out), by obtain ⟨n, hn⟩ := HW.out; exact ⟨n + nq, by rw [hn]; simp⟩⟩
            · have f3 : decide (nth l 0 < -1000) = false := by simp; omega
              by_cases e4 : nth l (l.length - 1) > 1000
              · have f4 : decide (nth l (l.length - 1) > 1000) = true := by simp; omega
                have HNO : Hid (levB ls = false) := HB.out (by rcases e : lvOk l with _ | _; rfl; have := HIF.out.1 e; omega)
                clear e1 e2 e3 e4 hv hs2 hr
                go_wp2_with fail
                refine wp_region_quiet_lit (by kernel_rfl) (by kernel_rfl) ?_
                try simp only [List.append_eq, List.cons_append, List.nil_append]
                repeat (go_big_quiet_step ((go_at_call 53; exact HC.out _)))
                refine wpQuiet_nil ?_
                intro _ hw'
                obtain ⟨nq, hw''⟩ := hw'
                subst hw''
                go_wp2_with fail
                go_ret
                exact ⟨ret_bool (Eq.symm HNO.out), by obtain ⟨n, hn⟩ := HW.out; exact ⟨n + nq, by rw [hn]; simp⟩⟩
              · have f4 : decide (nth l (l.length - 1) > 1000) = false := by simp; omega
                have HYES : Hid (lvOk l = true) := HIF.out.2 ⟨by omega, by omega, hr, by omega, by omega⟩
                clear e1 e2 e3 e4 hv hs2 hr HNB HB
                go_wp2_with fail
                refine wp_region_quiet_lit (by kernel_rfl) (by kernel_rfl) ?_
                try simp only [List.append_eq, List.cons_append, List.nil_append]
                repeat (go_big_quiet_step ((go_at_call 53; exact HC.out _)))
                refine wpQuiet_nil ?_
                intro _ hw'
                obtain ⟨nq, hw''⟩ := hw'
                subst hw''
                go_wp2_with fail
                go_roundw
                case rel => exact ⟨k + 1, by omega, by go_num, fun j hj => by
                  rcases Nat.lt_or_ge j k with h | h
                  · exact HA.out j h
                  · obtain rfl : j = k := by omega
                    rw [HLL.out]
                    exact HYES.out, by obtain ⟨n, hn⟩ := HW.out; exact ⟨n + nq, by rw [hn]; simp⟩⟩
                case measure => simp [intOf]; omega
    · obtain rfl : k = ls.length := by omega
      have HY : Hid (levB ls = true) := (levB_iff ls).2 ⟨h1, h4, HA.out⟩
      clear hw
      go_wp2_with fail
      go_ret
      exact ⟨ret_bool (Eq.symm HY.out), HW.out⟩
theorem sLevels (ao : Option Addr) (cap : Nat) (ls : List (List Int)) (w : World) (hv : CView w ao ls) (hsm : CSmall ls) :
    Calls Try.prog 23 #[.slice ao ls.length cap] w fun e w' => e = .returned (.bool (levB ls)) ∧ ∃ n, w' = w.drewN n := by
  by_cases h : ls.length < 1 ∨ 4 < ls.length
  · refine (sLevels_many ao ls.length cap w h hsm.1).mono ?_
    rintro e w' ⟨rfl, rfl⟩
    exact ⟨ret_bool (Eq.symm (levB_many h)), 0, rfl⟩
  · obtain ⟨b, off, rfl, hb, hs⟩ := hv.seg (by omega)
    exact sLevels_in b off cap ls w hs hsm (by omega) (by omega)

end Go.Proofs.Ythkaiienfkihmaa
