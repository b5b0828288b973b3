/-
  The given BallsOk.
-/
import Derived.Test.YthddhblmnfjciaaVHalvIZz
import Derived.Test.YthddhblmnfjciaaKTopZz
import Derived.Test.YthddhblmnfjciaaKOkZz
namespace Go.Proofs.Ythddhblmnfjciaa
open Go Go.RowKit Go.BigFrame

set_option maxRecDepth 100000 in
set_option maxHeartbeats 4000000 in
theorem sBallsOk (ao : Option Addr) (cap : Nat) (ks : List Kn) (w : World) (hv : KView w ao ks) (hsm : KSmall ks) :
    Calls Try.prog 31 #[.slice ao ks.length cap] w fun e w' => e = .returned (.bool (ballsB ks)) ∧ Below w.heap.size w w' := by
  obtain ⟨ds, hds, hs5, hsl⟩ := hv.sview
  have hdl : ds.length = ks.length := by rw [← smMarks_length, hds, List.length_map]
  have HM := hidP (sMarks6 ao cap ds w hs5 (by have := hsm.1; omega))
  rw [hdl] at HM
  have hms : smMarks (sortBy smid ds) = knotMs ks := by rw [sortI_marks, hds]; rfl
  have hpm : (knotMs ks).Perm (ks.map (·.1)) := sortBy_perm idlt _
  have hml : (knotMs ks).length = ks.length := by rw [hpm.length_eq, List.length_map]
  have hmsm : MSmall (knotMs ks) := by
    refine ⟨by rw [hml]; exact hsm.1, fun i => ?_⟩
    rcases Nat.lt_or_ge i (knotMs ks).length with h | h
    · have h1 : (knotMs ks)[i] ∈ ks.map (·.1) := hpm.mem_iff.1 (List.getElem_mem h)
      obtain ⟨k, hk, e⟩ := List.mem_map.1 h1
      obtain ⟨j, hj, e2⟩ := List.getElem_of_mem hk
      have h2 := hsm.2 j
      have e3 : knth ks j = k := by rw [← e2]; simp [knth, List.getD, hj]
      rw [e3] at h2
      have e4 : mat (knotMs ks) i = k.1.2 := by simp only [mat, List.getD, List.getElem?_eq_getElem h, Option.getD_some]; rw [← e]
      rw [e4]; exact h2
    · simp [mat, List.getD, h]
  have HSL := hidP hsl
  have HMS := hidP hms
  have HPM := hidP hpm
  have HV := hidP hv
  have HSM := hidP hsm
  have HMM := hidP hmsm
  have hn1 := hsm.1
  clear hds hs5 hsl hms hpm hv hsm hmsm
  go_enter Try.func31, Try.ntmps31
  go_wp2_with fail
  refine HM.out.mono ?_
  rintro e w1 ⟨g, c, rfl, hr, L1⟩
  have hmv : MView w1 (some ⟨g, 0, none⟩) (knotMs ks) := by rw [← HMS.out]; exact hr.view (HSL.out.sub (fun d hd => (sortBy_perm _ _).mem_iff.1 hd)) L1
  have hcap : (knotMs ks).length ≤ c := by have := hr.cap; rw [sortBy_length, hdl] at this; omega
  have HC := hidP (sMarks (some ⟨g, 0, none⟩) c (knotMs ks) w1 hmv HMM.out)
  have HH := hidP (fun n => sBalls (some ⟨g, 0, none⟩) c (knotMs ks) (w1.drewN n) hcap (hmv.drewN n) HMM.out)
  rw [hml] at HC HH
  have HL1 := hidP L1
  clear hr L1 hmv HM HSL HMS hcap
  rcases hm : marksB (knotMs ks) with _ | _
  · have HN : Hid (ballsB ks = false) := by show ballsB ks = false; simp [ballsB, hm]
    rw [hm] at HC
    clear HH
    go_wp2_with fail
    refine HC.out.mono ?_
    rintro e w2 ⟨rfl, n2, hw2⟩
    rw [hw2]
    clear hw2
    go_wp2_with fail
    go_ret
    exact ⟨ret_bool HN.out.symm, below_drewN HL1.out n2⟩
  · have hS := marks_sole hm
    have HKB : Hid (ballsB ks = eqB ks (ballsV (knotMs ks))) := ballsB_some HPM.out (sortBy_sorted (parts_idlt (hS.perm HPM.out.symm)) _ (fun _ hy => hy)) hm
    have hxl : (ballsV (knotMs ks)).length = ks.length := by rw [ballsV_length _ hm, hml]
    have HAT : Hid (∀ i, i < ks.length → (knth ks i).1.1 = (knth (ballsV (knotMs ks)) i).1.1 → (knth ks i).1 = (knth (ballsV (knotMs ks)) i).1) := fun i hi e =>
      hS _ (HPM.out.mem_iff.2 (List.mem_map_of_mem (knth_mem hi))) _ (balls_mem hm (knth_mem (by omega))) e
    rw [hm] at HC
    clear hm hS hml HPM HMM
    generalize ballsV (knotMs ks) = xs at *
    go_wp2_with fail
    refine HC.out.mono ?_
    rintro e w2 ⟨rfl, n2, hw2⟩
    rw [hw2]
    clear hw2
    go_wp2_with fail
    refine (HH.out n2).mono ?_
    rintro e w3 ⟨v, rfl, hgot, L3⟩
    obtain ⟨ao2, c2, rfl, hkv⟩ := hgot.view
    have L03 : Below w.heap.size w w3 := (below_drewN HL1.out n2).trans (L3.mono HL1.out.size)
    have HL3 := hidP L03
    have HV3 := hidP (HV.out.next L03)
    have HKV := hidP hkv
    clear hgot L3 L03 hkv HL1 HH HC HV
    rw [hxl]
    rcases Nat.eq_zero_or_pos ks.length with h0 | h0
    · have HN : Hid (ballsB ks = true) := by rw [HKB.out]; exact eqB_all hxl.symm (fun i hi => by omega)
      rw [h0]
      go_wp2_with fail
      refine wp_loop_rounds 1 ?_
      rw [rounds_succ]
      go_wp2_with fail
      go_ret
      exact ⟨ret_bool HN.out.symm, HL3.out⟩
    · obtain ⟨b, off, e1, hb, hs⟩ : ∃ b off, ao = some ⟨b, off, none⟩ ∧ b < w3.heap.size ∧ KSeg w3 b off ks := by
        rcases HV3.out with h | h
        · rw [h] at h0; simp at h0
        · exact h
      obtain ⟨b2, o2, e2, hb2, hs2⟩ : ∃ b off, ao2 = some ⟨b, off, none⟩ ∧ b < w3.heap.size ∧ KSeg w3 b off xs := by
        rcases HKV.out with h | h
        · rw [h] at hxl; simp at hxl; omega
        · exact h
      subst e1 e2
      have HS := hidP (And.intro hs hs2)
      clear hs hs2 HKV HV3
      go_wp2_with fail
      go_loopw [5] (fun i wr => ∃ k : Nat, k ≤ ks.length ∧ i = .int .i64 k ∧ (∀ j, j < k → sameB (knth ks j) (knth xs j) = true) ∧ ∃ n, wr = w3.drewN n) (fun i _ => ks.length - (intOf i).toNat)
      case atStart => exact ⟨0, Nat.zero_le _, rfl, fun j hj => by omega, 0, rfl⟩
      case round =>
        obtain ⟨k, hk, rfl, hall, hw⟩ := hrel
        have HA := hidP hall
        have HW := hidP hw
        clear hall hw
        by_cases hlt : k < ks.length
        · obtain ⟨c0, ⟨ao1, ca1, c1, hv1⟩, c2, c3, c4⟩ : KAt wr b (off + k * 5) (knth ks k) := by obtain ⟨n, rfl⟩ := HW.out; exact (HS.out.1 k hlt).drewN n
          obtain ⟨d0, ⟨ao2, ca2, d1, hv2⟩, d2, d3, d4⟩ : KAt wr b2 (o2 + k * 5) (knth xs k) := by obtain ⟨n, rfl⟩ := HW.out; exact (HS.out.2 k (by omega)).drewN n
          have hi0 : (0 : Int) ≤ (k : Int) := Int.natCast_nonneg _
          have hi1 : (k : Int) < (ks.length : Int) := by omega
          have HN := hidP (fun h => eqB_out (xs := xs) hlt h)
          have HY : Hid (sameB (knth ks k) (knth xs k) = true → ∀ j, j < k + 1 → sameB (knth ks j) (knth xs j) = true) := fun h j hj => by
            rcases Nat.lt_or_ge j k with h1 | h1
            · exact HA.out j h1
            · obtain rfl : j = k := by omega
              exact h
          have HATk := hidP (HAT.out k hlt)
          have hnk := HSM.out.2 k
          generalize knth ks k = p at *
          generalize knth xs k = q at *
          by_cases h1 : q.2.1 = p.2.1
          · have e1 : (q.2.1 != p.2.1) = false := by simp [h1]
            by_cases h2 : q.2.2.1 = p.2.2.1
            · have e2 : (q.2.2.1 != p.2.2.1) = false := by simp [h2]
              by_cases h3 : q.2.2.2 = p.2.2.2
              · have e3 : (q.2.2.2 != p.2.2.2) = false := by simp [h3]
                by_cases h0 : q.1.1 = p.1.1
                · have e0 : (q.1.1 != p.1.1) = false := by simp [h0]
                  have HO := hidP (HY.out (by simp [sameB, h0, h1, h2, h3]))
                  have heq := HATk.out h0.symm
                  have HC : Hid (∀ n, Calls Try.prog 70 #[.slice ao2 q.1.2.length ca2, .slice ao1 p.1.2.length ca1] (wr.drewN n) fun e w'' => e = .returned (.bool true) ∧ ∃ m, w'' = wr.drewN m) := fun n =>
                    (sameS ao2 ao1 ca2 ca1 q.1.2 p.1.2 (wr.drewN n) (hv2.drewN n) (hv1.drewN n) (by rw [← heq]; exact hnk)).mono fun e w'' ⟨he, m, hm⟩ => ⟨by rw [he, heq]; simp, n + m, by rw [hm, World.drewN_drewN]⟩
                  clear HN HY HATk h0 h1 h2 h3 heq hv1 hv2
                  go_wp2_with fail
                  refine wp_region_quiet_lit (by kernel_rfl) (by kernel_rfl) ?_
                  simp only [List.append_eq, List.cons_append, List.nil_append]
                  repeat (go_big_quiet_step ((go_at_call 70; exact HC.out _)))
                  refine wpQuiet_nil ?_
                  intro _ hw'
                  obtain ⟨nq, hw''⟩ := hw'
                  subst hw''
                  go_wp2_with fail
                  go_roundw
                  case rel => exact ⟨k + 1, by omega, by go_num, HO.out, by obtain ⟨n, hn⟩ := HW.out; exact ⟨n + nq, by rw [hn]; simp⟩⟩
                  case measure => simp [intOf]; omega
                · have e0 : (q.1.1 != p.1.1) = true := by simp [h0]
                  have HO := hidP (HN.out (sameB_no fun h => h0 h.1))
                  clear HN HY HATk h0 h1 h2 h3 hv1 hv2
                  go_wp2_with fail
                  refine wp_region_quiet_lit (by kernel_rfl) (by kernel_rfl) ?_
                  simp only [List.append_eq, List.cons_append, List.nil_append]
                  repeat (go_big_quiet_step (fail))
                  refine wpQuiet_nil ?_
                  intro _ hw'
                  obtain ⟨nq, hw''⟩ := hw'
                  subst hw''
                  go_wp2_with fail
                  go_ret
                  exact ⟨ret_bool (HKB.out.trans HO.out).symm, by obtain ⟨n, hn⟩ := HW.out; rw [hn]; exact below_drewN (below_drewN HL3.out n) _⟩
              · have e3 : (q.2.2.2 != p.2.2.2) = true := by simp [h3]
                have HO := hidP (HN.out (sameB_no fun h => h3 (by rw [h.2])))
                clear HN HY HATk h1 h2 h3 hv1 hv2
                go_wp2_with fail
                refine wp_region_quiet_lit (by kernel_rfl) (by kernel_rfl) ?_
                simp only [List.append_eq, List.cons_append, List.nil_append]
                repeat (go_big_quiet_step (fail))
                refine wpQuiet_nil ?_
                intro _ hw'
                obtain ⟨nq, hw''⟩ := hw'
                subst hw''
                go_wp2_with fail
                go_ret
                exact ⟨ret_bool (HKB.out.trans HO.out).symm, by obtain ⟨n, hn⟩ := HW.out; rw [hn]; exact below_drewN (below_drewN HL3.out n) _⟩
            · have e2 : (q.2.2.1 != p.2.2.1) = true := by simp [h2]
              have HO := hidP (HN.out (sameB_no fun h => h2 (by rw [h.2])))
              clear HN HY HATk h1 h2 hv1 hv2
              go_wp2_with fail
              refine wp_region_quiet_lit (by kernel_rfl) (by kernel_rfl) ?_
              simp only [List.append_eq, List.cons_append, List.nil_append]
              repeat (go_big_quiet_step (fail))
              refine wpQuiet_nil ?_
              intro _ hw'
              obtain ⟨nq, hw''⟩ := hw'
              subst hw''
              go_wp2_with fail
              go_ret
              exact ⟨ret_bool (HKB.out.trans HO.out).symm, by obtain ⟨n, hn⟩ := HW.out; rw [hn]; exact below_drewN (below_drewN HL3.out n) _⟩
          · have e1 : (q.2.1 != p.2.1) = true := by simp [h1]
            have HO := hidP (HN.out (sameB_no fun h => h1 (by rw [h.2])))
            clear HN HY HATk h1 hv1 hv2
            go_wp2_with fail
            refine wp_region_quiet_lit (by kernel_rfl) (by kernel_rfl) ?_
            simp only [List.append_eq, List.cons_append, List.nil_append]
            repeat (go_big_quiet_step (fail))
            refine wpQuiet_nil ?_
            intro _ hw'
            obtain ⟨nq, hw''⟩ := hw'
            subst hw''
            go_wp2_with fail
            go_ret
            exact ⟨ret_bool (HKB.out.trans HO.out).symm, by obtain ⟨n, hn⟩ := HW.out; rw [hn]; exact below_drewN (below_drewN HL3.out n) _⟩
        · obtain rfl : k = ks.length := by omega
          have HO := hidP (eqB_all hxl.symm HA.out)
          have hlb : ((ks.length : Int) == (ks.length : Int)) = true := by simp
          clear HA
          go_wp2_with fail
          go_ret
          exact ⟨ret_bool (HKB.out.trans HO.out).symm, by obtain ⟨n, hn⟩ := HW.out; rw [hn]; exact below_drewN HL3.out n⟩

end Go.Proofs.Ythddhblmnfjciaa
