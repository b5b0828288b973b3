/-
  FnPigeonhole holds: for every draw who is apart in less bits than there are parts has one part alike, and Alike, Close, Parts, Apart and Weight answer as the given ones; no condition.
-/
import Derived.Test.YtiddimmifjklmaaMArgs
import Derived.Test.YtiddimmifjklmaaWLaw
namespace Go.Proofs.Ytiddimmifjklmaa.fnPigeonhole
open Go.ChangeShapes Go.WideShapes Go.ChangeAt Go.RowKit
set_option linter.unusedVariables false

theorem own : ownKnob Try.prog.godebug = none := by kernel_rfl
theorem laidOut : laidOutB Try.prog = true := by kernel_rfl

set_option maxRecDepth 100000 in
set_option maxHeartbeats 4000000 in
theorem walk (ao0 : Option Addr) (len0 cap0 : Nat) (w : World) (hv0 : CodeV w ao0 len0) (hn0 : len0 ≤ maxLen) :
    Calls Try.prog 3 #[.slice ao0 len0 cap0] w fun e w' => e = .returned (.bool true) ∧ Below w.heap.size w w' := by
  by_cases hbig : 4096 < len0
  · have hbb : decide (4096 < (len0 : Int)) = true := by simp; omega
    go_enter Try.func3, Try.ntmps3
    go_wp2_with fail
    refine (bigC ao0 len0 cap0 _).mono ?_
    rintro e w1 ⟨rfl, hw1⟩
    subst hw1
    go_wp2_with fail
    go_ret
    exact ⟨rfl, Below.refl _ _⟩
  have hbb : decide (4096 < (len0 : Int)) = false := by simp; omega
  have hn : len0 ≤ 4096 := by omega
  clear hn0 hbig
  go_enter Try.func3, Try.ntmps3
  go_wp2_with fail
  refine (bigC ao0 len0 cap0 _).mono ?_
  rintro e w0 ⟨rfl, hw0⟩
  subst hw0
  rw [hbb]
  clear hbb
  go_wp2_with fail
  refine (cAlikeD ao0 len0 cap0 _ hv0 hn).mono ?_
  rintro e u1 ⟨al, cl, l, q, n, rfl, vl, hl61, L1⟩
  go_wp2_with fail
  refine (iAlike al cl l q n _ vl (by omega)).mono ?_
  rintro e u2 ⟨aa, ca, rfl, oa, L2⟩
  have va := oa.slice
  have vl2 := vl.below (Nat.le_refl _) L2
  have M2 := chain L1 L2
  clear oa vl L1 L2
  go_wp2_with fail
  refine (cCloseD ao0 len0 cap0 _ (hv0.below (Nat.le_refl _) M2) hn).mono ?_
  rintro e u3 ⟨ac, cc, c, p, most, rfl, vc, hc61, L3⟩
  have vl3 := vl2.below (Nat.le_refl _) L3
  have va3 := va.below (Nat.le_refl _) L3
  have M3 := chain M2 L3
  clear vl2 va M2 L3
  go_wp2_with fail
  refine (iClose ac cc c p most _ vc (by omega)).mono ?_
  rintro e u4 ⟨aw, cw, rfl, ow, L4⟩
  have vw := ow.slice
  have vl4 := vl3.below (Nat.le_refl _) L4
  have va4 := va3.below (Nat.le_refl _) L4
  have vc4 := vc.below (Nat.le_refl _) L4
  have M4 := chain M3 L4
  clear ow vl3 va3 vc M3 L4
  go_wp2_with fail
  refine (cPartsD ao0 len0 cap0 _ (hv0.below (Nat.le_refl _) M4) hn).mono ?_
  rintro e u5 ⟨⟨x, m, rfl⟩, L5⟩
  have M5 := chain M4 L5
  have vl5 := vl4.below (Nat.le_refl _) L5
  have va5 := va4.below (Nat.le_refl _) L5
  have vc5 := vc4.below (Nat.le_refl _) L5
  have vw5 := vw.below (Nat.le_refl _) L5
  clear M4 vl4 va4 vc4 vw L5
  go_wp2_with fail
  refine (iParts x m _).mono ?_
  rintro e u6 ⟨ar, rfl, or6, L6⟩
  have P6 : Hid (PPg u6 al aa ac aw ar l (alikeL l q n) c (closeL c p most) (partsL x m)) := ⟨vl5.below (Nat.le_refl _) L6, va5.below (Nat.le_refl _) L6, vc5.below (Nat.le_refl _) L6, vw5.below (Nat.le_refl _) L6, or6.view⟩
  have M6 := chain M5 L6
  clear vl5 va5 vc5 vw5 or6 M5 L6
  go_wp2_with fail
  refine (cApartD ao0 len0 cap0 _ (hv0.below (Nat.le_refl _) M6) hn).mono ?_
  rintro e u7 ⟨⟨d, f, rfl⟩, L7⟩
  have P7 := hidP (P6.out.next L7)
  have M7 := chain M6 L7
  clear P6 M6 L7
  obtain ⟨A, hA⟩ : ∃ A, A = alikeL l q n := ⟨_, rfl⟩
  obtain ⟨B, hB⟩ : ∃ B, B = closeL c p most := ⟨_, rfl⟩
  obtain ⟨R, hR⟩ : ∃ R, R = partsL x m := ⟨_, rfl⟩
  have HSA := hidP (fun w hv => sAlike al cl l q n w hv (by omega))
  have HSB := hidP (fun w hv => sClose ac cc c p most w hv (by omega))
  have HSR := hidP (sParts x m)
  have hA60 := alikeL_short l q n
  have hB60 := closeL_short c p most
  have hR8 := partsL_short x m
  have HRA := hidP (fun j => alike_rise l q n (j := j))
  have HRB := hidP (fun j => close_rise c p most (j := j))
  rw [← hA] at P7 HSA hA60 HRA ⊢
  rw [← hB] at P7 HSB hB60 HRB ⊢
  rw [← hR] at P7 HSR hR8 ⊢
  have HA := hidP hA
  have HB := hidP hB
  have HR := hidP hR
  clear hA hB hR
  go_wp2_with fail
  refine (HSA.out _ P7.out.l).mono ?_
  rintro e v8 ⟨g8, c8, rfl, r8, L8⟩
  have P8 := hidP (P7.out.next L8)
  have M8 := chain M7 L8
  clear P7 M7 L8
  go_wp2_with fail
  refine (likeS _ _ _ _ A A _ P8.out.a r8.view (by omega)).mono ?_
  rintro e v9 ⟨rfl, n8, hw8⟩
  have L9 : Below v8.heap.size v8 v9 := by rw [hw8]; exact below_draws _ _
  have P9 := hidP (P8.out.next L9)
  have M9 := chain M8 L9
  clear P8 M8 L9 hw8 r8
  rw [show decide (A = A) = true by simp]
  go_wp2_with fail
  refine (HSB.out _ P9.out.c).mono ?_
  rintro e v10 ⟨g10, c10, rfl, r10, L10⟩
  have P10 := hidP (P9.out.next L10)
  have M10 := chain M9 L10
  clear P9 M9 L10
  go_wp2_with fail
  refine (likeS _ _ _ _ B B _ P10.out.w r10.view (by omega)).mono ?_
  rintro e v11 ⟨rfl, n10, hw10⟩
  have L11 : Below v10.heap.size v10 v11 := by rw [hw10]; exact below_draws _ _
  have P11 := hidP (P10.out.next L11)
  have M11 := chain M10 L11
  clear P10 M10 L11 hw10 r10
  rw [show decide (B = B) = true by simp]
  go_wp2_with fail
  refine (HSR.out _).mono ?_
  rintro e v12 ⟨g12, c12, rfl, r12, L12⟩
  have P12 := hidP (P11.out.next L12)
  have M12 := chain M11 L12
  clear P11 M11 L12
  go_wp2_with fail
  refine (likeS _ _ _ _ R R _ P12.out.r r12.view (by omega)).mono ?_
  rintro e v13 ⟨rfl, n12, hw12⟩
  have L13 : Below v12.heap.size v12 v13 := by rw [hw12]; exact below_draws _ _
  have P13 := hidP (P12.out.next L13)
  have M13 := chain M12 L13
  clear P12 M12 L13 hw12 r12
  rw [show decide (R = R) = true by simp]
  have hap : (apartV d f != apartV d f) = false := by simp
  have hwt : (weightV d != weightV d) = false := by simp
  go_wp2_with fail
  refine (iApart d f _).mono ?_
  rintro e v14 ⟨rfl, L14⟩
  have P14 := hidP (P13.out.next L14)
  have M14 := chain M13 L14
  clear P13 M13 L14
  go_wp2_with fail
  refine (sApart d f _).mono ?_
  rintro e v15 ⟨rfl, hw15⟩
  subst hw15
  go_wp2_with fail
  refine (iWeight d _).mono ?_
  rintro e v16 ⟨rfl, L16⟩
  have P16 := hidP (P14.out.next L16)
  have M16 := chain M14 L16
  clear P14 M14 L16
  go_wp2_with fail
  refine (sWeight d _).mono ?_
  rintro e v17 ⟨rfl, hw17⟩
  subst hw17
  clear hap hwt
  go_wp2_with fail
  refine (rises9 aa ca A _ P16.out.a (by omega) HRA.out).mono ?_
  rintro e v18 ⟨rfl, n18, hw18⟩
  have L18 : Below v17.heap.size v17 v18 := by rw [hw18]; exact below_draws _ _
  have P18 := hidP (P16.out.next L18)
  have M18 := chain M16 L18
  clear P16 M16 L18 hw18
  go_wp2_with fail
  refine (rises9 aw cw B _ P18.out.w (by omega) HRB.out).mono ?_
  rintro e v19 ⟨rfl, n19, hw19⟩
  have L19 : Below v18.heap.size v18 v19 := by rw [hw19]; exact below_draws _ _
  have P19 := hidP (P18.out.next L19)
  have M19 := hidP (chain M18 L19)
  clear P18 M18 L19 hw19
  go_wp2_with fail
  clear HSA HSB HSR HRA HRB
  have hPS : 0 < R.length → wsum R R.length = weightV x := by rw [HR.out]; exact parts_sum
  have HPS := hidP hPS
  clear hPS
  go_loopw [16, 17] (fun sv iv wr => ∃ k : Nat, k ≤ R.length ∧ iv = .int .i64 k ∧ sv = .int .i64 (wsum R k) ∧ PPg wr al aa ac aw ar l A c B R ∧ Below w.heap.size w wr) (fun _ iv _ => R.length - (intOf iv).toNat)
  case atStart => exact ⟨0, Nat.zero_le _, rfl, rfl, P19.out, M19.out⟩
  case round =>
    obtain ⟨k, hk, rfl, rfl, hP, hM⟩ := hrel
    have HP := hidP hP
    have HM := hidP hM
    clear hP hM
    by_cases hlt : k < R.length
    · obtain ⟨rb, ro, rfl, hrb, hrs⟩ := HP.out.r.seg (by omega)
      have hcell := hrs k hlt
      have hbd := wsum_bd R k
      have hwb := weight_bd (nth R k)
      have HS := hidP (show wsum R (k + 1) = wsum R k + weightV (nth R k) from rfl)
      clear hrs
      go_wp2_with (go_at_call 23; refine (iWeight (nth R k) _).mono ?_; rintro e w2 ⟨rfl, L2⟩)
      go_roundw
      case rel => exact ⟨k + 1, by omega, by go_num, by rw [HS.out], HP.out.next L2, chain HM.out L2⟩
      case measure => simp [intOf]; omega
    · obtain rfl : k = R.length := by omega
      obtain ⟨S, hS⟩ : ∃ S, wsum R R.length = S := ⟨_, rfl⟩
      rw [hS] at HPS ⊢
      clear hS
      go_upto_region 17 with fail
      go_cut [127] from 21 (fun v wx => v = .bool false ∧ PPg wx al aa ac aw ar l A c B R ∧ Below w.heap.size w wx)
      case first =>
        by_cases h0 : 0 < R.length
        · have hi0 : (0 : Int) < (R.length : Int) := by omega
          have hne : (S != weightV x) = false := by rw [HPS.out h0]; simp
          go_wp2_with (go_at_call 23; refine (iWeight x _).mono ?_; rintro e w2 ⟨rfl, L2⟩)
          go_meet
          exact ⟨rfl, HP.out.next L2, chain HM.out L2⟩
        · have hi0 : ¬ ((0 : Int) < (R.length : Int)) := by omega
          go_wp2_with fail
          go_meet
          exact ⟨rfl, HP.out, HM.out⟩
      case rest =>
        obtain ⟨rfl, hP, hM⟩ := hcut
        have HP1 := hidP hP
        have HM1 := hidP hM
        clear hP hM HP HM HPS
        go_wp2_with fail
        refine (iApart d f _).mono ?_
        rintro e x1 ⟨rfl, K1⟩
        have HP2 := hidP (HP1.out.next K1)
        have HM2 := hidP (chain HM1.out K1)
        clear K1 HP1 HM1
        obtain ⟨Y, hY⟩ : ∃ Y, apartV d f = Y := ⟨_, rfl⟩
        have HY := hidP hY
        rw [hY]
        clear hY
        go_upto_region 20 with fail
        go_cut [156] from 21 (fun v wx => v = .bool false ∧ PPg wx al aa ac aw ar l A c B R ∧ Below w.heap.size w wx)
        case first =>
          by_cases h0 : 0 ≤ Y
          · have hY0 : 0 ≤ apartV d f := by rw [HY.out]; exact h0
            have hb1 : (Y != Y) = false := by simp
            have hb2 : (Y == 0) = (d == f) := by
              have h1 := apart_nil hY0
              rw [HY.out] at h1
              rw [Bool.eq_iff_iff, beq_iff_eq, beq_iff_eq]; exact h1
            have hle := apart_le hY0
            rw [HY.out] at hle
            have hd0 := apart_bd d 0
            have hf0 := apart_bd 0 f
            have HSY := hidP ((apart_sym d f).trans HY.out)
            obtain ⟨E1, hE1⟩ : ∃ E, apartV d 0 = E := ⟨_, rfl⟩
            obtain ⟨E2, hE2⟩ : ∃ E, apartV 0 f = E := ⟨_, rfl⟩
            rw [hE1] at hd0 hle
            rw [hE2] at hf0 hle
            have HE1 := hidP hE1
            have HE2 := hidP hE2
            have hwr : IntKind.i64.wrap (E1 + E2) = E1 + E2 := IntWalk.i64_in _ ⟨by omega, by omega⟩
            have hgt : ¬ (E1 + E2 < Y) := by omega
            clear hE1 hE2 hY0
            go_wp2_with fail
            refine (iApart f d _).mono ?_
            rw [HSY.out]
            rintro e x2 ⟨rfl, K2⟩
            have HP3 := hidP (HP2.out.next K2)
            have HM3 := hidP (chain HM2.out K2)
            clear K2
            go_wp2_with fail
            refine (iApart d 0 _).mono ?_
            rw [HE1.out]
            rintro e x3 ⟨rfl, K3⟩
            have HP4 := hidP (HP3.out.next K3)
            have HM4 := hidP (chain HM3.out K3)
            clear K3
            go_wp2_with fail
            refine (iApart 0 f _).mono ?_
            rw [HE2.out]
            rintro e x4 ⟨rfl, K4⟩
            have HP5 := hidP (HP4.out.next K4)
            have HM5 := hidP (chain HM4.out K4)
            clear K4
            go_wp2_with fail
            go_meet
            exact ⟨congrArg Value.bool (decide_eq_false (by omega)), HP5.out, HM5.out⟩
          · go_wp2_with fail
            go_meet
            exact ⟨rfl, HP2.out, HM2.out⟩
        case rest =>
          obtain ⟨rfl, hP, hM⟩ := hcut
          have HP6 := hidP hP
          have HM6 := hidP hM
          clear hP hM HP2 HM2
          rcases hcn : countB n with _ | _
          · have hA0 : A = [] := by rw [HA.out]; exact alike_none hcn
            have hA0' : A.length = 0 := by rw [hA0]; rfl
            simp only [countB, Bool.or_eq_false_iff, decide_eq_false_iff_not] at hcn
            obtain ⟨⟨⟨n1, n2⟩, n4⟩, n8'⟩ := hcn
            have b1 : (n != 1) = true := by simp [n1]
            have b2 : (n != 2) = true := by simp [n2]
            have b4 : (n != 4) = true := by simp [n4]
            have b8 : (n != 8) = true := by simp [n8']
            rw [hA0']
            clear hA0 n1 n2 n4 n8'
            go_wp2_with fail
            go_ret
            exact ⟨rfl, HM6.out⟩
          · have HCN := hidP hcn
            go_upto_region 22 with fail
            go_cut [170] from 21 (fun v wx => v = .bool false ∧ PPg wx al aa ac aw ar l A c B R ∧ Below w.heap.size w wx)
            case first =>
              simp only [countB, Bool.or_eq_true, decide_eq_true_eq] at hcn
              rcases hcn with ((h | h) | h) | h
              all_goals
                subst h
                go_wp2_with fail
                go_meet
                exact ⟨rfl, HP6.out, HM6.out⟩
            case rest =>
              obtain ⟨rfl, hP, hM⟩ := hcut
              have HP7 := hidP hP
              have HM7 := hidP hM
              clear hP hM HP6 HM6
              have hn18 : 1 ≤ n ∧ n ≤ 8 := by
                simp only [countB, Bool.or_eq_true, decide_eq_true_eq] at hcn
                omega
              clear hcn
              have hw1 : IntKind.i64.wrap (n - 1) = n - 1 := IntWalk.i64_in _ ⟨by omega, by omega⟩
              go_wp2_with fail
              refine (iClose al cl l q (n - 1) _ HP7.out.l (by omega)).mono ?_
              rintro e x5 ⟨an, nc, rfl, o5, K5⟩
              have hv5 := o5.slice
              have hs60 := closeL_short l q (n - 1)
              have HMEM := hidP (show ∀ k, k < (closeL l q (n - 1)).length → nth (closeL l q (n - 1)) k ∈ A by
                intro k hk
                rw [HA.out]
                refine pigeon_mem HCN.out ?_
                simp [nth, List.getD, hk])
              obtain ⟨E, hE⟩ : ∃ E, closeL l q (n - 1) = E := ⟨_, rfl⟩
              rw [hE] at hv5 hs60 HMEM ⊢
              have va5 := HP7.out.a.below (Nat.le_refl _) K5
              have HM8 := hidP (chain HM7.out K5)
              clear hE o5 K5 HM7 HP7 hw1
              go_wp2_with fail
              go_loop [20] (fun iv => ∃ k : Nat, k ≤ E.length ∧ iv = .int .i64 k) (fun iv => E.length - (intOf iv).toNat)
              case atStart => exact ⟨0, Nat.zero_le _, rfl⟩
              case round =>
                obtain ⟨k, hk, rfl⟩ := hrel
                by_cases hlt : k < E.length
                · obtain ⟨eb, eo, rfl, heb, hes⟩ := hv5.seg (by omega)
                  have hcell := hes k hlt
                  have HH := hidP (has9 aa ca (nth E k) A x5 va5 (by omega) (HMEM.out k hlt))
                  clear hes
                  go_wp2_with (go_at_call 26; refine HH.out.mono ?_; rintro e w9 ⟨rfl, hw9⟩; subst hw9)
                  go_round
                  case rel => exact ⟨k + 1, by omega, by go_num⟩
                  case measure => simp [intOf]; omega
                · go_wp2_with fail
                  go_ret
                  exact ⟨rfl, HM8.out⟩

set_option maxRecDepth 100000 in
theorem lifted (os : Os) (started : os.Started) (H : Type) (enc : TypeId × Value → H) :
    ReturnsInHanded {} Try.checked os 3 .any (Rows.fnPigeonholeSpec.pre6 enc Try.prog Try.f3 Rows.fnPigeonholeRow.domain false) (Rows.fnPigeonholeSpec.post enc Try.prog Try.f3 false true false false) := by
  refine returnsInHanded_of_change (C := Try.checked) own started (by kernel_rfl) Try.func3
    (ChangeSpec.witness6 (enc := enc) (C := Try.checked) false ⟨#[], #[.slice none 0 0], []⟩ 8 (by kernel_rfl) (by kernel_rfl) (by kernel_rfl) (by kernel_rfl)) ?_
  intro W base args ds gs before hval0 hW hcnd _
  have hval : ∀ (j : Nat) t v, Try.f3.params[j]? = some t → args[j]? = some v → Value.okWide Try.prog W .any base t v := hval0
  have hW' := hW
  obtain ⟨p, q, hA0, hV, rfl, hfz, hnd⟩ := hW
  have hA : DataW.TrodAll enc Try.prog W 0 (fun _ => true) true Try.f3.params.toList args.toList ds p := hA0
  rw [Try.params3] at hA hval
  obtain ⟨v0, vs0, d0, ds0, p0, q0, hargs, rfl, rfl, h0, r0⟩ := trodAll_cons hA
  obtain ⟨rfl, rfl, rfl⟩ := trodAll_nil r0
  obtain rfl : args = #[v0] := by cases args; simp_all
  obtain ⟨rfl, rfl⟩ := trodVars_none hV
  obtain ⟨a0, len0, cap0, rfl⟩ := okWide_slice Try.underlying22 (hval 0 22 v0 rfl rfl)
  have k0 := h0
  have lt0 : ∀ x ∈ p0, x.block < W.heap.size := by obtain ⟨m, hm⟩ := k0; exact DataW.trod_lt m _ _ _ hm
  obtain ⟨hv0, hn0⟩ := (by obtain ⟨fuel, hf⟩ := h0; exact code_view hf : CodeV W a0 len0 ∧ len0 ≤ maxLen)
  clear hA0 hval0
  refine (walk a0 len0 cap0 W hv0 hn0).mono fun e W' ⟨he, bel⟩ => ?_
  subst he
  exact ⟨_, rfl, _, _, _, [], _, [], hW', trodAll_mk1 (shut_bool Try.underlying4 _), (trodAll_cons_mk (Below.trod laidOut (by kernel_rfl) (of_decide_eq_true (by kernel_rfl)) k0 bel lt0) trodAll_mk0), rfl, bel.frame _, fun h => by cases h⟩

theorem over : Rows.fnPigeonholeRow.holds Try.pinned (OpenSpec.ofChange Rows.fnPigeonholeSpec) :=
  OpenClaim.holds_of_wide 3 Try.f3 rfl rfl rfl rfl rfl rfl rfl ⟨rfl, rfl, rfl, rfl, rfl⟩ rfl rfl rfl rfl rfl (by kernel_rfl) Try.func3 (by kernel_rfl)
    (of_decide_eq_true (by kernel_rfl)) (by unfold Func.isWrapper; first | (rw [if_pos (by decide +kernel)]; kernel_rfl) | (rw [if_neg (by decide +kernel)]; exact ⟨rfl, rfl⟩))
    (fun os started H enc _ => lifted os started H enc)

end Go.Proofs.Ytiddimmifjklmaa.fnPigeonhole
namespace Go.Proofs.Ytiddimmifjklmaa

theorem FnPigeonhole_holds : Rows.FnPigeonholeSaid := fnPigeonhole.over

end Go.Proofs.Ytiddimmifjklmaa
