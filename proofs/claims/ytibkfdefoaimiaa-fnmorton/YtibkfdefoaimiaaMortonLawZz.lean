/-
  FnMorton holds: for every list of bytes the law of woven numbers answers true and leaves its argument alone; no condition.
-/
import Derived.Test.YtibkfdefoaimiaaBytesZz
import Derived.Deep.CutBlock
import Derived.Test.YtibkfdefoaimiaaMDraw2Zz
import Derived.Test.YtibkfdefoaimiaaOLawZz
import Derived.Test.YtibkfdefoaimiaaODrBZz
import Derived.Test.YtibkfdefoaimiaaODrRZz
namespace Go.Proofs.Ytibkfdefoaimiaa.fnMorton
open Go.ChangeShapes Go.WideShapes Go.ChangeAt Go.RowKit
set_option linter.unusedVariables false

theorem own : ownKnob Try.prog.godebug = none := by kernel_rfl
theorem laidOut : laidOutB Try.prog = true := by kernel_rfl

set_option maxRecDepth 100000 in
set_option maxHeartbeats 4000000 in
theorem walk (ao0 : Option Addr) (len0 cap0 : Nat) (w : World) (hv0 : CodeV w ao0 len0) (hn0 : len0 ≤ maxLen) :
    Calls Try.prog 3 #[.slice ao0 len0 cap0] w fun e w' => e = .returned (.bool true) ∧ Below w.heap.size w w' := by
  unfold maxLen at hn0
  by_cases hbig : 4096 < len0
  · go_enter Try.func3, Try.ntmps3
    go_wp2_with (go_at_call 10; refine (bigC _ _ _ _).mono ?_; rintro e w' ⟨rfl, rfl⟩)
    go_ret
    exact ⟨rfl, Below.refl _ _⟩
  have hn : len0 ≤ 4096 := by omega
  have hbb : decide (4096 < (len0 : Int)) = false := decide_eq_false (by omega)
  clear hn0 hbig
  have HV := hidP hv0
  clear hv0
  go_enter Try.func3, Try.ntmps3
  go_wp2_with fail
  refine (bigC _ _ _ _).mono ?_
  rintro e wd0 ⟨rfl, hu0⟩
  subst hu0
  rw [hbb]
  clear hbb
  go_wp2_with fail
  refine (cWeaveD ao0 len0 cap0 _ HV.out hn).mono ?_
  rintro e w1 ⟨⟨gp, cp, xs, rfl, hlx, vx1⟩, L1⟩
  go_wp2_with fail
  refine (iWeave _ cp xs _ vx1 (by omega)).mono ?_
  rintro e w2 ⟨rfl, L2⟩
  have vx2 := vx1.next L2
  replace L2 := chain L1 L2
  clear vx1 L1
  go_wp2_with fail
  refine (cUnwD ao0 len0 cap0 _ (HV.out.below (Nat.le_refl _) L2) hn).mono ?_
  rintro e w3 ⟨⟨cc, nn, rfl⟩, L3⟩
  have vx3 := vx2.next L3
  replace L3 := chain L2 L3
  clear vx2 L2
  go_wp2_with fail
  refine (iUnw cc nn _).mono ?_
  obtain ⟨U, hU⟩ : ∃ U, unweaveL cc nn = U := ⟨_, rfl⟩
  have hU4 : U.length ≤ 4 := by rw [← hU]; exact unw_short cc nn
  have HU := hidP hU
  rw [hU]
  clear hU
  rintro e w4 ⟨au, rfl, ou4, L4⟩
  have vx4 := vx3.next L4
  have vu4 := ou4.view
  replace L4 := chain L3 L4
  clear vx3 L3 ou4
  go_wp2_with fail
  refine (cBelowD ao0 len0 cap0 _ (HV.out.below (Nat.le_refl _) L4) hn).mono ?_
  rintro e w5 ⟨⟨ga, ca, us, gb, cb, bs, rfl, hlu, hlb, va5, vb5⟩, L5⟩
  have vx5 := vx4.next L5
  have vu5 := vu4.next L5
  replace L5 := chain L4 L5
  clear vx4 vu4 L4
  go_wp2_with fail
  refine (cRankedD ao0 len0 cap0 _ (HV.out.below (Nat.le_refl _) L5) hn).mono ?_
  rintro e w6 ⟨⟨gl, cl, ns, rfl, vl6, hsm, hl60⟩, L6⟩
  have P6 : PMo w6 (some ⟨gp, 0, none⟩) xs (some ⟨ga, 0, none⟩) us (some ⟨gb, 0, none⟩) bs (some ⟨gl, 0, none⟩) ns := ⟨vx5.next L6, va5.next L6, vb5.next L6, vl6⟩
  have vu6 := vu5.next L6
  replace L6 := chain L5 L6
  clear vx5 vu5 va5 vb5 vl6 L5
  go_wp2_with fail
  refine (iRanked _ cl ns _ P6.l hsm).mono ?_
  obtain ⟨R, hR⟩ : ∃ R, rankL ns = R := ⟨_, rfl⟩
  have hR60 : R.length ≤ 60 := by rw [← hR]; exact rank_short ns
  have HR := hidP hR
  rw [hR]
  clear hR
  rintro e w7 ⟨ar, rfl, or7, L7⟩
  have P7 := P6.next L7
  have vu7 := vu6.next L7
  have vr7 := or7.view
  replace L7 := chain L6 L7
  clear P6 vu6 L6 or7
  go_wp2_with fail
  refine (sWeave _ cp xs _ P7.p (by omega)).mono ?_
  rintro e w7' ⟨rfl, hw7'⟩
  obtain rfl := hw7'.symm
  have q1 : (weaveV xs != weaveV xs) = false := by simp
  go_wp2_with fail
  refine (sUnw cc nn _).mono ?_
  rw [HU.out]
  rintro e w8 ⟨b8, rfl, o8, _, L8⟩
  have P8 := P7.next L8
  have vu8 := vu7.next L8
  have vr8 := vr7.next L8
  replace L8 := chain L7 L8
  clear P7 vu7 vr7 L7
  go_wp2_with fail
  refine (likeS au (some ⟨b8, 0, none⟩) _ _ U U _ vu8 o8.view (by omega)).mono ?_
  rintro e w9 ⟨rfl, n9, hw9⟩
  have t1 : decide (U = U) = true := by simp
  have L9' : Below w8.heap.size w8 w9 := by rw [hw9]; exact below_drewN (Below.refl _ _) n9
  have P9 := P8.next L9'
  have vu9 := vu8.next L9'
  have vr9 := vr8.next L9'
  have L9 := chain L8 L9'
  clear P8 vu8 vr8 L8 L9' hw9 o8
  go_wp2_with fail
  refine (iBelow _ _ ca cb us bs _ P9.a P9.b (by omega) (by omega)).mono ?_
  rintro e w9' ⟨rfl, hw9'⟩
  obtain rfl := hw9'.symm
  go_wp2_with fail
  refine (sBelow _ _ ca cb us bs _ P9.a P9.b (by omega) (by omega)).mono ?_
  rintro e w10 ⟨rfl, n10, hw10⟩
  have q2 : (belowV us bs != belowV us bs) = false := by simp
  have L10' : Below w9.heap.size w9 w10 := by rw [hw10]; exact below_drewN (Below.refl _ _) n10
  have P10 := P9.next L10'
  have vu10 := vu9.next L10'
  have vr10 := vr9.next L10'
  have L10 := chain L9 L10'
  clear P9 vu9 vr9 L9 L10' hw10
  go_wp2_with fail
  refine (sRanked _ cl ns _ P10.l hsm).mono ?_
  rw [HR.out]
  rintro e w11 ⟨gr, cr, rfl, row11, L11⟩
  have P11 := P10.next L11
  have vu11 := vu10.next L11
  have vr11 := vr10.next L11
  replace L11 := chain L10 L11
  clear P10 vu10 vr10 L10
  go_wp2_with fail
  refine (likeS ar (some ⟨gr, 0, none⟩) _ _ R R _ vr11 row11.view (by omega)).mono ?_
  rintro e w12 ⟨rfl, n12, hw12⟩
  have t2 : decide (R = R) = true := by simp
  have L12' : Below w11.heap.size w11 w12 := by rw [hw12]; exact below_drewN (Below.refl _ _) n12
  have P12 := P11.next L12'
  have vu12 := vu11.next L12'
  have vr12 := vr11.next L12'
  have L12 := chain L11 L12'
  clear P11 vu11 vr11 L11 L12' hw12 row11 q1 q2 t1 t2
  go_upto_region 12 with fail
  go_cut [85] from 64 to 85 (fun v wx => v = .bool false ∧ PMo wx (some ⟨gp, 0, none⟩) xs (some ⟨ga, 0, none⟩) us (some ⟨gb, 0, none⟩) bs (some ⟨gl, 0, none⟩) ns ∧ View wx ar R ∧ Below w.heap.size w wx)
  case first =>
    by_cases hW : 0 ≤ weaveV xs
    · have hwb : decide (weaveV xs ≥ 0) = true := decide_eq_true (by omega)
      have hwb2 : decide (0 ≤ weaveV xs) = true := decide_eq_true (by omega)
      have HBK : Hid (∀ W, Calls Try.prog 14 #[.int .i64 (weaveV xs), .int .i64 (xs.length : Int)] W fun e w' => ∃ ao, e = .returned (.slice ao xs.length xs.length) ∧ OwnV W.heap.size w' ao xs ∧ Below W.heap.size W w') := fun W => by
        have := iUnw (weaveV xs) xs.length W
        rwa [morton_back hW] at this
      go_wp2_with fail
      refine (HBK.out _).mono ?_
      rintro e w13 ⟨a13, rfl, o13, L13'⟩
      have P13 := P12.next L13'
      have vu13 := vu12.next L13'
      have vr13 := vr12.next L13'
      have L13 := chain L12 L13'
      clear P12 vu12 vr12 L12 L13' HBK
      go_wp2_with fail
      refine (likeS a13 _ _ _ xs xs _ o13.view P13.p (by omega)).mono ?_
      rintro e wA ⟨rfl, n14, hw14⟩
      have t3 : decide (xs = xs) = true := by simp
      have L14' : Below w13.heap.size w13 wA := by rw [hw14]; exact below_drewN (Below.refl _ _) n14
      have PA := P13.next L14'
      have vuA := vu13.next L14'
      have vrA := vr13.next L14'
      have LA := chain L13 L14'
      clear P13 vu13 vr13 L13 L14' hw14 o13
      by_cases hUe : 0 < U.length
      · have hub : decide ((0 : Int) < (U.length : Int)) = true := decide_eq_true (by omega)
        have HUC := hidP (show weaveV U = cc by rw [← HU.out]; exact morton_forth (by rw [HU.out]; exact hUe))
        go_wp2_with fail
        refine (iWeave au _ U _ vuA (by omega)).mono ?_
        rw [HUC.out]
        rintro e wB ⟨rfl, LB'⟩
        have PB := PA.next LB'
        have vrB := vrA.next LB'
        have LB := chain LA LB'
        have hcb : (cc != cc) = false := by simp
        clear PA vuA vrA LA LB'
        go_wp2_with fail
        go_meet
        exact ⟨rfl, PB, vrB, LB⟩
      · have hub : decide ((0 : Int) < (U.length : Int)) = false := decide_eq_false (by omega)
        go_wp2_with fail
        go_meet
        exact ⟨rfl, PA, vrA, LA⟩
    · have hwb : decide (weaveV xs ≥ 0) = false := decide_eq_false (by omega)
      have hwb2 : decide (0 ≤ weaveV xs) = false := decide_eq_false (by omega)
      have PA := P12
      have vuA := vu12
      have vrA := vr12
      have LA := L12
      clear P12 vu12 vr12 L12
      by_cases hUe : 0 < U.length
      · have hub : decide ((0 : Int) < (U.length : Int)) = true := decide_eq_true (by omega)
        have HUC := hidP (show weaveV U = cc by rw [← HU.out]; exact morton_forth (by rw [HU.out]; exact hUe))
        go_wp2_with fail
        refine (iWeave au _ U _ vuA (by omega)).mono ?_
        rw [HUC.out]
        rintro e wB ⟨rfl, LB'⟩
        have PB := PA.next LB'
        have vrB := vrA.next LB'
        have LB := chain LA LB'
        have hcb : (cc != cc) = false := by simp
        clear PA vuA vrA LA LB'
        go_wp2_with fail
        go_meet
        exact ⟨rfl, PB, vrB, LB⟩
      · have hub : decide ((0 : Int) < (U.length : Int)) = false := decide_eq_false (by omega)
        go_wp2_with fail
        go_meet
        exact ⟨rfl, PA, vrA, LA⟩
  case rest =>
    obtain ⟨rfl, P13, vr13, L13⟩ := hcut
    obtain ⟨W1, hW1⟩ : ∃ W1, W1 = wc := ⟨_, rfl⟩
    rw [← hW1] at P13 vr13 L13
    rw [← hW1]
    clear hW1 P12 vu12 vr12 L12
    go_upto_region 14 with fail
    go_cut [95] from 86 to 95 (fun v wx => v = .bool false ∧ PMo wx (some ⟨gp, 0, none⟩) xs (some ⟨ga, 0, none⟩) us (some ⟨gb, 0, none⟩) bs (some ⟨gl, 0, none⟩) ns ∧ View wx ar R ∧ Below w.heap.size w wx)
    case first =>
      have HIB := hidP (iBelow _ _ ca cb us bs _ P13.a P13.b (by omega) (by omega))
      by_cases hbl : belowV us bs = false
      · rw [hbl] at HIB
        clear hbl
        go_wp2_with fail
        refine HIB.out.mono ?_
        rintro e w14 ⟨rfl, hw14⟩
        obtain rfl := hw14.symm
        go_wp2_with fail
        go_meet
        exact ⟨rfl, P13, vr13, L13⟩
      · have hbt : belowV us bs = true := by simpa using hbl
        rw [hbt] at HIB
        have HMO := hidP (morton_mono hbt)
        clear hbl hbt
        go_wp2_with fail
        refine HIB.out.mono ?_
        rintro e w14 ⟨rfl, hw14⟩
        obtain rfl := hw14.symm
        go_wp2_with fail
        refine (iWeave _ ca us _ P13.a (by omega)).mono ?_
        rintro e w15 ⟨rfl, L15'⟩
        have P15 := P13.next L15'
        have vr15 := vr13.next L15'
        have L15 := chain L13 L15'
        clear P13 vr13 L13 L15' HIB
        go_wp2_with fail
        refine (iWeave _ cb bs _ P15.b (by omega)).mono ?_
        rintro e w16 ⟨rfl, L16'⟩
        have P16 := P15.next L16'
        have vr16 := vr15.next L16'
        have L16 := chain L15 L16'
        clear P15 vr15 L15 L16'
        have hgt : decide (weaveV us > weaveV bs) = false := decide_eq_false (by have := HMO.out; omega)
        have hgt2 : decide (weaveV bs < weaveV us) = false := decide_eq_false (by have := HMO.out; omega)
        go_wp2_with fail
        go_meet
        exact ⟨by first | rfl | (congr 1), P16, vr16, L16⟩
    case rest =>
      obtain ⟨rfl, P16, vr16, L16⟩ := hcut
      obtain ⟨W2, hW2⟩ : ∃ W2, W2 = wc := ⟨_, rfl⟩
      rw [← hW2] at P16 vr16 L16
      rw [← hW2]
      clear hW2 P13 vr13 L13
      by_cases hRe : 0 < R.length
      · obtain ⟨hra, hrb⟩ := rank_all (ms := ns) (by rw [HR.out]; exact hRe)
        rw [HR.out] at hra
        have HRB : Hid (∀ i, i < ns.length → mid ns i ∈ R) := fun i hi => by have := hrb i hi; rwa [HR.out] at this
        have hrl : ((R.length : Int) != (ns.length : Int)) = false := by simp [hra]
        have hr0 : decide ((0 : Int) < (R.length : Int)) = true := decide_eq_true (by omega)
        have HRA := hidP hra
        obtain ⟨br, or, rfl, hbr, sr⟩ : ∃ b off, ar = some ⟨b, off, none⟩ ∧ b < W2.heap.size ∧ Seg W2 b off R := by
          rcases vr16 with h | h
          · rw [h] at hRe; simp at hRe
          · exact h
        obtain ⟨bl, ol, hal, hbl', sl⟩ : ∃ b off, (some ⟨gl, 0, none⟩ : Option Addr) = some ⟨b, off, none⟩ ∧ b < W2.heap.size ∧ MSeg W2 b off ns := by
          rcases P16.l with h | h
          · rw [h] at hra; simp only [List.length_nil] at hra; omega
          · exact h
        obtain ⟨rfl, rfl⟩ : gl = bl ∧ 0 = ol := by injection hal with h; injection h with h1 h2; exact ⟨h1, h2⟩
        clear hra hrb hal vr16
        go_wp2_with fail
        go_loop [12] (fun i => ∃ k : Nat, k ≤ ns.length ∧ i = .int .i64 k) (fun i => ns.length - (intOf i).toNat)
        case atStart => exact ⟨0, Nat.zero_le _, rfl⟩
        case round =>
          obtain ⟨k, hk, rfl⟩ := hrel
          by_cases hlt : k < ns.length
          · obtain ⟨m0, _⟩ := sl k hlt
            have hm := HRB.out k hlt
            have HH := hidP (hasS_seg br or R.length (mid ns k) R W2 sr (by omega))
            rw [show decide (mid ns k ∈ R) = true by simp [hm]] at HH
            have emi : (mnth ns k).1 = mid ns k := rfl
            rw [Nat.zero_add, emi] at m0
            generalize mid ns k = v at *
            clear hm emi
            go_wp2_with (go_at_call 24; refine HH.out.mono ?_; rintro e w17 ⟨rfl, hw17⟩; obtain rfl := hw17.symm)
            go_round
            case rel => exact ⟨k + 1, by omega, by go_num⟩
            case measure => simp [intOf]; omega
          · go_wp2_with fail
            go_ret
            exact ⟨rfl, L16⟩
      · have hr0 : decide ((0 : Int) < (R.length : Int)) = false := decide_eq_false (by omega)
        go_wp2_with fail
        refine wp_loop_rounds 1 ?_
        rw [rounds_succ]
        by_cases hl0 : 0 < ns.length
        · have hn0 : decide ((0 : Int) < (ns.length : Int)) = true := decide_eq_true (by omega)
          go_wp2_with fail
          go_ret
          exact ⟨rfl, L16⟩
        · have hn0 : decide ((0 : Int) < (ns.length : Int)) = false := decide_eq_false (by omega)
          go_wp2_with fail
          go_ret
          exact ⟨rfl, L16⟩

set_option maxRecDepth 100000 in
theorem lifted (os : Os) (started : os.Started) (H : Type) (enc : TypeId × Value → H) :
    ReturnsInHanded {} Try.checked os 3 .any (Rows.fnMortonSpec.pre6 enc Try.prog Try.f3 Rows.fnMortonRow.domain false) (Rows.fnMortonSpec.post enc Try.prog Try.f3 false true false false) := by
  refine returnsInHanded_of_change (C := Try.checked) own started (by kernel_rfl) Try.func3
    (ChangeSpec.witness6 (enc := enc) (C := Try.checked) false ⟨#[], #[.slice none 0 0], []⟩ 8 (by kernel_rfl) (by kernel_rfl) (by kernel_rfl) (by kernel_rfl)) ?_
  intro W base args ds gs before hval0 hW hcnd _
  have hval : ∀ (j : Nat) t v, Try.f3.params[j]? = some t → args[j]? = some v → Value.okWide Try.prog W .any base t v := hval0
  have hW' := hW
  obtain ⟨p, q, hA0, hV, rfl, hfz, hnd⟩ := hW
  have hA : DataW.TrodAll enc Try.prog W 0 (fun _ => true) true Try.f3.params.toList args.toList ds p := hA0
  rw [Try.params3] at hA hval
  obtain ⟨v0, vs0, d0, ds0, p0, q0, hargs, rfl, rfl, h0, r0⟩ := trodAll_cons hA
  obtain ⟨rfl, rfl, rfl⟩ := trodAll_nil r0
  obtain rfl : args = #[v0] := by cases args; simp_all
  obtain ⟨rfl, rfl⟩ := trodVars_none hV
  obtain ⟨a0, len0, cap0, rfl⟩ := okWide_slice Try.underlying22 (hval 0 22 v0 rfl rfl)
  have k0 := h0
  have lt0 : ∀ x ∈ p0, x.block < W.heap.size := by obtain ⟨m, hm⟩ := k0; exact DataW.trod_lt m _ _ _ hm
  obtain ⟨hv0, hn0⟩ := (by obtain ⟨fuel, hf⟩ := h0; exact code_view hf : CodeV W a0 len0 ∧ len0 ≤ maxLen)
  clear hA0 hval0
  refine (walk a0 len0 cap0 W hv0 hn0).mono fun e W' ⟨he, bel⟩ => ?_
  subst he
  exact ⟨_, rfl, _, _, _, [], _, [], hW', trodAll_mk1 (shut_bool Try.underlying4 _), (trodAll_cons_mk (Below.trod laidOut (by kernel_rfl) (of_decide_eq_true (by kernel_rfl)) k0 bel lt0) trodAll_mk0), rfl, bel.frame _, fun h => by cases h⟩

theorem over : Rows.fnMortonRow.holds Try.pinned (OpenSpec.ofChange Rows.fnMortonSpec) :=
  OpenClaim.holds_of_wide 3 Try.f3 rfl rfl rfl rfl rfl rfl rfl ⟨rfl, rfl, rfl, rfl, rfl⟩ rfl rfl rfl rfl rfl (by kernel_rfl) Try.func3 (by kernel_rfl)
    (of_decide_eq_true (by kernel_rfl)) (by unfold Func.isWrapper; first | (rw [if_pos (by decide +kernel)]; kernel_rfl) | (rw [if_neg (by decide +kernel)]; exact ⟨rfl, rfl⟩))
    (fun os started H enc _ => lifted os started H enc)

end Go.Proofs.Ytibkfdefoaimiaa.fnMorton
namespace Go.Proofs.Ytibkfdefoaimiaa

theorem FnMorton_holds : Rows.FnMortonSaid := fnMorton.over

end Go.Proofs.Ytibkfdefoaimiaa
