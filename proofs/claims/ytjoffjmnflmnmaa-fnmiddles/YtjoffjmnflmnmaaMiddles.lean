/-
  FnMiddles holds: for every slice of bytes the law of middles returns true and leaves its argument alone; no condition.
-/
import Derived.Test.YtjoffjmnflmnmaaMDraw2
import Derived.Test.YtjoffjmnflmnmaaMid
import Derived.Test.YtjoffjmnflmnmaaMLaw
namespace Go.Proofs.Ytjoffjmnflmnmaa.fnMiddles
open Go.ChangeShapes Go.WideShapes Go.ChangeAt Go.RowKit
set_option linter.unusedVariables false

theorem own : ownKnob Try.prog.godebug = none := by kernel_rfl
theorem laidOut : laidOutB Try.prog = true := by kernel_rfl

set_option maxRecDepth 100000 in
set_option maxHeartbeats 4000000 in
theorem walk (ao0 : Option Addr) (len0 cap0 : Nat) (w : World) (hv0 : CodeV w ao0 len0) (hn0 : len0 ≤ maxLen) :
    Calls Try.prog 7 #[.slice ao0 len0 cap0] w fun e w' => e = .returned (.bool true) ∧ Below w.heap.size w w' := by
  unfold maxLen at hn0
  by_cases hbig : 4096 < len0
  · go_enter Try.func7, Try.ntmps7
    go_wp2_with (go_at_call 21; refine (bigC _ _ _ _).mono ?_; rintro e w' ⟨rfl, rfl⟩)
    go_ret
    exact ⟨rfl, Below.refl _ _⟩
  have hn : len0 ≤ 4096 := by omega
  have hbb : decide (4096 < (len0 : Int)) = false := by simp; omega
  clear hn0 hbig
  go_enter Try.func7, Try.ntmps7
  go_wp2_with fail
  refine (bigC _ _ _ _).mono ?_
  rintro e wa ⟨rfl, hu0⟩
  subst hu0
  rw [hbb]
  go_wp2_with fail
  refine (cMid ao0 len0 cap0 _ hv0 hn).mono ?_
  rintro e w1 ⟨g, c, ms, kd, rfl, ⟨hm, hsm, hcap, h60⟩, L1⟩
  go_wp2_with fail
  refine (iMid _ c ms kd _ hm hsm hcap).mono ?_
  rintro e w2 ⟨rfl, L2⟩
  have hm2 := hm.next L2
  have M2 := chain L1 L2
  clear L1 L2 hm
  go_wp2_with fail
  refine (iDia _ c ms kd _ hm2 hsm).mono ?_
  rintro e w3 ⟨rfl, L3⟩
  have hm3 := hm2.next L3
  have M3 := chain M2 L3
  clear L3 M2 hm2
  go_wp2_with fail
  refine (cBet ao0 len0 cap0 _ (hv0.below (Nat.le_refl _) M3) hn).mono ?_
  rintro e w4 ⟨ga, ca, xs, gb, cb, ys, k, rfl, hxl, hyl, hx, hy, L4⟩
  have hm4 := hm3.next L4
  have M4 := chain M3 L4
  have hxs : xs.length ≤ 1048576 := by omega
  have hys : ys.length ≤ 1048576 := by omega
  clear L4 M3 hm3
  have q1 : (midV ms kd != midV ms kd) = false := by simp
  have q2 : (diaV ms kd != diaV ms kd) = false := by simp
  have q3 : (betV xs ys k != betV xs ys k) = false := by simp
  have q4 : (marksB ms != marksB ms) = false := by simp
  go_wp2_with fail
  refine (sMid _ c ms kd _ hm4 hsm).mono ?_
  rintro e w5 ⟨rfl, n5, hw5⟩
  have M5 : Below w.heap.size w w5 := by rw [hw5]; exact below_drewN M4 n5
  have hm5 : MView w5 (some ⟨g, 0, none⟩) ms := by rw [hw5]; exact hm4
  have hx5 : View w5 (some ⟨ga, 0, none⟩) xs := by rw [hw5]; exact hx
  have hy5 : View w5 (some ⟨gb, 0, none⟩) ys := by rw [hw5]; exact hy
  clear hw5 M4 hm4 hx hy
  go_wp2_with fail
  refine (sDia _ c ms kd _ hm5 hsm).mono ?_
  rintro e w6 ⟨rfl, n6, hw6⟩
  have M6 : Below w.heap.size w w6 := by rw [hw6]; exact below_drewN M5 n6
  have hm6 : MView w6 (some ⟨g, 0, none⟩) ms := by rw [hw6]; exact hm5
  have hx6 : View w6 (some ⟨ga, 0, none⟩) xs := by rw [hw6]; exact hx5
  have hy6 : View w6 (some ⟨gb, 0, none⟩) ys := by rw [hw6]; exact hy5
  clear hw6 M5 hm5 hx5 hy5
  go_wp2_with fail
  refine (iBet _ _ ca cb xs ys k _ hx6 hy6 hxs hys).mono ?_
  rintro e w7 ⟨rfl, L7⟩
  have M7 := chain M6 L7
  have hm7 := hm6.next L7
  have hx7 := hx6.next L7
  have hy7 := hy6.next L7
  clear L7 M6 hm6 hx6 hy6
  go_wp2_with fail
  refine (sBet _ _ ca cb xs ys k _ hx7 hy7 hxs hys).mono ?_
  rintro e w8 ⟨rfl, n8, hw8⟩
  have M8 : Below w.heap.size w w8 := by rw [hw8]; exact below_drewN M7 n8
  have hm8 : MView w8 (some ⟨g, 0, none⟩) ms := by rw [hw8]; exact hm7
  clear hw8 M7 hm7 hx7 hy7
  go_wp2_with fail
  refine (iMarks _ c ms _ hm8 hsm).mono ?_
  rintro e w9 ⟨rfl, L9⟩
  have M9 := chain M8 L9
  have hm9 := hm8.next L9
  clear L9 M8 hm8
  go_wp2_with fail
  refine (sMarks _ c ms _ hm9 hsm).mono ?_
  rintro e wb ⟨rfl, n10, hw10⟩
  have M10 : Below w.heap.size w wb := by rw [hw10]; exact below_drewN M9 n10
  have hm10 : MView wb (some ⟨g, 0, none⟩) ms := by rw [hw10]; exact hm9
  clear hw10 M9 hm9
  rcases hno : noneB ms kd with _ | _
  · obtain ⟨hmv, hm1, hbl⟩ := midV_some hno
    have HNO := hidP hno
    have HMV := hidP hmv
    have H60 := hidP h60
    have hdv : diaV ms kd = maxTo (mostF ms kd) ms.length := by simp [diaV, hno]
    have HDV := hidP hdv
    have HSM := hidP hsm
    have HM := hidP hm10
    have HML := hidP M10
    have hz0 : (midV ms kd == 0) = false := by simp; omega
    obtain ⟨h0, hok, hkok⟩ := noneB_of hno
    have HOK := hidP hok
    have hat := hsm.2
    have hn1 := hsm.1
    clear hmv hdv hsm hm10 M10 hno hok hkok h0
    go_wp2_with fail
    clear q1 q2 q3 q4
    go_loopw [10, 11, 12, 13] (fun le mo ow i wr => ∃ k : Nat, k ≤ ms.length ∧ i = .int .i64 k ∧ le = .int .i64 (leastI ms kd k) ∧ mo = .int .i64 (maxTo (mostF ms kd) k) ∧ ow = .int .i64 (ownI ms kd (midV ms kd) k) ∧ Below wb.heap.size wb wr) (fun _ _ _ i _ => ms.length - (intOf i).toNat)
    case atStart => exact ⟨0, Nat.zero_le _, rfl, rfl, rfl, rfl, Below.refl _ _⟩
    case round =>
      obtain ⟨i, hi, rfl, rfl, rfl, rfl, L⟩ := hrel
      by_cases hlt : i < ms.length
      · obtain ⟨b', off', eb, hgw, hseg⟩ := MSeg.seg HM.out (by omega)
        have hb0 : b' = g ∧ off' = 0 := by simp at eb; omega
        rw [hb0.1, hb0.2] at hseg
        rw [hb0.1] at hgw
        clear eb hb0
        have HF : Hid (maxTo (betF ms (mat ms i) kd) ms.length = mostF ms kd i) := rfl
        have HY := hidP (leastI_yes ms kd i)
        have HN := hidP (leastI_no ms kd i)
        have HS := hidP hseg
        have HL := hidP L
        clear L hseg
        go_wp2_with fail
        go_loopw [14, 15] (fun fa j wr => ∃ k : Nat, k ≤ ms.length ∧ j = .int .i64 k ∧ fa = .int .i64 (maxTo (betF ms (mat ms i) kd) k) ∧ Below wb.heap.size wb wr) (fun _ j _ => ms.length - (intOf j).toNat)
        case atStart => exact ⟨0, Nat.zero_le _, rfl, rfl, HL.out⟩
        case round =>
          obtain ⟨k, hk, rfl, rfl, L⟩ := hrel
          by_cases hlt2 : k < ms.length
          · have hsw := HS.out.below hgw (Nat.le_refl _) L
            obtain ⟨-, ae, ce, hc1, hve⟩ := hsw.at hlt
            obtain ⟨-, af, cf, hd1, hvf⟩ := hsw.at hlt2
            rw [Nat.zero_add] at hc1 hd1
            have hz := L.size
            have hgwr : g < wr.heap.size := by omega
            have hi0 : (0 : Int) ≤ (i : Int) := Int.natCast_nonneg _
            have hi1 : (i : Int) < (ms.length : Int) := by omega
            have hj0 : (0 : Int) ≤ (k : Int) := Int.natCast_nonneg _
            have hj1 : (k : Int) < (ms.length : Int) := by omega
            have HC := hidP (iBet ae af ce cf (mat ms i) (mat ms k) kd wr.drew hve.drew hvf.drew (hat i) (hat k))
            have HNX : Hid (maxTo (betF ms (mat ms i) kd) (k + 1) = max (maxTo (betF ms (mat ms i) kd) k) (betV (mat ms i) (mat ms k) kd)) := rfl
            have HLL := hidP L
            clear L hve hvf hsw
            go_wp2_with fail
            go_region_held3 (fun w' => w'.cell? ⟨g, i * 2 + 1, none⟩ = some (.slice ae (mat ms i).length ce) ∧ w'.cell? ⟨g, k * 2 + 1, none⟩ = some (.slice af (mat ms k).length cf))
              (first
                | go_keep
                | (refine ⟨(L3.cell (p := ⟨g, i * 2 + 1, none⟩) hgwr).trans hc1, (L3.cell (p := ⟨g, k * 2 + 1, none⟩) hgwr).trans hd1⟩))
              (first
                | (go_at_call 15; refine HC.out.mono ?_; rintro e wc ⟨rfl, L3⟩))
            have LF := hidP (HLL.out.drew.trans (L3.mono hz))
            clear L3 HC
            by_cases hgt : maxTo (betF ms (mat ms i) kd) k < betV (mat ms i) (mat ms k) kd
            · go_wp2_with fail
              go_roundw
              case rel => exact ⟨k + 1, by omega, by go_num, by rw [HNX.out]; congr 1; omega, LF.out⟩
              case measure => simp [intOf]; omega
            · go_wp2_with fail
              go_roundw
              case rel => exact ⟨k + 1, by omega, by go_num, by rw [HNX.out]; congr 1; omega, LF.out⟩
              case measure => simp [intOf]; omega
          · obtain rfl : k = ms.length := by omega
            have hc0 := ((HS.out.below hgw (Nat.le_refl _) L).at hlt).1
            rw [Nat.zero_add] at hc0
            rw [HF.out]
            have HM1 : Hid (maxTo (mostF ms kd) (i + 1) = max (maxTo (mostF ms kd) i) (mostF ms kd i)) := rfl
            have HO1 : Hid (ownI ms kd (midV ms kd) (i + 1) = if mid ms i = midV ms kd then mostF ms kd i else ownI ms kd (midV ms kd) i) := rfl
            have HLL := hidP L
            clear L
            rcases (by by_cases h1 : leastI ms kd i < 0; exact Or.inl h1; by_cases h2 : mostF ms kd i < leastI ms kd i; exact Or.inr (Or.inl ⟨h1, h2⟩); exact Or.inr (Or.inr ⟨h1, h2⟩) : leastI ms kd i < 0 ∨ (¬ leastI ms kd i < 0 ∧ mostF ms kd i < leastI ms kd i) ∨ (¬ leastI ms kd i < 0 ∧ ¬ mostF ms kd i < leastI ms kd i)) with h1 | ⟨h1, h2⟩ | ⟨h1, h2⟩
            · have HLE := hidP (HY.out (Or.inl h1))
              by_cases h3 : maxTo (mostF ms kd) i < mostF ms kd i
              · by_cases h4 : mid ms i = midV ms kd
                · have h4b : (mid ms i == midV ms kd) = true := by simp [h4]
                  have H4 := hidP h4
                  clear h4
                  go_wp2_with fail
                  go_roundw
                  case rel => exact ⟨i + 1, by omega, by go_num, by rw [HLE.out], by rw [HM1.out]; congr 1; omega, by rw [HO1.out, if_pos H4.out], HLL.out⟩
                  case measure => simp [intOf]; omega
                · have h4b : (mid ms i == midV ms kd) = false := by simp [h4]
                  have H4 := hidP h4
                  clear h4
                  go_wp2_with fail
                  go_roundw
                  case rel => exact ⟨i + 1, by omega, by go_num, by rw [HLE.out], by rw [HM1.out]; congr 1; omega, by rw [HO1.out, if_neg H4.out], HLL.out⟩
                  case measure => simp [intOf]; omega
              · by_cases h4 : mid ms i = midV ms kd
                · have h4b : (mid ms i == midV ms kd) = true := by simp [h4]
                  have H4 := hidP h4
                  clear h4
                  go_wp2_with fail
                  go_roundw
                  case rel => exact ⟨i + 1, by omega, by go_num, by rw [HLE.out], by rw [HM1.out]; congr 1; omega, by rw [HO1.out, if_pos H4.out], HLL.out⟩
                  case measure => simp [intOf]; omega
                · have h4b : (mid ms i == midV ms kd) = false := by simp [h4]
                  have H4 := hidP h4
                  clear h4
                  go_wp2_with fail
                  go_roundw
                  case rel => exact ⟨i + 1, by omega, by go_num, by rw [HLE.out], by rw [HM1.out]; congr 1; omega, by rw [HO1.out, if_neg H4.out], HLL.out⟩
                  case measure => simp [intOf]; omega
            · have HLE := hidP (HY.out (Or.inr h2))
              by_cases h3 : maxTo (mostF ms kd) i < mostF ms kd i
              · by_cases h4 : mid ms i = midV ms kd
                · have h4b : (mid ms i == midV ms kd) = true := by simp [h4]
                  have H4 := hidP h4
                  clear h4
                  go_wp2_with fail
                  go_roundw
                  case rel => exact ⟨i + 1, by omega, by go_num, by rw [HLE.out], by rw [HM1.out]; congr 1; omega, by rw [HO1.out, if_pos H4.out], HLL.out⟩
                  case measure => simp [intOf]; omega
                · have h4b : (mid ms i == midV ms kd) = false := by simp [h4]
                  have H4 := hidP h4
                  clear h4
                  go_wp2_with fail
                  go_roundw
                  case rel => exact ⟨i + 1, by omega, by go_num, by rw [HLE.out], by rw [HM1.out]; congr 1; omega, by rw [HO1.out, if_neg H4.out], HLL.out⟩
                  case measure => simp [intOf]; omega
              · by_cases h4 : mid ms i = midV ms kd
                · have h4b : (mid ms i == midV ms kd) = true := by simp [h4]
                  have H4 := hidP h4
                  clear h4
                  go_wp2_with fail
                  go_roundw
                  case rel => exact ⟨i + 1, by omega, by go_num, by rw [HLE.out], by rw [HM1.out]; congr 1; omega, by rw [HO1.out, if_pos H4.out], HLL.out⟩
                  case measure => simp [intOf]; omega
                · have h4b : (mid ms i == midV ms kd) = false := by simp [h4]
                  have H4 := hidP h4
                  clear h4
                  go_wp2_with fail
                  go_roundw
                  case rel => exact ⟨i + 1, by omega, by go_num, by rw [HLE.out], by rw [HM1.out]; congr 1; omega, by rw [HO1.out, if_neg H4.out], HLL.out⟩
                  case measure => simp [intOf]; omega
            · have HLE := hidP (HN.out (by omega) (by omega))
              by_cases h3 : maxTo (mostF ms kd) i < mostF ms kd i
              · by_cases h4 : mid ms i = midV ms kd
                · have h4b : (mid ms i == midV ms kd) = true := by simp [h4]
                  have H4 := hidP h4
                  clear h4
                  go_wp2_with fail
                  go_roundw
                  case rel => exact ⟨i + 1, by omega, by go_num, by rw [HLE.out], by rw [HM1.out]; congr 1; omega, by rw [HO1.out, if_pos H4.out], HLL.out⟩
                  case measure => simp [intOf]; omega
                · have h4b : (mid ms i == midV ms kd) = false := by simp [h4]
                  have H4 := hidP h4
                  clear h4
                  go_wp2_with fail
                  go_roundw
                  case rel => exact ⟨i + 1, by omega, by go_num, by rw [HLE.out], by rw [HM1.out]; congr 1; omega, by rw [HO1.out, if_neg H4.out], HLL.out⟩
                  case measure => simp [intOf]; omega
              · by_cases h4 : mid ms i = midV ms kd
                · have h4b : (mid ms i == midV ms kd) = true := by simp [h4]
                  have H4 := hidP h4
                  clear h4
                  go_wp2_with fail
                  go_roundw
                  case rel => exact ⟨i + 1, by omega, by go_num, by rw [HLE.out], by rw [HM1.out]; congr 1; omega, by rw [HO1.out, if_pos H4.out], HLL.out⟩
                  case measure => simp [intOf]; omega
                · have h4b : (mid ms i == midV ms kd) = false := by simp [h4]
                  have H4 := hidP h4
                  clear h4
                  go_wp2_with fail
                  go_roundw
                  case rel => exact ⟨i + 1, by omega, by go_num, by rw [HLE.out], by rw [HM1.out]; congr 1; omega, by rw [HO1.out, if_neg H4.out], HLL.out⟩
                  case measure => simp [intOf]; omega
      · have hi2 : i = ms.length := by omega
        subst hi2
        have hpos : 0 < ms.length := by omega
        have e1 : ownI ms kd (midV ms kd) ms.length = mostF ms kd (bestI ms kd ms.length) := by rw [HMV.out, ownI_at HOK.out kd hbl _ (Nat.le_refl _), if_pos hbl]
        have e2 := leastI_all ms kd ms.length hpos
        have h2b := mostF_le ms kd (bestI ms kd ms.length)
        have htw := dia_twice HNO.out
        rw [e1, e2, ← HDV.out] at *
        generalize mostF ms kd (bestI ms kd ms.length) = M at *
        generalize diaV ms kd = DD at *
        have q5 : (M == M) = true := by simp
        have q6 : (DD == DD) = true := by simp
        have HFIN := hidP (chain HML.out L)
        clear e1 e2 L HMV HDV
        by_cases hk1 : kd = 1
        · have hk1b : (kd == 1) = true := by simp [hk1]
          clear hk1
          go_wp2_with fail
          go_ret
          exact ⟨rfl, HFIN.out⟩
        · have hk1b : (kd == 1) = false := by simp [hk1]
          have hle : DD ≤ 2 * M := htw hk1
          clear hk1 htw
          go_wp2_with fail
          go_ret
          exact ⟨rfl, HFIN.out⟩
  · have hmv : midV ms kd = 0 := by simp [midV, hno]
    have hdv : diaV ms kd = -1 := by simp [diaV, hno]
    rw [hmv, hdv]
    clear q1 q2
    go_wp2_with fail
    go_ret
    exact ⟨rfl, M10⟩

set_option maxRecDepth 100000 in
theorem lifted (os : Os) (started : os.Started) (H : Type) (enc : TypeId × Value → H) :
    ReturnsInHanded {} Try.checked os 7 .any (Rows.fnMiddlesSpec.pre6 enc Try.prog Try.f7 Rows.fnMiddlesRow.domain false) (Rows.fnMiddlesSpec.post enc Try.prog Try.f7 false true false false) := by
  refine returnsInHanded_of_change (C := Try.checked) own started (by kernel_rfl) Try.func7
    (ChangeSpec.witness6 (enc := enc) (C := Try.checked) false ⟨#[], #[.slice none 0 0], []⟩ 8 (by kernel_rfl) (by kernel_rfl) (by kernel_rfl) (by kernel_rfl)) ?_
  intro W base args ds gs before hval0 hW hcnd _
  have hval : ∀ (j : Nat) t v, Try.f7.params[j]? = some t → args[j]? = some v → Value.okWide Try.prog W .any base t v := hval0
  have hW' := hW
  obtain ⟨p, q, hA0, hV, rfl, hfz, hnd⟩ := hW
  have hA : DataW.TrodAll enc Try.prog W 0 (fun _ => true) true Try.f7.params.toList args.toList ds p := hA0
  rw [Try.params7] at hA hval
  obtain ⟨v0, vs0, d0, ds0, p0, q0, hargs, rfl, rfl, h0, r0⟩ := trodAll_cons hA
  obtain ⟨rfl, rfl, rfl⟩ := trodAll_nil r0
  obtain rfl : args = #[v0] := by cases args; simp_all
  obtain ⟨rfl, rfl⟩ := trodVars_none hV
  obtain ⟨a0, len0, cap0, rfl⟩ := okWide_slice Try.underlying36 (hval 0 36 v0 rfl rfl)
  have k0 := h0
  have lt0 : ∀ x ∈ p0, x.block < W.heap.size := by obtain ⟨m, hm⟩ := k0; exact DataW.trod_lt m _ _ _ hm
  obtain ⟨hv0, hn0⟩ := (by obtain ⟨fuel, hf⟩ := h0; exact code_view hf : CodeV W a0 len0 ∧ len0 ≤ maxLen)
  clear hA0 hval0
  refine (walk a0 len0 cap0 W hv0 hn0).mono fun e W' ⟨he, bel⟩ => ?_
  subst he
  exact ⟨_, rfl, _, _, _, [], _, [], hW', trodAll_mk1 (shut_bool Try.underlying4 _), (trodAll_cons_mk (Below.trod laidOut (by kernel_rfl) (of_decide_eq_true (by kernel_rfl)) k0 bel lt0) trodAll_mk0), rfl, bel.frame _, fun h => by cases h⟩

theorem over : Rows.fnMiddlesRow.holds Try.pinned (OpenSpec.ofChange Rows.fnMiddlesSpec) :=
  OpenClaim.holds_of_wide 7 Try.f7 rfl rfl rfl rfl rfl rfl rfl ⟨rfl, rfl, rfl, rfl, rfl⟩ rfl rfl rfl rfl rfl (by kernel_rfl) Try.func7 (by kernel_rfl)
    (of_decide_eq_true (by kernel_rfl)) (by unfold Func.isWrapper; first | (rw [if_pos (by decide +kernel)]; kernel_rfl) | (rw [if_neg (by decide +kernel)]; exact ⟨rfl, rfl⟩))
    (fun os started H enc _ => lifted os started H enc)

end Go.Proofs.Ytjoffjmnflmnmaa.fnMiddles
namespace Go.Proofs.Ytjoffjmnflmnmaa

theorem FnMiddles_holds : Rows.FnMiddlesSaid := fnMiddles.over

end Go.Proofs.Ytjoffjmnflmnmaa
