/-
  The walk of FnGaps, over what the program's own functions answer.
-/
import Derived.Test.YtfbindjacmaeoaaENilZz
import Derived.Test.YtfbindjacmaeoaaEFinZz
import Derived.Test.YtfbindjacmaeoaaESpPZz
import Derived.Test.YtfbindjacmaeoaaC7LikeZz
import Derived.Test.YtfbindjacmaeoaaMovedSZz
import Derived.Test.YtfbindjacmaeoaaBytesZz
namespace Go.Proofs.Ytfbindjacmaeoaa
open Go Go.RowKit

/-- What the law has in hand. -/
structure GpP (w : World) (gl : Nat) (ms : List Mk) (a6 : Option Addr) (R : List (List Int)) (W : World) : Prop where
  list : MView W (some ⟨gl, 0, none⟩) ms
  grp : LView W a6 R
  low : Below w.heap.size w W
theorem GpP.next {w : World} {gl : Nat} {ms : List Mk} {a6 : Option Addr} {R : List (List Int)} {W W' : World} (h : GpP w gl ms a6 R W) (L : Below W.heap.size W W') : GpP w gl ms a6 R W' := ⟨h.list.next L, h.grp.next L, chain h.low L⟩
theorem grpL_some {ms : List Mk} {kd k : Int} (h : 0 < (grpL ms kd k).length) : grpB ms kd k = true := by
  rcases hb : grpB ms kd k with _ | _
  · rw [grpL_no hb] at h; simp at h
  · rfl

set_option maxRecDepth 100000 in
set_option maxHeartbeats 8000000 in
theorem walkGaps (HIG : IGroups) (HIP : IGap) (ao0 : Option Addr) (len0 cap0 : Nat) (w : World) (hv0 : CodeV w ao0 len0) :
    Calls Try.prog 4 #[.slice ao0 len0 cap0] w fun e w' => e = .returned (.bool true) ∧ Below w.heap.size w w' := by
  have HG := hidP HIG
  have HP := hidP HIP
  clear HIG HIP
  obtain ⟨j0, hj0, hy0, hy1, hy2⟩ := info_parts Try.info2
  by_cases hbig : 4096 < len0
  · have hbb : decide (4096 < (len0 : Int)) = true := by simp; omega
    go_enter Try.func4, Try.ntmps4
    go_wp2_with fail
    refine (bigC ao0 len0 cap0 _).mono ?_
    rintro e w1 ⟨rfl, hw1⟩
    subst hw1
    go_wp2_with fail
    go_ret
    exact ⟨rfl, Below.refl _ _⟩
  have hbb : decide (4096 < (len0 : Int)) = false := by simp; omega
  have hn : len0 ≤ 4096 := by omega
  have HV0 := hidP hv0
  clear hbig hv0
  go_enter Try.func4, Try.ntmps4
  go_wp2_with fail
  refine (bigC ao0 len0 cap0 _).mono ?_
  rintro e w0 ⟨rfl, hw0⟩
  subst hw0
  rw [hbb]
  clear hbb
  go_wp2_with fail
  refine (cDrawGrp ao0 len0 cap0 _ HV0.out hn).mono ?_
  rintro e w1 ⟨gl, cl, ms, kd, k, rfl, v1, ⟨hsm, hcl⟩, hl7, hk0, hk6, L1⟩
  have HCL := hidP hcl
  clear hcl
  obtain ⟨kn, rfl⟩ := Int.eq_ofNat_of_zero_le hk0
  obtain ⟨R, hR⟩ : ∃ R, grpL ms kd kn = R := ⟨_, rfl⟩
  have nR : R.length ≤ 60 ∧ ∀ l ∈ R, l.length ≤ 60 := by rw [← hR]; exact grpL_60 ms kd kn
  have HR := hidP hR
  have HC := hidP (HG.out (some ⟨gl, 0, none⟩) cl ms kd kn w1 v1 hsm HCL.out)
  rw [hR] at HC
  clear hR
  have HV1 := hidP v1
  clear v1
  go_wp2_with fail
  refine HC.out.mono ?_
  rintro e w2 ⟨a6, c6, rs, rfl, hnm, O2, M2⟩
  have hrl : rs.length = R.length := by rw [← nums_length, hnm]
  have v2 : LView w2 a6 R := by have := O2.view; rwa [hnm] at this
  have P2 : Hid (GpP w gl ms a6 R w2) := ⟨HV1.out.next M2, v2, chain L1 M2⟩
  rw [hrl]
  clear HC HV1 O2 M2 L1 hnm hrl v2
  go_wp2_with fail
  refine (cDrawGap ao0 len0 cap0 _ (HV0.out.below (Nat.le_refl _) P2.out.low) hn).mono ?_
  rintro e w3 ⟨ga, ca, ms', kd', gg', cg', gs, rfl, v3, ⟨hsm', hca⟩, t3, hcs, M3⟩
  have HCA := hidP hca
  clear hca
  have P3 := hidP (P2.out.next M3)
  have HQ3 := hidP (And.intro v3 t3)
  clear P2 M3 v3 t3
  have HC := hidP (sGroups (some ⟨gl, 0, none⟩) cl ms kd kn w3 P3.out.list hsm)
  rw [HR.out] at HC
  go_wp2_with fail
  refine HC.out.mono ?_
  rintro e w4 ⟨g4, c4, rs4, rfl, hnm4, r4, M4⟩
  have hrl4 : rs4.length = R.length := by rw [← nums_length, hnm4]
  have v4 : LView w4 (some ⟨g4, 0, none⟩) R := by have := r4.view; rwa [hnm4] at this
  have P4 := hidP (P3.out.next M4)
  have HQ4 := hidP (And.intro (HQ3.out.1.next M4) (HQ3.out.2.next M4))
  have V4 := hidP v4
  rw [hrl4]
  clear HC P3 HQ3 M4 r4 hnm4 hrl4 v4
  go_wp2_with fail
  refine (likeSS a6 (some ⟨g4, 0, none⟩) c6 c4 R _ P4.out.grp V4.out (by omega) (fun l hl => by have := nR.2 l hl; omega)).mono ?_
  rintro e w5 ⟨rfl, n5, hw5⟩
  have M5 : Below w4.heap.size w4 w5 := by rw [hw5]; exact below_drewN (Below.refl _ _) n5
  have P5 := hidP (P4.out.next M5)
  have HQ5 := hidP (And.intro (HQ4.out.1.next M5) (HQ4.out.2.next M5))
  clear hw5 M5 P4 HQ4 V4
  have HC := hidP (HP.out (some ⟨ga, 0, none⟩) (some ⟨gg', 0, none⟩) ca cg' ms' kd' gs w5 HQ5.out.1 HQ5.out.2 hsm' hcs HCA.out)
  go_wp2_with fail
  refine HC.out.mono ?_
  rintro e w6 ⟨rfl, M6⟩
  have P6 := hidP (P5.out.next M6)
  have HQ6 := hidP (And.intro (HQ5.out.1.next M6) (HQ5.out.2.next M6))
  clear HC M6 P5 HQ5
  have HC := hidP (sGap (some ⟨ga, 0, none⟩) (some ⟨gg', 0, none⟩) ca cg' ms' kd' gs w6 HQ6.out.1 HQ6.out.2 hsm' hcs)
  have htt : (gapI ms' kd' gs != gapI ms' kd' gs) = false := by simp
  go_wp2_with fail
  refine HC.out.mono ?_
  rintro e w7 ⟨rfl, M7⟩
  have P7 := hidP (P6.out.next M7)
  clear HC M7 P6 HQ6 hsm' hcs
  by_cases h0 : R.length = 0
  · have h0b : ((R.length : Int) == 0) = true := by rw [beq_iff_eq]; omega
    have H0 := hidP h0
    clear h0
    go_wp2_with fail
    go_ret
    exact ⟨rfl, P7.out.low⟩
  have h0b : ((R.length : Int) == 0) = false := by rw [beq_eq_false_iff_ne]; omega
  have hB : grpB ms kd kn = true := grpL_some (by rw [HR.out]; omega)
  have hkl : (R.length : Int) = kn := by have := grpL_len hB; rwa [HR.out] at this
  have hfacts := grp_facts hB
  rw [HR.out] at hfacts
  have HFA := hidP hfacts
  have HB := hidP hB
  have HKL := hidP hkl
  have hpos : 0 < R.length := by omega
  clear hfacts hB htt hkl
  have hlb : ∀ j, j ≤ R.length → lenS (R.take j) ≤ j * 60 := fun j hj => by
    induction j with
    | zero => simp [lenS]
    | succ j ih =>
      have := ih (by omega)
      have h1 := nR.2 (cn R j) (by rw [cn_at (by omega)]; exact List.getElem_mem _)
      rw [lenS_next (by omega)]
      omega
  have HLB := hidP hlb
  clear hlb
  go_wp2_with fail
  go_loopw [10, 11] (fun n i wr => ∃ j : Nat, j ≤ R.length ∧ i = .int .i64 j ∧ n = .int .i64 (lenS (R.take j) : Nat) ∧ GpP w gl ms a6 R wr) (fun _ i _ => R.length - (intOf i).toNat)
  case atStart => exact ⟨0, Nat.zero_le _, rfl, rfl, P7.out⟩
  case round =>
    obtain ⟨j, hj, rfl, rfl, hp⟩ := hrel
    clear P7
    have P := hidP hp
    have hbj := HLB.out j hj
    by_cases hlt : j < R.length
    · obtain ⟨b, aj, cj, rfl, hb, c1, vj⟩ := hp.grp.at hlt
      obtain ⟨hrise, hne⟩ := HFA.out.1 j hlt
      have hnx := lenS_next hlt
      have e1 := cn_at hlt
      rw [e1] at hrise hne hnx
      have hl60 := nR.2 _ (List.getElem_mem hlt)
      have HRS : Hid (∀ n, Calls Try.prog 30 #[.slice aj R[j].length cj] (wr.drewN n) fun e w' => e = .returned (.bool true) ∧ ∃ m, w' = (wr.drewN n).drewN m) := fun n => risesS aj cj R[j] (wr.drewN n) (View.drewN vj n) (by omega) hrise
      obtain ⟨bj, oj, rfl, hbj', hsj⟩ : ∃ b off, aj = some ⟨b, off, none⟩ ∧ b < wr.heap.size ∧ Seg wr b off R[j] := by
        rcases vj with h | h
        · rw [h] at hne; simp at hne
        · exact h
      have cj0 := hsj 0 hne
      rw [Nat.add_zero] at cj0
      have hle : ((R[j].length : Int) == 0) = false := by rw [beq_eq_false_iff_ne]; omega
      have hjz : (0 : Int) ≤ (j : Int) := Int.natCast_nonneg _
      have hjl : (j : Int) < (R.length : Int) := by omega
      have hlp : (0 : Int) < (R[j].length : Int) := by omega
      have HNX := hidP hnx
      have hfirst := HFA.out.2.1
      by_cases hj0 : j = 0
      · have hd1 : decide ((0 : Int) < (j : Int)) = false := by simp; omega
        have hd2 : decide (0 < j) = false := by simp; omega
        have H0 := hidP hj0
        clear hj0
        clear hp hsj hrise hnx e1 hfirst vj
        generalize R[j] = lj at *
        generalize lenS (R.take j) = N at *
        go_wp2_with fail
        go_quiet (first | (go_at_call 30; exact Calls.quiet_of (HRS.out _)))
        go_wp2_with fail
        go_roundw
        case rel => exact ⟨j + 1, by omega, by go_num, by rw [HNX.out]; rfl, P.out.next (below_drewN (Below.refl _ _) _)⟩
        case measure => simp [intOf]; omega
      · have hd1 : decide ((0 : Int) < (j : Int)) = true := by simp; omega
        have hd2 : decide (0 < j) = true := by simp; omega
        have hlt' : j - 1 < R.length := by omega
        obtain ⟨b2, ap, cp, e2, hb2, c2, vp⟩ := hp.grp.at hlt'
        injection e2 with e2
        injection e2 with e2 _ _
        subst e2
        obtain ⟨-, hnep⟩ := HFA.out.1 (j - 1) hlt'
        have hff := hfirst (j - 1) (by omega)
        rw [show j - 1 + 1 = j by omega, e1, cn_at hlt'] at hff
        rw [cn_at hlt'] at hnep
        obtain ⟨bp, op, rfl, hbp, hsp⟩ : ∃ b off, ap = some ⟨b, off, none⟩ ∧ b < wr.heap.size ∧ Seg wr b off R[j - 1] := by
          rcases vp with h | h
          · rw [h] at hnep; simp at hnep
          · exact h
        have cp0 := hsp 0 hnep
        rw [Nat.add_zero] at cp0
        have hlq : (0 : Int) < (R[j - 1].length : Int) := by omega
        have hjw : IntKind.i64.wrap ((j : Int) - 1) = ((j - 1 : Nat) : Int) := by rw [IntWalk.i64_in _ ⟨by omega, by omega⟩]; omega
        have hj10 : (0 : Int) ≤ ((j - 1 : Nat) : Int) := by omega
        have hj11 : ((j - 1 : Nat) : Int) < (R.length : Int) := by omega
        have hleq : decide (nth R[j] 0 ≤ nth R[j - 1] 0) = false := by simp; omega
        clear hp hsj hrise hnx e1 hfirst vj vp hsp hff
        generalize R[j] = lj at *
        generalize R[j - 1] = lp at *
        generalize lenS (R.take j) = N at *
        generalize hx1 : nth lj 0 = x1 at *
        generalize hx2 : nth lp 0 = x2 at *
        go_wp2_with fail
        go_quiet (first | (go_at_call 30; exact Calls.quiet_of (HRS.out _)))
        go_wp2_with fail
        go_roundw
        case rel => exact ⟨j + 1, by omega, by go_num, by rw [HNX.out]; rfl, P.out.next (below_drewN (Below.refl _ _) _)⟩
        case measure => simp [intOf]; omega
    · obtain rfl : j = R.length := by omega
      rw [List.take_length] at hbj ⊢
      rw [HFA.out.2.2]
      have hkl := HKL.out
      have hb1 : ((R.length : Int) != (kn : Int)) = false := by simp; omega
      have hb2 : ((ms.length : Int) != (ms.length : Int)) = false := by simp
      have hcR := csmall_60 nR
      have HC := hidP (HP.out (some ⟨gl, 0, none⟩) a6 cl c6 ms kd R wr P.out.list P.out.grp.cview hsm hcR HCL.out)
      by_cases hk2 : kn < 2
      · have hk2b : (kn : Int) < 2 := by omega
        have hv : gapI ms kd R = -1 := gap_no (by simp [gapB]; intro _; omega)
        rw [hv] at HC
        have hm1 : ((-1 : Int) == -1) = true := by simp
        clear hp hv hkl
        go_wp2_with fail
        refine HC.out.mono ?_
        rintro e w8 ⟨rfl, M8⟩
        have P8 := hidP (P.out.next M8)
        clear HC M8
        go_wp2_with fail
        go_ret
        exact ⟨rfl, P8.out.low⟩
      · have hk2b : ¬ (kn : Int) < 2 := by omega
        obtain ⟨hown0, hbest⟩ := gaps HB.out (by omega : 2 ≤ kn)
        rw [HR.out] at hown0 hbest
        generalize gapI ms kd R = own at *
        have HBEST := hidP hbest
        have hkn6 : kn ≤ 6 := by omega
        clear hp hbest hkl hbj
        go_wp2_with fail
        refine HC.out.mono ?_
        rintro e w8 ⟨rfl, M8⟩
        have P8 := hidP (P.out.next M8)
        clear HC M8 P
        go_wp2_with fail
        go_loopw [13] (fun i wr => ∃ rd : Nat, rd ≤ 8 ∧ i = .int .i64 rd ∧ GpP w gl ms a6 R wr) (fun i _ => 8 - (intOf i).toNat)
        case atStart => exact ⟨0, Nat.zero_le _, rfl, P8.out⟩
        case round =>
          obtain ⟨rd, hrd, rfl, hp⟩ := hrel
          clear P8
          have P := hidP hp
          clear hp
          by_cases hlt2 : rd < 8
          · have hrb : (rd : Int) < 8 := by omega
            obtain ⟨Wr, hWr⟩ : ∃ Wr, Wr = wr := ⟨_, rfl⟩
            subst hWr
            have hmk := run_make_rows (P := Try.prog) 44 36 (.slice none 0 0) 1 24 Try.underlying44 Try.infoL .i64 .i64 kn (by omega) (by omega)
            have N0 := hidP (NMem.start Wr Wr.heap.size kn (Nat.le_refl _))
            have LA : Hid (Below Wr.heap.size Wr (Wr.alloc (.cells (madeCells #[.slice none 0 0] (kn * 1)) 36))) := (Below.refl _ _).alloc (Nat.le_refl _) _
            rw [Nat.mul_one] at N0 LA
            go_wp2_with fail
            clear hmk
            go_loopw [15] (fun v wr => ∃ (i : Nat) (V : Nat → Value) (X : Nat → List Int), i ≤ ms.length ∧ v = .int .i64 i ∧ NMem Wr.heap.size wr Wr.heap.size kn V X ∧ (∀ j, (X j).length ≤ i) ∧ Below Wr.heap.size Wr wr) (fun v _ => ms.length - (intOf v).toNat)
            case atStart => exact ⟨0, fun _ => .slice none 0 0, fun _ => [], Nat.zero_le _, rfl, N0.out, fun j => Nat.le_refl _, LA.out⟩
            case round =>
              obtain ⟨i, V, X, hi, rfl, hN, hX, L⟩ := hrel
              clear N0 LA
              have Pi := hidP (P.out.next L)
              have HX := hidP hX
              have HN := hidP hN
              have HL := hidP L
              have hzi := L.size
              have hgbl := hN.lt
              by_cases hil : i < ms.length
              · have hw1 : IntKind.i64.wrap (50 * (rd : Int)) = 50 * (rd : Int) := IntWalk.i64_in _ ⟨by omega, by omega⟩
                have hw2 : IntKind.i64.wrap (50 * (rd : Int) + (i : Int)) = 50 * (rd : Int) + (i : Int) := IntWalk.i64_in _ ⟨by omega, by omega⟩
                have HPK := hidP (pickW ao0 len0 cap0 (50 * (rd : Int) + (i : Int)) kn wr (HV0.out.below (Nat.le_refl _) Pi.out.low) hn (by omega) (by omega) (by omega) (by omega))
                clear hN hX L
                go_wp2_with fail
                refine HPK.out.mono ?_
                rintro e w2 ⟨⟨x, x0, x1, rfl⟩, hw2'⟩
                subst w2
                obtain ⟨mn, rfl⟩ := Int.eq_ofNat_of_zero_le x0
                have hmn : mn < kn := by omega
                obtain ⟨b, off, e, hb, hs⟩ := MSeg.seg Pi.out.list (by omega)
                injection e with e
                injection e with e1 e2 e3
                subst e1 e2
                obtain ⟨p0, -⟩ := hs.at hil
                rw [Nat.zero_add] at p0
                have hglw : gl < Wr.heap.size := by
                  obtain ⟨b, off, e, hb', -⟩ := MSeg.seg P.out.list (by omega)
                  injection e with e
                  injection e with e1 e2 e3
                  omega
                have hown := HN.out.own mn hmn
                obtain ⟨am, cm, eV, -⟩ := own_form hown
                have q0 := HN.out.cell hmn
                have hfz := HN.out.frozen mn
                have hXl := HX.out mn
                have HPUT := hidP (fun (w9 : World) (gg cc : Nat) (x : Int) (o : Obj) => HN.out.put hmn (w8 := w9) (gg := gg) (cap := cc) (x := x) o)
                have hbk : ∀ q, (V mn).ownBlock = some q → Wr.heap.size + 1 ≤ q ∧ q < wr.heap.size := fun q e => own_lt hown e
                rw [eV] at q0 hown HPUT hbk
                have HXN : Hid (∀ y : Int, ∀ j, (upd X mn (X mn ++ [y]) j).length ≤ i + 1) := fun y j => by
                  unfold upd
                  by_cases h : j = mn
                  · rw [if_pos h, List.length_append]; simp; omega
                  · rw [if_neg h]; have := HX.out j; omega
                obtain ⟨XL, hXL⟩ : ∃ XL, XL = (X mn).length := ⟨_, rfl⟩
                obtain ⟨xm, hxm⟩ : ∃ xm, xm = mid ms i := ⟨_, rfl⟩
                rw [← hxm] at p0
                rw [← hXL] at q0 hown HPUT hXl hbk
                have HOW : Hid (wr.ownsRow (Wr.heap.size + 1) 2 1 (.slice am XL cm) XL ((X mn).map (Value.int .i64))) := hown
                have hmz : (0 : Int) ≤ (mn : Int) := Int.natCast_nonneg _
                have hmk2 : (mn : Int) < (kn : Int) := by omega
                have hiz : (0 : Int) ≤ (i : Int) := Int.natCast_nonneg _
                have hil2 : (i : Int) < (ms.length : Int) := by omega
                have HEX := hidP hXL
                clear hs hown HPK hw1 hw2 eV hXL hxm
                go_wp2_with fail
                have hS0 := And.intro q0 p0
                refine wp_region_calm (S := fun w' => w'.cell? ⟨Wr.heap.size, mn, none⟩ = some (.slice am XL cm) ∧ w'.cell? ⟨gl, i * 2, none⟩ = some (.int .i64 xm)) (fuel := 3)
                  [0, 1, 2, 3, 4, 5, 6, 7, 8, 9, 10] _ rfl (by kernel_rfl) (by kernel_rfl) (by kernel_rfl) (by kernel_rfl) (by kernel_rfl) (by kernel_rfl) (by kernel_rfl) hS0 (fun hS => ?_)
                simp only [List.pop_toArray, List.dropLast]
                iterate 11
                  refine ⟨_, rfl, ?_⟩
                  apply Exists.intro
                  refine ⟨Or.inl ⟨by rfl, fun w' hw' => ?_⟩, ?_⟩
                  · first
                    | (go_simp; done)
                    | (go_simp; with_reducible rfl)
                  simp only [Act.put, List.getElem_toArray, List.getElem_cons_succ, List.getElem_cons_zero, List.setIfInBounds_toArray, List.set_cons_zero, List.set_cons_succ]
                refine calm_one 11 (by kernel_rfl) rfl (fun K hK => ?_)
                go_simp
                obtain ⟨wA, hwA⟩ : ∃ wA, wA = wr.alloc (.cells #[.int .i64 xm] 2) := ⟨_, rfl⟩
                have HOA : Hid (wA.drew.ownsRow (Wr.heap.size + 1) 2 1 (.slice am XL cm) XL ((X mn).map (Value.int .i64))) := by rw [hwA]; exact World.ownsRow.alloc HOW.out _
                have hbA : wA.drew.heap[wr.heap.size]? = some (.cells #[.int .i64 xm] 2 (0, 0)) := by rw [hwA]; exact heap_alloc_new wr _
                have hzA : wA.drew.heap.size = wr.heap.size + 1 := by rw [hwA]; simp
                have LA8 : Below wr.heap.size wr wA := by rw [hwA]; exact (Below.refl _ _).alloc (Nat.le_refl _) _
                have hgA : (wr.alloc (.cells #[.int .i64 xm] 2)).grownBy wA.drew none := by rw [hwA]; exact ⟨rfl, rfl, rfl, Nat.le_refl _, fun _ _ _ => rfl⟩
                have hSA : wA.drew.cell? ⟨Wr.heap.size, mn, none⟩ = some (.slice am XL cm) ∧ wA.drew.cell? ⟨gl, i * 2, none⟩ = some (.int .i64 xm) := ⟨(LA8.drew.cell (p := ⟨Wr.heap.size, mn, none⟩) hgbl).trans q0, (LA8.drew.cell (p := ⟨gl, i * 2, none⟩) hb).trans p0⟩
                have hfA : wA.drew.frozen? ⟨Wr.heap.size, mn, none⟩ = false := (LA8.drew.frozen (p := ⟨Wr.heap.size, mn, none⟩) hgbl).trans hfz
                first
                  | rw [show (wr.alloc (.cells #[.int .i64 xm] 2)).drew = wA.drew by rw [hwA]]
                  | rw [show wr.drew.alloc (.cells #[.int .i64 xm] 2) = wA.drew by rw [hwA]; rfl]
                refine hK.out _ _ hSA (fun _ => ?_)
                clear hK K
                refine calm_one 12 (by kernel_rfl) rfl (fun K hK => ?_)
                refine step_append_lies _ (by rfl) (.tmp 148) (.tmp 154) 36 (by rfl) (Wr.heap.size + 1) 2 j0 _ 1 8 Try.underlying36 hj0 hy0 hy1 hy2 rfl (by omega) (.slice am XL cm) XL ((X mn).map (Value.int .i64)) (by rfl) HOA.out ⟨wr.heap.size, 0, none⟩ 1 1 [.int .i64 xm] (by rfl) rfl (World.news_of_block (cs := #[.int .i64 xm]) (t := 2) (fr := (0, 0)) hbA) (by simp [Value.oneCell']) (by omega) (by unfold maxLen; omega) (by omega) (by omega) (wr.heap.size + 1) hzA ?_
                intro gg cc w9 hown hgrow hat9 hlt9
                have hgr9 : (wr.alloc (.cells #[.int .i64 xm] 2)).grownBy w9 (Value.slice am XL cm).ownBlock := ⟨hgrow.os.trans hgA.os, hgrow.tape.trans hgA.tape, hgrow.output.trans hgA.output, Nat.le_trans hgA.size hgrow.size, fun i hi hne => (hgrow.block i (Nat.lt_of_lt_of_le hi hgA.size) hne).trans (hgA.block i hi (by simp))⟩
                have hfar : ∀ q, q ≤ Wr.heap.size → some q ≠ (Value.slice am XL cm).ownBlock := fun q hq e => by have := hbk q e.symm; omega
                have hS9 : w9.cell? ⟨Wr.heap.size, mn, none⟩ = some (.slice am XL cm) ∧ w9.cell? ⟨gl, i * 2, none⟩ = some (.int .i64 xm) := ⟨(cell_grown (by omega) hgrow (hfar _ (Nat.le_refl _))).trans hSA.1, (cell_grown (by omega) hgrow (hfar _ (by omega))).trans hSA.2⟩
                have hf9 : w9.frozen? ⟨Wr.heap.size, mn, none⟩ = false := (frozen_grown (by omega) hgrow (hfar _ (Nat.le_refl _))).trans hfA
                have HM9 := hidP (HPUT.out w9 gg cc xm _ hown hgr9 hat9)
                have L89 : Below Wr.heap.size Wr w9 := (HL.out.alloc hzi _).grown hgr9 (by simp; omega) (by intro q hq; have := hbk q hq; omega)
                have I9 := hidP (And.intro HM9.out (L89.setCell (p := ⟨Wr.heap.size, mn, none⟩) (Nat.le_refl _) (.slice (some ⟨gg, 0, none⟩) (XL + 1) cc)))
                refine hK.out _ _ hS9 (fun _ => ?_)
                clear hK K
                refine calm_one 13 (by kernel_rfl) rfl (fun K hK => ?_)
                go_simp
                refine hK.out _ _ hS9 (fun _ => ?_)
                clear hK K hS hS0 hSA hown hgrow hat9 hlt9 hgr9 HM9 L89 HOA hbA hwA hgA LA8 hfA HPUT hfar q0 p0 hfz HOW
                obtain ⟨q9, -⟩ := hS9
                refine wpAnyH_done (by kernel_rfl) ?_ _
                simp only [Exit.then]
                go_wp2_with fail
                refine NoPanic.normal ?_
                go_wp2_with fail
                go_roundw
                case rel => exact ⟨i + 1, _, _, by omega, by go_num, I9.out.1, HXN.out xm, I9.out.2⟩
                case measure => simp [intOf]; omega
              · obtain rfl : i = ms.length := by omega
                have hlx : ((List.range kn).map X).length = kn := by simp
                have hcx : CSmall ((List.range kn).map X) := csmall_60 ⟨by rw [hlx]; omega, fun l hl => by
                  obtain ⟨q, -, rfl⟩ := List.mem_map.1 hl
                  have := HX.out q
                  omega⟩
                have HC := hidP (HP.out (some ⟨gl, 0, none⟩) (some ⟨Wr.heap.size, 0, none⟩) cl kn ms kd ((List.range kn).map X) wr Pi.out.list HN.out.view hsm hcx HCL.out)
                rw [hlx] at HC
                have hle := HBEST.out ((List.range kn).map X) hlx
                have hgt : decide (gapI ms kd ((List.range kn).map X) > own) = false := by simp; omega
                have hgt2 : decide (own < gapI ms kd ((List.range kn).map X)) = false := by simp; omega
                clear hN hX L hle hcx hlx
                generalize gapI ms kd ((List.range kn).map X) = gx at *
                go_wp2_with fail
                refine HC.out.mono ?_
                rintro e w2 ⟨rfl, M2⟩
                have P2 := hidP (Pi.out.next M2)
                clear HC M2 Pi
                go_wp2_with fail
                go_roundw
                case rel => exact ⟨rd + 1, by omega, by go_num, P2.out⟩
                case measure => simp [intOf]; omega
          · obtain rfl : rd = 8 := by omega
            have hge : decide (own ≥ 0) = true := by simp; omega
            have hge2 : decide (0 ≤ own) = true := by simp; omega
            go_wp2_with fail
            go_ret
            exact ⟨rfl, P.out.low⟩

end Go.Proofs.Ytfbindjacmaeoaa
