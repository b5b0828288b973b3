/-
  The given Tied answers tiedB.
-/
import Derived.Test.YtfbindjacmaeoaaESpT
namespace Go.Proofs.Ytfbindjacmaeoaa
open Go Go.RowKit

theorem tied_thr {ms : List Mk} {ts : List Th} {kd : Int} (h : thrB ms kd = false) : tiedB ms ts kd = false := by simp [tiedB, h]
theorem tied_len {ms : List Mk} {ts : List Th} {kd : Int} (h : ¬ ts.length + 1 = ms.length) : tiedB ms ts kd = false := by simp [tiedB, h]
theorem tied_bad {ms : List Mk} {ts : List Th} {kd : Int} {k : Nat} (hk : k < ts.length) (h : ¬ tOkB ms kd (tnth ts k) = true) : tiedB ms ts kd = false := by
  rcases hb : tiedB ms ts kd with _ | _
  · rfl
  · simp only [tiedB, Bool.and_eq_true] at hb
    exact absurd (List.all_eq_true.1 hb.1.2 _ (tnth_mem hk)) h
theorem tied_apart {ms : List Mk} {ts : List Th} {kd : Int} {k : Nat} (hk : k < ms.length) (h : ¬ lab (ts.map (eOf ms)) k = lab (ts.map (eOf ms)) 0) : tiedB ms ts kd = false := by
  rcases hb : tiedB ms ts kd with _ | _
  · rfl
  · simp only [tiedB, Bool.and_eq_true] at hb
    have := List.all_eq_true.1 hb.2 k (List.mem_range.2 hk)
    exact absurd (by simpa using this) h
theorem tied_good {ms : List Mk} {ts : List Th} {kd : Int} (h1 : thrB ms kd = true) (h2 : ts.length + 1 = ms.length) (h3 : ts.all (tOkB ms kd) = true) (h4 : ∀ i, i < ms.length → lab (ts.map (eOf ms)) i = lab (ts.map (eOf ms)) 0) : tiedB ms ts kd = true := by
  simp only [tiedB, h1, h2, h3, Bool.true_and, Bool.and_true, decide_true, List.all_eq_true, decide_eq_true_eq]
  exact fun i hi => h4 i (List.mem_range.1 hi)

set_option maxRecDepth 100000 in
set_option maxHeartbeats 4000000 in
theorem sTied (ao at_ : Option Addr) (cap ct : Nat) (ms : List Mk) (ts : List Th) (kd : Int) (w : World) (hv : MView w ao ms) (ht : TView w at_ ts) (hsm : MSmall ms) (htl : ts.length ≤ 1048576) :
    Calls Try.prog 18 #[.slice ao ms.length cap, .slice at_ ts.length ct, .int .i64 kd] w fun e w' => e = .returned (.bool (tiedB ms ts kd)) ∧ Below w.heap.size w w' := by
  have HC := hidP (sMarks ao cap ms w hv hsm)
  have HK : ∀ w, Hid _ := fun w => hidP (sKind kd w)
  rcases caseT ms kd with ⟨h, h3⟩ | ⟨h, h2, h3⟩ | ⟨h, h2, h3⟩
  · have HV := hidP (tied_thr (ts := ts) h3)
    rw [h] at HC
    clear hv ht hsm h h3
    go_enter Try.func18, Try.ntmps18
    go_wp2_with fail
    refine HC.out.mono ?_
    rintro e w1 ⟨rfl, n1, hw1⟩
    have HX : Hid (Below w.heap.size w w1) := by rw [hw1]; exact below_drewN (Below.refl _ _) n1
    clear hw1
    go_wp2_with fail
    go_ret
    exact ⟨ret_bool HV.out.symm, HX.out⟩
  · have HV := hidP (tied_thr (ts := ts) h3)
    rw [h] at HC
    rw [h2] at HK
    clear hv ht hsm h h3 h2
    go_enter Try.func18, Try.ntmps18
    go_wp2_with fail
    refine HC.out.mono ?_
    rintro e w1 ⟨rfl, n1, hw1⟩
    have HX : Hid (Below w.heap.size w w1) := by rw [hw1]; exact below_drewN (Below.refl _ _) n1
    clear hw1
    go_wp2_with fail
    refine (HK _).out.mono ?_
    rintro e w2 ⟨rfl, hw2⟩
    subst w2
    go_wp2_with fail
    go_ret
    exact ⟨ret_bool HV.out.symm, HX.out⟩
  · have hn := marksB_len h
    have hwr : IntKind.i64.wrap ((ms.length : Int) - 1) = (ms.length : Int) - 1 := IntWalk.i64_in _ ⟨by omega, by omega⟩
    by_cases hln : ts.length + 1 = ms.length
    · have hlb : ((ts.length : Int) != (ms.length : Int) - 1) = false := by simp; omega
      have HH := hidP h3
      have HLN := hidP hln
      have HSM := hidP hsm
      have HVM := hidP hv
      have HVT := hidP ht
      have hml : 0 < ms.length := by omega
      rw [h] at HC
      rw [h2] at HK
      clear hv ht hsm h h3 h2 hln
      go_enter Try.func18, Try.ntmps18
      go_wp2_with fail
      refine HC.out.mono ?_
      rintro e w1 ⟨rfl, n1, hw1⟩
      have HX : Hid (∃ n, w1 = w.drewN n) := ⟨n1, hw1⟩
      clear hw1
      go_wp2_with fail
      refine (HK _).out.mono ?_
      rintro e w2 ⟨rfl, hw2⟩
      subst w2
      clear HK HC
      go_wp2_with fail
      go_loopw [7] (fun i wr => ∃ k : Nat, k ≤ ts.length ∧ i = .int .i64 k ∧ (ts.take k).all (tOkB ms kd) = true ∧ ∃ n, wr = w.drewN n) (fun i _ => ts.length - (intOf i).toNat)
      case atStart => exact ⟨0, Nat.zero_le _, rfl, rfl, HX.out⟩
      case round =>
        obtain ⟨k, hk, rfl, hall, hw⟩ := hrel
        have HALL := hidP hall
        have HW := hidP hw
        clear hall
        by_cases hlt : k < ts.length
        · have LW : Below w.heap.size w wr := by obtain ⟨n, e⟩ := hw; rw [e]; exact below_drewN (Below.refl _ _) n
          obtain ⟨bt, ot, rfl, hbt, hst⟩ := (HVT.out.next LW).seg (by omega)
          obtain ⟨c0, c1, c2⟩ := hst k hlt
          have hvw := HVM.out.next LW
          have HFA := hidP (sFind ao cap ms (tnth ts k).1 wr hvw (by omega))
          have HFB := hidP (sFind ao cap ms (tnth ts k).2.1 wr hvw (by omega))
          have hiff := tOkB_iff ms kd (tnth ts k)
          have HBAD := hidP (tied_bad (ms := ms) (ts := ts) (kd := kd) hlt)
          have HGO := hidP (all_take_succ (tOkB ms kd) hlt HALL.out)
          have hk0 : (0 : Int) ≤ (k : Int) := Int.natCast_nonneg _
          have hk1 : (k : Int) < (ts.length : Int) := by omega
          obtain ⟨d, hd⟩ : ∃ d, d = tnth ts k := ⟨_, rfl⟩
          rw [← hd] at c0 c1 c2 HFA HFB hiff HBAD HGO
          clear hst hd HALL
          have HEND : Hid (∀ n, Below w.heap.size w (wr.drewN n)) := fun n => below_drewN LW n
          by_cases hA : zFind ms d.1 < 0
          · have HV := hidP (HBAD.out (fun h => by have := hiff.1 h; omega))
            have hAb : decide (zFind ms d.1 < 0) = true := by simp [hA]
            generalize zFind ms d.1 = za at *
            clear hiff HBAD HGO hw LW hvw
            go_wp2_with fail
            refine HFA.out.mono ?_
            rintro e w2 ⟨rfl, hw2⟩
            subst w2
            go_wp2_with fail
            refine HFB.out.mono ?_
            rintro e w2 ⟨rfl, hw2⟩
            subst w2
            go_wp2_with fail
            go_quiet (fail)
            go_wp2_with fail
            go_ret
            exact ⟨ret_bool HV.out.symm, HEND.out _⟩
          · have hAb : decide (zFind ms d.1 < 0) = false := by simp [hA]
            by_cases hB : zFind ms d.2.1 < 0
            · have HV := hidP (HBAD.out (fun h => by have := hiff.1 h; omega))
              have hBb : decide (zFind ms d.2.1 < 0) = true := by simp [hB]
              generalize zFind ms d.1 = za at *
              generalize zFind ms d.2.1 = zb at *
              clear hiff HBAD HGO hw LW hvw
              go_wp2_with fail
              refine HFA.out.mono ?_
              rintro e w2 ⟨rfl, hw2⟩
              subst w2
              go_wp2_with fail
              refine HFB.out.mono ?_
              rintro e w2 ⟨rfl, hw2⟩
              subst w2
              go_wp2_with fail
              go_quiet (fail)
              go_wp2_with fail
              go_ret
              exact ⟨ret_bool HV.out.symm, HEND.out _⟩
            · have hBb : decide (zFind ms d.2.1 < 0) = false := by simp [hB]
              by_cases hG : zFind ms d.2.1 ≤ zFind ms d.1
              · have HV := hidP (HBAD.out (fun h => by have := hiff.1 h; omega))
                have hGb : decide (zFind ms d.2.1 ≤ zFind ms d.1) = true := by simp [hG]
                have hGc : decide (zFind ms d.1 ≥ zFind ms d.2.1) = true := by simp [hG]
                generalize zFind ms d.1 = za at *
                generalize zFind ms d.2.1 = zb at *
                clear hiff HBAD HGO hw LW hvw
                go_wp2_with fail
                refine HFA.out.mono ?_
                rintro e w2 ⟨rfl, hw2⟩
                subst w2
                go_wp2_with fail
                refine HFB.out.mono ?_
                rintro e w2 ⟨rfl, hw2⟩
                subst w2
                go_wp2_with fail
                go_quiet (fail)
                go_wp2_with fail
                go_ret
                exact ⟨ret_bool HV.out.symm, HEND.out _⟩
              · have hGb : decide (zFind ms d.2.1 ≤ zFind ms d.1) = false := by simp; omega
                have hGc : decide (zFind ms d.1 ≥ zFind ms d.2.1) = false := by simp; omega
                obtain ⟨a1, a2, -⟩ := zIdx_lt (ms := ms) (id := d.1) (by omega)
                obtain ⟨b1, b2, -⟩ := zIdx_lt (ms := ms) (id := d.2.1) (by omega)
                obtain ⟨b, off, rfl, hb, hs⟩ := MSeg.seg hvw hml
                obtain ⟨-, ae, ce, p1, vae⟩ := hs.at a1
                obtain ⟨-, af, cf, q1, vaf⟩ := hs.at b1
                have HBT : Hid (∀ n, Calls Try.prog 65 #[.slice ae (mat ms (zIdx ms d.1)).length ce, .slice af (mat ms (zIdx ms d.2.1)).length cf, .int .i64 kd] (wr.drewN n) fun e w' => e = .returned (.int .i64 (betV (mat ms (zIdx ms d.1)) (mat ms (zIdx ms d.2.1)) kd)) ∧ ∃ m, w' = (wr.drewN n).drewN m) := fun n =>
                  sBet ae af ce cf _ _ kd (wr.drewN n) (View.drewN vae n) (View.drewN vaf n) (HSM.out.2 _) (HSM.out.2 _)
                have y1 : zIdx ms d.1 = (zFind ms d.1).toNat := rfl
                have y2 : zIdx ms d.2.1 = (zFind ms d.2.1).toNat := rfl
                have z1 : zFind ms d.1 < (ms.length : Int) := by omega
                have z2 : zFind ms d.2.1 < (ms.length : Int) := by omega
                have hiff2 : tOkB ms kd d = true ↔ d.2.2 = betV (mat ms (zIdx ms d.1)) (mat ms (zIdx ms d.2.1)) kd := ⟨fun h => (hiff.1 h).2.2.2, fun h => hiff.2 ⟨by omega, by omega, by omega, h⟩⟩
                have HIFF := hidP hiff2
                generalize betV (mat ms (zIdx ms d.1)) (mat ms (zIdx ms d.2.1)) kd = bv at *
                generalize mat ms (zIdx ms d.1) = ma at *
                generalize mat ms (zIdx ms d.2.1) = mb at *
                rw [y1] at p1
                rw [y2] at q1
                clear y1 y2 a1 a2 b1 b2 hiff hiff2 hs vae vaf hw LW
                have hA0 : 0 ≤ zFind ms d.1 := by omega
                have hB0 : 0 ≤ zFind ms d.2.1 := by omega
                generalize zFind ms d.1 = za at *
                generalize zFind ms d.2.1 = zb at *
                by_cases hE : d.2.2 = bv
                · have hEb : (d.2.2 != bv) = false := by simp [hE]
                  have HGG := hidP (HGO.out (HIFF.out.2 hE))
                  clear HIFF HBAD HGO hE hvw
                  go_wp2_with fail
                  refine HFA.out.mono ?_
                  rintro e w2 ⟨rfl, hw2⟩
                  subst w2
                  go_wp2_with fail
                  refine HFB.out.mono ?_
                  rintro e w2 ⟨rfl, hw2⟩
                  subst w2
                  go_wp2_with fail
                  go_quiet (first | (go_at_call 65; exact Calls.quiet_of (HBT.out _)))
                  go_wp2_with fail
                  go_roundw
                  case rel => exact ⟨k + 1, by omega, by go_num, HGG.out, by obtain ⟨n, hn⟩ := HW.out; exact ⟨n + nq, by rw [hn]; simp⟩⟩
                  case measure => simp [intOf]; omega
                · have hEb : (d.2.2 != bv) = true := by simp [hE]
                  have HV := hidP (HBAD.out (fun h => hE (HIFF.out.1 h)))
                  clear HIFF HBAD HGO hE hvw
                  go_wp2_with fail
                  refine HFA.out.mono ?_
                  rintro e w2 ⟨rfl, hw2⟩
                  subst w2
                  go_wp2_with fail
                  refine HFB.out.mono ?_
                  rintro e w2 ⟨rfl, hw2⟩
                  subst w2
                  go_wp2_with fail
                  go_quiet (first | (go_at_call 65; exact Calls.quiet_of (HBT.out _)))
                  go_wp2_with fail
                  go_ret
                  exact ⟨ret_bool HV.out.symm, HEND.out _⟩
        · obtain rfl : k = ts.length := by omega
          rw [List.take_length] at HALL
          have LW : Below w.heap.size w wr := by obtain ⟨n, e⟩ := hw; rw [e]; exact below_drewN (Below.refl _ _) n
          have HP := hidP (sParts ao at_ cap ct ms ts wr (HVM.out.next LW) (HVT.out.next LW) hn htl (fun t ht => by have := (tOkB_iff ms kd t).1 (List.all_eq_true.1 HALL.out t ht); exact ⟨this.1, this.2.1⟩))
          have HLW := hidP LW
          clear hw LW
          go_wp2_with fail
          refine HP.out.mono ?_
          rintro e w2 ⟨gp, cp, rfl, hrp, L2⟩
          have HRP := hidP hrp.seg
          have HL2 : Hid (Below w.heap.size w w2) := HLW.out.trans (L2.mono HLW.out.size)
          have hgp := hrp.lt
          clear hrp L2 HP
          go_wp2_with fail
          go_loopw [11] (fun i wq => ∃ j : Nat, j ≤ ms.length ∧ i = .int .i64 j ∧ (∀ i, i < j → lab (ts.map (eOf ms)) i = lab (ts.map (eOf ms)) 0) ∧ ∃ n, wq = w2.drewN n) (fun i _ => ms.length - (intOf i).toNat)
          case atStart => exact ⟨0, Nat.zero_le _, rfl, fun i hi => by omega, 0, rfl⟩
          case round =>
            obtain ⟨j, hj, rfl, hsame, hw2⟩ := hrel
            have HSAME := hidP hsame
            have HW2 := hidP hw2
            have HLQ : Hid (∀ n, Below w.heap.size w (wr.drewN n)) := fun n => by obtain ⟨m, e⟩ := HW2.out; rw [e]; exact below_drewN (below_drewN HL2.out m) n
            clear hsame hw2
            by_cases hjl : j < ms.length
            · have q1 := HRP.out j (by rw [labL_len]; exact hjl)
              have q2 := HRP.out 0 (by rw [labL_len]; exact hml)
              rw [Nat.zero_add, labL_at hjl] at q1
              rw [Nat.zero_add, labL_at hml] at q2
              have r1 : wr.cell? ⟨gp, j, none⟩ = some (.int .i64 (lab (ts.map (eOf ms)) j : Nat)) := by obtain ⟨m, e⟩ := HW2.out; rw [e]; exact q1
              have r2 : wr.cell? ⟨gp, 0, none⟩ = some (.int .i64 (lab (ts.map (eOf ms)) 0 : Nat)) := by obtain ⟨m, e⟩ := HW2.out; rw [e]; exact q2
              have hj0 : (0 : Int) ≤ (j : Int) := Int.natCast_nonneg _
              have hj1 : (j : Int) < (ms.length : Int) := by omega
              have hm1 : (0 : Int) < (ms.length : Int) := by omega
              have HAP := hidP (tied_apart (ms := ms) (ts := ts) (kd := kd) hjl)
              clear q1 q2
              by_cases he : lab (ts.map (eOf ms)) j = lab (ts.map (eOf ms)) 0
              · have hs2 : Hid (∀ i, i < j + 1 → lab (ts.map (eOf ms)) i = lab (ts.map (eOf ms)) 0) := fun i hi => by
                  rcases Nat.lt_or_ge i j with h | h
                  · exact HSAME.out i h
                  · obtain rfl : i = j := by omega
                    exact he
                have heb : (((lab (ts.map (eOf ms)) j : Nat) : Int) != ((lab (ts.map (eOf ms)) 0 : Nat) : Int)) = false := by simp [he]
                clear he HAP
                go_wp2_with fail
                go_quiet (fail)
                go_wp2_with fail
                go_roundw
                case rel => exact ⟨j + 1, by omega, by go_num, hs2.out, by obtain ⟨m, e⟩ := HW2.out; exact ⟨m + nq, by rw [e]; simp⟩⟩
                case measure => simp [intOf]; omega
              · have HV := hidP (HAP.out he)
                have heb : (((lab (ts.map (eOf ms)) j : Nat) : Int) != ((lab (ts.map (eOf ms)) 0 : Nat) : Int)) = true := by simp; omega
                clear he HAP
                go_wp2_with fail
                go_quiet (fail)
                go_wp2_with fail
                go_ret
                exact ⟨ret_bool HV.out.symm, HLQ.out _⟩
            · obtain rfl : j = ms.length := by omega
              have HV := hidP (tied_good HH.out HLN.out HALL.out HSAME.out)
              go_wp2_with fail
              go_ret
              exact ⟨ret_bool HV.out.symm, HLQ.out 0⟩
    · have hlb : ((ts.length : Int) != (ms.length : Int) - 1) = true := by simp; omega
      have HV := hidP (tied_len (kd := kd) hln)
      rw [h] at HC
      rw [h2] at HK
      clear hv ht hsm h h3 h2 hln
      go_enter Try.func18, Try.ntmps18
      go_wp2_with fail
      refine HC.out.mono ?_
      rintro e w1 ⟨rfl, n1, hw1⟩
      have HX : Hid (Below w.heap.size w w1) := by rw [hw1]; exact below_drewN (Below.refl _ _) n1
      clear hw1
      go_wp2_with fail
      refine (HK _).out.mono ?_
      rintro e w2 ⟨rfl, hw2⟩
      subst w2
      go_wp2_with fail
      go_ret
      exact ⟨ret_bool HV.out.symm, HX.out⟩

end Go.Proofs.Ytfbindjacmaeoaa
