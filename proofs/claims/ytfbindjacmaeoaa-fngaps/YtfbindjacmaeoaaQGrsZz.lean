/-
  The program's own Groups.
-/
import Derived.Test.YtfbindjacmaeoaaQGrpZz
import Derived.Test.YtfbindjacmaeoaaQThrZz
import Derived.Test.YtfbindjacmaeoaaZImpZz
import Derived.Test.YtfbindjacmaeoaaEWlk3Zz
namespace Go.Proofs.Ytfbindjacmaeoaa
open Go Go.RowKit Go.Maps

theorem chos_grp (ms : List Mk) (kd k : Int) : chosB ms k kd = grpB ms kd k := by
  rw [Bool.eq_iff_iff]
  simp only [chosB, grpB, thrB, Bool.and_eq_true]
  constructor
  · rintro ⟨⟨⟨h1, h2⟩, h3⟩, h4⟩; exact ⟨⟨⟨h1, h4⟩, h2⟩, h3⟩
  · rintro ⟨⟨⟨h1, h4⟩, h2⟩, h3⟩; exact ⟨⟨⟨h1, h2⟩, h3⟩, h4⟩

set_option maxRecDepth 100000 in
set_option maxHeartbeats 1000000 in
theorem iGroups_no (ao : Option Addr) (cap : Nat) (ms : List Mk) (kd k : Int) (w : World) (hv : MView w ao ms) (hsm : MSmall ms) (hno : grpB ms kd k = false) :
    Calls Try.prog 24 #[.slice ao ms.length cap, .int .i64 kd, .int .i64 k] w fun e w' => e = .returned (.slice none 0 0) ∧ Below w.heap.size w w' := by
  have HC := hidP (iChoice ao cap ms k kd w hv hsm)
  rw [chos_grp, hno] at HC
  clear hv hno
  go_enter Try.func24, Try.ntmps24
  go_wp2_with fail
  refine HC.out.mono ?_
  rintro e w1 ⟨rfl, L1⟩
  have HL := hidP L1
  clear L1
  go_wp2_with fail
  go_ret
  exact ⟨rfl, HL.out⟩

set_option maxRecDepth 100000 in
set_option maxHeartbeats 4000000 in
theorem iGroups_in (ao : Option Addr) (cap : Nat) (ms : List Mk) (kd : Int) (k : Nat) (w : World) (hv : MView w ao ms) (hsm : MSmall ms) (hcap : ms.length ≤ cap) (hyes : grpB ms kd k = true) :
    Calls Try.prog 24 #[.slice ao ms.length cap, .int .i64 kd, .int .i64 k] w fun e w' => ∃ a c rs, e = .returned (.slice a rs.length c) ∧ nums rs = grpL ms kd k ∧ LOut w.heap.size w' a c rs ∧ Below w.heap.size w w' := by
  have HC := hidP (iChoice ao cap ms k kd w hv hsm)
  rw [chos_grp, hyes] at HC
  obtain ⟨hB, hk1, hk2⟩ := (grpB_iff ms kd k).1 hyes
  obtain ⟨hm, hkd⟩ := (thrB_iff ms kd).1 hB
  have hn := marksB_len hm
  have HVV : Hid (grpL ms kd k = grpOf ms (lab ((thrE (zD ms kd) ms.length).take (ms.length - k)))) := by show _ = _; rw [grpL, if_pos hyes]; simp
  have HV := hidP hv
  have HM := hidP hm
  have HTH := hidP (fun w' (L : Below w.heap.size w w') => iThr_yes ao cap ms kd w' (hv.next L) hsm hcap hm hkd)
  have HLN := hidP (thrE_len' (zD ms kd) ms.length)
  have HTY := hidP (thrL_yes hB)
  have hk3 : k ≤ ms.length := by omega
  have hk4 : 1 ≤ k := by omega
  have hwb : IntKind.i64.wrap ((ms.length : Int) - (k : Int)) = ((ms.length - k : Nat) : Int) := by rw [IntWalk.i64_in _ ⟨by omega, by omega⟩]; omega
  have HP : Hid (∀ i, lab ((thrE (zD ms kd) ms.length).take (ms.length - k)) i ≤ i) := (lab_ok _).le
  clear hv hsm hcap hyes hB hm hkd hk1 hk2
  go_enter Try.func24, Try.ntmps24
  go_wp2_with fail
  refine HC.out.mono ?_
  rintro e w1 ⟨rfl, L1⟩
  have HLO := hidP (iLoose ao cap ms w1 HM.out (HV.out.next L1))
  have HL1 := hidP L1
  clear L1 HC
  go_wp2_with fail
  refine HLO.out.mono ?_
  rintro e w2 ⟨rfl, hT2, L2⟩
  have HL2 := hidP (chain HL1.out L2)
  have HT2 := hidP hT2
  have HTR := hidP (HTH.out w2 HL2.out)
  have hB1 : w.heap.size ≤ w1.heap.size := HL1.out.size
  have hBl := hT2.lt
  clear hT2 L2 HLO HL1 HTH
  generalize w1.heap.size = B at *
  go_wp2_with fail
  refine HTR.out.mono ?_
  rintro e w3 ⟨g, c, rfl, hrow, L3⟩
  have hcp := hrow.cap
  have hgl := hrow.lt
  have HI0 : Hid (TSeg w3 g 0 (thrL ms kd) ∧ g < w3.heap.size ∧ Ties w3 B ms (lab ((thrE (zD ms kd) ms.length).take 0)) ∧ Below w.heap.size w w3) := ⟨hrow.seg, hgl.2, HT2.out.below L3, chain HL2.out L3⟩
  have hgB : g ≠ B := by omega
  have htl : (thrL ms kd).length = ms.length - 1 := by rw [HTY.out, thsL_len]; exact HLN.out
  rw [htl] at hcp ⊢
  have HTL := hidP htl
  have hb0 : (0 : Int) ≤ ((ms.length - k : Nat) : Int) := by omega
  have hb1 : ((ms.length - k : Nat) : Int) ≤ (c : Int) := by omega
  have hb2 : ms.length - k ≤ c := by omega
  clear hrow L3 htl HTR HT2 HL2 hgl
  by_cases hc0 : c = 0
  · have hnk : ms.length - k = 0 := by omega
    have HE : Hid (Ties w3 B ms (lab ((thrE (zD ms kd) ms.length).take (ms.length - k))) ∧ Below w.heap.size w w3) := by rw [hnk]; exact ⟨HI0.out.2.2.1, HI0.out.2.2.2⟩
    subst hc0
    rw [hnk] at hwb
    generalize lab ((thrE (zD ms kd) ms.length).take (ms.length - k)) = p at *
    clear hb0 hb1 hb2 hcp HI0 hnk
    go_wp2_with fail
    refine wp_loop_rounds 1 ?_
    rw [rounds_succ]
    generalize w3 = wr at *
    have HID := hidP (iIdsM ao cap ms wr (HV.out.next HE.out.2) (by omega))
    go_wp2_with fail
    refine HID.out.mono ?_
    rintro e w5 ⟨gi, rfl, hgi, hown, L5⟩
    have HG := hidP (iGrps B gi ms.length ms p w5 HM.out (HE.out.1.below L5) hown.seg hown.lt HP.out)
    have HL5 := hidP (chain HE.out.2 L5)
    clear hgi hown L5 HID
    go_wp2_with fail
    refine HG.out.mono ?_
    rintro e w6 ⟨g6, c6, rs, rfl, hnm, hmem, L6⟩
    have HF : Hid (nums rs = grpL ms kd k ∧ LMem w.heap.size w6 g6 c6 rs ∧ Below w.heap.size w w6) := ⟨by rw [HVV.out]; exact hnm, hmem.mono HL5.out.size, chain HL5.out L6⟩
    clear hnm hmem L6 HG
    go_wp2_with fail
    go_ret
    exact ⟨some ⟨g6, 0, none⟩, c6, rs, rfl, HF.out.1, Or.inr ⟨g6, rfl, HF.out.2.1⟩, HF.out.2.2⟩
  · go_wp2_with fail
    go_loopw [26] (fun i wr => ∃ m : Nat, m ≤ ms.length - k ∧ i = .int .i64 m ∧ TSeg wr g 0 (thrL ms kd) ∧ g < wr.heap.size ∧ Ties wr B ms (lab ((thrE (zD ms kd) ms.length).take m)) ∧ Below w.heap.size w wr) (fun i _ => ms.length - (intOf i).toNat)
    case atStart => exact ⟨0, Nat.zero_le _, rfl, HI0.out⟩
    case round =>
      clear HI0
      obtain ⟨m, hml, rfl, hseg, hg, hTi, L⟩ := hrel
      by_cases hlt : m < ms.length - k
      · obtain ⟨c0, c1, c2⟩ := hseg m (by rw [HTL.out]; omega)
        rw [Nat.zero_add] at c0 c1 c2
        have hi0 : (0 : Int) ≤ (m : Int) := Int.natCast_nonneg _
        have hi1 : (m : Int) < ((ms.length - k : Nat) : Int) := by omega
        have hme : m < (thrE (zD ms kd) ms.length).length := by have := HLN.out; omega
        have HTT : Hid (tnth (thrL ms kd) m = thOf ms kd (egn (thrE (zD ms kd) ms.length) m)) := by show _ = _; rw [HTY.out]; exact thsL_at ms kd _ hme
        have hre := thrE_lt _ (egn_mem hme)
        have HTK := hidP (take_egn hme)
        have LB := (Below.refl wr.heap.size wr).alloc (Nat.le_refl _) (.cells #[.int .i64 (tnth (thrL ms kd) m).1, .int .i64 (tnth (thrL ms kd) m).2.1, .int .i64 (tnth (thrL ms kd) m).2.2] 41)
        obtain ⟨W, hW⟩ : ∃ W, W = wr.alloc (.cells #[.int .i64 (tnth (thrL ms kd) m).1, .int .i64 (tnth (thrL ms kd) m).2.1, .int .i64 (tnth (thrL ms kd) m).2.2] 41) := ⟨_, rfl⟩
        rw [← hW] at LB
        have HX : Hid (W.heap[wr.heap.size]? = some (.cells #[.int .i64 (tnth (thrL ms kd) m).1, .int .i64 (tnth (thrL ms kd) m).2.1, .int .i64 (tnth (thrL ms kd) m).2.2] 41)) := by show _ = _; rw [hW]; exact heap_alloc_new wr _
        obtain ⟨x0, x1, x2⟩ := three_cells HX.out
        have HI : Hid (TSeg W g 0 (thrL ms kd) ∧ g < W.heap.size ∧ Ties W B ms (lab ((thrE (zD ms kd) ms.length).take m)) ∧ Below w.heap.size w W) := ⟨hseg.below hg LB, Nat.lt_of_lt_of_le hg LB.size, hTi.below LB, chain L LB⟩
        have HTI := hidP (iTie B ms (lab ((thrE (zD ms kd) ms.length).take m)) (egn (thrE (zD ms kd) ms.length) m).1 (egn (thrE (zD ms kd) ms.length) m).2 W HM.out HI.out.2.2.1 hre.1 hre.2)
        have e1 : mid ms (egn (thrE (zD ms kd) ms.length) m).1 = (tnth (thrL ms kd) m).1 := by rw [HTT.out]; rfl
        have e2 : mid ms (egn (thrE (zD ms kd) ms.length) m).2 = (tnth (thrL ms kd) m).2.1 := by rw [HTT.out]; rfl
        rw [e1, e2] at HTI
        clear hseg hg hTi L LB e1 e2 HX HTT hre
        generalize tnth (thrL ms kd) m = t at *
        go_wp2_with fail
        rw [← hW]
        clear hW c0 c1 c2
        go_wp2_with fail
        refine HTI.out.mono ?_
        rintro e w5 ⟨rfl, hT5, hg5⟩
        have HI5 : Hid (TSeg w5 g 0 (thrL ms kd) ∧ g < w5.heap.size ∧ Ties w5 B ms (lab ((thrE (zD ms kd) ms.length).take (m + 1))) ∧ Below w.heap.size w w5) := by
          refine ⟨fun i hi => ?_, Nat.lt_of_lt_of_le HI.out.2.1 hg5.size, ?_, HI.out.2.2.2.grown hg5 HI.out.2.2.2.size (by intro q hq; cases hq; exact hB1)⟩
          · have hc : ∀ j, w5.cell? ⟨g, j, none⟩ = W.cell? ⟨g, j, none⟩ := fun j => World.cell?_of_block (w := W) (a := ⟨g, j, none⟩) (hg5.block g HI.out.2.1 (fun e => hgB (by injection e)))
            have := HI.out.1 i hi
            exact ⟨(hc _).trans this.1, (hc _).trans this.2.1, (hc _).trans this.2.2⟩
          · rw [HTK.out, lab_snoc]; exact hT5
        clear hT5 hg5
        go_wp2_with fail
        go_roundw
        case rel => exact ⟨m + 1, by omega, by go_num, HI5.out⟩
        case measure => simp [intOf]; omega
      · have HE : Hid (Ties wr B ms (lab ((thrE (zD ms kd) ms.length).take (ms.length - k))) ∧ Below w.heap.size w wr) := by
          have e : m = ms.length - k := by omega
          rw [e] at hTi
          exact ⟨hTi, L⟩
        generalize lab ((thrE (zD ms kd) ms.length).take (ms.length - k)) = p at *
        clear hseg hg hTi L
        have HID := hidP (iIdsM ao cap ms wr (HV.out.next HE.out.2) (by omega))
        go_wp2_with fail
        refine HID.out.mono ?_
        rintro e w5 ⟨gi, rfl, hgi, hown, L5⟩
        have HG := hidP (iGrps B gi ms.length ms p w5 HM.out (HE.out.1.below L5) hown.seg hown.lt HP.out)
        have HL5 := hidP (chain HE.out.2 L5)
        clear hgi hown L5 HID
        go_wp2_with fail
        refine HG.out.mono ?_
        rintro e w6 ⟨g6, c6, rs, rfl, hnm, hmem, L6⟩
        have HF : Hid (nums rs = grpL ms kd k ∧ LMem w.heap.size w6 g6 c6 rs ∧ Below w.heap.size w w6) := ⟨by rw [HVV.out]; exact hnm, hmem.mono HL5.out.size, chain HL5.out L6⟩
        clear hnm hmem L6 HG
        go_wp2_with fail
        go_ret
        exact ⟨some ⟨g6, 0, none⟩, c6, rs, rfl, HF.out.1, Or.inr ⟨g6, rfl, HF.out.2.1⟩, HF.out.2.2⟩

theorem iGroups : IGroups := fun ao cap ms kd k w hv hsm hcap => by
  rcases hb : grpB ms kd k with _ | _
  · refine (iGroups_no ao cap ms kd k w hv hsm hb).mono ?_
    rintro e w' ⟨rfl, L⟩
    exact ⟨none, 0, [], rfl, (grpL_no hb).symm, Or.inl ⟨rfl, rfl, rfl⟩, L⟩
  · obtain ⟨-, h1, -⟩ := (grpB_iff ms kd k).1 hb
    obtain ⟨kn, rfl⟩ := Int.eq_ofNat_of_zero_le (by omega : 0 ≤ k)
    exact iGroups_in ao cap ms kd kn w hv hsm hcap hb

end Go.Proofs.Ytfbindjacmaeoaa
