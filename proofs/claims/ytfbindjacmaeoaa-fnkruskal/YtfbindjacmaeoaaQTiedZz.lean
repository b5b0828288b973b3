/-
  The program's own Tied.
-/
import Derived.Test.YtfbindjacmaeoaaQHm0Zz
import Derived.Test.YtfbindjacmaeoaaQNextZz
import Derived.Test.YtfbindjacmaeoaaMCopyZz
import Derived.Test.YtfbindjacmaeoaaEWalkZz
namespace Go.Proofs.Ytfbindjacmaeoaa
open Go Go.RowKit Go.Maps

theorem tOk_has {ms : List Mk} (hm : marksB ms = true) (kd : Int) (t : Th) : hasT (thsL ms kd (pairsTo ms.length ms.length)) t = tOkB ms kd t := by
  rw [Bool.eq_iff_iff, tOkB_iff]
  simp only [hasT, decide_eq_true_eq]
  constructor
  · intro h
    obtain ⟨e, he, rfl⟩ := List.mem_map.1 h
    have hb := (mem_pairs _ _ e).1 he
    have h1 := zFind_mid hm (by omega : e.1 < ms.length)
    have h2 := zFind_mid hm (by omega : e.2 < ms.length)
    show 0 ≤ zFind ms (mid ms e.1) ∧ 0 ≤ zFind ms (mid ms e.2) ∧ zFind ms (mid ms e.1) < zFind ms (mid ms e.2) ∧ betV (mat ms e.1) (mat ms e.2) kd = betV (mat ms (zIdx ms (mid ms e.1))) (mat ms (zIdx ms (mid ms e.2))) kd
    rw [h1.1, h2.1, h1.2, h2.2]
    exact ⟨by omega, by omega, by omega, rfl⟩
  · rintro ⟨h1, h2, h3, h4⟩
    have a := zIdx_lt h1
    have b := zIdx_lt h2
    refine List.mem_map.2 ⟨(zIdx ms t.1, zIdx ms t.2.1), (mem_pairs _ _ _).2 ⟨a.1, by show zIdx ms t.1 < zIdx ms t.2.1; omega, b.1⟩, ?_⟩
    show (mid ms (zIdx ms t.1), mid ms (zIdx ms t.2.1), betV (mat ms (zIdx ms t.1)) (mat ms (zIdx ms t.2.1)) kd) = t
    rw [a.2.2, b.2.2, ← h4]
theorem tOk_lt {ms : List Mk} {kd : Int} {t : Th} (h : tOkB ms kd t = true) : (eOf ms t).1 < ms.length ∧ (eOf ms t).2 < ms.length ∧ mid ms (eOf ms t).1 = t.1 ∧ mid ms (eOf ms t).2 = t.2.1 := by
  obtain ⟨h1, h2, -, -⟩ := (tOkB_iff ms kd t).1 h
  exact ⟨(zIdx_lt h1).1, (zIdx_lt h2).1, (zIdx_lt h1).2.2, (zIdx_lt h2).2.2⟩
/-- The pairs of the first k threads. -/
def egTo (ms : List Mk) (ts : List Th) (k : Nat) : List Eg := (ts.take k).map (eOf ms)
theorem egTo_succ {ms : List Mk} {ts : List Th} {k : Nat} (h : k < ts.length) : egTo ms ts (k + 1) = egTo ms ts k ++ [eOf ms (tnth ts k)] := by
  unfold egTo
  rw [List.take_succ_eq_append_getElem h, List.map_append, tnth_get h]
  rfl
/-- What stands behind k of them: each is one of theirs, none is idle. -/
structure TdOk (ms : List Mk) (kd : Int) (ts : List Th) (k : Nat) : Prop where
  ok : ∀ j, j < k → tOkB ms kd (tnth ts j) = true
  parts : comps ms.length (lab (egTo ms ts k)) + k = ms.length
theorem TdOk.zero (ms : List Mk) (kd : Int) (ts : List Th) : TdOk ms kd ts 0 := ⟨fun j hj => by omega, by simp [egTo, lab_nil, comps_id]⟩
theorem TdOk.next {ms : List Mk} {kd : Int} {ts : List Th} {k : Nat} (h : TdOk ms kd ts k) (hk : k < ts.length) (ho : tOkB ms kd (tnth ts k) = true) (hu : lab (egTo ms ts k) (eOf ms (tnth ts k)).1 ≠ lab (egTo ms ts k) (eOf ms (tnth ts k)).2) : TdOk ms kd ts (k + 1) := by
  have hl := tOk_lt ho
  refine ⟨fun j hj => ?_, ?_⟩
  · rcases Nat.lt_or_ge j k with h1 | h1
    · exact h.ok j h1
    · obtain rfl : j = k := by omega
      exact ho
  · have h1 := comps_step hl.1 hl.2.1 hu
    have h2 := h.parts
    rw [egTo_succ hk]
    omega
theorem tied_no_ok {ms : List Mk} {kd : Int} {ts : List Th} {k : Nat} (hk : k < ts.length) (ho : tOkB ms kd (tnth ts k) = false) : tiedB ms ts kd = false := by
  rcases h : tiedB ms ts kd with _ | _
  · rfl
  · simp only [tiedB, Bool.and_eq_true] at h
    rw [List.all_eq_true.1 h.1.2 _ (tnth_mem hk)] at ho
    cases ho
theorem tied_idle {ms : List Mk} {kd : Int} {ts : List Th} {k : Nat} (h : TdOk ms kd ts k) (hk : k < ts.length) (hu : lab (egTo ms ts k) (eOf ms (tnth ts k)).1 = lab (egTo ms ts k) (eOf ms (tnth ts k)).2) : tiedB ms ts kd = false := by
  rcases hb : tiedB ms ts kd with _ | _
  · rfl
  · exfalso
    simp only [tiedB, Bool.and_eq_true, decide_eq_true_eq, List.all_eq_true] at hb
    obtain ⟨⟨⟨hB, hl⟩, hok⟩, hc⟩ := hb
    have h1 : ts.map (eOf ms) = egTo ms ts (k + 1) ++ (ts.drop (k + 1)).map (eOf ms) := by
      unfold egTo
      rw [← List.map_append, List.take_append_drop]
    have h2 : lab (egTo ms ts (k + 1)) = lab (egTo ms ts k) := by rw [egTo_succ hk, lab_snoc]; exact relab_same hu
    have h3 := comps_drop (n := ms.length) (egTo ms ts (k + 1)) ((ts.drop (k + 1)).map (eOf ms)) (fun e he => by
      obtain ⟨t, ht, rfl⟩ := List.mem_map.1 he
      have := tOk_lt (hok t (List.mem_of_mem_drop ht))
      exact ⟨this.1, this.2.1⟩)
    rw [← h1, h2, List.length_map, List.length_drop] at h3
    have h4 := comps_one (n := ms.length) (by omega) (E := ts.map (eOf ms)) (fun i hi => hc i (List.mem_range.2 hi))
    have h5 := h.parts
    omega
theorem tied_yes {ms : List Mk} {kd : Int} {ts : List Th} (hB : thrB ms kd = true) (hl : ts.length + 1 = ms.length) (h : TdOk ms kd ts ts.length) : tiedB ms ts kd = true := by
  simp only [tiedB, Bool.and_eq_true, decide_eq_true_eq, List.all_eq_true]
  have e1 : egTo ms ts ts.length = ts.map (eOf ms) := by unfold egTo; rw [List.take_length]
  refine ⟨⟨⟨hB, hl⟩, fun t ht => ?_⟩, fun i hi => ?_⟩
  · obtain ⟨j, hj, rfl⟩ := List.getElem_of_mem ht
    rw [← tnth_get hj]
    exact h.ok j hj
  · have h5 := h.parts
    rw [e1] at h5
    exact one_tied (n := ms.length) (by omega) (List.mem_range.1 hi)

set_option maxRecDepth 100000 in
set_option maxHeartbeats 4000000 in
theorem iTied_yes (ao at_ : Option Addr) (cap ct : Nat) (ms : List Mk) (ts : List Th) (kd : Int) (w : World) (hv : MView w ao ms) (ht : TView w at_ ts) (hsm : MSmall ms) (hcap : ms.length ≤ cap) (hm : marksB ms = true) (hk : kindB kd = true) (hl : ts.length + 1 = ms.length) :
    Calls Try.prog 17 #[.slice ao ms.length cap, .slice at_ ts.length ct, .int .i64 kd] w fun e w' => e = .returned (.bool (tiedB ms ts kd)) ∧ Below w.heap.size w w' := by
  have HC := hidP (iMarks ao cap ms w hv hsm)
  rw [hm] at HC
  have HK := fun w => hidP (iKind kd w)
  rw [hk] at HK
  have hn60 := marksB_len hm
  have HV := hidP hv
  have HT := hidP ht
  have HM := hidP (And.intro hm (And.intro hk (And.intro hsm hcap)))
  have HLL := hidP hl
  have HTY := hidP (tied_yes (ts := ts) ((thrB_iff ms kd).2 ⟨hm, hk⟩) hl)
  have hw1 : IntKind.i64.wrap ((ms.length : Int) - 1) = (ts.length : Int) := by rw [IntWalk.i64_in _ ⟨by omega, by omega⟩]; omega
  have hne : ((ts.length : Int) != (ts.length : Int)) = false := by simp
  have htl : ts.length ≤ 60 := by omega
  clear hv ht hsm hcap hm hk hl
  go_enter Try.func17, Try.ntmps17
  go_wp2_with fail
  refine HC.out.mono ?_
  rintro e w1 ⟨rfl, L1⟩
  have HA := hidP (iAllT ao cap ms kd w1 (HV.out.next L1) HM.out.2.2.1 hn60 HM.out.2.2.2)
  have HL1 := hidP L1
  clear L1 HC
  go_wp2_with fail
  refine (HK w1).out.mono ?_
  rintro e w2 ⟨rfl, hw2⟩
  subst w2
  clear HK
  go_wp2_with fail
  refine HA.out.mono ?_
  rintro e w2 ⟨g, c, rfl, hrow, L2⟩
  have HL2 := hidP (chain HL1.out L2)
  have HLO := hidP (iLoose ao cap ms w2 HM.out.1 (HV.out.next HL2.out))
  have HROW := hidP hrow
  have hgl := hrow.lt
  have hz1 := HL1.out.size
  have hz2 := L2.size
  have HPL : Hid ((thsL ms kd (pairsTo ms.length ms.length)).length ≤ 1048576) := by
    show _ ≤ _
    have h1 := pairs_len ms.length ms.length
    have h3 : ms.length * ms.length ≤ 60 * 60 := Nat.mul_le_mul hn60 hn60
    rw [thsL_len]
    omega
  have HOK := hidP (fun t => tOk_has HM.out.1 kd t)
  generalize thsL ms kd (pairsTo ms.length ms.length) = AL at *
  clear hrow L2 HA
  go_wp2_with fail
  refine HLO.out.mono ?_
  rintro e w3 ⟨rfl, hT3, L3⟩
  have HI0 : Hid (TSeg w3 g 0 AL ∧ g < w3.heap.size ∧ Ties w3 w2.heap.size ms (fun i => i) ∧ Below w.heap.size w w3) := ⟨(HROW.out.below (Nat.le_refl _) L3).seg, Nat.lt_of_lt_of_le hgl.2 L3.size, hT3, chain HL2.out L3⟩
  have hBw : w.heap.size ≤ w2.heap.size := HL2.out.size
  have hgB : g ≠ w2.heap.size := by omega
  clear hT3 L3 HLO HROW hgl
  generalize w2.heap.size = B at *
  go_wp2_with fail
  go_loopw [34] (fun i wr => ∃ k : Nat, k ≤ ts.length ∧ i = .int .i64 k ∧ TdOk ms kd ts k ∧ TSeg wr g 0 AL ∧ g < wr.heap.size ∧ Ties wr B ms (lab (egTo ms ts k)) ∧ Below w.heap.size w wr) (fun i _ => ts.length - (intOf i).toNat)
  case atStart => exact ⟨0, Nat.zero_le _, rfl, TdOk.zero _ _ _, HI0.out.1, HI0.out.2.1, HI0.out.2.2.1, HI0.out.2.2.2⟩
  case round =>
    clear HI0
    obtain ⟨k, hkl, rfl, hok, hseg, hg, hTi, L⟩ := hrel
    by_cases hlt : k < ts.length
    · obtain ⟨b, off, rfl, hb, hs⟩ := (HT.out.next L).seg (by omega)
      obtain ⟨c0, c1, c2⟩ := hs k hlt
      have hi0 : (0 : Int) ≤ (k : Int) := Int.natCast_nonneg _
      have hi1 : (k : Int) < (ts.length : Int) := by omega
      have LB := (Below.refl wr.heap.size wr).alloc (Nat.le_refl _) (.cells #[.int .i64 (tnth ts k).1, .int .i64 (tnth ts k).2.1, .int .i64 (tnth ts k).2.2] 41)
      obtain ⟨W, hW⟩ : ∃ W, W = wr.alloc (.cells #[.int .i64 (tnth ts k).1, .int .i64 (tnth ts k).2.1, .int .i64 (tnth ts k).2.2] 41) := ⟨_, rfl⟩
      rw [← hW] at LB
      have HX : Hid (W.heap[wr.heap.size]? = some (.cells #[.int .i64 (tnth ts k).1, .int .i64 (tnth ts k).2.1, .int .i64 (tnth ts k).2.2] 41)) := by show _ = _; rw [hW]; exact heap_alloc_new wr _
      have HHA := hidP (iHasT g c AL.length AL (tnth ts k) W (hseg.below hg LB) (Nat.lt_of_lt_of_le hg LB.size) rfl HPL.out)
      have HI : Hid (TSeg W g 0 AL ∧ g < W.heap.size ∧ Ties W B ms (lab (egTo ms ts k)) ∧ Below w.heap.size w W) := ⟨hseg.below hg LB, Nat.lt_of_lt_of_le hg LB.size, hTi.below LB, chain L LB⟩
      have hql : wr.heap.size < W.heap.size := block_ltT HX.out
      have HOKK := hidP hok
      have HES := hidP (egTo_succ (ms := ms) hlt)
      have HNO := hidP (tied_no_ok (ms := ms) (kd := kd) hlt)
      rw [HOK.out] at HHA
      clear hseg hg hTi L LB hok hs
      have HTN := hidP (rfl : tnth ts k = tnth ts k)
      rcases ho : tOkB ms kd (tnth ts k) with _ | _
      · rw [ho] at HHA
        have HF := hidP (HNO.out ho)
        obtain ⟨x0, x1, x2⟩ := three_cells HX.out
        clear ho
        generalize tnth ts k = t at *
        go_wp2_with fail
        rw [← hW]
        clear hW c0 c1 c2
        go_wp2_with fail
        refine HHA.out.mono ?_
        rintro e w4 ⟨rfl, L4⟩
        have HL4 := hidP (chain HI.out.2.2.2 L4)
        clear L4
        go_wp2_with fail
        go_ret
        exact ⟨by rw [HF.out]; rfl, HL4.out⟩
      · rw [ho] at HHA
        have hlt4 := tOk_lt ho
        have HOO := hidP ho
        obtain ⟨x0, x1, x2⟩ := three_cells HX.out
        have HID := hidP (tied_idle (kd := kd) HOKK.out hlt)
        have HNX := hidP (HOKK.out.next hlt ho)
        have HEE := hidP hlt4
        generalize heo : eOf ms (tnth ts k) = ed at *
        generalize tnth ts k = t at *
        clear ho hlt4 heo
        go_wp2_with fail
        rw [← hW]
        clear hW c0 c1 c2
        go_wp2_with fail
        refine HHA.out.mono ?_
        rintro e w4 ⟨rfl, L4⟩
        have HI4 : Hid (TSeg w4 g 0 AL ∧ g < w4.heap.size ∧ Ties w4 B ms (lab (egTo ms ts k)) ∧ Below w.heap.size w w4) := ⟨HI.out.1.below HI.out.2.1 L4, Nat.lt_of_lt_of_le HI.out.2.1 L4.size, HI.out.2.2.1.below L4, chain HI.out.2.2.2 L4⟩
        obtain ⟨y0, y1, y2⟩ := three_cells ((L4.block _ hql).trans HX.out)
        have HTI := hidP (iTie B ms (lab (egTo ms ts k)) ed.1 ed.2 w4 HM.out.1 HI4.out.2.2.1 HEE.out.1 HEE.out.2.1)
        rw [HEE.out.2.2.1, HEE.out.2.2.2] at HTI
        clear L4 HHA HI x0 x1 x2 HX
        by_cases hu : lab (egTo ms ts k) ed.1 = lab (egTo ms ts k) ed.2
        · have hd : decide (lab (egTo ms ts k) ed.1 ≠ lab (egTo ms ts k) ed.2) = false := by simp [hu]
          rw [hd] at HTI
          have HF := hidP (HID.out hu)
          clear hd hu
          go_wp2_with fail
          refine HTI.out.mono ?_
          rintro e w5 ⟨rfl, hT5, hg5⟩
          have HL5 : Hid (Below w.heap.size w w5) := HI4.out.2.2.2.grown hg5 HI4.out.2.2.2.size (by intro q hq; cases hq; exact hBw)
          clear hT5 hg5
          go_wp2_with fail
          go_ret
          exact ⟨by rw [HF.out]; rfl, HL5.out⟩
        · have hd : decide (lab (egTo ms ts k) ed.1 ≠ lab (egTo ms ts k) ed.2) = true := by simp [hu]
          rw [hd] at HTI
          have HF := hidP (HNX.out hu)
          clear hd hu
          go_wp2_with fail
          refine HTI.out.mono ?_
          rintro e w5 ⟨rfl, hT5, hg5⟩
          have HI5 : Hid (TSeg w5 g 0 AL ∧ g < w5.heap.size ∧ Ties w5 B ms (lab (egTo ms ts (k + 1))) ∧ Below w.heap.size w w5) := by
            refine ⟨fun i hi => ?_, Nat.lt_of_lt_of_le HI4.out.2.1 hg5.size, ?_, HI4.out.2.2.2.grown hg5 HI4.out.2.2.2.size (by intro q hq; cases hq; exact hBw)⟩
            · have hc : ∀ j, w5.cell? ⟨g, j, none⟩ = w4.cell? ⟨g, j, none⟩ := fun j => World.cell?_of_block (w := w4) (a := ⟨g, j, none⟩) (hg5.block g HI4.out.2.1 (fun e => hgB (by injection e)))
              have := HI4.out.1 i hi
              exact ⟨(hc _).trans this.1, (hc _).trans this.2.1, (hc _).trans this.2.2⟩
            · rw [HES.out, lab_snoc]; exact hT5
          clear hT5 hg5
          go_wp2_with fail
          go_roundw
          case rel => exact ⟨k + 1, by omega, by go_num, HF.out, HI5.out⟩
          case measure => simp [intOf]; omega
    · obtain rfl : k = ts.length := by omega
      have HF := hidP (HTY.out hok)
      have HLL2 := hidP L
      clear hok hseg hg hTi L
      go_wp2_with fail
      go_ret
      exact ⟨by rw [HF.out]; rfl, HLL2.out⟩

set_option maxRecDepth 100000 in
set_option maxHeartbeats 1000000 in
theorem iTied_no (ao at_ : Option Addr) (cap ct : Nat) (ms : List Mk) (ts : List Th) (kd : Int) (w : World) (hv : MView w ao ms) (hsm : MSmall ms) (hb : marksB ms = false ∨ kindB kd = false ∨ ts.length + 1 ≠ ms.length) :
    Calls Try.prog 17 #[.slice ao ms.length cap, .slice at_ ts.length ct, .int .i64 kd] w fun e w' => e = .returned (.bool false) ∧ Below w.heap.size w w' := by
  have HC := hidP (iMarks ao cap ms w hv hsm)
  have HK := fun w => hidP (iKind kd w)
  have hml := hsm.1
  clear hv
  rcases hm : marksB ms with _ | _
  · rw [hm] at HC
    clear hm hb
    go_enter Try.func17, Try.ntmps17
    go_wp2_with fail
    refine HC.out.mono ?_
    rintro e w1 ⟨rfl, L1⟩
    have HL := hidP L1
    clear L1
    go_wp2_with fail
    go_ret
    exact ⟨rfl, HL.out⟩
  · rcases hk : kindB kd with _ | _
    · rw [hm] at HC
      rw [hk] at HK
      clear hm hb hk
      go_enter Try.func17, Try.ntmps17
      go_wp2_with fail
      refine HC.out.mono ?_
      rintro e w1 ⟨rfl, L1⟩
      have HL := hidP L1
      clear L1
      go_wp2_with fail
      refine (HK w1).out.mono ?_
      rintro e w2 ⟨rfl, hw2⟩
      subst w2
      go_wp2_with fail
      go_ret
      exact ⟨rfl, HL.out⟩
    · have hne : ts.length + 1 ≠ ms.length := by
        rcases hb with h | h | h
        · rw [hm] at h; cases h
        · rw [hk] at h; cases h
        · exact h
      have hw1 : IntKind.i64.wrap ((ms.length : Int) - 1) = (ms.length : Int) - 1 := IntWalk.i64_in _ ⟨by omega, by omega⟩
      have hnb : ((ts.length : Int) != (ms.length : Int) - 1) = true := by simp; omega
      rw [hm] at HC
      rw [hk] at HK
      clear hm hb hk hne
      go_enter Try.func17, Try.ntmps17
      go_wp2_with fail
      refine HC.out.mono ?_
      rintro e w1 ⟨rfl, L1⟩
      have HL := hidP L1
      clear L1
      go_wp2_with fail
      refine (HK w1).out.mono ?_
      rintro e w2 ⟨rfl, hw2⟩
      subst w2
      go_wp2_with fail
      go_ret
      exact ⟨rfl, HL.out⟩
theorem tied_told {ms : List Mk} {ts : List Th} {kd : Int} (h : marksB ms = false ∨ kindB kd = false ∨ ts.length + 1 ≠ ms.length) : tiedB ms ts kd = false := by
  rcases hb : tiedB ms ts kd with _ | _
  · rfl
  · exfalso
    simp only [tiedB, Bool.and_eq_true, decide_eq_true_eq] at hb
    obtain ⟨h1, h2⟩ := (thrB_iff ms kd).1 hb.1.1.1
    rcases h with h | h | h
    · rw [h1] at h; cases h
    · rw [h2] at h; cases h
    · exact h hb.1.1.2
theorem iTied : ITied := fun ao at_ cap ct ms ts kd w hv ht hsm _ hcap => by
  by_cases h : marksB ms = true ∧ kindB kd = true ∧ ts.length + 1 = ms.length
  · exact iTied_yes ao at_ cap ct ms ts kd w hv ht hsm hcap h.1 h.2.1 h.2.2
  · have hb : marksB ms = false ∨ kindB kd = false ∨ ts.length + 1 ≠ ms.length := by
      rcases h1 : marksB ms with _ | _
      · exact Or.inl rfl
      · rcases h2 : kindB kd with _ | _
        · exact Or.inr (Or.inl rfl)
        · exact Or.inr (Or.inr (fun e => h ⟨h1, h2, e⟩))
    refine (iTied_no ao at_ cap ct ms ts kd w hv hsm hb).mono ?_
    rintro e w' ⟨rfl, L⟩
    exact ⟨by rw [tied_told hb], L⟩

end Go.Proofs.Ytfbindjacmaeoaa
