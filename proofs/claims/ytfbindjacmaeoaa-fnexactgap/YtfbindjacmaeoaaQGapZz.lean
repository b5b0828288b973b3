/-
  The program's own Gap.
-/
import Derived.Test.YtfbindjacmaeoaaQGokZz
import Derived.Test.YtfbindjacmaeoaaQThrZz
namespace Go.Proofs.Ytfbindjacmaeoaa
open Go Go.RowKit Go.Maps

theorem left_ids {ms : List Mk} (hm : marksB ms = true) (g : Nat) : ∀ {ids : List Int} {h h' : Nat → Nat} {left : List Int}, LeftOk ms h left → inIds ms g ids h = some h' → ∃ left', LeftOk ms h' left' ∧ left'.length + ids.length = left.length
  | [], h, h', left, hl, e => by
    simp only [inIds, Option.some.injEq] at e
    subst e
    exact ⟨left, hl, rfl⟩
  | x :: ids, h, h', left, hl, e => by
    simp only [inIds] at e
    split at e
    · cases e
    · rename_i hc
      have hz := zIdx_lt (ms := ms) (id := x) (by omega)
      have hx : x ∈ left := (hl.mem x).2 ⟨zIdx ms x, hz.1, hz.2.2, by omega⟩
      obtain ⟨k, hk, rfl⟩ := List.getElem_of_mem hx
      obtain ⟨left', h1, h2⟩ := left_ids hm g (hl.next hm hk g) e
      refine ⟨left', h1, ?_⟩
      rw [List.length_eraseIdx_of_lt hk] at h2
      simp only [List.length_cons]
      omega
theorem left_grp {ms : List Mk} (hm : marksB ms = true) : ∀ {gs : List (List Int)} {g : Nat} {h h' : Nat → Nat} {left : List Int}, LeftOk ms h left → inGrp ms gs g h = some h' → ∃ left', LeftOk ms h' left' ∧ left'.length + lenS gs = left.length
  | [], g, h, h', left, hl, e => by
    simp only [inGrp, Option.some.injEq] at e
    subst e
    exact ⟨left, hl, rfl⟩
  | ids :: gs, g, h, h', left, hl, e => by
    simp only [inGrp] at e
    split at e
    · cases e
    · rcases hi : inIds ms g ids h with _ | h1
      · rw [hi] at e; cases e
      · rw [hi] at e
        obtain ⟨l1, a1, a2⟩ := left_ids hm g hl hi
        obtain ⟨l2, b1, b2⟩ := left_grp hm a1 e
        refine ⟨l2, b1, ?_⟩
        have : lenS (ids :: gs) = ids.length + lenS gs := by simp [lenS]
        omega
theorem grp_full {ms : List Mk} (hm : marksB ms = true) {gs : List (List Int)} {h : Nat → Nat} (e : inGrp ms gs 0 (fun _ => 0) = some h) (hl : lenS gs = ms.length) : ∀ i, i < ms.length → h i ≠ 0 := fun i hi h0 => by
  obtain ⟨left, a1, a2⟩ := left_grp hm (LeftOk.start hm) e
  rw [numsM_len] at a2
  have hnil : left = [] := List.length_eq_zero_iff.1 (by omega)
  have := (a1.mem (mid ms i)).2 ⟨i, hi, rfl, h0⟩
  rw [hnil] at this
  simp at this
theorem grOk_yes {ms : List Mk} {gs : List (List Int)} (h : grOkB ms gs = true) : ∃ h', inGrp ms gs 0 (fun _ => 0) = some h' ∧ lenS gs = ms.length := by
  simp only [grOkB, Bool.and_eq_true, decide_eq_true_eq] at h
  obtain ⟨h', e⟩ := Option.isSome_iff_exists.1 h.1
  exact ⟨h', e, h.2⟩
theorem gapI_told {ms : List Mk} {kd : Int} {gs : List (List Int)} (h : gs.length < 2 ∨ marksB ms = false ∨ kindB kd = false ∨ grOkB ms gs = false) : gapI ms kd gs = -1 := by
  unfold gapI
  split
  · rename_i hb
    simp only [gapB, thrB, Bool.and_eq_true, decide_eq_true_eq] at hb
    rcases h with h | h | h | h
    · omega
    · rw [hb.1.1] at h; cases h
    · rw [hb.1.2] at h; cases h
    · rcases e : inGrp ms gs 0 (fun _ => 0) with _ | h'
      · rfl
      · simp only
        rw [if_neg]
        intro hl
        simp [grOkB, e, hl] at h
  · rfl
/-- The gap: how long the first thread of two groups is. -/
theorem gapI_first {ms : List Mk} {kd : Int} {gs : List (List Int)} (hm : marksB ms = true) (hk : kindB kd = true) (h2 : 2 ≤ gs.length) (hg : grOkB ms gs = true) :
    ∃ m, m < (srtE (zD ms kd) ms.length).length ∧ (∀ j, j < m → lab (tieAllE ms gs) (egn (srtE (zD ms kd) ms.length) j).1 = lab (tieAllE ms gs) (egn (srtE (zD ms kd) ms.length) j).2) ∧ lab (tieAllE ms gs) (egn (srtE (zD ms kd) ms.length) m).1 ≠ lab (tieAllE ms gs) (egn (srtE (zD ms kd) ms.length) m).2 ∧ (thOf ms kd (egn (srtE (zD ms kd) ms.length) m)).2.2 = gapI ms kd gs := by
  obtain ⟨h, e, hl⟩ := grOk_yes hg
  have hall := grp_full hm e hl
  have htd := grp_tied e hall
  have hhas := (inGrp_has e).2
  obtain ⟨i1, a1, a2⟩ := hhas 0 (by omega)
  obtain ⟨i2, b1, b2⟩ := hhas 1 (by omega)
  obtain ⟨m, c1, c2, c3⟩ := gap_some (D := zD ms kd) (n := ms.length) (p := lab (tieAllE ms gs)) ⟨i1, i2, a1, b1, fun hh => by have := (htd i1 i2 a1 b1).2 hh; omega⟩
  refine ⟨m, c1, c2, c3, ?_⟩
  have hmem := srtE_lt (D := zD ms kd) _ (egn_mem c1)
  have hB : thrB ms kd = true := (thrB_iff ms kd).2 ⟨hm, hk⟩
  have e1 : gapI ms kd gs = gapAll h (zD ms kd) ms.length := by
    unfold gapI
    rw [if_pos (by simp [gapB, hB, h2]), e]
    simp only
    rw [if_pos hl]
  rw [e1, gapAll_same htd, gap_first (zD_nn ms kd) (zD_comm ms kd) c1 c2 c3]
  exact (zD_in hm kd hk hmem.1 hmem.2).symm
theorem found_all {ms : List Mk} {gs : List (List Int)} (hg : grOkB ms gs = true) {j : Nat} (hj : j < gs.length) : cn gs j ≠ [] ∧ ∀ id ∈ cn gs j, 0 ≤ zFind ms id := by
  obtain ⟨h, e, -⟩ := grOk_yes hg
  have e' : inGrp ms (gs.take gs.length) 0 (fun _ => 0) = some h := by rw [List.take_length]; exact e
  have := (grp_in gs.length (Nat.le_refl _) e').1 j hj
  exact ⟨this.1, fun id hid => (this.2 id hid).1⟩
theorem fld41 (x y z : Value) (w : World) : Sem.run Try.prog (Instr.field 41 (.agg #[x, y, z]) 2) w = .ok z w := by kernel_rfl

set_option maxRecDepth 100000 in
set_option maxHeartbeats 4000000 in
theorem iGap_yes (ao ag : Option Addr) (cap cg : Nat) (ms : List Mk) (kd : Int) (gs : List (List Int)) (w : World) (hv : MView w ao ms) (hg : CView w ag gs) (hsm : MSmall ms) (hcs : CSmall gs) (hcap : ms.length ≤ cap) (h2 : 2 ≤ gs.length) (hm : marksB ms = true) (hk : kindB kd = true) (hok : grOkB ms gs = true) :
    Calls Try.prog 28 #[.slice ao ms.length cap, .int .i64 kd, .slice ag gs.length cg] w fun e w' => e = .returned (.int .i64 (gapI ms kd gs)) ∧ Below w.heap.size w w' := by
  have HC := hidP (iMarks ao cap ms w hv hsm)
  rw [hm] at HC
  have HK := fun w => hidP (iKind kd w)
  rw [hk] at HK
  have HGO := hidP (fun w' (L : Below w.heap.size w w') => iGrOk ao ag cap cg ms gs w' (hv.next L) (hg.next L) hm hcs)
  rw [hok] at HGO
  have HLO := hidP (fun w' (L : Below w.heap.size w w') => iLoose ao cap ms w' hm (hv.next L))
  have HHP := hidP (fun w' (L : Below w.heap.size w w') => iHeapT ao cap ms kd w' (hv.next L) hsm hm hcap)
  have hn60 := marksB_len hm
  have HM := hidP (And.intro hm hk)
  have HG := hidP hg
  have HFA := hidP (fun j (hj : j < gs.length) => found_all hok hj)
  have HCS := hidP hcs.2
  have hgl := hcs.1
  have h2i : ¬ ((gs.length : Int) < 2) := by omega
  have HGF := hidP (gapI_first hm hk h2 hok)
  have hfl := fld41
  clear hv hg hsm hcs hcap h2 hm hk hok
  go_enter Try.func28, Try.ntmps28
  go_wp2_with fail
  refine HC.out.mono ?_
  rintro e w1 ⟨rfl, L1⟩
  have HL1 := hidP L1
  clear L1 HC
  go_wp2_with fail
  refine (HK w1).out.mono ?_
  rintro e w2 ⟨rfl, hw2⟩
  subst w2
  clear HK
  go_wp2_with fail
  refine (HGO.out w1 HL1.out).mono ?_
  rintro e w2 ⟨rfl, L2⟩
  have HL2 := hidP (chain HL1.out L2)
  clear L2 HGO HL1
  go_wp2_with fail
  refine (HLO.out w2 HL2.out).mono ?_
  rintro e w3 ⟨rfl, hT3, L3⟩
  have HI0 : Hid (Ties w3 w2.heap.size ms (lab (tieAllE ms (gs.take 0))) ∧ Below w.heap.size w w3) := ⟨hT3, chain HL2.out L3⟩
  have hBw : w.heap.size ≤ w2.heap.size := HL2.out.size
  clear hT3 L3 HLO HL2
  generalize w2.heap.size = B at *
  go_wp2_with fail
  go_loopw [33] (fun i wr => ∃ j : Nat, j ≤ gs.length ∧ i = .int .i64 j ∧ Ties wr B ms (lab (tieAllE ms (gs.take j))) ∧ Below w.heap.size w wr) (fun i _ => gs.length - (intOf i).toNat)
  case atStart => exact ⟨0, Nat.zero_le _, rfl, HI0.out⟩
  case round =>
    clear HI0
    obtain ⟨j, hj, rfl, hTi, L⟩ := hrel
    by_cases hlt : j < gs.length
    · obtain ⟨b, off, rfl, hb, hs⟩ := HG.out.seg (by omega)
      obtain ⟨a, ca, hcw, hva⟩ := hs j hlt
      have hc := (L.cell (p := ⟨b, off + j, none⟩) hb).trans hcw
      have hj0 : (0 : Int) ≤ (j : Int) := Int.natCast_nonneg _
      have hj1 : (j : Int) < (gs.length : Int) := by omega
      have hfa := HFA.out j hlt
      have hab : ∀ b' off', a = some ⟨b', off', none⟩ → b' ≠ B := fun b' off' e => by
        rcases hva with h1 | ⟨b2, off2, e2, hb2, -⟩
        · exact absurd h1 hfa.1
        · rw [e] at e2
          injection e2 with e2
          injection e2 with e3
          omega
      have HTA := hidP (iTieAll B a ca ms (cn gs j) (tieAllE ms (gs.take j)) wr HM.out.1 hTi (View.next hva L) hab hfa.2 (HCS.out j))
      have HTK : Hid (tieAllE ms (gs.take (j + 1)) = tieAllE ms (gs.take j) ++ tieE ms (cn gs j)) := by show _ = _; rw [take_cn hlt, tieAllE_snoc]
      have HL := hidP L
      clear hTi L hs hva hab hfa hcw
      go_wp2_with fail
      refine HTA.out.mono ?_
      rintro e w4 ⟨rfl, hT4, hg4⟩
      have HE : Hid (Ties w4 B ms (lab (tieAllE ms (gs.take (j + 1)))) ∧ Below w.heap.size w w4) := ⟨by rw [HTK.out]; exact hT4, HL.out.grown hg4 HL.out.size (by intro q hq; cases hq; exact hBw)⟩
      clear hT4 hg4
      go_wp2_with fail
      go_roundw
      case rel => exact ⟨j + 1, by omega, by go_num, HE.out⟩
      case measure => simp [intOf]; omega
    · obtain rfl : j = gs.length := by omega
      rw [List.take_length] at hTi
      have HTi := hidP hTi
      have HL := hidP L
      have HHW := hidP (HHP.out wr L)
      clear hTi L HHP
      go_wp2_with fail
      refine HHW.out.mono ?_
      rintro e w4 ⟨p, g, c, l, rfl, hp4, hA4, hok4, L4⟩
      obtain ⟨m, c1, c2, c3, c4⟩ := HGF.out
      have hSl := srtE_len (zD ms kd) hn60
      have HNT := hidP (iNextTie wr.heap.size p g c B l (srtE (zD ms kd) ms.length) m ms kd (lab (tieAllE ms gs)) w4 HM.out.1 HM.out.2 hA4 hok4 (srtE_ord _ _) (fun e he => srtE_lt e he) (HTi.out.below L4) c1 c2 c3 (by omega))
      rw [c4] at HNT
      have hgw := hA4.2.2.lt.1
      have hzw := HL.out.size
      have HL4 := hidP (chain HL.out L4)
      clear hA4 hok4 L4 c1 c2 c3 c4 hSl HHW HGF
      generalize (thOf ms kd (egn (srtE (zD ms kd) ms.length) m)).1 = t1 at *
      generalize (thOf ms kd (egn (srtE (zD ms kd) ms.length) m)).2.1 = t2 at *
      go_wp2_with fail
      refine HNT.out.mono ?_
      rintro e w5 ⟨rfl, l5, -, -, -, hC5⟩
      have HL5 : Hid (Below w.heap.size w w5) := hC5.base HL4.out (by omega) (by omega) hBw
      clear hC5
      go_wp2_with fail
      go_ret
      exact ⟨rfl, HL5.out⟩

set_option maxRecDepth 100000 in
set_option maxHeartbeats 2000000 in
theorem iGap_no (ao ag : Option Addr) (cap cg : Nat) (ms : List Mk) (kd : Int) (gs : List (List Int)) (w : World) (hv : MView w ao ms) (hg : CView w ag gs) (hsm : MSmall ms) (hcs : CSmall gs) (hb : gs.length < 2 ∨ marksB ms = false ∨ kindB kd = false ∨ grOkB ms gs = false) :
    Calls Try.prog 28 #[.slice ao ms.length cap, .int .i64 kd, .slice ag gs.length cg] w fun e w' => e = .returned (.int .i64 (-1)) ∧ Below w.heap.size w w' := by
  have HC := hidP (iMarks ao cap ms w hv hsm)
  have HK := fun w => hidP (iKind kd w)
  by_cases h2 : gs.length < 2
  · have h2i : (gs.length : Int) < 2 := by omega
    clear hv hg hcs hb HC HK
    go_enter Try.func28, Try.ntmps28
    go_wp2_with fail
    go_ret
    exact ⟨rfl, Below.refl _ _⟩
  · have h2i : ¬ ((gs.length : Int) < 2) := by omega
    rcases hm : marksB ms with _ | _
    · rw [hm] at HC
      clear hv hg hcs hb hm HK
      go_enter Try.func28, Try.ntmps28
      go_wp2_with fail
      refine HC.out.mono ?_
      rintro e w1 ⟨rfl, L1⟩
      have HL := hidP L1
      clear L1
      go_wp2_with fail
      go_ret
      exact ⟨rfl, HL.out⟩
    · rw [hm] at HC
      rcases hk : kindB kd with _ | _
      · rw [hk] at HK
        clear hv hg hcs hb hm hk
        go_enter Try.func28, Try.ntmps28
        go_wp2_with fail
        refine HC.out.mono ?_
        rintro e w1 ⟨rfl, L1⟩
        have HL := hidP L1
        clear L1
        go_wp2_with fail
        refine (HK w1).out.mono ?_
        rintro e w2 ⟨rfl, hw2⟩
        subst w2
        go_wp2_with fail
        go_ret
        exact ⟨rfl, HL.out⟩
      · rw [hk] at HK
        have hno : grOkB ms gs = false := by
          rcases hb with h | h | h | h
          · exact absurd h h2
          · rw [hm] at h; cases h
          · rw [hk] at h; cases h
          · exact h
        have HGO := hidP (fun w' (L : Below w.heap.size w w') => iGrOk ao ag cap cg ms gs w' (hv.next L) (hg.next L) hm hcs)
        rw [hno] at HGO
        clear hv hg hcs hb hm hk hno
        go_enter Try.func28, Try.ntmps28
        go_wp2_with fail
        refine HC.out.mono ?_
        rintro e w1 ⟨rfl, L1⟩
        have HL := hidP L1
        clear L1
        go_wp2_with fail
        refine (HK w1).out.mono ?_
        rintro e w2 ⟨rfl, hw2⟩
        subst w2
        go_wp2_with fail
        refine (HGO.out w1 HL.out).mono ?_
        rintro e w2 ⟨rfl, L2⟩
        have HL2 := hidP (chain HL.out L2)
        clear L2
        go_wp2_with fail
        go_ret
        exact ⟨rfl, HL2.out⟩

theorem iGap : IGap := fun ao ag cap cg ms kd gs w hv hg hsm hcs hcap => by
  by_cases h : 2 ≤ gs.length ∧ marksB ms = true ∧ kindB kd = true ∧ grOkB ms gs = true
  · exact iGap_yes ao ag cap cg ms kd gs w hv hg hsm hcs hcap h.1 h.2.1 h.2.2.1 h.2.2.2
  · have hb : gs.length < 2 ∨ marksB ms = false ∨ kindB kd = false ∨ grOkB ms gs = false := by
      by_cases h0 : gs.length < 2
      · exact Or.inl h0
      · rcases h1 : marksB ms with _ | _
        · exact Or.inr (Or.inl rfl)
        · rcases h2 : kindB kd with _ | _
          · exact Or.inr (Or.inr (Or.inl rfl))
          · rcases h3 : grOkB ms gs with _ | _
            · exact Or.inr (Or.inr (Or.inr rfl))
            · exact absurd ⟨by omega, h1, h2, h3⟩ h
    refine (iGap_no ao ag cap cg ms kd gs w hv hg hsm hcs hb).mono ?_
    rintro e w' ⟨rfl, L⟩
    exact ⟨by rw [gapI_told hb], L⟩

end Go.Proofs.Ytfbindjacmaeoaa
