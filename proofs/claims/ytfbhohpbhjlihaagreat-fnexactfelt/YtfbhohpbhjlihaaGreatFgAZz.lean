/-
  The program's Walk and Islands.
  The program's Beam.
-/
import Derived.Test.YtfbhohpbhjlihaaGreatFg4Zz
import Derived.Test.YtfbhohpbhjlihaaGreatFeWkZz
namespace Go.Proofs.YtfbhohpbhjlihaaGreat
open Go Go.RowKit

theorem walkG_ne (ms : List Mk) (ls : List (List Int)) (q : List Int) (x : Int) : walkG ms ls q x ≠ [] := by
  unfold walkG
  cases rkW ms q x with
  | zero => simp [walkF]
  | succ n => simp only [walkF]; split <;> simp
theorem dd_far {ms : List Mk} {q : List Int} (h : toldB ms q = true) : ddQ ms q = farD ms q := by
  funext x
  have hq : okB q = true := by
    simp only [toldB, Bool.and_eq_true] at h
    exact h.1.2
  have h4 := okB_len hq
  unfold ddQ farD
  rw [if_neg (by omega), farV_comm]
theorem told_web {ms : List Mk} {ls : List (List Int)} {fr : Int} {q : List Int} (h : toldW ms ls fr q = true) : LkWeb ms ls q ∧ 0 ≤ zFind ms fr ∧ ddQ ms q = farD ms q := by
  obtain ⟨h1, h2, h3⟩ := (toldW_iff _ _ _ _).1 h
  refine ⟨⟨h1, fun _ i hi => ?_⟩, h3, dd_far h2⟩
  have hm := web_marks h1
  simp only [toldB, Bool.and_eq_true, Bool.or_eq_true, decide_eq_true_eq] at h2
  obtain ⟨⟨-, hq⟩, hl⟩ := h2
  have a := (mOkAt_iff ms i).1 (marksB_at hm hi)
  have hlen : q.length = (mat ms i).length := by
    rcases hl with e | e
    · omega
    · omega
  unfold twoB
  simp [hq, a.2.2.1, hlen]

set_option maxRecDepth 100000 in
set_option maxHeartbeats 1000000 in
theorem iWalk14 : IWalk := by
  intro am cm ms al cl ls fr aq cq q w hm hl hqv hsm hcs hql hcm hcl hcq
  obtain ⟨W, hW⟩ : ∃ W, w.alloc (.cells #[.slice am ms.length cm, .slice al ls.length cl] 27) = W := ⟨_, rfl⟩
  have hB : Below w.heap.size w W := by rw [← hW]; exact (Below.refl _ _).alloc (Nat.le_refl _) _
  have hI : WebIn W w.heap.size am cm ms al cl ls := by rw [← hW]; exact WebIn.box hm hl
  have HML := hidP (iMayLook am al aq cm cl cq ms ls fr q W hI.mv hI.cv (hqv.next hB) hsm hcs hql hcm hcl)
  have HB := hidP hB
  have HI := hidP hI
  have HQ := hidP (hqv.next hB)
  have k0 := hI.c0
  have k1 := hI.c1
  clear hm hl hB hI hsm hcs hqv
  rcases ht : toldW ms ls fr q with _ | _
  · have HV : Hid (walkL ms ls fr q = []) := by show _ = _; simp [walkL, ht]
    rw [ht] at HML
    rw [HV.out]
    clear ht
    go_enter Tryz.func190, Tryz.ntmps190
    go_wp2_with fail
    refine HML.out.mono ?_
    rintro e w1 ⟨rfl, L1⟩
    have HL1 := hidP (chain HB.out L1)
    clear L1
    go_wp2_with fail
    go_ret
    exact ⟨none, 0, rfl, Or.inl ⟨rfl, rfl⟩, HL1.out⟩
  · obtain ⟨hw, hf, hdd⟩ := told_web ht
    have HV : Hid (walkL ms ls fr q = walkG ms ls q fr) := by show _ = _; simp [walkL, ht]
    rw [ht] at HML
    have HWF := hidP (And.intro hw (And.intro hf hdd))
    clear ht hw hf hdd
    go_enter Tryz.func190, Tryz.ntmps190
    go_wp2_with fail
    refine HML.out.mono ?_
    rintro e w1 ⟨rfl, L1⟩
    have hI1 := HI.out.below L1
    have HL1 := hidP (chain HB.out L1)
    have HLO := hidP (iLooked14 am al aq cm cl cq ms ls fr q 1 w1 ⟨hI1.mv, hI1.cv, HQ.out.next L1⟩ HWF.out.1 HWF.out.2.1)
    clear L1 k0 k1 hW
    have k0 := hI1.c0
    have k1 := hI1.c1
    clear hI1
    go_wp2_with fail
    refine HLO.out.mono ?_
    rintro e w2 ⟨G, rfl, s2, op2, hto, hend, as2, cs2, vs2, ao2, co2, hg⟩
    rw [HWF.out.2.2] at hto
    have HOP : Hid (walkL ms ls fr q = op2) := by show _ = _; rw [HV.out]; exact look_walk HWF.out.1.web HWF.out.2.1 hto hend
    obtain ⟨-, -, -, -, g4⟩ := hg.five.cells
    have HG := hidP hg
    clear hto hend hg k0 k1
    go_wp2_with fail
    go_ret
    have hL := HL1.out
    have hg := HG.out
    rw [HOP.out]
    refine ⟨ao2, co2, rfl, ?_, hL.trans (hg.bel.mono hL.size)⟩
    have hrow := hg.opr
    by_cases h0 : 0 < op2.length
    · obtain ⟨g, e, -, -, -⟩ := own_cell hrow (by rw [numC_len]; exact h0)
      subst e
      refine Or.inr ⟨g, co2, rfl, ?_⟩
      obtain ⟨h1, h2⟩ := hrow
      refine ⟨h1, ?_⟩
      rcases h2 with ⟨e1, e2⟩ | ⟨g', cp, cur, e1, hb, h5⟩
      · omega
      · exact Or.inr ⟨g', cp, cur, e1, Nat.le_trans hL.size hb, h5⟩
    · obtain rfl : op2 = [] := List.length_eq_zero_iff.1 (by omega)
      exact absurd HOP.out (by
        rw [HV.out]
        intro e
        have := walkG_ne ms ls q fr
        exact this e)
end Go.Proofs.YtfbhohpbhjlihaaGreat
namespace Go.Proofs.YtfbhohpbhjlihaaGreat
open Go Go.RowKit

theorem take_snocH {s : List Ht} {k : Nat} (h : k < s.length) : s.take (k + 1) = s.take k ++ [hnth s k] := by
  rw [List.take_add_one, List.getElem?_eq_getElem h]
  simp [hnth, List.getD, h]

set_option maxRecDepth 100000 in
set_option maxHeartbeats 2000000 in
theorem iBeam14 : IBeam := by
  intro am cm ms al cl ls fr aq cq q wide w hm hl hqv hsm hcs hql hcm hcl hcq
  obtain ⟨W, hW⟩ : ∃ W, w.alloc (.cells #[.slice am ms.length cm, .slice al ls.length cl] 27) = W := ⟨_, rfl⟩
  have hB : Below w.heap.size w W := by rw [← hW]; exact (Below.refl _ _).alloc (Nat.le_refl _) _
  have hI : WebIn W w.heap.size am cm ms al cl ls := by rw [← hW]; exact WebIn.box hm hl
  have HML := hidP (iMayLook am al aq cm cl cq ms ls fr q W hI.mv hI.cv (hqv.next hB) hsm hcs hql hcm hcl)
  have HCO := hidP (iCount wide W)
  have HB := hidP hB
  have HI := hidP hI
  have HQ := hidP (hqv.next hB)
  have k0 := hI.c0
  have k1 := hI.c1
  have hsz : W.heap.size = w.heap.size + 1 := by rw [← hW]; simp
  have HSZ := hidP hsz
  clear hm hl hB hI hsm hcs hqv hsz
  rcases hc : countB wide with _ | _
  · have HV : Hid (beamL ms ls fr q wide = []) := by show _ = _; simp [beamL, hc]
    rw [hc] at HCO
    rw [HV.out]
    clear hc
    go_enter Tryz.func114, Tryz.ntmps114
    go_wp2_with fail
    refine HCO.out.mono ?_
    rintro e w1 ⟨rfl, rfl⟩
    go_wp2_with fail
    go_ret
    exact ⟨none, 0, rfl, Or.inl ⟨rfl, rfl⟩, HB.out⟩
  rcases ht : toldW ms ls fr q with _ | _
  · have HV : Hid (beamL ms ls fr q wide = []) := by show _ = _; simp [beamL, ht]
    rw [hc] at HCO
    rw [ht] at HML
    rw [HV.out]
    clear hc ht
    go_enter Tryz.func114, Tryz.ntmps114
    go_wp2_with fail
    refine HCO.out.mono ?_
    rintro e w1 ⟨rfl, rfl⟩
    go_wp2_with fail
    refine HML.out.mono ?_
    rintro e w2 ⟨rfl, L2⟩
    have HL2 := hidP (chain HB.out L2)
    clear L2
    go_wp2_with fail
    go_ret
    exact ⟨none, 0, rfl, Or.inl ⟨rfl, rfl⟩, HL2.out⟩
  · obtain ⟨hw, hf, hdd⟩ := told_web ht
    have HV : Hid (beamL ms ls fr q wide = beamG ms ls q wide.toNat [hitOf ms q fr] [fr] []) := by show _ = _; simp [beamL, ht, hc]
    rw [hc] at HCO
    rw [ht] at HML
    have HWF := hidP (And.intro hw (And.intro hf hdd))
    have hwd : 1 ≤ wide ∧ wide ≤ 60 := by simpa [countB] using hc
    obtain ⟨wd, rfl⟩ : ∃ wd : Nat, wide = (wd : Int) := ⟨wide.toNat, by omega⟩
    rw [Int.toNat_natCast] at HV
    have hwd1 : 1 ≤ wd ∧ wd ≤ 60 := by omega
    have HM60 := hidP (marksB_len (web_marks hw.web))
    obtain ⟨j0, hj0, hy0, hy1, hy2⟩ := info_parts Tryz.info44
    clear ht hw hf hdd hc hwd
    go_enter Tryz.func114, Tryz.ntmps114
    go_wp2_with fail
    refine HCO.out.mono ?_
    rintro e w1 ⟨rfl, rfl⟩
    go_wp2_with fail
    refine HML.out.mono ?_
    rintro e w1 ⟨rfl, L1⟩
    have hI1 := HI.out.below L1
    have HL1 := hidP (chain HB.out L1)
    obtain ⟨V, hV⟩ : ∃ V, w1.alloc (.cells #[] 44) = V := ⟨_, rfl⟩
    have LV : Below w1.heap.size w1 V := by rw [← hV]; exact (Below.refl _ _).alloc (Nat.le_refl _) _
    have hI2 := hI1.below LV
    have HROW : Hid (HRow w.heap.size V w1.heap.size 0 []) := by show HRow _ _ _ _ _; rw [← hV]; exact HRow.start w1 w.heap.size HL1.out.size
    have hVs : V.heap.size = w1.heap.size + 1 := by rw [← hV]; simp
    have HLV := hidP (chain HL1.out LV)
    have HLO := hidP (iLooked14 am al aq cm cl cq ms ls fr q wd V ⟨hI2.mv, hI2.cv, (HQ.out.next L1).next LV⟩ HWF.out.1 HWF.out.2.1)
    clear L1 LV k0 k1 hW
    have k0 := hI2.c0
    have k1 := hI2.c1
    clear hI1 hI2
    go_wp2_with fail
    refine HLO.out.mono ?_
    rintro e w2 ⟨G, rfl, s2, op2, hto, hend, as2, cs2, vs2, ao2, co2, hg⟩
    have hok := hto.ok HWF.out.1.web (look_start (ls := ls) (dd := ddQ ms q) HWF.out.2.1).2
    rw [HWF.out.2.2] at hto
    have HOP : Hid (beamL ms ls fr q (wd : Int) = s2.take wd) := by show _ = _; rw [HV.out]; exact look_beam HWF.out.1.web HWF.out.2.1 hto hend
    have hs0 : 0 < s2.length := by
      have hne : ∀ s1 op1, LkTo ms ls (farD ms q) wd [(fr, farD ms q fr)] [] s1 op1 → 0 < s1.length := by
        intro s1 op1 h
        induction h with
        | refl => simp
        | @step s op h1 h2 ih =>
          have hk := h1.ok HWF.out.1.web (look_start (ls := ls) (dd := farD ms q) HWF.out.2.1).2
          obtain ⟨-, hmem⟩ := seesD_ok hk.look (cn ls (zIdx ms (nextI s op wd)))
          obtain ⟨k, hk, -⟩ := idsH_at ((hmem (nextI s op wd)).2 (Or.inr (next_ok h2).2.1))
          omega
      exact hne s2 op2 hto
    have hs60 : s2.length ≤ 60 := by have := hok.short; have := HM60.out; omega
    have HFI := hidP (iFirstG V w2 G cm cl cq cs2 co2 am al aq as2 ao2 ms ls q op2 s2 vs2 wd hg hs0)
    have HG := hidP hg
    have HLD := hidP hok.look
    have HR2 := hidP (HROW.out.below (Nat.le_refl _) hg.bel)
    clear hto hend hg k0 k1 hok hV
    go_wp2_with fail
    refine HFI.out.mono ?_
    rintro e w3 ⟨rfl, L3⟩
    have hg3 := HG.out.next L3
    obtain ⟨sb, rfl, hsb, hsl, hsc⟩ := own_cell hg3.sr (by rw [hg3.vl]; omega)
    have HCE : Hid (∀ k, k < s2.length → w3.cell? ⟨sb, k, none⟩ = some (vs2.getD k .nilIface)) := fun k hk => hsc k (by rw [hg3.vl]; exact hk)
    have HSE : Hid (∀ k, k < s2.length → ∃ a c, IsS (vs2.getD k .nilIface) (hnth s2 k) a (cn ls (zIdx ms (hnth s2 k).1)).length c) := fun k hk => by
      obtain ⟨a, c, h1, -⟩ := hg3.sees k hk
      have hfar := HLD.out.far _ (hnth_in14 hk)
      have hpair : ((hnth s2 k).1, ddQ ms q (hnth s2 k).1) = hnth s2 k := by rw [← hfar]
      rw [hpair] at h1
      exact ⟨a, c, h1⟩
    have HR3 := hidP (HR2.out.below (Nat.le_refl _) L3)
    have HL3 : Hid (Below w.heap.size w w3) := by
      have h1 := HLV.out
      exact h1.trans ((hg3.bel).mono h1.size)
    have hT : w1.heap.size < V.heap.size := by omega
    have hTs : w1.heap.size ≠ sb := by omega
    have hw1s := HL1.out.size
    obtain ⟨m, hm⟩ : ∃ m, min s2.length wd = m := ⟨_, rfl⟩
    have hm1 : m ≤ s2.length := by omega
    have HTM : Hid (s2.take wd = s2.take m) := by
      show _ = _
      rw [← hm]
      rcases Nat.le_total s2.length wd with h | h
      · rw [Nat.min_eq_left h, List.take_of_length_le h, List.take_length]
      · rw [Nat.min_eq_right h]
    rw [hm]
    clear L3 hg3 hsc hm HG HFI HLO HML HCO HR2 HROW
    generalize w1.heap.size = T at *
    go_wp2_with fail
    go_loopw [31, 9] (fun i tv wr => ∃ (k g c : Nat), k ≤ m ∧ i = .int .i64 k ∧ tv = .slice (some ⟨g, 0, none⟩) k c ∧ HRow w.heap.size wr g c (s2.take k) ∧ g ≠ sb ∧ sb < wr.heap.size ∧ wr.heap[sb]? = w3.heap[sb]? ∧ Below w.heap.size w wr) (fun i _ _ => m - (intOf i).toNat)
    case atStart => exact ⟨0, T, 0, Nat.zero_le _, rfl, rfl, HR3.out, hTs, hsl, rfl, HL3.out⟩
    case round =>
      obtain ⟨k, g, c, hk, rfl, rfl, hrow, hgs, hsr, hbk, L⟩ := hrel
      by_cases hlt : k < m
      · have c0 : wr.cell? ⟨sb, k, none⟩ = some (vs2.getD k .nilIface) := by
          simp only [World.cell?, hbk]
          exact HCE.out k (by omega)
        obtain ⟨ta, tc, hIt⟩ := HSE.out k (by omega)
        have HHO := hidP (iHitOf _ (hnth s2 k) ta _ tc wr hIt)
        have HRW := hidP hrow
        have HLK := hidP L
        have HBK := hidP hbk
        have HTK := hidP (take_snocH (s := s2) (k := k) (by omega))
        have hk0 : (0 : Int) ≤ (k : Int) := Int.natCast_nonneg _
        have hk1 : (k : Int) < (m : Int) := by omega
        have hkl : (s2.take k).length = k := by simp; omega
        have HKL := hidP hkl
        clear hrow L hbk hIt hkl
        generalize vs2.getD k .nilIface = sv at *
        generalize hnth s2 k = h at *
        go_wp2_with fail
        refine HHO.out.mono ?_
        rintro e w4 ⟨rfl, L4⟩
        have HR4 := hidP (HRW.out.below (Nat.le_refl _) L4)
        have HL4 := hidP (chain HLK.out L4)
        have HB4 : Hid (w4.heap[sb]? = w3.heap[sb]?) := (L4.block sb hsr).trans HBK.out
        have hs4 := L4.size
        obtain ⟨V4, hV4⟩ : ∃ V, w4.alloc (.cells #[.int .i64 h.1, .int .i64 h.2] 44) = V := ⟨_, rfl⟩
        have LV4 : Below w4.heap.size w4 V4 := by rw [← hV4]; exact (Below.refl _ _).alloc (Nat.le_refl _) _
        have hN4 : V4.heap[w4.heap.size]? = some (.cells #[.int .i64 h.1, .int .i64 h.2] 44 (0, 0)) := by rw [← hV4]; exact heap_alloc_new w4 _
        have hz4 : V4.heap.size = w4.heap.size + 1 := by rw [← hV4]; simp
        have HR5 : Hid (V4.ownsRow w.heap.size 44 2 (.slice (some ⟨g, 0, none⟩) k c) k (hCells (s2.take k))) := by
          have h5 : HRow w.heap.size V4 g c (s2.take k) := HR4.out.below (Nat.le_refl _) LV4
          unfold HRow at h5
          rw [HKL.out] at h5
          exact h5
        have HBV : Hid (V4.heap[sb]? = w3.heap[sb]?) := (LV4.block sb (by omega)).trans HB4.out
        have HLV4 := hidP (chain HL4.out LV4)
        have hgr := HR4.out.lt
        have hwB : w.heap.size ≤ V4.heap.size := by have := HLV4.out.size; omega
        clear L4 LV4 c0
        go_wp2_with (at_builtin; refine wpList_append_lies _ rfl (.tmp 35) (.tmp 38) 39 rfl w.heap.size 44 j0 _ 2 16 Tryz.underlying39 hj0 hy0 hy1 hy2 rfl (by omega) (.slice (some ⟨g, 0, none⟩) k c) k (hCells (s2.take k)) rfl HR5.out ⟨w4.heap.size, 0, none⟩ 1 1 [.int .i64 h.1, .int .i64 h.2] rfl rfl (World.news_of_block (cs := #[.int .i64 h.1, .int .i64 h.2]) (t := 44) (fr := (0, 0)) hN4) (by simp [Value.oneCell']) (by omega) (by unfold maxLen; omega) (by omega) hwB V4.heap.size rfl ?_; intro gg cc w5 hown hgrow hat hlt5)
        have HNEW : Hid (HRow w.heap.size w5 gg cc (s2.take (k + 1)) ∧ gg ≠ sb ∧ sb < w5.heap.size ∧ w5.heap[sb]? = w3.heap[sb]? ∧ Below w.heap.size w w5) := by
          have hb5 : w5.heap[sb]? = V4.heap[sb]? := hgrow.block sb (by omega) (fun e => by
            have e' : some sb = some g := e
            injection e' with e'
            exact hgs e'.symm)
          refine ⟨?_, ?_, by have := hgrow.size; omega, hb5.trans HBV.out, ?_⟩
          · refine HRow.of hown ?_ ?_
            · rw [HTK.out]; simp [HKL.out]
            · rw [HTK.out, hCells_append]; rfl
          · rcases hat with e | e
            · have e' : some g = some gg := e
              injection e' with e'
              rw [← e']; exact hgs
            · omega
          · exact HLV4.out.grown hgrow hwB (fun x hx => by
              have e' : some g = some x := hx
              injection e' with e'
              rw [← e']; exact hgr.1)
        clear hown hgrow hat
        go_roundw
        case rel => exact ⟨k + 1, gg, cc, by omega, by go_num, rfl, HNEW.out⟩
        case measure => simp [intOf]; omega
      · obtain rfl : k = m := by omega
        have HF := hidP (And.intro hrow L)
        have hkl : (s2.take k).length = k := by simp; omega
        have HKL := hidP hkl
        clear hrow L hbk hkl
        go_wp2_with fail
        go_ret
        rw [HOP.out, HTM.out]
        refine ⟨some ⟨g, 0, none⟩, c, by rw [HKL.out]; rfl, Or.inr ⟨g, c, by rw [HKL.out], HF.out.1⟩, HF.out.2⟩
end Go.Proofs.YtfbhohpbhjlihaaGreat
