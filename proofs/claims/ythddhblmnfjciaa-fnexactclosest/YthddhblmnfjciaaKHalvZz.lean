/-
  The given l5Halved: the knots of some marks behind others.
-/
import Derived.Test.YthddhblmnfjciaaKCellsZz
import Derived.Test.YthddhblmnfjciaaKByZz
import Derived.Deep.CutRange
namespace Go.Proofs.Ythddhblmnfjciaa
open Go Go.RowKit

set_option maxHeartbeats 400000 in
theorem sHalved0 (ao : Option Addr) (cap ax g n c : Nat) (w : World) :
    Calls Try.prog 124 #[.slice ao 0 cap, .int .i64 ax, .slice (some ⟨g, 0, none⟩) n c] w fun e w' => e = .returned (.tuple #[.slice (some ⟨g, 0, none⟩) n c, .int .i64 (-1)]) ∧ w' = w := by
  go_enter Try.func124, Try.ntmps124
  go_wp2
  exact bodyPost_ret (v := .tuple #[.slice (some ⟨g, 0, none⟩) n c, .int .i64 (-1)]) (by simp [results, Try.results124, go_sem]) rfl ⟨rfl, rfl⟩

/-- What the knots of some marks are, laid behind others. -/
def Laid (base : Nat) (w w' : World) (g g' c' : Nat) (es ks : List Dk) (t : Tr) : Prop :=
  KRow base w' g' c' (es ++ ks) ∧ ks.map dkKn = t.flat es.length ∧ KOuts w.heap.size w' g' ks ∧ w.grownBy w' (some g) ∧ (g' = g ∨ w.heap.size ≤ g')

set_option maxRecDepth 100000 in
set_option maxHeartbeats 4000000 in
theorem sHalvedF (f : Nat) : ∀ (ds : List Sm) (ao : Option Addr) (cap ax dim base g c : Nat) (es : List Dk) (W0 w : World),
    ds.length ≤ f → es.length + ds.length ≤ 60 → SView w ao ds → SLies W0 ds → W0.heap.size ≤ base → Below base W0 w → base ≤ w.heap.size → (∀ d ∈ ds, d.2.2.2.length = dim) → 1 ≤ dim → dim ≤ 4 → ax < dim → KRow base w g c es →
    Calls Try.prog 124 #[.slice ao ds.length cap, .int .i64 ax, .slice (some ⟨g, 0, none⟩) es.length c] w fun e w' => ∃ g' c' ks, e = .returned (.tuple #[.slice (some ⟨g', 0, none⟩) (es.length + ds.length) c', .int .i64 ((treeF f (smMarks ds) ax).place es.length)]) ∧ Laid base w w' g g' c' es ks (treeF f (smMarks ds) ax) := by
  have hnone : ∀ (f : Nat) (ao : Option Addr) (cap ax base g c : Nat) (es : List Dk) (w : World), KRow base w g c es → Calls Try.prog 124 #[.slice ao 0 cap, .int .i64 ax, .slice (some ⟨g, 0, none⟩) es.length c] w fun e w' => ∃ g' c' ks, e = .returned (.tuple #[.slice (some ⟨g', 0, none⟩) (es.length + 0) c', .int .i64 ((treeF f [] ax).place es.length)]) ∧ Laid base w w' g g' c' es ks (treeF f [] ax) := by
    intro f ao cap ax base g c es w hr
    refine (sHalved0 ao cap ax g es.length c w).mono ?_
    rintro e w' ⟨rfl, rfl⟩
    rw [treeF_none]
    exact ⟨g, c, [], rfl, by rw [List.append_nil]; exact hr, rfl, KOuts.nil _ _ _, ⟨rfl, rfl, rfl, Nat.le_refl _, fun _ _ _ => rfl⟩, Or.inl rfl⟩
  induction f with
  | zero =>
    intro ds ao cap ax dim base g c es W0 w hf hn hv hl hW hB hbw hdim hd1 hd4 hax hr
    obtain rfl : ds = [] := List.length_eq_zero_iff.1 (by omega)
    exact hnone 0 ao cap ax base g c es w hr
  | succ f ih =>
    intro ds ao cap ax dim base g c es W0 w hf hn hv hl hW hB hbw hdim hd1 hd4 hax hr
    rcases Nat.eq_zero_or_pos ds.length with h0 | h0
    · obtain rfl : ds = [] := List.length_eq_zero_iff.1 h0
      exact hnone (f + 1) ao cap ax base g c es w hr
    · have HIH := hidP ih
      have HR := hidP hr
      have hlw : SLies w ds := fun d hd => (hl d hd).below hW hB
      have HBY := hidP (sBy ao cap ax ds w hv hlw (by omega) (fun d hd => by rw [hdim d hd]; omega))
      have hlb : ((ds.length : Int) == 0) = false := by simp; intro h; rw [h] at h0; simp at h0
      clear ih hr hv hnone
      obtain ⟨M, hM⟩ : ∃ M, M = ds.length / 2 := ⟨_, rfl⟩
      obtain ⟨X, hX⟩ : ∃ X, X = (ax + 1) % dim := ⟨_, rfl⟩
      have hdiv : ((ds.length : Int) / 2) = (M : Int) := by omega
      have hmod : (((ax : Int) + 1) % (dim : Int)) = (X : Int) := by rw [hX]; simp
      have hXd : X < dim := by rw [hX]; exact Nat.mod_lt _ (by omega)
      have HM := hidP hM
      have HX := hidP hX
      have HDIM := hidP hdim
      have hMl : M < ds.length := by omega
      clear hM hX hdim
      go_enter Try.func124, Try.ntmps124
      go_wp2_with fail
      refine HBY.out.mono ?_
      rintro e w1 ⟨gs, cs, rfl, hsr, L1⟩
      clear HBY
      have hsl : (sortBy (smlt ax) ds).length = ds.length := sortBy_length _ _
      have hsm : ∀ d ∈ sortBy (smlt ax) ds, d ∈ ds := fun d hd => (sortBy_perm _ _).mem_iff.1 hd
      have htr : (treeF (f + 1) (smMarks ds) ax = .node (smMark (snth (sortBy (smlt ax) ds) M)) ax (treeF f (smMarks ((sortBy (smlt ax) ds).take M)) X) (treeF f (smMarks ((sortBy (smlt ax) ds).drop (M + 1))) X)) := by
        have hd := HDIM.out _ (hsm _ (snth_mem (ds := sortBy (smlt ax) ds) (i := M) (by rw [hsl]; exact hMl)))
        rw [treeF_node f (smMarks ds) ax (by rw [smMarks_length]; omega), ← sortS_marks, smMarks_length, ← HM.out]
        have e : treeF.mnthT (smMarks (sortBy (smlt ax) ds)) M = smMark (snth (sortBy (smlt ax) ds) M) := smMarks_at _ _ (by rw [hsl]; exact hMl)
        rw [e]
        have e2 : (smMark (snth (sortBy (smlt ax) ds) M)).2.length = dim := hd
        rw [e2, ← HX.out]
        simp [smMarks, List.map_take, List.map_drop]
      have HTR := hidP htr
      clear htr
      generalize sortBy (smlt ax) ds = s at *
      have hm0 := HDIM.out _ (hsm _ (snth_mem (ds := s) (i := 0) (by omega)))
      obtain ⟨z0, z1⟩ := hsr.seg 0 (by omega)
      rw [hm0] at z1
      simp only [Nat.zero_mul, Nat.add_zero] at z0 z1
      have hmm := hsm _ (snth_mem (ds := s) (i := M) (by omega))
      have hmd := HDIM.out _ hmm
      obtain ⟨y0, y1⟩ := hsr.seg M (by omega)
      rw [Nat.zero_add] at y0 y1
      have hcap := hsr.cap
      have hgs := hsr.lt
      obtain ⟨bm, om, hmo, hbm, hms⟩ : ∃ b off, (snth s M).2.1 = some ⟨b, off, none⟩ ∧ b < w1.heap.size ∧ Seg w1 b off (snth s M).2.2.2 := by
        rcases (hlw _ hmm).next L1 with h | h
        · rw [h] at hmd; simp at hmd; omega
        · exact h
      rw [hmo, hmd] at y1
      have HSR := hidP hsr
      have HL1 := hidP L1
      have HSM := hidP hsm
      have HMS := hidP hms
      have HMD := hidP hmd
      have HMM := hidP hmm
      generalize hmv : snth s M = m at *
      have HMV := hidP hmv
      have h0i : (0 : Int) < (ds.length : Int) := by omega
      have hMi : (M : Int) < (ds.length : Int) := by omega
      have hMi0 : (0 : Int) ≤ (M : Int) := by omega
      have hL1z := L1.size
      have HLW := hidP hlw
      have HSL := hidP hsl
      clear hsr L1 hsm hms hmd hmm hmo hmv hm0 hlw hsl
      go_upto_region 7 with fail
      try simp only [hmod]
      go_cut [2] from 16 to 53 (fun o wx => ∃ g2 c2 h1 c1, o = .slice (some ⟨g2, 0, none⟩) (es.length + 1) c2 ∧ KRow base wx g2 c2 (es ++ [((m.1, some ⟨h1, 0, none⟩, c1, m.2.2.2), ((ax : Int), 0, 0))]) ∧ IRow w1.heap.size wx h1 c1 m.2.2.2 ∧ h1 ≠ g2 ∧ w1.grownBy wx (some g) ∧ (g2 = g ∨ w1.heap.size ≤ g2))
      case first =>
        obtain ⟨i0, hi0, hz0, hz1, hz2⟩ := info_parts Try.info2
        obtain ⟨j0, hj0, hy0, hy1, hy2⟩ := info_parts Try.info95
        have HR1 := hidP (HR.out.below HL1.out)
        have hgl := HR1.out.lt
        have HSRC : Hid (∀ Y, Below w1.heap.size w1 Y → SrcAt Y 1 (some ⟨bm, om, none⟩) dim (m.2.2.2.map (Value.int .i64))) := fun Y hY => by
          have := seg_srcK (HMS.out.below hbm hY)
          rwa [HMD.out] at this
        have HC2 : Hid (∀ Y, Below w1.heap.size w1 Y → Y.cell? ⟨gs, M * 2, none⟩ = some (.int .i64 m.1) ∧ Y.cell? ⟨gs, M * 2 + 1, none⟩ = some (.slice (some ⟨bm, om, none⟩) dim m.2.2.1)) := fun Y hY => ⟨(hY.cell (p := ⟨gs, M * 2, none⟩) hgs.2).trans y0, (hY.cell (p := ⟨gs, M * 2 + 1, none⟩) hgs.2).trans y1⟩
        have HKB : Hid (∀ Y, Below w1.heap.size w1 Y → Y.ownsRow base 95 5 (.slice (some ⟨g, 0, none⟩) es.length c) es.length (dkCells es)) := fun Y hY => HR1.out.below hY
        have HS2 : Hid (∀ Y Z, Below w1.heap.size w1 Y → Y.grownBy Z (some g) → Z.cell? ⟨gs, M * 2, none⟩ = some (.int .i64 m.1) ∧ Z.cell? ⟨gs, M * 2 + 1, none⟩ = some (.slice (some ⟨bm, om, none⟩) dim m.2.2.1)) := fun Y Z hY hZ => by
          have hgY := Nat.lt_of_lt_of_le hgs.2 hY.size
          have hne : some gs ≠ some g := fun e => by injection e with e; have := HR.out.lt; omega
          exact ⟨(cell_grown hgY hZ hne).trans (HC2.out Y hY).1, (cell_grown hgY hZ hne).trans (HC2.out Y hY).2⟩
        clear HMS z0 z1 HSR HR HLW HL1 HR1
        have hgne : ¬ w1.heap.size = gs := by omega
        have hgne1 : ¬ w1.heap.size + 1 = gs := by omega
        have hgne2 : ¬ w1.heap.size + 1 + 1 = gs := by omega
        go_region_held3 (fun w' => w'.cell? ⟨gs, M * 2, none⟩ = some (.int .i64 m.1) ∧ w'.cell? ⟨gs, M * 2 + 1, none⟩ = some (.slice (some ⟨bm, om, none⟩) dim m.2.2.1))
          (first
            | exact hS2
            | (refine HC2.out _ ?_; repeat' (first | (with_reducible exact Below.refl _ _) | (with_reducible refine Below.drew ?_) | (with_reducible refine below_alloc ?_ _)))
            | go_keep)
          (first
            | (refine step_append_new _ (by rfl) (.tmp 42) (.tmp 47) 46 (by rfl) 2 i0 _ 1 8 Try.underlying46 hi0 hz0 hz1 hz2 rfl _ (by rfl) (some ⟨bm, om, none⟩) dim m.2.2.1 (m.2.2.2.map (Value.int .i64)) (by rfl) (HSRC.out _ (by repeat' (first | (with_reducible exact Below.refl _ _) | (with_reducible refine Below.drew ?_) | (with_reducible refine below_alloc ?_ _)))) (by omega) (by unfold maxLen; omega) (by omega) ?_; intro c1 R1 r1)
            | (refine step_append_at _ (by rfl) (.tmp 36) (.tmp 52) 25 (by rfl) base 95 j0 _ 5 56 Try.underlying25 hj0 hy0 hy1 hy2 rfl (by omega) g es.length c (dkCells es) (by rfl) (HKB.out _ (by repeat' (first | (with_reducible exact Below.refl _ _) | (with_reducible refine Below.drew ?_) | (with_reducible refine below_alloc ?_ _)))) (some ⟨_, 0, none⟩) 1 1 _ (by rfl) (one_srcK (d := ((m.1, some ⟨w1.heap.size + 1, 0, none⟩, c1, m.2.2.2), ((ax : Int), 0, 0))) (by rw [HMD.out]; first | exact heap_at_drew (heap_at_new (by simp)) | exact heap_at_new (by simp))) (by unfold maxLen; omega) (by omega) (by simp; omega) (w1.heap.size + 3) (by simp) ?_; intro g2 c2 w2 hown2 hgrow2 hat2 hlt2; have hS2 := HS2.out _ w2 (by repeat' (first | (with_reducible exact Below.refl _ _) | (with_reducible refine Below.drew ?_) | (with_reducible refine below_alloc ?_ _))) hgrow2))
        all_goals
          have HF : Hid (KRow base w2 g2 c2 (es ++ [((m.1, some ⟨w1.heap.size + 1, 0, none⟩, c1, m.2.2.2), ((ax : Int), 0, 0))]) ∧ IRow w1.heap.size w2 (w1.heap.size + 1) c1 m.2.2.2 ∧ w1.heap.size + 1 ≠ g2 ∧ w1.grownBy w2 (some g) ∧ (g2 = g ∨ w1.heap.size ≤ g2)) := by
            refine ⟨KRow.of hown2 (by simp) (by rw [dkCells_append]), ?_, ?_, grown_after (by repeat' (first | (with_reducible exact Below.refl _ _) | (with_reducible refine Below.drew ?_) | (with_reducible refine below_alloc ?_ _))) hgrow2, ?_⟩
            · refine IRow.kept (IRow.of (RowIs.owns r1 (base := w1.heap.size) (Nat.le_succ _) ?_) HMD.out.symm rfl) hgrow2 (fun e => by injection e with e; omega)
              repeat' (first | (with_reducible refine heap_at_drew ?_) | (with_reducible exact heap_at_new (by simp)) | (with_reducible refine heap_at_past ?_))
            · omega
            · rcases hat2 with h | h
              · exact Or.inl h.symm
              · exact Or.inr (by omega)
          clear hown2 hgrow2 r1 hS2
          go_wp2_with fail
          go_meet
          exact ⟨g2, c2, w1.heap.size + 1, c1, rfl, HF.out.1, HF.out.2.1, HF.out.2.2.1, HF.out.2.2.2.1, HF.out.2.2.2.2⟩
      case rest =>
        obtain ⟨g2, c2, h1, c1, rfl, hk2, hi2, hne2, hg2, hgg2⟩ := hcut
        have hgl := HR.out.lt
        have hsr2 : SRow w.heap.size wc gs cs s := HSR.out.kept hg2 (fun e => by injection e with e; omega)
        have hsz2 := hg2.size
        have hB1 : Below base W0 w1 := hB.trans (HL1.out.mono hbw)
        have hB2 : Below base W0 wc := below_grown hB1 hg2 (by omega) hgl.1
        have hsn := HSL.out
        have htl : (s.take M).length = M := by simp; omega
        have hdl : (s.drop (M + 1)).length = ds.length - (M + 1) := by simp; omega
        have hel : (es ++ [((m.1, some (⟨h1, 0, none⟩ : Addr), c1, m.2.2.2), ((ax : Int), (0 : Int), (0 : Int)))]).length = es.length + 1 := by simp
        have H1 := HIH.out (s.take M) (some ⟨gs, 0, none⟩) cs X dim base g2 c2 (es ++ [((m.1, some ⟨h1, 0, none⟩, c1, m.2.2.2), ((ax : Int), 0, 0))]) W0 wc (by omega) (by rw [htl, hel]; omega) (Or.inr ⟨gs, 0, rfl, hsr2.lt.2, hsr2.seg.take M⟩) (hl.sub (fun d hd => HSM.out d (List.mem_of_mem_take hd))) hW hB2 (by omega) (fun d hd => HDIM.out d (HSM.out d (List.mem_of_mem_take hd))) hd1 hd4 hXd hk2
        rw [htl, hel] at H1
        have HH1 := hidP H1
        have HK : Hid (IRow w1.heap.size wc h1 c1 m.2.2.2 ∧ h1 ≠ g2 ∧ w1.grownBy wc (some g) ∧ (g2 = g ∨ w1.heap.size ≤ g2) ∧ SRow w.heap.size wc gs cs s ∧ Below base W0 wc) := ⟨hi2, hne2, hg2, hgg2, hsr2, hB2⟩
        have hcs0 : ¬ cs = 0 := by omega
        have hM2 : (M : Int) ≤ (cs : Int) := by omega
        have hgw : g2 < wc.heap.size := hk2.lt.2
        have HL1w := HL1
        clear hsr2 hk2 hi2 hne2 hg2 hgg2 hB1 hB2 H1 HSR HL1 HR y0 y1 z0 z1
        go_wp2_with fail
        refine HH1.out.mono ?_
        rintro e w3 ⟨g3, c3, ks1, rfl, LD1⟩
        obtain ⟨hi2, hne2, hg2, hgg2, hsr2, hB2⟩ := HK.out
        obtain ⟨hr3, hf3, ho3, hg3, hgg3⟩ := LD1
        have hsr3 : SRow w.heap.size w3 gs cs s := hsr2.kept hg3 (fun e => by injection e with e; rcases hgg2 with h | h <;> omega)
        have hB3 : Below base W0 w3 := below_grown hB2 hg3 (by omega) (by rcases hgg2 with h | h <;> omega)
        have hsz3 := hg3.size
        have hks1 : ks1.length = M := by
          have := congrArg List.length hf3
          rw [List.length_map, Tr.flat_length, treeF_size _ _ _ (by rw [smMarks_length, htl]; omega), smMarks_length, htl] at this
          exact this
        have hel3 : ((es ++ [((m.1, some (⟨h1, 0, none⟩ : Addr), c1, m.2.2.2), ((ax : Int), (0 : Int), (0 : Int)))]) ++ ks1).length = es.length + 1 + M := by rw [List.length_append, hel, hks1]
        have H2 : ∀ ao', SView w3 ao' (s.drop (M + 1)) → _ := fun ao' hv' => HIH.out (s.drop (M + 1)) ao' (cs - (M + 1)) X dim base g3 c3 ((es ++ [((m.1, some ⟨h1, 0, none⟩, c1, m.2.2.2), ((ax : Int), 0, 0))]) ++ ks1) W0 w3 (by omega) (by rw [hdl, hel3]; omega) hv' (hl.sub (fun d hd => HSM.out d (List.mem_of_mem_drop hd))) hW hB3 (by omega) (fun d hd => HDIM.out d (HSM.out d (List.mem_of_mem_drop hd))) hd1 hd4 hXd hr3
        rw [hdl, hel3] at H2
        have HH2 := hidP H2
        have hpl1 : (treeF f (smMarks (s.take M)) X).size = M := by rw [treeF_size _ _ _ (by rw [smMarks_length, htl]; omega), smMarks_length, htl]
        have hE : ∀ (w4 : World) (g4 c4 : Nat) (ks2 : List Dk), Laid base w3 w4 g3 g4 c4 ((es ++ [((m.1, some (⟨h1, 0, none⟩ : Addr), c1, m.2.2.2), ((ax : Int), (0 : Int), (0 : Int)))]) ++ ks1) ks2 (treeF f (smMarks (s.drop (M + 1))) X) →
            ((∃ v, w4.cell? ⟨g4, es.length * 5 + 3, none⟩ = some v) ∧ w4.frozen? ⟨g4, es.length * 5 + 3, none⟩ = false) ∧ ((∃ v, w4.cell? ⟨g4, es.length * 5 + 4, none⟩ = some v) ∧ w4.frozen? ⟨g4, es.length * 5 + 4, none⟩ = false) ∧
            ∃ ks, Laid base w ((w4.setCell ⟨g4, es.length * 5 + 3, none⟩ (.int .i64 ((treeF f (smMarks (s.take M)) X).place (es.length + 1)))).setCell ⟨g4, es.length * 5 + 4, none⟩ (.int .i64 ((treeF f (smMarks (s.drop (M + 1))) X).place (es.length + 1 + M)))) g g4 c4 es ks (.node (smMark m) ax (treeF f (smMarks (s.take M)) X) (treeF f (smMarks (s.drop (M + 1))) X)) := by
          intro w4 g4 c4 ks2 ⟨hr4, hf4, ho4, hg4, hgg4⟩
          have hr4' : KRow base w4 g4 c4 (es ++ ((m.1, some (⟨h1, 0, none⟩ : Addr), c1, m.2.2.2), ((ax : Int), (0 : Int), (0 : Int))) :: (ks1 ++ ks2)) := by
            have e : ((es ++ [((m.1, some (⟨h1, 0, none⟩ : Addr), c1, m.2.2.2), ((ax : Int), (0 : Int), (0 : Int)))]) ++ ks1) ++ ks2 = es ++ ((m.1, some (⟨h1, 0, none⟩ : Addr), c1, m.2.2.2), ((ax : Int), (0 : Int), (0 : Int))) :: (ks1 ++ ks2) := by simp
            rw [e] at hr4; exact hr4
          obtain ⟨_, _, _, q3, q4⟩ := hr4'.cell (i := es.length) (by simp)
          refine ⟨⟨⟨_, q3⟩, World.ownsRow.frozenAt hr4' _⟩, ⟨⟨_, q4⟩, World.ownsRow.frozenAt hr4' _⟩, ((m.1, some ⟨h1, 0, none⟩, c1, m.2.2.2), ((ax : Int), (treeF f (smMarks (s.take M)) X).place (es.length + 1), (treeF f (smMarks (s.drop (M + 1))) X).place (es.length + 1 + M))) :: (ks1 ++ ks2), ?_, ?_, ?_, ?_, ?_⟩
          · exact (hr4'.less _).more _
          · simp only [List.map_cons, List.map_append, hf3, hf4, Tr.flat, hpl1, hel, hel3]
            rfl
          · have k0 : KOuts w1.heap.size wc g2 [((m.1, some (⟨h1, 0, none⟩ : Addr), c1, m.2.2.2), ((ax : Int), (treeF f (smMarks (s.take M)) X).place (es.length + 1), (treeF f (smMarks (s.drop (M + 1))) X).place (es.length + 1 + M)))] :=
              ⟨fun d hd => by simp at hd; subst hd; exact ⟨h1, rfl, hi2, hne2⟩, List.pairwise_singleton _ _⟩
            have k1 := k0.moved hg3 hgg3
            have k2 := k1.append ho3 (by omega) (fun d hd a ha => k0.block d hd a ha)
            have k3 := k2.moved hg4 hgg4
            have k4 := k3.append ho4 (by omega) (fun d hd a ha => k2.block d hd a ha)
            have k5 := (k4.kept (grown_setCell w4 g4 (es.length * 5 + 3) (.int .i64 ((treeF f (smMarks (s.take M)) X).place (es.length + 1))))).kept (grown_setCell _ g4 (es.length * 5 + 4) (.int .i64 ((treeF f (smMarks (s.drop (M + 1))) X).place (es.length + 1 + M))))
            have k6 := k5.mono hL1z
            simpa using k6
          · have a1 : w.grownBy wc (some g) := grown_after HL1w.out hg2
            have a2 := grownK_trans a1 hg3 (by rcases hgg2 with h | h; exact Or.inl h; exact Or.inr (by omega))
            have a3 := grownK_trans a2 hg4 (by rcases hgg3 with h | h; rcases hgg2 with k | k; exact Or.inl (h.trans k); exact Or.inr (by omega); exact Or.inr (by omega))
            have hm4 : g4 = g ∨ w.heap.size ≤ g4 := by
              rcases hgg4 with h | h
              · rcases hgg3 with k | k
                · rcases hgg2 with j | j
                  · exact Or.inl (h.trans (k.trans j))
                  · exact Or.inr (by omega)
                · exact Or.inr (by omega)
              · exact Or.inr (by omega)
            exact grownK_trans (grownK_trans a3 (grown_setCell w4 g4 _ _) hm4) (grown_setCell _ g4 _ _) hm4
          · rcases hgg4 with h | h
            · rcases hgg3 with k | k
              · rcases hgg2 with j | j
                · exact Or.inl (h.trans (k.trans j))
                · exact Or.inr (by omega)
              · exact Or.inr (by omega)
            · exact Or.inr (by omega)
        have HE := hidP hE
        have HV2 : Hid (SView w3 (some ⟨gs, (M + 1) * 2, none⟩) (s.drop (M + 1))) := Or.inr ⟨gs, (M + 1) * 2, rfl, hsr3.lt.2, by have := hsr3.seg.drop (M + 1); rwa [Nat.zero_add] at this⟩
        have hlen : (es.length : Int) < ((es.length + 1 + M + (ds.length - (M + 1)) : Nat) : Int) := by omega
        have hM3 : ((M : Int) + 1) ≤ (cs : Int) := by omega
        have hM4 : ((M : Int) + 1) ≤ (ds.length : Int) := by omega
        have hM5 : (0 : Int) ≤ (M : Int) + 1 := by omega
        have he0 : (0 : Int) ≤ (es.length : Int) := by omega
        have htot : es.length + 1 + M + (ds.length - (M + 1)) = es.length + ds.length := by omega
        rw [htot] at HH2 hlen
        have hnc : ds.length ≤ cs := by omega
        clear hE hi2 hne2 hg2 hgg2 hsr2 hB2 hr3 hf3 ho3 hg3 hgg3 hsr3 hB3 HK HH1 htot HSL hsn H2
        by_cases hcs : cs = M + 1
        · have hdn : s.drop (M + 1) = [] := List.eq_nil_of_length_eq_zero (by rw [hdl]; omega)
          have HC2 := hidP (HH2.out (some ⟨gs, 0, none⟩) (Or.inl hdn))
          rw [show cs - (M + 1) = 0 by omega] at HC2
          clear hdn
          go_wp2_with fail
          refine HC2.out.mono ?_
          rintro e w4 ⟨g4, c4, ks2, rfl, LD2⟩
          obtain ⟨⟨⟨v3, q3⟩, f3⟩, ⟨⟨v4, q4⟩, f4⟩, ks, LD⟩ := HE.out w4 g4 c4 ks2 LD2
          have q4' : ((w4.setCell ⟨g4, es.length * 5 + 3, none⟩ (.int .i64 ((treeF f (smMarks (s.take M)) X).place (es.length + 1))))).cell? ⟨g4, es.length * 5 + 4, none⟩ = some v4 := by rw [cell_setOther _ _ _ _ _ (by omega)]; exact q4
          have HL := hidP LD
          clear LD LD2 HE HH2
          go_wp2_with fail
          refine bodyPost_ret (v := .tuple #[.slice (some ⟨g4, 0, none⟩) (es.length + ds.length) c4, .int .i64 es.length]) (by simp [results, Try.results124, go_sem]) rfl ?_
          rw [HTR.out]
          exact ⟨g4, c4, ks, rfl, HL.out⟩
        · have hcs2 : ¬ cs - (M + 1) = 0 := by omega
          have hcs3 : M + 1 < cs := by omega
          have HC2 := hidP (HH2.out _ HV2.out)
          go_wp2_with fail
          refine HC2.out.mono ?_
          rintro e w4 ⟨g4, c4, ks2, rfl, LD2⟩
          obtain ⟨⟨⟨v3, q3⟩, f3⟩, ⟨⟨v4, q4⟩, f4⟩, ks, LD⟩ := HE.out w4 g4 c4 ks2 LD2
          have q4' : ((w4.setCell ⟨g4, es.length * 5 + 3, none⟩ (.int .i64 ((treeF f (smMarks (s.take M)) X).place (es.length + 1))))).cell? ⟨g4, es.length * 5 + 4, none⟩ = some v4 := by rw [cell_setOther _ _ _ _ _ (by omega)]; exact q4
          have HL := hidP LD
          clear LD LD2 HE HH2
          go_wp2_with fail
          refine bodyPost_ret (v := .tuple #[.slice (some ⟨g4, 0, none⟩) (es.length + ds.length) c4, .int .i64 es.length]) (by simp [results, Try.results124, go_sem]) rfl ?_
          rw [HTR.out]
          exact ⟨g4, c4, ks, rfl, HL.out⟩

end Go.Proofs.Ythddhblmnfjciaa
