/-
  The program's withHalved: the knots of some marks behind others.
-/
import Derived.Test.YthddhblmnfjciaaKImpZz
import Derived.Test.YthddhblmnfjciaaKHalvZz
namespace Go.Proofs.Ythddhblmnfjciaa
open Go Go.RowKit

/-- No two of one number. -/
def SoleS (ds : List Sm) : Prop := ∀ a ∈ ds, ∀ b ∈ ds, a.1 = b.1 → a = b
theorem SoleS.sub {ds es : List Sm} (h : SoleS ds) (hs : ∀ a ∈ es, a ∈ ds) : SoleS es := fun a ha b hb e => h a (hs a ha) b (hs b hb) e
theorem SoleS.marks {ds : List Sm} (h : SoleS ds) : Sole (smMarks ds) := fun a ha b hb e => by
  obtain ⟨x, hx, rfl⟩ := List.mem_map.1 ha
  obtain ⟨y, hy, rfl⟩ := List.mem_map.1 hb
  rw [h x hx y hy e]
theorem SoleS.one {ds : List Sm} (h : SoleS ds) : ∀ d ∈ ds, ∀ e ∈ ds, smMark d = smMark e → d = e := fun d hd e he h1 => h d hd e he (by have := congrArg Prod.fst h1; exact this)
theorem SoleS.of {ds : List Sm} (h : marksB (smMarks ds) = true) : SoleS ds := by
  have hp := marks_rise h
  unfold smMarks at hp
  rw [List.pairwise_map] at hp
  have hp' : ds.Pairwise fun a b => a.1 < b.1 := hp
  clear hp h
  induction ds with
  | nil => intro a ha; cases ha
  | cons x xs ih =>
    rw [List.pairwise_cons] at hp'
    intro a ha b hb e
    rcases List.mem_cons.1 ha with e1 | ha1
    · rcases List.mem_cons.1 hb with e2 | hb1
      · rw [e1, e2]
      · have := hp'.1 b hb1; subst e1; omega
    · rcases List.mem_cons.1 hb with e2 | hb1
      · have := hp'.1 a ha1; subst e2; omega
      · exact ih hp'.2 a ha1 b hb1 e
/-- Marks that lie in a block from lo on and ahead of hi. -/
def SMid (lo hi : Nat) (w : World) (ao : Option Addr) (ds : List Sm) : Prop := ds = [] ∨ ∃ b off, ao = some ⟨b, off, none⟩ ∧ lo ≤ b ∧ b < hi ∧ hi ≤ w.heap.size ∧ SSeg w b off ds
theorem SMid.of {lo : Nat} {w : World} {ao : Option Addr} {ds : List Sm} (h : SView w ao ds) (hn : ∀ a, ao = some a → lo ≤ a.block) : SMid lo w.heap.size w ao ds := by
  rcases h with h | ⟨b, off, e, hb, hs⟩
  · exact Or.inl h
  · exact Or.inr ⟨b, off, e, hn _ e, hb, Nat.le_refl _, hs⟩
theorem SMid.view {lo hi : Nat} {w : World} {ao : Option Addr} {ds : List Sm} (h : SMid lo hi w ao ds) : SView w ao ds := h.imp id fun ⟨b, off, e, _, h2, h3, hs⟩ => ⟨b, off, e, Nat.lt_of_lt_of_le h2 h3, hs⟩
theorem SMid.grown {lo hi g : Nat} {w w' : World} {ao : Option Addr} {ds : List Sm} (h : SMid lo hi w ao ds) (hg : w.grownBy w' (some g)) (hn : g < lo ∨ hi ≤ g) : SMid lo hi w' ao ds := by
  rcases h with h | ⟨b, off, e, h1, h2, h3, hs⟩
  · exact Or.inl h
  · have hne : some b ≠ some g := fun x => by injection x with x; omega
    have hb := Nat.lt_of_lt_of_le h2 h3
    exact Or.inr ⟨b, off, e, h1, h2, Nat.le_trans h3 hg.size, fun i hi => ⟨(cell_grown hb hg hne).trans (hs i hi).1, (cell_grown hb hg hne).trans (hs i hi).2⟩⟩
theorem SMid.below {lo hi : Nat} {w w' : World} {ao : Option Addr} {ds : List Sm} (h : SMid lo hi w ao ds) (hw : Below w.heap.size w w') : SMid lo hi w' ao ds := by
  rcases h with h | ⟨b, off, e, h1, h2, h3, hs⟩
  · exact Or.inl h
  · exact Or.inr ⟨b, off, e, h1, h2, Nat.le_trans h3 hw.size, hs.below (Nat.lt_of_lt_of_le h2 h3) hw⟩

set_option maxHeartbeats 400000 in
theorem iByAxisF (ax : Nat) (w : World) :
    Calls Try.prog 156 #[.int .i64 ax] w fun e w' => e = .returned (.func (.func 169) #[] #[.pointer (some ⟨w.heap.size, 0, none⟩)]) ∧ w' = w.alloc (.cells #[.int .i64 ax] 2) := by
  go_enter Try.func156, Try.ntmps156
  go_wp2
  go_ret
  exact ⟨rfl, rfl⟩

set_option maxHeartbeats 400000 in
theorem iHalv0 (ao bo : Option Addr) (cap ax n c : Nat) (w : World) :
    Calls Try.prog 125 #[.slice bo n c, .slice ao 0 cap, .int .i64 ax] w fun e w' => e = .returned (.slice bo n c) ∧ w' = w := by
  go_enter Try.func125, Try.ntmps125
  go_wp2
  go_ret
  exact ⟨rfl, rfl⟩

set_option maxRecDepth 100000 in
set_option maxHeartbeats 4000000 in
theorem iHalvF (f : Nat) : ∀ (ds : List Sm) (ao : Option Addr) (cap ax dim base g c : Nat) (es : List Dk) (W0 w : World),
    ds.length ≤ f → es.length + ds.length ≤ 60 → SView w ao ds → SLies W0 ds → W0.heap.size ≤ base → Below base W0 w → base ≤ w.heap.size → (∀ d ∈ ds, d.2.2.2.length = dim) → 1 ≤ dim → dim ≤ 4 → ax < dim → SoleS ds → KRow base w g c es →
    Calls Try.prog 125 #[.slice (some ⟨g, 0, none⟩) es.length c, .slice ao ds.length cap, .int .i64 ax] w fun e w' => ∃ g' c' ks, e = .returned (.slice (some ⟨g', 0, none⟩) (es.length + ds.length) c') ∧ Laid base w w' g g' c' es ks (treeF f (smMarks ds) ax) := by
  have hnone : ∀ (f : Nat) (ao : Option Addr) (cap ax base g c : Nat) (es : List Dk) (w : World), KRow base w g c es → Calls Try.prog 125 #[.slice (some ⟨g, 0, none⟩) es.length c, .slice ao 0 cap, .int .i64 ax] w fun e w' => ∃ g' c' ks, e = .returned (.slice (some ⟨g', 0, none⟩) (es.length + 0) c') ∧ Laid base w w' g g' c' es ks (treeF f [] ax) := by
    intro f ao cap ax base g c es w hr
    refine (iHalv0 ao (some ⟨g, 0, none⟩) cap ax es.length c w).mono ?_
    rintro e w' ⟨rfl, rfl⟩
    rw [treeF_none]
    exact ⟨g, c, [], rfl, by rw [List.append_nil]; exact hr, rfl, KOuts.nil _ _ _, ⟨rfl, rfl, rfl, Nat.le_refl _, fun _ _ _ => rfl⟩, Or.inl rfl⟩
  induction f with
  | zero =>
    intro ds ao cap ax dim base g c es W0 w hf hn hv hl hW hB hbw hdim hd1 hd4 hax hso hr
    obtain rfl : ds = [] := List.length_eq_zero_iff.1 (by omega)
    exact hnone 0 ao cap ax base g c es w hr
  | succ f ih =>
    intro ds ao cap ax dim base g c es W0 w hf hn hv hl hW hB hbw hdim hd1 hd4 hax hso hr
    rcases Nat.eq_zero_or_pos ds.length with h0 | h0
    · obtain rfl : ds = [] := List.length_eq_zero_iff.1 h0
      exact hnone (f + 1) ao cap ax base g c es w hr
    · have HIH := hidP ih
      have HR := hidP hr
      have hlw : SLies w ds := fun d hd => (hl d hd).below hW hB
      have hAl := alloc_belowK w (.cells #[.int .i64 (ax : Int)] 2)
      have HBX := hidP (iByAxisF ax w)
      have HHV := hidP (iHalves w.heap.size ax ao cap ds (w.alloc (.cells #[.int .i64 (ax : Int)] 2)) h0 (by omega) (hv.next hAl) (hlw.below hAl) (fun d hd => by rw [hdim d hd]; omega) hso.marks hso.one (by simp) (by go_simp))
      have HAL := hidP hAl
      have hlb : ((ds.length : Int) == 0) = false := by simp; intro h; rw [h] at h0; simp at h0
      obtain ⟨M, hM⟩ : ∃ M, M = ds.length / 2 := ⟨_, rfl⟩
      obtain ⟨X, hX⟩ : ∃ X, X = (ax + 1) % dim := ⟨_, rfl⟩
      rw [← hM] at HHV
      have hmod : (((ax : Int) + 1) % (dim : Int)) = (X : Int) := by rw [hX]; simp
      have hXd : X < dim := by rw [hX]; exact Nat.mod_lt _ (by omega)
      have HM := hidP hM
      have HX := hidP hX
      have HDIM := hidP hdim
      have HSO := hidP hso
      have hMl : M < ds.length := by omega
      have hsl : (sortBy (smlt ax) ds).length = ds.length := sortBy_length _ _
      have hsm : ∀ d ∈ sortBy (smlt ax) ds, d ∈ ds := fun d hd => (sortBy_perm _ _).mem_iff.1 hd
      have htr : (treeF (f + 1) (smMarks ds) ax = .node (smMark (snth (sortBy (smlt ax) ds) M)) ax (treeF f (smMarks ((sortBy (smlt ax) ds).take M)) X) (treeF f (smMarks ((sortBy (smlt ax) ds).drop (M + 1))) X)) := by
        have hd := HDIM.out _ (hsm _ (snth_mem (ds := sortBy (smlt ax) ds) (i := M) (by rw [hsl]; exact hMl)))
        rw [treeF_node f (smMarks ds) ax (by rw [smMarks_length]; omega), ← sortS_marks, smMarks_length, ← HM.out]
        have e : treeF.mnthT (smMarks (sortBy (smlt ax) ds)) M = smMark (snth (sortBy (smlt ax) ds) M) := smMarks_at _ _ (by rw [hsl]; exact hMl)
        rw [e]
        have e2 : (smMark (snth (sortBy (smlt ax) ds) M)).2.length = dim := hd
        rw [e2, ← HX.out]
        simp [smMarks, List.map_take, List.map_drop]
      have HTR := hidP htr
      have hmm := hsm _ (snth_mem (ds := sortBy (smlt ax) ds) (i := M) (by omega))
      have hmd := HDIM.out _ hmm
      have HMW := hidP (hlw _ hmm)
      generalize sortBy (smlt ax) ds = s at *
      generalize snth s M = m at *
      rw [hmd] at HHV
      have HSM := hidP hsm
      have HSL := hidP hsl
      have HMD := hidP hmd
      clear ih hr hv hnone hM hX hdim hso hsm hsl htr hmm hmd hlw hAl
      go_enter Try.func125, Try.ntmps125
      go_wp2_with fail
      refine HBX.out.mono ?_
      rintro e w1 ⟨rfl, rfl⟩
      go_wp2_with fail
      refine HHV.out.mono ?_
      rintro e w2 ⟨a1, a2, rfl, v1, v2, hb1, hb2, L2⟩
      clear HBX HHV
      have HV := hidP (And.intro v1 (And.intro v2 (And.intro hb1 (And.intro hb2 L2))))
      clear v1 v2 hb1 hb2 L2
      go_upto_region 4 with fail
      obtain ⟨W3, hW3⟩ : ∃ W3, W3 = w2.alloc (.cells #[.slice a1 M M, .int .i64 m.1, .slice m.2.1 dim m.2.2.1, .slice a2 (ds.length - (M + 1)) (ds.length - (M + 1))] 183) := ⟨_, rfl⟩
      rw [← hW3]
      obtain ⟨v1, v2, hb1, hb2, L2⟩ := HV.out
      have hF3 : Four W3 w2.heap.size (.slice a1 M M) (.int .i64 m.1) (.slice m.2.1 dim m.2.2.1) (.slice a2 (ds.length - (M + 1)) (ds.length - (M + 1))) 183 := by rw [hW3]; exact Four.new w2 _ _ _ _ _
      have L23 : Below w2.heap.size w2 W3 := by rw [hW3]; exact alloc_below w2 _
      have hz3 : W3.heap.size = w2.heap.size + 1 := by rw [hW3]; simp
      have hz1 : (w.alloc (.cells #[.int .i64 (ax : Int)] 2)).heap.size = w.heap.size + 1 := by simp
      have hz12 := L2.size
      have L02 : Below w.heap.size w w2 := HAL.out.trans (L2.mono (by omega))
      have m1 : SMid (w.heap.size + 1) w2.heap.size W3 a1 (s.take M) := (SMid.of v1 (fun a e => by have := hb1 a e; omega)).below L23
      have m2 : SMid (w.heap.size + 1) w2.heap.size W3 a2 (s.drop (M + 1)) := (SMid.of v2 (fun a e => by have := hb2 a e; omega)).below L23
      have L03 : Below w.heap.size w W3 := L02.trans (L23.mono (by omega))
      obtain ⟨q0, q1, q2, q3⟩ := hF3.cells
      have HOW := hidP (fun n => iOwn m (W3.drewN n) ((HMW.out.next L03).drewN n) (by rw [HMD.out]; omega) (by rw [HMD.out]; omega))
      rw [HMD.out] at HOW
      have H3 : Hid (Four W3 w2.heap.size (.slice a1 M M) (.int .i64 m.1) (.slice m.2.1 dim m.2.2.1) (.slice a2 (ds.length - (M + 1)) (ds.length - (M + 1))) 183 ∧ SMid (w.heap.size + 1) w2.heap.size W3 a1 (s.take M) ∧ SMid (w.heap.size + 1) w2.heap.size W3 a2 (s.drop (M + 1)) ∧ Below w.heap.size w W3) := ⟨hF3, m1, m2, L03⟩
      have hgl := HR.out.lt
      have hw2 : w.heap.size < w2.heap.size := by omega
      clear hW3 hF3 v1 v2 hb1 hb2 L2 L23 L02 m1 m2 L03 HV hz1 hz12 HMW HAL
      go_quiet (fail)
      go_wp2_with fail
      refine (HOW.out _).mono ?_
      rintro e w4 ⟨h1, c1, rfl, hi, L4⟩
      have hz4 : W3.heap.size ≤ w4.heap.size := L4.size
      obtain ⟨hF3, m1, m2, L03⟩ := H3.out
      have L34 : Below W3.heap.size W3 w4 := (below_drewN (Below.refl W3.heap.size W3) nq).trans L4
      have hi4 : IRow W3.heap.size w4 h1 c1 m.2.2.2 := hi
      have L04 : Below w.heap.size w w4 := L03.trans (L34.mono (by omega))
      have hF4 := hF3.below L34
      obtain ⟨j0, hj0, hy0, hy1, hy2⟩ := info_parts Try.info95
      have HKB : Hid (∀ o, (w4.alloc o).ownsRow base 95 5 (.slice (some ⟨g, 0, none⟩) es.length c) es.length (dkCells es)) := fun o => (HR.out.below (L04.trans ((alloc_below w4 o).mono (by omega))))
      have H4 : Hid (Four w4 w2.heap.size (.slice a1 M M) (.int .i64 m.1) (.slice m.2.1 dim m.2.2.1) (.slice a2 (ds.length - (M + 1)) (ds.length - (M + 1))) 183 ∧ SMid (w.heap.size + 1) w2.heap.size w4 a1 (s.take M) ∧ SMid (w.heap.size + 1) w2.heap.size w4 a2 (s.drop (M + 1)) ∧ Below w.heap.size w w4 ∧ IRow W3.heap.size w4 h1 c1 m.2.2.2) := ⟨hF4, m1.below L34, m2.below L34, L04, hi4⟩
      clear hi L4 hF3 m1 m2 L03 L34 hi4 L04 hF4 H3 HOW q0 q1 q2 q3
      go_upto_region 6 with (at_builtin; refine wpList_append_at _ rfl (.tmp 27) (.tmp 33) 25 rfl base 95 j0 _ 5 56 Try.underlying25 hj0 hy0 hy1 hy2 rfl (by omega) g es.length c (dkCells es) rfl (HKB.out _) (some ⟨w4.heap.size, 0, none⟩) 1 1 (dkCells [((m.1, some ⟨h1, 0, none⟩, c1, m.2.2.2), ((ax : Int), 0, 0))]) rfl (one_srcK (d := ((m.1, some ⟨h1, 0, none⟩, c1, m.2.2.2), ((ax : Int), 0, 0))) (by rw [HMD.out]; exact heap_alloc_new w4 _)) (by unfold maxLen; omega) (by omega) (by simp; omega) (w4.heap.size + 1) (by simp) ?_; intro g5 c5 w5 hown5 hgrow5 hat5 hlt5)
      obtain ⟨hF4, m1, m2, L04, hi4⟩ := H4.out
      have htl : (s.take M).length = M := by have := HSL.out; simp; omega
      have hdl : (s.drop (M + 1)).length = ds.length - (M + 1) := by have := HSL.out; simp; omega
      obtain ⟨p1, hp1⟩ : ∃ p1, p1 = (treeF f (smMarks (s.take M)) X).place (es.length + 1) := ⟨_, rfl⟩
      obtain ⟨p2, hp2⟩ : ∃ p2, p2 = (treeF f (smMarks (s.drop (M + 1))) X).place (es.length + 1 + M) := ⟨_, rfl⟩
      have HPL1 : Hid (∀ (bo : Option Addr) (d : Nat) (w : World), Calls Try.prog 157 #[.slice a1 M M, .slice bo (es.length + 1) d] w fun e w' => e = .returned (.int .i64 p1) ∧ w' = w) := fun bo d w => by
        have h := iPlace a1 bo M M (es.length + 1) d w
        rw [hp1, treeF_place _ _ _ _ (by rw [smMarks_length, htl]; omega), smMarks_length, htl]; exact h
      have HPL2 : Hid (∀ (bo : Option Addr) (d : Nat) (w : World), Calls Try.prog 157 #[.slice a2 (ds.length - (M + 1)) (ds.length - (M + 1)), .slice bo (es.length + 1 + M) d] w fun e w' => e = .returned (.int .i64 p2) ∧ w' = w) := fun bo d w => by
        have h := iPlace a2 bo (ds.length - (M + 1)) (ds.length - (M + 1)) (es.length + 1 + M) d w
        rw [hp2, treeF_place _ _ _ _ (by rw [smMarks_length, hdl]; omega), smMarks_length, hdl]; exact h
      have HP1 := hidP hp1
      have HP2 := hidP hp2
      clear hp1 hp2
      have L45 := alloc_below w4 (.cells #[.int .i64 m.1, .slice (some ⟨h1, 0, none⟩) dim c1, .int .i64 (ax : Int), .int .i64 0, .int .i64 0] 95)
      have g45 : w4.grownBy w5 (some g) := grown_after L45 hgrow5
      have hsz5 := g45.size
      have hm5 : g5 = g ∨ w4.heap.size ≤ g5 := by rcases hat5 with h | h; exact Or.inl h.symm; exact Or.inr (by omega)
      have hF5 := hF4.kept g45 (fun x => by injection x with x; omega)
      have k5 : KRow base w5 g5 c5 (es ++ [((m.1, some ⟨h1, 0, none⟩, c1, m.2.2.2), ((ax : Int), 0, 0))]) := KRow.of hown5 (by simp) (by rw [dkCells_append])
      have m15 := m1.grown g45 (by omega)
      have m25 := m2.grown g45 (by omega)
      have hi4l := hi4.lt
      have hi5 := hi4.kept g45 (fun x => by injection x with x; omega)
      obtain ⟨q0, q1, q2, q3⟩ := hF5.cells
      obtain ⟨_, _, _, r3, r4⟩ := k5.cell (i := es.length) (by simp)
      have f3 := World.ownsRow.frozenAt k5 (es.length * 5 + 3)
      have g05 : w.grownBy w5 (some g) := grown_after L04 g45
      have hl5 : (es.length : Int) < ((es.length : Int) + 1) := by omega
      have he0 : (0 : Int) ≤ (es.length : Int) := by omega
      have k6 := k5.less p1
      have s56 := grown_setCell w5 g5 (es.length * 5 + 3) (.int .i64 p1)
      have hF6 := hF5.kept s56 (fun x => by injection x with x; omega)
      have m16 := m15.grown s56 (by omega)
      have m26 := m25.grown s56 (by omega)
      have hi6 := hi5.kept s56 (fun x => by injection x with x; omega)
      have g06 : w.grownBy (w5.setCell ⟨g5, es.length * 5 + 3, none⟩ (.int .i64 p1)) (some g) := grownK_trans g05 s56 (by omega)
      have H6 := hidP (And.intro k6 (And.intro hF6 (And.intro m16 (And.intro m26 (And.intro hi6 g06)))))
      have hh1 : h1 ≠ g5 := by omega
      clear hF4 m1 m2 L04 hi4 L45 g45 hF5 k5 m15 m25 hi5 g05 k6 s56 hF6 m16 m26 hi6 g06 hown5 hgrow5 H4 HKB q1 q2 q3 r4
      go_upto_region 7 with (go_at_call 157; refine (HPL1.out _ _ _).mono ?_; rintro e wx ⟨rfl, hwx⟩; rw [hwx]; clear hwx)
      obtain ⟨W6, hW6⟩ : ∃ W6, W6 = w5.setCell ⟨g5, es.length * 5 + 3, none⟩ (.int .i64 p1) := ⟨_, rfl⟩
      rw [← hW6]
      rw [← hW6] at H6
      clear hW6 q0 r3 f3
      obtain ⟨k6, hF6, m16, m26, hi6, g06⟩ := H6.out
      obtain ⟨q0, q1, q2, q3⟩ := hF6.cells
      have hel : (es ++ [((m.1, some (⟨h1, 0, none⟩ : Addr), c1, m.2.2.2), ((ax : Int), (p1 : Int), (0 : Int)))]).length = es.length + 1 := by simp
      have hB6 : Below base W0 W6 := below_grown hB g06 hbw hgl.1
      have hz6 := g06.size
      have H1 := HIH.out (s.take M) a1 M X dim base g5 c5 (es ++ [((m.1, some ⟨h1, 0, none⟩, c1, m.2.2.2), ((ax : Int), p1, 0))]) W0 W6 (by omega) (by rw [htl, hel]; omega) m16.view (hl.sub (fun d hd => HSM.out d (List.mem_of_mem_take hd))) hW hB6 (by omega) (fun d hd => HDIM.out d (HSM.out d (List.mem_of_mem_take hd))) hd1 hd4 hXd (HSO.out.sub (fun d hd => HSM.out d (List.mem_of_mem_take hd))) k6
      rw [htl, hel] at H1
      have HH1 := hidP H1
      clear k6 hF6 m16 m26 hi6 g06 H1 hB6 q1 q2 q3
      go_wp2_with fail
      refine HH1.out.mono ?_
      rintro e w7 ⟨g7, c7, ks1, rfl, LD1⟩
      obtain ⟨k7, hf1, ho1, g67, hgg7⟩ := LD1
      obtain ⟨k6, hF6, m16, m26, hi6, g06⟩ := H6.out
      have hg5w : g5 < W6.heap.size := k6.lt.2
      have hz7 := g67.size
      have hks1 : ks1.length = M := by
        have := congrArg List.length hf1
        rw [List.length_map, Tr.flat_length, treeF_size _ _ _ (by rw [smMarks_length, htl]; omega), smMarks_length, htl] at this
        exact this
      have k7' : KRow base w7 g7 c7 (es ++ ((m.1, some (⟨h1, 0, none⟩ : Addr), c1, m.2.2.2), ((ax : Int), p1, (0 : Int))) :: ks1) := by
        have e : (es ++ [((m.1, some (⟨h1, 0, none⟩ : Addr), c1, m.2.2.2), ((ax : Int), p1, (0 : Int)))]) ++ ks1 = es ++ ((m.1, some (⟨h1, 0, none⟩ : Addr), c1, m.2.2.2), ((ax : Int), p1, (0 : Int))) :: ks1 := by simp
        rw [e] at k7; exact k7
      have hF7 := hF6.kept g67 (fun x => by injection x with x; omega)
      have m27 := m26.grown g67 (by omega)
      have hi6l := hi6.lt
      have o6 : KOuts W3.heap.size W6 g5 [((m.1, some (⟨h1, 0, none⟩ : Addr), c1, m.2.2.2), ((ax : Int), p1, p2))] := ⟨fun d hd => by simp at hd; subst hd; exact ⟨h1, rfl, hi6, hh1⟩, List.pairwise_singleton _ _⟩
      have o7 := (o6.moved g67 hgg7).append ho1 (by omega) (fun d hd a ha => o6.block d hd a ha)
      have g07 : w.grownBy w7 (some g) := grownK_trans g06 g67 (by omega)
      have hm7 : g7 = g ∨ w.heap.size ≤ g7 := by omega
      have hP7 : g7 ≠ w2.heap.size := by omega
      obtain ⟨q0', q1, q2, q3⟩ := hF7.cells
      obtain ⟨_, _, _, r3, r4⟩ := k7'.cell (i := es.length) (by simp)
      have f4 := World.ownsRow.frozenAt k7' (es.length * 5 + 4)
      have k8 := k7'.more p2
      have s78 := grown_setCell w7 g7 (es.length * 5 + 4) (.int .i64 p2)
      have hF8 := hF7.kept s78 (fun x => by injection x with x; omega)
      have m28 := m27.grown s78 (by omega)
      have o8 := o7.kept s78
      have g08 : w.grownBy (w7.setCell ⟨g7, es.length * 5 + 4, none⟩ (.int .i64 p2)) (some g) := grownK_trans g07 s78 hm7
      have hz8 := g08.size
      have hz78 := s78.size
      have H8 := hidP (And.intro k8 (And.intro hF8 (And.intro m28 (And.intro o8 g08))))
      rw [hel] at hf1
      have HF1 := hidP hf1
      have hl7 : (es.length : Int) < ((es.length : Int) + 1 + (M : Int)) := by omega
      have hP7b : ¬ g7 = w2.heap.size := hP7
      clear k7 hf1 ho1 g67 k6 hF6 m16 m26 hi6 g06 k7' hF7 m27 o6 o7 g07 k8 s78 hF8 m28 o8 g08 H6 HH1 q0 q0' q1 q2 r3
      go_upto_region 9 with (go_at_call 157; refine (HPL2.out _ _ _).mono ?_; rintro e wx ⟨rfl, hwx⟩; rw [hwx]; clear hwx)
      obtain ⟨W8, hW8⟩ : ∃ W8, W8 = w7.setCell ⟨g7, es.length * 5 + 4, none⟩ (.int .i64 p2) := ⟨_, rfl⟩
      rw [← hW8]
      rw [← hW8] at H8
      rw [← hW8] at hz8 hz78
      clear hW8 q3 r4 f4
      obtain ⟨k8, hF8, m28, o8, g08⟩ := H8.out
      obtain ⟨q0, q1, q2, q3⟩ := hF8.cells
      have hel8 : (es ++ ((m.1, some (⟨h1, 0, none⟩ : Addr), c1, m.2.2.2), ((ax : Int), p1, p2)) :: ks1).length = es.length + 1 + M := by simp; omega
      have hB8 : Below base W0 W8 := below_grown hB g08 hbw hgl.1
      have H2 := HIH.out (s.drop (M + 1)) a2 (ds.length - (M + 1)) X dim base g7 c7 (es ++ ((m.1, some ⟨h1, 0, none⟩, c1, m.2.2.2), ((ax : Int), p1, p2)) :: ks1) W0 W8 (by omega) (by rw [hdl, hel8]; omega) m28.view (hl.sub (fun d hd => HSM.out d (List.mem_of_mem_drop hd))) hW hB8 (by omega) (fun d hd => HDIM.out d (HSM.out d (List.mem_of_mem_drop hd))) hd1 hd4 hXd (HSO.out.sub (fun d hd => HSM.out d (List.mem_of_mem_drop hd))) k8
      rw [hdl, hel8, show es.length + 1 + M + (ds.length - (M + 1)) = es.length + ds.length by omega] at H2
      have HH2 := hidP H2
      have hg7w : g7 < W8.heap.size := k8.lt.2
      clear k8 hF8 m28 o8 g08 H2 hB8 q0 q1 q2
      go_wp2_with fail
      refine HH2.out.mono ?_
      rintro e w9 ⟨g9, c9, ks2, rfl, LD2⟩
      have HE : Hid (∃ ks, Laid base w w9 g g9 c9 es ks (.node (smMark m) ax (treeF f (smMarks (s.take M)) X) (treeF f (smMarks (s.drop (M + 1))) X))) := by
        obtain ⟨k9, hf2, ho2, g89, hgg9⟩ := LD2
        obtain ⟨k8, hF8, m28, o8, g08⟩ := H8.out
        refine ⟨((m.1, some ⟨h1, 0, none⟩, c1, m.2.2.2), ((ax : Int), p1, p2)) :: (ks1 ++ ks2), ?_, ?_, ?_, ?_, ?_⟩
        · have e : (es ++ ((m.1, some (⟨h1, 0, none⟩ : Addr), c1, m.2.2.2), ((ax : Int), p1, p2)) :: ks1) ++ ks2 = es ++ ((m.1, some (⟨h1, 0, none⟩ : Addr), c1, m.2.2.2), ((ax : Int), p1, p2)) :: (ks1 ++ ks2) := by simp
          rw [e] at k9; exact k9
        · have hsz1 : (treeF f (smMarks (s.take M)) X).size = M := by rw [treeF_size _ _ _ (by rw [smMarks_length, htl]; omega), smMarks_length, htl]
          rw [hel8] at hf2
          rw [List.map_cons, List.map_append, HF1.out, hf2, Tr.flat, hsz1, ← HP1.out, ← HP2.out]
          rfl
        · have o9 := (o8.moved g89 hgg9).append ho2 (by omega) (fun d hd a ha => o8.block d hd a ha)
          have o10 := o9.mono (show w.heap.size ≤ W3.heap.size by omega)
          simpa using o10
        · exact grownK_trans g08 g89 hm7
        · omega
      clear LD2 HH2 H8
      go_wp2_with fail
      go_ret
      rw [HTR.out]
      obtain ⟨ks, hks⟩ := HE.out
      exact ⟨g9, c9, ks, rfl, hks⟩

end Go.Proofs.Ythddhblmnfjciaa
