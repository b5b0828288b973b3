/-
  The given l6Balls: the balls of some marks behind others.
-/
import Derived.Test.YthddhblmnfjciaaVCellsZz
import Derived.Test.YthddhblmnfjciaaLast
namespace Go.Proofs.Ythddhblmnfjciaa
open Go Go.RowKit

set_option maxHeartbeats 400000 in
theorem sBalls0 (ao : Option Addr) (cap g n c : Nat) (w : World) :
    Calls Try.prog 81 #[.slice ao 0 cap, .slice (some ⟨g, 0, none⟩) n c] w fun e w' => e = .returned (.tuple #[.slice (some ⟨g, 0, none⟩) n c, .int .i64 (-1)]) ∧ w' = w := by
  go_enter Try.func81, Try.ntmps81
  go_wp2
  exact bodyPost_ret (v := .tuple #[.slice (some ⟨g, 0, none⟩) n c, .int .i64 (-1)]) (by simp [results, Try.results81, go_sem]) rfl ⟨rfl, rfl⟩

theorem Two.keptV {w w' : World} {p : Nat} {u v : Value} {t : TypeId} {r : Option Nat} (h : Two w p u v t) (hg : w.grownBy w' r) (hr : some p ≠ r) : Two w' p u v t := (hg.block p h.lt hr).trans h
theorem ball_mk {wc wx : World} {pb h1 c1 dim : Nat} {i : Int} {xs : List Int} {R : Array Value} (hF : Five wx pb (.int .i64 i) (.slice (some ⟨h1, 0, none⟩) dim c1) (.int .i64 0) (.int .i64 0) (.int .i64 0) 107) (hR : wx.heap[h1]? = some (.cells R 2)) (r : RowIs R 1 dim c1 (xs.map (Value.int .i64))) (hd : xs.length = dim) (hn : pb ≠ h1) (hp : wc.heap.size ≤ pb) (hh : wc.heap.size ≤ h1) (L : Below wc.heap.size wc wx) :
    ∃ pb' h1' c1', Value.pointer (some ⟨pb, 0, none⟩) = .pointer (some ⟨pb', 0, none⟩) ∧ Five wx pb' (.int .i64 i) (.slice (some ⟨h1', 0, none⟩) dim c1') (.int .i64 0) (.int .i64 0) (.int .i64 0) 107 ∧ IRow wc.heap.size wx h1' c1' xs ∧ pb' ≠ h1' ∧ wc.heap.size ≤ pb' ∧ Below wc.heap.size wc wx :=
  ⟨pb, h1, c1, rfl, hF, IRow.of (RowIs.owns r hh hR) hd.symm rfl, hn, hp, L⟩

set_option maxRecDepth 100000 in
set_option maxHeartbeats 4000000 in
theorem sBallsF (f : Nat) : ∀ (ds : List Sm) (ao : Option Addr) (cap dim base g c : Nat) (es : List Dk) (W0 w : World),
    ds.length ≤ f → ds.length ≤ cap → es.length + ds.length ≤ 60 → SView w ao ds → SLies W0 ds → W0.heap.size ≤ base → Below base W0 w → base ≤ w.heap.size → (∀ d ∈ ds, d.2.2.2.length = dim) → 1 ≤ dim → dim ≤ 4 → BRow base w g c es →
    Calls Try.prog 81 #[.slice ao ds.length cap, .slice (some ⟨g, 0, none⟩) es.length c] w fun e w' => ∃ g' c' ks, e = .returned (.tuple #[.slice (some ⟨g', 0, none⟩) (es.length + ds.length) c', .int .i64 ((ballF f (smMarks ds)).place es.length)]) ∧ LaidB base w w' g g' c' es ks (ballF f (smMarks ds)) := by
  have hnone : ∀ (f : Nat) (ao : Option Addr) (cap base g c : Nat) (es : List Dk) (w : World), BRow base w g c es → Calls Try.prog 81 #[.slice ao 0 cap, .slice (some ⟨g, 0, none⟩) es.length c] w fun e w' => ∃ g' c' ks, e = .returned (.tuple #[.slice (some ⟨g', 0, none⟩) (es.length + 0) c', .int .i64 ((ballF f []).place es.length)]) ∧ LaidB base w w' g g' c' es ks (ballF f []) := by
    intro f ao cap base g c es w hr
    refine (sBalls0 ao cap g es.length c w).mono ?_
    rintro e w' ⟨rfl, rfl⟩
    rw [ballF_none]
    exact ⟨g, c, [], rfl, by rw [List.append_nil]; exact hr, rfl, KOuts.nil _ _ _, ⟨rfl, rfl, rfl, Nat.le_refl _, fun _ _ _ => rfl⟩, Or.inl rfl⟩
  induction f with
  | zero =>
    intro ds ao cap dim base g c es W0 w hf hcp hn hv hl hW hB hbw hdim hd1 hd4 hr
    obtain rfl : ds = [] := List.length_eq_zero_iff.1 (by omega)
    exact hnone 0 ao cap base g c es w hr
  | succ f ih =>
    intro ds ao cap dim base g c es W0 w hf hcp hn hv hl hW hB hbw hdim hd1 hd4 hr
    rcases ds with _ | ⟨m, tl⟩
    · exact hnone (f + 1) ao cap base g c es w hr
    · have HIH := hidP ih
      have HR := hidP hr
      obtain ⟨b, off, rfl, hb, hs⟩ := hv.seg (by simp)
      have hlw : SLies w (m :: tl) := fun d hd => (hl d hd).below hW hB
      obtain ⟨y0, y1⟩ := hs 0 (by simp)
      have hm0 : snth (m :: tl) 0 = m := rfl
      rw [hm0] at y0 y1
      simp only [Nat.zero_mul, Nat.add_zero] at y0 y1
      have hmd := hdim m (List.mem_cons_self ..)
      rw [hmd] at y1
      have htd : ∀ d ∈ tl, d.2.2.2.length = dim := fun d hd => hdim d (List.mem_cons_of_mem _ hd)
      have htv : ∀ W, Below w.heap.size w W → SView W (some ⟨b, off + 2, none⟩) tl := fun W L => Or.inr ⟨b, off + 2, rfl, Nat.lt_of_lt_of_le hb L.size, by
        have := (hs.drop 1).below (B := w.heap.size) hb L
        simpa using this⟩
      obtain ⟨N, hN⟩ : ∃ N, N = tl.length := ⟨_, rfl⟩
      have hlen1 : (m :: tl).length = N + 1 := by rw [hN]; rfl
      rw [hlen1] at hf hcp hn
      have hlb : (((N + 1 : Nat) : Int) == 0) = false := by simp; omega
      obtain ⟨W1, hW1⟩ : ∃ W1, W1 = w.alloc (.cells #[.int .i64 m.1, .slice m.2.1 dim m.2.2.1] 93) := ⟨_, rfl⟩
      have L1 : Below w.heap.size w W1 := by rw [hW1]; exact alloc_below w _
      have T1 : Two W1 w.heap.size (.int .i64 m.1) (.slice m.2.1 dim m.2.2.1) 93 := by rw [hW1]; exact Two.new w _ _ _
      have x0 := T1.c0
      have x1 := T1.c1
      have hz1 : W1.heap.size = w.heap.size + 1 := by rw [hW1]; simp
      have HBY : Hid (∀ ao' cap', SView W1 ao' tl → Calls Try.prog 129 #[.slice ao' N cap', .slice m.2.1 dim m.2.2.1] W1.drew fun e w' => ∃ g c, e = .returned (.slice (some ⟨g, 0, none⟩) N c) ∧ SRow W1.heap.size w' g c (sortBy (sslt m.2.2.2) tl) ∧ Below W1.heap.size W1 w') := fun ao' cap' h => by
        have := sBy6 ao' m.2.1 cap' m.2.2.1 m.2.2.2 tl W1.drew h (fun d hd => ((hlw d (List.mem_cons_of_mem _ hd)).next L1).drew) (by omega) (fun d hd => by rw [htd d hd]; omega) ((hlw m (List.mem_cons_self ..)).next L1).drew (by rw [hmd]; omega)
        rw [hmd, ← hN] at this
        exact this.mono fun e w' ⟨g, c, he, hr, L⟩ => ⟨g, c, he, hr, (Below.refl _ W1).drew.trans L⟩
      have HTV := hidP htv
      have HT1 := hidP T1
      have HL1 := hidP L1
      have HLW := hidP hlw
      have HMD := hidP hmd
      have HTD := hidP htd
      have HN := hidP hN
      clear ih hr hv hnone hs hlw htv hdim hmd htd T1 L1 hN hm0
      rw [hlen1]
      go_enter Try.func81, Try.ntmps81
      go_upto_region 4 with fail
      rw [← hW1]
      clear hW1 y0 y1
      go_cut [7] from 16 to 89 (fun r wx => ∃ gs cs, r = .slice (some ⟨gs, 0, none⟩) N cs ∧ SRow W1.heap.size wx gs cs (sortBy (sslt m.2.2.2) tl) ∧ Below W1.heap.size W1 wx)
      case first =>
        by_cases hc1 : cap = 1
        · subst hc1
          have hN0 : N = 0 := by omega
          subst hN0
          have HC := hidP (HBY.out (some ⟨b, off, none⟩) 0 (Or.inl (List.length_eq_zero_iff.1 HN.out.symm)))
          clear HBY
          go_region_held3 (fun w' => w'.cell? ⟨w.heap.size, 1, none⟩ = some (.slice m.2.1 dim m.2.2.1))
            (first | go_keep | exact (Lx.cell (p := ⟨w.heap.size, 1, none⟩) (by show w.heap.size < W1.heap.size; omega)).trans x1)
            (first | (go_at_call 129; refine HC.out.mono ?_; rintro e wx ⟨gs, cs, rfl, hsr, Lx⟩))
          all_goals
            have HE := hidP (And.intro hsr Lx)
            clear hsr Lx
            go_wp2_with fail
            go_meet
            exact ⟨gs, cs, rfl, HE.out.1, HE.out.2⟩
        · have hc2 : ¬ cap - 1 = 0 := by omega
          have hc3 : (1 : Int) ≤ (cap : Int) := by omega
          have hc4 : (1 : Int) ≤ ((N : Int) + 1) := by omega
          have HC := hidP (HBY.out (some ⟨b, off + 2, none⟩) (cap - 1) (HTV.out W1 HL1.out))
          clear HBY
          go_region_held3 (fun w' => w'.cell? ⟨w.heap.size, 1, none⟩ = some (.slice m.2.1 dim m.2.2.1))
            (first | go_keep | exact (Lx.cell (p := ⟨w.heap.size, 1, none⟩) (by show w.heap.size < W1.heap.size; omega)).trans x1)
            (first | (go_at_call 129; refine HC.out.mono ?_; rintro e wx ⟨gs, cs, rfl, hsr, Lx⟩))
          all_goals
            have HE := hidP (And.intro hsr Lx)
            clear hsr Lx
            go_wp2_with fail
            go_meet
            exact ⟨gs, cs, rfl, HE.out.1, HE.out.2⟩
      case rest =>
        obtain ⟨gs, cs, rfl, hsr, Lc⟩ := hcut
        obtain ⟨W2, hW2⟩ : ∃ W2, W2 = wc := ⟨wc, rfl⟩
        subst hW2
        have hsl : (sortBy (sslt m.2.2.2) tl).length = N := by rw [sortBy_length]; exact HN.out.symm
        have hsm : ∀ d ∈ sortBy (sslt m.2.2.2) tl, d ∈ tl := fun d hd => (sortBy_perm _ _).mem_iff.1 hd
        obtain ⟨M, hM⟩ : ∃ M, M = (N + 1) / 2 := ⟨_, rfl⟩
        have hdiv : (((N : Int) + 1) / 2) = (M : Int) := by omega
        have htr : ballF (f + 1) (smMarks (m :: tl)) = .node (smMark m) (radV m.2.2.2 (smMarks ((sortBy (sslt m.2.2.2) tl).take M))).toNat (ballF f (smMarks ((sortBy (sslt m.2.2.2) tl).take M))) (ballF f (smMarks ((sortBy (sslt m.2.2.2) tl).drop M))) := by
          have e1 : smMarks (m :: tl) = smMark m :: smMarks tl := rfl
          rw [e1, ballF, smMarks_length, ← HN.out, ← hM]
          show Tr.node (smMark m) _ _ _ = _
          have e2 : sortBy (stlt (smMark m).2) (smMarks tl) = smMarks (sortBy (sslt m.2.2.2) tl) := (sort6_marks m.2.2.2 tl).symm
          rw [e2]
          simp [smMarks, List.map_take, List.map_drop, smMark]
        have HTR := hidP htr
        have HM := hidP hM
        clear htr hM
        generalize sortBy (sslt m.2.2.2) tl = s at *
        have HSR := hidP hsr
        have HLC := hidP Lc
        have HSM := hidP hsm
        have HSL := hidP hsl
        have hzc := Lc.size
        have hgs := hsr.lt
        have hcap := hsr.cap
        have u0 := (Lc.cell (p := ⟨w.heap.size, 0, none⟩) (by show w.heap.size < W1.heap.size; omega)).trans x0
        have u1 := (Lc.cell (p := ⟨w.heap.size, 1, none⟩) (by show w.heap.size < W1.heap.size; omega)).trans x1
        have hML : M ≤ N := by omega
        obtain ⟨bm, om, hmo, hbm, hms⟩ : ∃ b off, m.2.1 = some ⟨b, off, none⟩ ∧ b < W2.heap.size ∧ Seg W2 b off m.2.2.2 := by
          rcases (HLW.out m (List.mem_cons_self ..)).next (chain HL1.out Lc) with h | h
          · have := HMD.out; rw [h] at this; simp at this; omega
          · exact h
        have HMO := hidP hmo
        have HMS := hidP hms
        rw [hmo] at u1
        clear x0 x1 hsr Lc hsm hmo hms HTV
        go_upto_region 6 with fail
        try simp only [hdiv]
        go_cut [9] from 16 to 89 (fun bb wx => ∃ pb h1 c1, bb = .pointer (some ⟨pb, 0, none⟩) ∧ Five wx pb (.int .i64 m.1) (.slice (some ⟨h1, 0, none⟩) dim c1) (.int .i64 0) (.int .i64 0) (.int .i64 0) 107 ∧ IRow W2.heap.size wx h1 c1 m.2.2.2 ∧ pb ≠ h1 ∧ W2.heap.size ≤ pb ∧ Below W2.heap.size W2 wx)
        case first =>
          obtain ⟨i0, hi0, hq0, hq1, hq2⟩ := info_parts Try.info2
          have HSRC : Hid (∀ Y, Below W2.heap.size W2 Y → SrcAt Y 1 (some ⟨bm, om, none⟩) dim (m.2.2.2.map (Value.int .i64))) := fun Y hY => by
            have := seg_srcK (HMS.out.below hbm hY)
            rwa [HMD.out] at this
          have HC2 : Hid (∀ Y, Below W2.heap.size W2 Y → Y.cell? ⟨w.heap.size, 0, none⟩ = some (.int .i64 m.1) ∧ Y.cell? ⟨w.heap.size, 1, none⟩ = some (.slice (some ⟨bm, om, none⟩) dim m.2.2.1)) := fun Y hY => ⟨(hY.cell (p := ⟨w.heap.size, 0, none⟩) (by show w.heap.size < W2.heap.size; omega)).trans u0, (hY.cell (p := ⟨w.heap.size, 1, none⟩) (by show w.heap.size < W2.heap.size; omega)).trans u1⟩
          have hgne : ¬ W2.heap.size = w.heap.size := by omega
          have hgne1 : ¬ W2.heap.size + 1 = w.heap.size := by omega
          have hgne2 : ¬ W2.heap.size + 1 + 1 = w.heap.size := by omega
          clear HMS HSR HR HLW HLC
          go_region_held3 (fun w' => w'.cell? ⟨w.heap.size, 0, none⟩ = some (.int .i64 m.1) ∧ w'.cell? ⟨w.heap.size, 1, none⟩ = some (.slice (some ⟨bm, om, none⟩) dim m.2.2.1))
            (first
              | (refine HC2.out _ ?_; repeat' (first | (with_reducible exact Below.refl _ _) | (with_reducible refine Below.drew ?_) | (with_reducible refine below_alloc ?_ _)))
              | go_keep)
            (first
              | (refine step_append_new _ (by rfl) (.tmp 34) (.tmp 36) 46 (by rfl) 2 i0 _ 1 8 Try.underlying46 hi0 hq0 hq1 hq2 rfl _ (by rfl) (some ⟨bm, om, none⟩) dim m.2.2.1 (m.2.2.2.map (Value.int .i64)) (by rfl) (HSRC.out _ (by repeat' (first | (with_reducible exact Below.refl _ _) | (with_reducible refine Below.drew ?_) | (with_reducible refine below_alloc ?_ _)))) (by omega) (by unfold maxLen; omega) (by omega) ?_; intro c1 R1 r1))
          all_goals
            go_wp2_with fail
            go_meet
            apply ball_mk (R := R1)
            · unfold Five
              repeat' (first | (with_reducible refine heap_at_drew ?_) | (with_reducible exact heap_at_new (by simp)) | (with_reducible refine heap_at_past ?_))
            · repeat' (first | (with_reducible refine heap_at_drew ?_) | (with_reducible exact heap_at_new (by simp)) | (with_reducible refine heap_at_past ?_))
            · exact r1
            · exact HMD.out
            · omega
            · omega
            · omega
            · repeat' (first | (with_reducible exact Below.refl _ _) | (with_reducible refine Below.drew ?_) | (with_reducible refine below_alloc ?_ _))
        case rest =>
          obtain ⟨pb, h1, c1, rfl, hF, hi, hne, hpb, Lb⟩ := hcut
          obtain ⟨W3, hW3⟩ : ∃ W3, W3 = wc := ⟨wc, rfl⟩
          subst hW3
          have hz3 := Lb.size
          have hFl := hF.lt
          have hil := hi.lt
          have hL2 := chain HL1.out HLC.out
          have hT3 : Two W3 w.heap.size (.int .i64 m.1) (.slice (some ⟨bm, om, none⟩) dim m.2.2.1) 93 := by
            have := (HT1.out.below HLC.out).below Lb
            rw [HMO.out] at this; exact this
          have HSR3 := hidP (HSR.out.below (Nat.le_refl _) Lb)
          have HF3 := hidP hF
          have HI3 := hidP hi
          have HT3 := hidP hT3
          have HL3 := hidP (chain hL2 Lb)
          have HLW3 : Hid (SLies W3 (m :: tl)) := HLW.out.below (chain hL2 Lb)
          have hM0 : (0 : Int) ≤ (M : Int) := Int.natCast_nonneg _
          have hzw : W1.heap.size ≤ W3.heap.size := by omega
          clear hF hi Lb hL2 hT3 HSR HT1 HLW HMS HLC HL1 u0 u1 HBY
          go_wp2_with fail
          go_loopw [10] (fun i wr => ∃ k : Nat, k ≤ M ∧ i = .int .i64 k ∧ Five wr pb (.int .i64 m.1) (.slice (some ⟨h1, 0, none⟩) dim c1) (.int .i64 (maxTo (radF m.2.2.2 (smMarks (s.take M))) k)) (.int .i64 0) (.int .i64 0) 107 ∧ W3.grownBy wr (some pb)) (fun i _ => M - (intOf i).toNat)
          case atStart => exact ⟨0, Nat.zero_le _, rfl, HF3.out, ⟨rfl, rfl, rfl, Nat.le_refl _, fun _ _ _ => rfl⟩⟩
          case round =>
            obtain ⟨k, hk, rfl, hFk, hGk⟩ := hrel
            have hGz := hGk.size
            have hWB : Below base W0 wr := below_grown (hB.trans (HL3.out.mono hbw)) hGk (by omega) (by omega)
            by_cases hlt : k < M
            · have hks : k < s.length := by omega
              obtain ⟨_, q1⟩ := (HSR3.out.kept hGk (fun e => by injection e with e; omega)).seg k hks
              have hxm := HSM.out _ (snth_mem hks)
              have hxd := HTD.out _ hxm
              have hxl : View wr (snth s k).2.1 (snth s k).2.2.2 := (hl _ (List.mem_cons_of_mem _ hxm)).below hW hWB
              have hml : View wr m.2.1 m.2.2.2 := (hl m (List.mem_cons_self ..)).below hW hWB
              have hrf : radF m.2.2.2 (smMarks (s.take M)) k = stepsV m.2.2.2 (snth s k).2.2.2 := by
                unfold radF
                have e : mat (smMarks (s.take M)) k = (smMark (snth (s.take M) k)).2 := congrArg Prod.snd (smMarks_at (s.take M) k (by simp; omega))
                rw [e, snth_take _ _ _ hlt]; rfl
              have HNX : Hid (maxTo (radF m.2.2.2 (smMarks (s.take M))) (k + 1) = maxV (maxTo (radF m.2.2.2 (smMarks (s.take M))) k) (stepsV m.2.2.2 (snth s k).2.2.2)) := by rw [← hrf]; rfl
              have HST := hidP (fun n => sSteps m.2.1 (snth s k).2.1 m.2.2.1 (snth s k).2.2.1 m.2.2.2 (snth s k).2.2.2 (wr.drewN n) (hml.drewN n) (hxl.drewN n) (by rw [HMD.out]; omega) (by rw [hxd]; omega))
              rw [HMD.out, hxd, HMO.out] at HST
              rw [hxd, Nat.zero_add] at q1
              generalize snth s k = x at *
              generalize stepsV m.2.2.2 x.2.2.2 = st at *
              generalize hrv : maxTo (radF m.2.2.2 (smMarks (s.take M))) k = r at *
              have t1 := (Two.keptV HT3.out hGk (fun e => by injection e with e; omega)).c1
              obtain ⟨_, _, p2, _, _⟩ := hFk.cells
              have f2 := hFk.frozen 2
              have HFK := hidP hFk
              have HGK := hidP hGk
              have hi0 : (0 : Int) ≤ (k : Int) := Int.natCast_nonneg _
              have hi1 : (k : Int) < (N : Int) := by omega
              have hi2 : (k : Int) < (M : Int) := by omega
              clear hFk hGk hxm hxd hxl hml hrf hWB hrv
              go_wp2_with fail
              refine wp_region_calm (S := fun w' => w'.cell? ⟨pb, 2, none⟩ = some (.int .i64 r) ∧ w'.cell? ⟨w.heap.size, 1, none⟩ = some (.slice (some ⟨bm, om, none⟩) dim m.2.2.1) ∧ w'.cell? ⟨gs, k * 2 + 1, none⟩ = some (.slice x.2.1 dim x.2.2.1)) (fuel := 3)
                [0, 1, 2, 3, 4, 5, 6, 7, 8] _ rfl (by kernel_rfl) (by kernel_rfl) (by kernel_rfl) (by kernel_rfl) (by kernel_rfl) (by kernel_rfl) (by kernel_rfl) ⟨p2, t1, q1⟩ (fun hS => ?_)
              iterate 9
                refine ⟨_, rfl, ?_⟩
                apply Exists.intro
                refine ⟨Or.inl ⟨by rfl, fun w' hw' => ?_⟩, ?_⟩
                · first
                  | (go_simp; done)
                  | (go_simp; with_reducible rfl)
                simp only [Act.put, List.setIfInBounds_toArray]
              refine calm_one 9 (by kernel_rfl) rfl (fun K hK => ?_)
              go_simp
              refine (HST.out 1).mono ?_
              rintro e w' ⟨rfl, n1, rfl⟩
              refine hK.out _ _ ⟨p2, t1, q1⟩ (fun _ => ?_)
              clear hK K
              refine calm_one 10 (by kernel_rfl) rfl (fun K hK => ?_)
              go_simp
              refine (sMax _ _ _).mono ?_
              rintro e w' ⟨rfl, hw'⟩
              rw [hw']
              clear hw'
              refine hK.out _ _ ⟨p2, t1, q1⟩ (fun _ => ?_)
              clear hK K
              refine calm_one 11 (by kernel_rfl) rfl (fun K hK => ?_)
              go_simp
              refine hK.out _ _ ⟨p2, t1, q1⟩ (fun _ => ?_)
              clear hK K
              refine wpAnyH_done (by kernel_rfl) ?_ _
              simp only [Exit.then]
              go_wp2_with fail
              refine NoPanic.normal ?_
              go_wp2_with fail
              go_roundw
              case rel =>
                refine ⟨k + 1, by omega, by go_num, ?_, ?_⟩
                · rw [HNX.out]
                  exact (show Five (wr.drewN (1 + n1)) pb _ _ _ _ _ 107 from HFK.out).set2 _
                · exact grown_set (w := W3) (w' := wr.drewN (1 + n1)) ⟨HGK.out.os, HGK.out.tape, HGK.out.output, HGK.out.size, HGK.out.block⟩
              case measure => simp [intOf]; omega
            · obtain rfl : k = M := by omega
              obtain ⟨W4, hW4⟩ : ∃ W4, W4 = wr := ⟨wr, rfl⟩
              subst hW4
              have htl : (s.take k).length = k := by simp; omega
              have hdl : (s.drop k).length = N - k := by simp; omega
              have hrad : maxTo (radF m.2.2.2 (smMarks (s.take k))) k = radV m.2.2.2 (smMarks (s.take k)) := by unfold radV; rw [smMarks_length, htl]
              have hrl := radV_le m.2.2.2 (smMarks (s.take k))
              rw [hrad] at hFk
              have hRn : ((radV m.2.2.2 (smMarks (s.take k))).toNat : Int) = radV m.2.2.2 (smMarks (s.take k)) := by omega
              have HRN := hidP hRn
              generalize hRv : radV m.2.2.2 (smMarks (s.take k)) = R at *
              clear hrad hrl hRn
              have hgl := HR.out.lt
              have hb4 : BRow base W4 g c es := (HR.out.below HL3.out).kept hGk (fun e => by injection e with e; omega)
              have hs4 : SRow W1.heap.size W4 gs cs s := HSR3.out.kept hGk (fun e => by injection e with e; omega)
              have hi4 : IRow W2.heap.size W4 h1 c1 m.2.2.2 := HI3.out.kept hGk (fun e => by injection e with e; omega)
              have hi4l := hi4.lt
              have HB4 := hidP hb4
              obtain ⟨p1, hp1⟩ : ∃ p1, p1 = (ballF f (smMarks (s.take k))).place (es.length + 1) := ⟨_, rfl⟩
              obtain ⟨p2, hp2⟩ : ∃ p2, p2 = (ballF f (smMarks (s.drop k))).place (es.length + 1 + k) := ⟨_, rfl⟩
              have hel : (es ++ [((m.1, some (⟨h1, 0, none⟩ : Addr), c1, m.2.2.2), (R, (0 : Int), (0 : Int)))]).length = es.length + 1 := by simp
              have hsz1 : (ballF f (smMarks (s.take k))).size = k := by rw [ballF_size _ _ (by rw [smMarks_length, htl]; omega), smMarks_length, htl]
              have HREC : Hid (∀ (g2 c2 : Nat) (w2 : World), BRow base w2 g2 c2 (es ++ [((m.1, some (⟨h1, 0, none⟩ : Addr), c1, m.2.2.2), (R, (0 : Int), (0 : Int)))]) → W4.grownBy w2 (some g) → (g2 = g ∨ W4.heap.size ≤ g2) → Calls Try.prog 81 #[.slice (some ⟨gs, 0, none⟩) k cs, .slice (some ⟨g2, 0, none⟩) (es.length + 1) c2] w2 fun e w3 => ∃ g3 c3 ks1, e = .returned (.tuple #[.slice (some ⟨g3, 0, none⟩) (es.length + 1 + k) c3, .int .i64 p1]) ∧ BRow base w3 g3 c3 ((es ++ [((m.1, some (⟨h1, 0, none⟩ : Addr), c1, m.2.2.2), (R, (0 : Int), (0 : Int)))]) ++ ks1) ∧ ks1.map dkKn = (ballF f (smMarks (s.take k))).flat (es.length + 1) ∧ (∀ a b, KOuts w.heap.size w3 g3 (((m.1, some (⟨h1, 0, none⟩ : Addr), c1, m.2.2.2), (R, (a : Int), (b : Int))) :: ks1)) ∧ W4.grownBy w3 (some g) ∧ (g3 = g ∨ W4.heap.size ≤ g3)) := fun g2 c2 w2 hk2 hg2 hgg2 => by
                have hz2 := hg2.size
                have hsr2 : SRow W1.heap.size w2 gs cs s := hs4.kept hg2 (fun e => by injection e with e; omega)
                have hB2 : Below base W0 w2 := below_grown hWB hg2 (by omega) hgl.1
                have H1 := HIH.out (s.take k) (some ⟨gs, 0, none⟩) cs dim base g2 c2 (es ++ [((m.1, some (⟨h1, 0, none⟩ : Addr), c1, m.2.2.2), (R, (0 : Int), (0 : Int)))]) W0 w2 (by omega) (by omega) (by rw [htl, hel]; omega) (Or.inr ⟨gs, 0, rfl, hsr2.lt.2, hsr2.seg.take k⟩) (hl.sub (fun d hd => List.mem_cons_of_mem _ (HSM.out d (List.mem_of_mem_take hd)))) hW hB2 (by omega) (fun d hd => HTD.out d (HSM.out d (List.mem_of_mem_take hd))) hd1 hd4 hk2
                rw [htl, hel, ← hp1] at H1
                refine H1.mono ?_
                rintro e w3 ⟨g3, c3, ks1, rfl, hr3, hf3, ho3, hg3, hgg3⟩
                rw [hel] at hf3
                have hg2l := hk2.lt
                refine ⟨g3, c3, ks1, rfl, hr3, hf3, fun a b => ?_, grownK_trans hg2 hg3 hgg2, ?_⟩
                · have hi2 : IRow W2.heap.size w2 h1 c1 m.2.2.2 := hi4.kept hg2 (fun e => by injection e with e; omega)
                  have k0 : KOuts W2.heap.size w2 g2 [((m.1, some (⟨h1, 0, none⟩ : Addr), c1, m.2.2.2), (R, (a : Int), (b : Int)))] := ⟨fun d hd => by simp at hd; subst hd; exact ⟨h1, rfl, hi2, by omega⟩, List.pairwise_singleton _ _⟩
                  have k2 := (k0.moved hg3 hgg3).append ho3 (by omega) (fun d hd a ha => k0.block d hd a ha)
                  exact (k2.mono (by omega))
                · rcases hgg3 with h | h
                  · rcases hgg2 with j | j
                    · exact Or.inl (h.trans j)
                    · exact Or.inr (by omega)
                  · exact Or.inr (by omega)
              have HS5 : Hid (∀ Y, (Below W4.heap.size W4 Y ∨ W4.grownBy Y (some g)) → Y.cell? ⟨pb, 0, none⟩ = some (.int .i64 m.1) ∧ Y.cell? ⟨pb, 1, none⟩ = some (.slice (some ⟨h1, 0, none⟩) dim c1) ∧ Y.cell? ⟨pb, 2, none⟩ = some (.int .i64 R) ∧ Y.cell? ⟨pb, 3, none⟩ = some (.int .i64 0) ∧ Y.cell? ⟨pb, 4, none⟩ = some (.int .i64 0)) := fun Y h => by
                rcases h with h | h
                · exact (hFk.below h).cells
                · exact (hFk.kept h (fun e => by injection e with e; omega)).cells
              have HAPP : Hid (∀ (Y w2 : World) (g2 c2 : Nat), Below W4.heap.size W4 Y → w2.ownsRow base 107 5 (.slice (some ⟨g2, 0, none⟩) (es.length + 1) c2) (es.length + 1) (dkCells es ++ dkCells [((m.1, some (⟨h1, 0, none⟩ : Addr), c1, m.2.2.2), (R, (0 : Int), (0 : Int)))]) → Y.grownBy w2 (some g) → (g = g2 ∨ g2 = W4.heap.size + 1) → BRow base w2 g2 c2 (es ++ [((m.1, some (⟨h1, 0, none⟩ : Addr), c1, m.2.2.2), (R, (0 : Int), (0 : Int)))]) ∧ W4.grownBy w2 (some g) ∧ (g2 = g ∨ W4.heap.size ≤ g2)) := fun Y w2 g2 c2 hY ho hg hat =>
                ⟨BRow.of ho (by simp) (by rw [dkCells_append]), grown_after hY hg, by rcases hat with h | h; exact Or.inl h.symm; exact Or.inr (by omega)⟩
              have HKB : Hid (∀ Y, Below W4.heap.size W4 Y → Y.ownsRow base 107 5 (.slice (some ⟨g, 0, none⟩) es.length c) es.length (dkCells es)) := fun Y hY => HB4.out.below hY
              obtain ⟨v0, v1, v2, v3, v4⟩ := hFk.cells
              have HS4 := hidP hs4
              have HWB := hidP hWB
              have HGK := hidP hGk
              have HP1 := hidP hp1
              have HP2 := hidP hp2
              clear hFk hGk hb4 hs4 hi4 HB4 HR HSR3 HF3 HI3 HT3 hWB hp1 hp2
              have hM2 : (k : Int) ≤ (cs : Int) := by omega
              have hM3 : (k : Int) ≤ (N : Int) := by omega
              have hkl : ¬ (k : Int) < (k : Int) := by omega
              go_upto_region 12 with fail
              go_cut [12, 13] from 16 to 89 (fun x nr wx => ∃ g3 c3 ks1, x = .slice (some ⟨g3, 0, none⟩) (es.length + 1 + k) c3 ∧ nr = .int .i64 p1 ∧ BRow base wx g3 c3 ((es ++ [((m.1, some (⟨h1, 0, none⟩ : Addr), c1, m.2.2.2), (R, (0 : Int), (0 : Int)))]) ++ ks1) ∧ ks1.map dkKn = (ballF f (smMarks (s.take k))).flat (es.length + 1) ∧ (∀ a b, KOuts w.heap.size wx g3 (((m.1, some (⟨h1, 0, none⟩ : Addr), c1, m.2.2.2), (R, (a : Int), (b : Int))) :: ks1)) ∧ W4.grownBy wx (some g) ∧ (g3 = g ∨ W4.heap.size ≤ g3))
              case first =>
                obtain ⟨j0, hj0, hy0, hy1, hy2⟩ := info_parts Try.info107
                by_cases hcs : cs = 0
                · have hk0 : k = 0 := by omega
                  have hN0 : N = 0 := by omega
                  subst hcs hk0 hN0
                  go_region_held3 (fun w' => w'.cell? ⟨pb, 0, none⟩ = some (.int .i64 m.1) ∧ w'.cell? ⟨pb, 1, none⟩ = some (.slice (some ⟨h1, 0, none⟩) dim c1) ∧ w'.cell? ⟨pb, 2, none⟩ = some (.int .i64 R) ∧ w'.cell? ⟨pb, 3, none⟩ = some (.int .i64 0) ∧ w'.cell? ⟨pb, 4, none⟩ = some (.int .i64 0))
                    (first
                      | exact hS3
                      | exact hS2
                      | (refine HS5.out _ (Or.inl ?_); repeat' (first | (with_reducible exact Below.refl _ _) | (with_reducible refine Below.drew ?_) | (with_reducible refine below_alloc ?_ _)))
                      | go_keep)
                    (first
                      | (refine step_append_at _ (by rfl) (.tmp 63) (.tmp 65) 32 (by rfl) base 107 j0 _ 5 56 Try.underlying32 hj0 hy0 hy1 hy2 rfl (by omega) g es.length c (dkCells es) (by rfl) (HKB.out _ (by repeat' (first | (with_reducible exact Below.refl _ _) | (with_reducible refine Below.drew ?_) | (with_reducible refine below_alloc ?_ _)))) (some ⟨_, 0, none⟩) 1 1 (dkCells [((m.1, some (⟨h1, 0, none⟩ : Addr), c1, m.2.2.2), (R, (0 : Int), (0 : Int)))]) (by rfl) (one_srcV (d := ((m.1, some (⟨h1, 0, none⟩ : Addr), c1, m.2.2.2), (R, (0 : Int), (0 : Int)))) (by rw [HMD.out]; first | exact heap_at_drew (heap_at_new (by simp)) | exact heap_at_new (by simp))) (by unfold maxLen; omega) (by omega) (by simp; omega) (W4.heap.size + 1) (by simp) ?_; intro g2 c2 w2 hown2 hgrow2 hat2 hlt2; have HA2 := HAPP.out _ w2 g2 c2 (by repeat' (first | (with_reducible exact Below.refl _ _) | (with_reducible refine Below.drew ?_) | (with_reducible refine below_alloc ?_ _))) hown2 hgrow2 hat2; have hS2 := HS5.out w2 (Or.inr HA2.2.1))
                      | (go_at_call 81; refine (HREC.out g2 c2 w2 HA2.1 HA2.2.1 HA2.2.2).mono ?_; rintro e w3 ⟨g3, c3, ks1, rfl, hQ⟩; have hS3 := HS5.out w3 (Or.inr hQ.2.2.2.1)))
                  all_goals
                    have HQ := hidP hQ
                    clear hQ hS3 hS2 HA2 hown2 hgrow2
                    go_wp2_with fail
                    go_meet
                    exact ⟨g3, c3, ks1, rfl, rfl, HQ.out⟩
                · go_region_held3 (fun w' => w'.cell? ⟨pb, 0, none⟩ = some (.int .i64 m.1) ∧ w'.cell? ⟨pb, 1, none⟩ = some (.slice (some ⟨h1, 0, none⟩) dim c1) ∧ w'.cell? ⟨pb, 2, none⟩ = some (.int .i64 R) ∧ w'.cell? ⟨pb, 3, none⟩ = some (.int .i64 0) ∧ w'.cell? ⟨pb, 4, none⟩ = some (.int .i64 0))
                    (first
                      | exact hS3
                      | exact hS2
                      | (refine HS5.out _ (Or.inl ?_); repeat' (first | (with_reducible exact Below.refl _ _) | (with_reducible refine Below.drew ?_) | (with_reducible refine below_alloc ?_ _)))
                      | go_keep)
                    (first
                      | (refine step_append_at _ (by rfl) (.tmp 63) (.tmp 65) 32 (by rfl) base 107 j0 _ 5 56 Try.underlying32 hj0 hy0 hy1 hy2 rfl (by omega) g es.length c (dkCells es) (by rfl) (HKB.out _ (by repeat' (first | (with_reducible exact Below.refl _ _) | (with_reducible refine Below.drew ?_) | (with_reducible refine below_alloc ?_ _)))) (some ⟨_, 0, none⟩) 1 1 (dkCells [((m.1, some (⟨h1, 0, none⟩ : Addr), c1, m.2.2.2), (R, (0 : Int), (0 : Int)))]) (by rfl) (one_srcV (d := ((m.1, some (⟨h1, 0, none⟩ : Addr), c1, m.2.2.2), (R, (0 : Int), (0 : Int)))) (by rw [HMD.out]; first | exact heap_at_drew (heap_at_new (by simp)) | exact heap_at_new (by simp))) (by unfold maxLen; omega) (by omega) (by simp; omega) (W4.heap.size + 1) (by simp) ?_; intro g2 c2 w2 hown2 hgrow2 hat2 hlt2; have HA2 := HAPP.out _ w2 g2 c2 (by repeat' (first | (with_reducible exact Below.refl _ _) | (with_reducible refine Below.drew ?_) | (with_reducible refine below_alloc ?_ _))) hown2 hgrow2 hat2; have hS2 := HS5.out w2 (Or.inr HA2.2.1))
                      | (go_at_call 81; refine (HREC.out g2 c2 w2 HA2.1 HA2.2.1 HA2.2.2).mono ?_; rintro e w3 ⟨g3, c3, ks1, rfl, hQ⟩; have hS3 := HS5.out w3 (Or.inr hQ.2.2.2.1)))
                  all_goals
                    have HQ := hidP hQ
                    clear hQ hS3 hS2 HA2 hown2 hgrow2
                    go_wp2_with fail
                    go_meet
                    exact ⟨g3, c3, ks1, rfl, rfl, HQ.out⟩
              case rest =>
                obtain ⟨g3, c3, ks1, rfl, rfl, hr3, hf3, ho3, hg3, hgg3⟩ := hcut
                obtain ⟨W5, hW5⟩ : ∃ W5, W5 = wc := ⟨wc, rfl⟩
                subst hW5
                have hz5 := hg3.size
                have hs5 : SRow W1.heap.size W5 gs cs s := HS4.out.kept hg3 (fun e => by injection e with e; omega)
                have hB5 : Below base W0 W5 := below_grown HWB.out hg3 (by omega) hgl.1
                have hL4 : Below w.heap.size w W4 := below_grown HL3.out HGK.out (by omega) (by omega)
                have hks1 : ks1.length = k := by
                  have := congrArg List.length hf3
                  rw [List.length_map, Tr.flat_length, hsz1] at this
                  exact this
                have hel3 : ((es ++ [((m.1, some (⟨h1, 0, none⟩ : Addr), c1, m.2.2.2), (R, (0 : Int), (0 : Int)))]) ++ ks1).length = es.length + 1 + k := by rw [List.length_append, hel, hks1]
                have H2 : ∀ ao', SView W5 ao' (s.drop k) → _ := fun ao' hv' => HIH.out (s.drop k) ao' (cs - k) dim base g3 c3 ((es ++ [((m.1, some (⟨h1, 0, none⟩ : Addr), c1, m.2.2.2), (R, (0 : Int), (0 : Int)))]) ++ ks1) W0 W5 (by omega) (by omega) (by rw [hdl, hel3]; omega) hv' (hl.sub (fun d hd => List.mem_cons_of_mem _ (HSM.out d (List.mem_of_mem_drop hd)))) hW hB5 (by omega) (fun d hd => HTD.out d (HSM.out d (List.mem_of_mem_drop hd))) hd1 hd4 hr3
                rw [hdl, hel3, ← HP2.out, show es.length + 1 + k + (N - k) = es.length + (N + 1) by omega] at H2
                have HH2 := hidP H2
                have hE : ∀ (w4 : World) (g4 c4 : Nat) (ks2 : List Dk), LaidB base W5 w4 g3 g4 c4 ((es ++ [((m.1, some (⟨h1, 0, none⟩ : Addr), c1, m.2.2.2), (R, (0 : Int), (0 : Int)))]) ++ ks1) ks2 (ballF f (smMarks (s.drop k))) →
                    ((∃ v, w4.cell? ⟨g4, es.length * 5 + 3, none⟩ = some v) ∧ w4.frozen? ⟨g4, es.length * 5 + 3, none⟩ = false) ∧ ((∃ v, w4.cell? ⟨g4, es.length * 5 + 4, none⟩ = some v) ∧ w4.frozen? ⟨g4, es.length * 5 + 4, none⟩ = false) ∧
                    ∃ ks, LaidB base w ((w4.setCell ⟨g4, es.length * 5 + 3, none⟩ (.int .i64 p1)).setCell ⟨g4, es.length * 5 + 4, none⟩ (.int .i64 p2)) g g4 c4 es ks (.node (smMark m) R.toNat (ballF f (smMarks (s.take k))) (ballF f (smMarks (s.drop k)))) := by
                  intro w4 g4 c4 ks2 ⟨hr4, hf4, ho4, hg4, hgg4⟩
                  have hr4' : BRow base w4 g4 c4 (es ++ ((m.1, some (⟨h1, 0, none⟩ : Addr), c1, m.2.2.2), (R, (0 : Int), (0 : Int))) :: (ks1 ++ ks2)) := by
                    have e : ((es ++ [((m.1, some (⟨h1, 0, none⟩ : Addr), c1, m.2.2.2), (R, (0 : Int), (0 : Int)))]) ++ ks1) ++ ks2 = es ++ ((m.1, some (⟨h1, 0, none⟩ : Addr), c1, m.2.2.2), (R, (0 : Int), (0 : Int))) :: (ks1 ++ ks2) := by simp
                    rw [e] at hr4; exact hr4
                  obtain ⟨_, _, _, q3, q4⟩ := hr4'.cell (i := es.length) (by simp)
                  have hm3 : g3 = g ∨ w.heap.size ≤ g3 := by omega
                  have hm4 : g4 = g ∨ w.heap.size ≤ g4 := by omega
                  refine ⟨⟨⟨_, q3⟩, World.ownsRow.frozenAt hr4' _⟩, ⟨⟨_, q4⟩, World.ownsRow.frozenAt hr4' _⟩, ((m.1, some ⟨h1, 0, none⟩, c1, m.2.2.2), (R, p1, p2)) :: (ks1 ++ ks2), (hr4'.less _).more _, ?_, ?_, ?_, hm4⟩
                  · simp only [List.map_cons, List.map_append, hf3, hf4, Tr.flat, hsz1, hel3, ← HP1.out, ← HP2.out, HRN.out]
                    rfl
                  · have k2 := (ho3 p1 p2).moved hg4 hgg4
                    have k4 := k2.append ho4 (by omega) (fun d hd a ha => (ho3 p1 p2).block d hd a ha)
                    have k5 := (k4.kept (grown_setCell w4 g4 (es.length * 5 + 3) (.int .i64 p1))).kept (grown_setCell _ g4 (es.length * 5 + 4) (.int .i64 p2))
                    simpa using k5
                  · have a1 : w.grownBy W5 (some g) := grown_after hL4 hg3
                    have a2 := grownK_trans a1 hg4 hm3
                    exact grownK_trans (grownK_trans a2 (grown_setCell w4 g4 _ _) hm4) (grown_setCell _ g4 _ _) hm4
                have HE := hidP hE
                have HV2 : Hid (SView W5 (some ⟨gs, k * 2, none⟩) (s.drop k)) := Or.inr ⟨gs, k * 2, rfl, hs5.lt.2, by have := hs5.seg.drop k; rwa [Nat.zero_add] at this⟩
                have hlen : (es.length : Int) < ((es.length + (N + 1) : Nat) : Int) := by omega
                have he0 : (0 : Int) ≤ (es.length : Int) := by omega
                clear hE hr3 hf3 ho3 hg3 hgg3 hs5 hB5 hL4 H2 HREC HS5 HAPP HKB HS4 HWB HGK v0 v1 v2 v3 v4
                by_cases hcs : cs = k
                · have hdn : s.drop k = [] := List.eq_nil_of_length_eq_zero (by rw [hdl]; omega)
                  have HC2 := hidP (HH2.out (some ⟨gs, 0, none⟩) (Or.inl hdn))
                  rw [show cs - k = 0 by omega] at HC2
                  clear hdn
                  go_wp2_with fail
                  refine HC2.out.mono ?_
                  rintro e w4 ⟨g4, c4, ks2, rfl, LD2⟩
                  obtain ⟨⟨⟨v3, q3⟩, f3⟩, ⟨⟨v4, q4⟩, f4⟩, ks, LD⟩ := HE.out w4 g4 c4 ks2 LD2
                  have q4' : ((w4.setCell ⟨g4, es.length * 5 + 3, none⟩ (.int .i64 p1))).cell? ⟨g4, es.length * 5 + 4, none⟩ = some v4 := by rw [cell_setOther _ _ _ _ _ (by omega)]; exact q4
                  have HL := hidP LD
                  clear LD LD2 HE HH2
                  go_wp2_with fail
                  refine bodyPost_ret (v := .tuple #[.slice (some ⟨g4, 0, none⟩) (es.length + (N + 1)) c4, .int .i64 es.length]) (by simp [results, Try.results81, go_sem]) rfl ?_
                  rw [HTR.out]
                  exact ⟨g4, c4, ks, rfl, HL.out⟩
                · have hcs2 : ¬ cs - k = 0 := by omega
                  have hcs3 : k < cs := by omega
                  have HC2 := hidP (HH2.out _ HV2.out)
                  go_wp2_with fail
                  refine HC2.out.mono ?_
                  rintro e w4 ⟨g4, c4, ks2, rfl, LD2⟩
                  obtain ⟨⟨⟨v3, q3⟩, f3⟩, ⟨⟨v4, q4⟩, f4⟩, ks, LD⟩ := HE.out w4 g4 c4 ks2 LD2
                  have q4' : ((w4.setCell ⟨g4, es.length * 5 + 3, none⟩ (.int .i64 p1))).cell? ⟨g4, es.length * 5 + 4, none⟩ = some v4 := by rw [cell_setOther _ _ _ _ _ (by omega)]; exact q4
                  have HL := hidP LD
                  clear LD LD2 HE HH2
                  go_wp2_with fail
                  refine bodyPost_ret (v := .tuple #[.slice (some ⟨g4, 0, none⟩) (es.length + (N + 1)) c4, .int .i64 es.length]) (by simp [results, Try.results81, go_sem]) rfl ?_
                  rw [HTR.out]
                  exact ⟨g4, c4, ks, rfl, HL.out⟩

end Go.Proofs.Ythddhblmnfjciaa
