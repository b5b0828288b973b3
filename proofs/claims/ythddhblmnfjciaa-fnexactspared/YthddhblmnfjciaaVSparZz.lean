/-
  The given Spared.
  The program's two closures over the nearest till then: show and nearest.
  The program's look from one ball, by its two closures.
  The program's look through right balls: top, then from the first.
-/
import Derived.Test.YthddhblmnfjciaaVLookZz
import Derived.Test.YthddhblmnfjciaaNearZz
import Derived.Test.YthddhblmnfjciaaVCmpZz
namespace Go.Proofs.Ythddhblmnfjciaa
open Go Go.RowKit

theorem knotMs_small {ks : List Kn} (hsm : KSmall ks) : MSmall (knotMs ks) ∧ (knotMs ks).length = ks.length := by
  have hpm : (knotMs ks).Perm (ks.map (·.1)) := sortBy_perm idlt _
  have hml : (knotMs ks).length = ks.length := by rw [hpm.length_eq, List.length_map]
  refine ⟨⟨by rw [hml]; exact hsm.1, fun i => ?_⟩, hml⟩
  rcases Nat.lt_or_ge i (knotMs ks).length with h | h
  · have h1 : (knotMs ks)[i] ∈ ks.map (·.1) := hpm.mem_iff.1 (List.getElem_mem h)
    obtain ⟨k, hk, e⟩ := List.mem_map.1 h1
    obtain ⟨j, hj, e2⟩ := List.getElem_of_mem hk
    have h2 := hsm.2 j
    have e3 : knth ks j = k := by rw [← e2]; simp [knth, List.getD, hj]
    rw [e3] at h2
    have e4 : mat (knotMs ks) i = k.1.2 := by simp only [mat, List.getD, List.getElem?_eq_getElem h, Option.getD_some]; rw [← e]
    rw [e4]; exact h2
  · simp [mat, List.getD, h]

set_option maxRecDepth 100000 in
set_option maxHeartbeats 1000000 in
theorem sSpared (ao qa : Option Addr) (cap qc : Nat) (ks : List Kn) (q : List Int) (w : World) (hv : KView w ao ks) (hsm : KSmall ks) (hq : View w qa q) (hqn : q.length ≤ 1048576) :
    Calls Try.prog 38 #[.slice ao ks.length cap, .slice qa q.length qc] w fun e w' => e = .returned (.int .i64 (sparedV ks q)) ∧ Below w.heap.size w w' := by
  have HC := hidP (sBallsOk ao cap ks w hv hsm)
  rcases hk : ballsB ks with _ | _
  · have HV : Hid (sparedV ks q = -1) := by show sparedV ks q = -1; simp [sparedV, hk]
    rw [hk] at HC
    rw [HV.out]
    go_enter Try.func38, Try.ntmps38
    go_wp2_with fail
    refine HC.out.mono ?_
    rintro e w1 ⟨rfl, L1⟩
    have HL1 := hidP L1
    clear L1
    go_wp2_with fail
    go_ret
    exact ⟨rfl, HL1.out⟩
  · rw [hk] at HC
    obtain ⟨hmk, hf, hz⟩ := balls_tree hk
    obtain ⟨hms, hml⟩ := knotMs_small hsm
    have HM : Hid (∀ w1, Below w.heap.size w w1 → Calls Try.prog 88 #[.slice ao ks.length cap] w1 fun e w' => ∃ g c, e = .returned (.slice (some ⟨g, 0, none⟩) ks.length c) ∧ MView w' (some ⟨g, 0, none⟩) (knotMs ks) ∧ Below w.heap.size w w') := fun w1 L1 => by
      obtain ⟨ds, hds, hs5, hsl⟩ := (hv.next L1).sview
      have hdl : ds.length = ks.length := by rw [← smMarks_length, hds, List.length_map]
      have h := sMarks6 ao cap ds w1 hs5 (by have := hsm.1; omega)
      rw [hdl] at h
      refine h.mono fun e w' ⟨g, c, he, hr, L⟩ => ⟨g, c, he, ?_, chain L1 L⟩
      have e1 : smMarks (sortBy smid ds) = knotMs ks := by rw [sortI_marks, hds]; rfl
      rw [← e1]
      exact hr.view (hsl.sub (fun d hd => (sortBy_perm _ _).mem_iff.1 hd)) L
    have HTO : Hid (∀ g c w2, MView w2 (some ⟨g, 0, none⟩) (knotMs ks) → Below w.heap.size w w2 → Calls Try.prog 93 #[.slice (some ⟨g, 0, none⟩) ks.length c, .slice qa q.length qc] w2 fun e w' => e = .returned (.bool (toldB (knotMs ks) q)) ∧ ∃ n, w' = w2.drewN n) := fun g c w2 h L => by
      have := sTold (some ⟨g, 0, none⟩) qa c qc (knotMs ks) q w2 h (hq.next L) hms hqn
      rwa [hml] at this
    have ht : TAt ks (ballF 60 (knotMs ks)) 0 := by have := tat_flat (ballF 60 (knotMs ks)); rwa [← hf] at this
    have hks := hsm.1
    have h60 : ks.length ≤ 60 := by rw [← hml]; exact marksB_len hmk
    rcases hto : toldB (knotMs ks) q with _ | _
    · have HV : Hid (sparedV ks q = -1) := by show sparedV ks q = -1; simp [sparedV, hto]
      rw [hto] at HTO
      rw [HV.out]
      clear ht hf hz hms hml hmk
      go_enter Try.func38, Try.ntmps38
      go_wp2_with fail
      refine HC.out.mono ?_
      rintro e w1 ⟨rfl, L1⟩
      have HM1 := hidP (HM.out w1 L1)
      clear L1
      go_wp2_with fail
      refine HM1.out.mono ?_
      rintro e w2 ⟨g, c, rfl, hv2, L2⟩
      have HT2 := hidP (HTO.out g c w2 hv2 L2)
      have HL2 := hidP L2
      clear hv2 L2
      go_wp2_with fail
      refine HT2.out.mono ?_
      rintro e w3 ⟨rfl, n3, rfl⟩
      go_wp2_with fail
      go_ret
      exact ⟨rfl, below_drewN HL2.out n3⟩
    · have HV : Hid (sparedV ks q = (ks.length : Int) - (lookB q (ballF 60 (knotMs ks)) (-1, 0)).2) := by show sparedV ks q = _; simp [sparedV, hk, hto]
      rw [hto] at HTO
      rw [HV.out]
      have hcnt := seek_count q (ballF 60 (knotMs ks)) (0, -1)
      have hls := look_seek q (ballF 60 (knotMs ks)) (0, -1) 0
      simp only at hls
      have hlk : 0 ≤ (lookB q (ballF 60 (knotMs ks)) (-1, 0)).2 ∧ (lookB q (ballF 60 (knotMs ks)) (-1, 0)).2 ≤ ks.length := by rw [hls]; simp only; omega
      have hrad := ballF_rad 60 (knotMs ks)
      have HLOOK : Hid (∀ w3, Below w.heap.size w w3 → 0 < ks.length → Calls Try.prog 97 #[.slice ao ks.length cap, .int .i64 0, .slice qa q.length qc, .pointer (some ⟨w3.heap.size, 0, none⟩)] (w3.alloc (.cells #[.int .i64 (-1), .int .i64 0] 124)) fun e w' => e = .returned (.tuple #[]) ∧ w'.cell? ⟨w3.heap.size, 1, none⟩ = some (.int .i64 (lookB q (ballF 60 (knotMs ks)) (-1, 0)).2) ∧ Below w.heap.size w w') := fun w3 L3 h0 => by
        obtain ⟨b, off, e, hb, hs⟩ : ∃ b off, ao = some ⟨b, off, none⟩ ∧ b < w3.heap.size ∧ KSeg w3 b off ks := by
          rcases hv.next L3 with h | h
          · rw [h] at h0; simp at h0
          · exact h
        subst e
        have hpl : (ballF 60 (knotMs ks)).place 0 = 0 := by rw [place_zero, if_neg (by omega)]
        have h := sLook6 b off cap ks qa qc q w3.heap.size w3 hb hs hsm.2 (hq.next L3) hqn (Nat.le_refl _) (ballF 60 (knotMs ks)) 0 (w3.alloc (.cells #[.int .i64 (-1), .int .i64 0] 124)) (-1) 0 ht hrad (alloc_below w3 _) (Two.new w3 _ _ _) (by omega) (by omega) (by omega) (by omega)
        rw [hpl] at h
        refine h.mono fun e w' ⟨he, h1, h2, _⟩ => ⟨he, h1.c1, ?_⟩
        exact below_grown (L3.alloc L3.size _) h2 (by have := L3.size; simp; omega) L3.size
      have hz0 : ks.length = 0 → (lookB q (ballF 60 (knotMs ks)) (-1, 0)).2 = 0 := fun h => by omega
      generalize (lookB q (ballF 60 (knotMs ks)) (-1, 0)).2 = v at *
      clear ht hf hz hms hml hmk hcnt hls hrad
      rcases Nat.eq_zero_or_pos ks.length with h0 | h0
      · have hv0 := hz0 h0
        subst hv0
        rw [h0]
        rw [h0] at HC HM HTO
        have hlb : ¬ ((0 : Int) > 0) := by omega
        go_enter Try.func38, Try.ntmps38
        go_wp2_with fail
        refine HC.out.mono ?_
        rintro e w1 ⟨rfl, L1⟩
        have HM1 := hidP (HM.out w1 L1)
        clear L1
        go_wp2_with fail
        refine HM1.out.mono ?_
        rintro e w2 ⟨g, c, rfl, hv2, L2⟩
        have HT2 := hidP (HTO.out g c w2 hv2 L2)
        have HL2 := hidP L2
        clear hv2 L2
        go_wp2_with fail
        refine HT2.out.mono ?_
        rintro e w3 ⟨rfl, n3, hw3⟩
        have HL3 : Hid (Below w.heap.size w w3) := by rw [hw3]; exact below_drewN HL2.out n3
        clear hw3
        go_wp2_with fail
        go_ret
        exact ⟨rfl, HL3.out.alloc HL3.out.size _⟩
      · have hlb : (ks.length : Int) > 0 := by omega
        go_enter Try.func38, Try.ntmps38
        go_wp2_with fail
        refine HC.out.mono ?_
        rintro e w1 ⟨rfl, L1⟩
        have HM1 := hidP (HM.out w1 L1)
        clear L1
        go_wp2_with fail
        refine HM1.out.mono ?_
        rintro e w2 ⟨g, c, rfl, hv2, L2⟩
        have HT2 := hidP (HTO.out g c w2 hv2 L2)
        have HL2 := hidP L2
        clear hv2 L2
        go_wp2_with fail
        refine HT2.out.mono ?_
        rintro e w3 ⟨rfl, n3, hw3⟩
        have HL3 : Hid (Below w.heap.size w w3) := by rw [hw3]; exact below_drewN HL2.out n3
        have HK3 := hidP (HLOOK.out w3 HL3.out h0)
        clear hw3
        go_wp2_with fail
        refine HK3.out.mono ?_
        rintro e w4 ⟨rfl, hc4, L4⟩
        have HL4 := hidP L4
        clear L4
        go_wp2_with fail
        go_ret
        exact ⟨rfl, HL4.out⟩

end Go.Proofs.Ythddhblmnfjciaa
namespace Go.Proofs.Ythddhblmnfjciaa
open Go Go.RowKit

set_option maxHeartbeats 400000 in
theorem iAheadS (a b : Ht) (w : World) :
    Calls Try.prog 165 #[.agg #[.int .i64 a.1, .int .i64 a.2], .agg #[.int .i64 b.1, .int .i64 b.2]] w fun e w' => e = .returned (.bool (aheadB a b)) ∧ Below w.heap.size w w' := by
  have L0 : Below w.heap.size w ((w.alloc (.cells #[.int .i64 a.1, .int .i64 a.2] 119)).alloc (.cells #[.int .i64 b.1, .int .i64 b.2] 119)) :=
    ((Below.refl _ _).alloc (Nat.le_refl _) _).alloc (by simp) _
  by_cases h1 : a.2 < b.2
  · have HV := hidP (ahead_lt h1)
    go_enter Try.func165, Try.ntmps165
    go_wp2_with fail
    go_ret
    exact ⟨ret_bool HV.out.symm, L0⟩
  · by_cases h2 : a.2 = b.2
    · have h2b : (a.2 == b.2) = true := by simp [h2]
      by_cases h3 : a.1 < b.1
      · have HV := hidP (ahead_id h2 h3)
        clear h2
        go_enter Try.func165, Try.ntmps165
        go_wp2_with fail
        go_ret
        exact ⟨ret_bool HV.out.symm, L0⟩
      · have HV := hidP (ahead_no h2 h3)
        clear h2
        go_enter Try.func165, Try.ntmps165
        go_wp2_with fail
        go_ret
        exact ⟨ret_bool HV.out.symm, L0⟩
    · have h2b : (a.2 == b.2) = false := by simp [h2]
      have HV := hidP (ahead_far h1 h2)
      clear h2
      go_enter Try.func165, Try.ntmps165
      go_wp2_with fail
      go_ret
      exact ⟨ret_bool HV.out.symm, L0⟩


set_option maxHeartbeats 400000 in
theorem iTill (qa : Option Addr) (qn qc : Nat) (w : World) :
    Calls Try.prog 139 #[.slice qa qn qc] w fun e w' => e = .returned (.tuple #[.func (.func 164) #[] #[.pointer (some ⟨w.heap.size, 0, none⟩), .pointer (some ⟨w.heap.size + 1, 0, none⟩)], .func (.func 166) #[] #[.pointer (some ⟨w.heap.size + 1, 0, none⟩)]]) ∧ w' = (w.alloc (.cells #[.slice qa qn qc] 130)).alloc (.cells #[.int .i64 0, .int .i64 (-1)] 119) := by
  go_enter Try.func139, Try.ntmps139
  go_wp2
  go_ret2
  exact ⟨rfl, rfl⟩

set_option maxHeartbeats 400000 in
theorem iKept (K : Nat) (k : Ht) (w : World) (h : Two w K (.int .i64 k.1) (.int .i64 k.2) 119) :
    Calls Try.prog 166 #[.pointer (some ⟨K, 0, none⟩)] w fun e w' => e = .returned (.agg #[.int .i64 k.1, .int .i64 k.2]) ∧ w' = w.alloc (.cells #[.int .i64 k.1, .int .i64 k.2] 119) := by
  have c0 := h.c0
  have c1 := h.c1
  have hl := h.lt
  have hne : ¬ w.heap.size = K := by omega
  go_enter Try.func166, Try.ntmps166
  go_wp2
  refine bodyPost_ret (v := .agg #[.int .i64 k.1, .int .i64 k.2]) (by simp [results, Try.results166, go_sem]) rfl ?_
  exact ⟨rfl, rfl⟩

set_option maxRecDepth 100000 in
set_option maxHeartbeats 2000000 in
theorem iShow (Q K : Nat) (d : Sm) (qa : Option Addr) (qc : Nat) (q : List Int) (k : Ht) (w : World) (hQ : Q < w.heap.size) (hc : w.cell? ⟨Q, 0, none⟩ = some (.slice qa q.length qc)) (hK : Two w K (.int .i64 k.1) (.int .i64 k.2) 119) (hq : View w qa q) (hd : View w d.2.1 d.2.2.2) (ht : twoB q d.2.2.2 = true) :
    Calls Try.prog 164 #[.agg #[.int .i64 d.1, .slice d.2.1 d.2.2.2.length d.2.2.1], .pointer (some ⟨Q, 0, none⟩), .pointer (some ⟨K, 0, none⟩)] w fun e w' => e = .returned (.int .i64 (stepsV q d.2.2.2)) ∧ Two w' K (.int .i64 (keptB k (d.1, stepsV q d.2.2.2)).1) (.int .i64 (keptB k (d.1, stepsV q d.2.2.2)).2) 119 ∧ w.grownBy w' (some K) := by
  obtain ⟨W1, hW1⟩ : ∃ W1, W1 = w.alloc (.cells #[.int .i64 d.1, .slice d.2.1 d.2.2.2.length d.2.2.1] 93) := ⟨_, rfl⟩
  have L1 : Below w.heap.size w W1 := by rw [hW1]; exact alloc_below w _
  have T1 : Two W1 w.heap.size (.int .i64 d.1) (.slice d.2.1 d.2.2.2.length d.2.2.1) 93 := by rw [hW1]; exact Two.new w _ _ _
  have hz1 : W1.heap.size = w.heap.size + 1 := by rw [hW1]; simp
  have x0 := T1.c0
  have x1 := T1.c1
  have xq := (L1.cell (p := ⟨Q, 0, none⟩) hQ).trans hc
  have hKl := hK.lt
  have HK1 := hidP (hK.below L1)
  have HS : Hid (∀ w', Below W1.heap.size W1 w' → w'.cell? ⟨w.heap.size, 0, none⟩ = some (.int .i64 d.1) ∧ w'.cell? ⟨w.heap.size, 1, none⟩ = some (.slice d.2.1 d.2.2.2.length d.2.2.1) ∧ w'.cell? ⟨Q, 0, none⟩ = some (.slice qa q.length qc)) := fun w' L => ⟨(L.cell (p := ⟨w.heap.size, 0, none⟩) (by show w.heap.size < W1.heap.size; omega)).trans x0, (L.cell (p := ⟨w.heap.size, 1, none⟩) (by show w.heap.size < W1.heap.size; omega)).trans x1, (L.cell (p := ⟨Q, 0, none⟩) (by show Q < W1.heap.size; omega)).trans xq⟩
  have HCB : Hid (Calls Try.prog 162 #[.slice qa q.length qc, .agg #[.int .i64 d.1, .slice d.2.1 d.2.2.2.length d.2.2.1]] W1.drew fun e w2 => e = .returned (.int .i64 (stepsV q d.2.2.2)) ∧ Below W1.heap.size W1 w2) :=
    (pStepsTo qa qc q d W1.drew (hq.next L1).drew (hd.next L1).drew ht).mono fun e w2 ⟨he, g⟩ => ⟨he, (Below.refl _ W1).drew.trans g.below⟩
  have LA : Below W1.heap.size W1 ((W1.alloc (.cells #[.int .i64 0, .int .i64 0] 119)).drew) := (alloc_below W1 _).drew
  have HCA : Hid (Calls Try.prog 162 #[.slice qa q.length qc, .agg #[.int .i64 d.1, .slice d.2.1 d.2.2.2.length d.2.2.1]] ((W1.alloc (.cells #[.int .i64 0, .int .i64 0] 119)).drew) fun e w2 => e = .returned (.int .i64 (stepsV q d.2.2.2)) ∧ Two w2 W1.heap.size (.int .i64 0) (.int .i64 0) 119 ∧ Below W1.heap.size W1 w2) :=
    (pStepsTo qa qc q d _ ((hq.next L1).next LA) ((hd.next L1).next LA) ht).mono fun e w2 ⟨he, g⟩ => ⟨he, (show Two ((W1.alloc (.cells #[.int .i64 0, .int .i64 0] 119)).drew) W1.heap.size _ _ 119 from Two.new W1 _ _ _).below g.below, LA.trans (g.below.mono (by simp))⟩
  generalize stepsV q d.2.2.2 = st at *
  have HL1 := hidP L1
  have HZ1 := hidP hz1
  clear hc hq hd L1 T1 LA hz1 hK
  go_enter Try.func164, Try.ntmps164
  go_wp2_with fail
  rw [← hW1]
  clear hW1
  go_cut [5] from 6 to 22 (fun sp wx => ∃ sB, sp = .pointer (some ⟨sB, 0, none⟩) ∧ Two wx sB (.int .i64 d.1) (.int .i64 st) 119 ∧ W1.heap.size ≤ sB ∧ Below W1.heap.size W1 wx)
  case first =>
    go_region_held3 (fun w' => w'.cell? ⟨w.heap.size, 0, none⟩ = some (.int .i64 d.1) ∧ w'.cell? ⟨w.heap.size, 1, none⟩ = some (.slice d.2.1 d.2.2.2.length d.2.2.1) ∧ w'.cell? ⟨Q, 0, none⟩ = some (.slice qa q.length qc))
      (first
        | (refine HS.out _ ?_; repeat' (first | (with_reducible exact Below.refl _ _) | (with_reducible exact L2) | (with_reducible refine Below.drew ?_) | (with_reducible refine below_alloc ?_ _) | (with_reducible refine set_below ?_ (Nat.le_refl _) _)))
        | go_keep)
      (first
        | (go_at_call 162; with_reducible refine HCB.out.mono ?_; rintro e w2 ⟨rfl, L2⟩)
        | (go_at_call 162; with_reducible refine HCA.out.mono ?_; rintro e w2 ⟨rfl, T2, L2⟩; have k0 := T2.c0; have k1 := T2.c1; have f0 := T2.frozen 0; have f1 := T2.frozen 1))
    all_goals
      go_wp2_with fail
      go_meet
      first
      | exact ⟨_, rfl, Two.new _ _ _ _, L2.size, L2.alloc L2.size _⟩
      | exact ⟨_, rfl, (T2.set0 _).set1 _, Nat.le_refl _, set_below (set_below L2 (Nat.le_refl _) _) (Nat.le_refl _) _⟩
  case rest =>
    obtain ⟨sB, rfl, T2, hsB, L2⟩ := hcut
    have TK := HK1.out.below L2
    have a0 := T2.c0
    have a1 := T2.c1
    have b0 := TK.c0
    have b1 := TK.c1
    have f0 := TK.frozen 0
    have f1 := TK.frozen 1
    have hz1 := HZ1.out
    have hne : K ≠ sB := by omega
    have LW : Below w.heap.size w wc := HL1.out.trans (L2.mono (by omega))
    clear HS HCB HCA x0 x1 xq hz1 HZ1
    by_cases hk : k.2 < 0
    · have HV := hidP (show keptB k (d.1, st) = (d.1, st) by simp [keptB, hk])
      have e1 := ((T2.far (i := 0) hne (.int .i64 d.1)).far (i := 1) hne (.int .i64 st)).c1
      go_wp2_with fail
      go_ret
      rw [HV.out]
      exact ⟨rfl, (TK.set0 _).set1 _, grown_after LW ((grown_setCell _ _ _ _).trans (grown_setCell _ _ _ _))⟩
    · by_cases ha : aheadB (d.1, st) k = true
      · have HV := hidP (show keptB k (d.1, st) = (d.1, st) by simp [keptB, ha])
        go_wp2_with (go_at_call 165; with_reducible refine (iAheadS (d.1, st) k _).mono ?_; rintro e w3 ⟨rfl, L3⟩; rw [ha]; have T3 := T2.below L3; have TK3 := TK.below L3; have a0 := T3.c0; have a1 := T3.c1; have b0 := TK3.c0; have b1 := TK3.c1; have f0 := TK3.frozen 0; have f1 := TK3.frozen 1; have e1 := ((T3.far (i := 0) hne (.int .i64 d.1)).far (i := 1) hne (.int .i64 st)).c1)
        go_ret
        rw [HV.out]
        exact ⟨rfl, (TK3.set0 _).set1 _, grown_after (LW.trans (L3.mono LW.size)) ((grown_setCell _ _ _ _).trans (grown_setCell _ _ _ _))⟩
      · have HV := hidP (show keptB k (d.1, st) = k by simp [keptB, ha, hk])
        go_wp2_with (go_at_call 165; with_reducible refine (iAheadS (d.1, st) k _).mono ?_; rintro e w3 ⟨rfl, L3⟩; rw [Bool.eq_false_iff.mpr ha]; have T3 := T2.below L3; have TK3 := TK.below L3; have a1 := T3.c1)
        go_ret
        rw [HV.out]
        exact ⟨rfl, TK3, grown_after (LW.trans (L3.mono LW.size)) (grown_refl _ _)⟩

end Go.Proofs.Ythddhblmnfjciaa
namespace Go.Proofs.Ythddhblmnfjciaa
open Go Go.RowKit

set_option maxHeartbeats 400000 in
theorem iFrom0 (ao : Option Addr) (n cap : Nat) (f g : Value) (w : World) :
    Calls Try.prog 140 #[.slice ao n cap, .int .i64 (-1), f, g] w fun e w' => e = .returned (.int .i64 0) ∧ w' = w := by
  go_enter Try.func140, Try.ntmps140
  go_wp2
  go_ret
  exact ⟨rfl, rfl⟩

theorem fld99 (a b : Value) (w : World) : Sem.run Try.prog (Instr.field 119 (.agg #[a, b]) 1) w = .ok b w := by
  kernel_rfl

set_option maxRecDepth 100000 in
set_option maxHeartbeats 4000000 in
theorem iFrom (bl off cap Q K : Nat) (ks : List Kn) (qa : Option Addr) (qc : Nat) (q : List Int) (W0 : World) (hbl : bl < W0.heap.size) (hs : KSeg W0 bl off ks) (hq : View W0 qa q) (htw : ∀ i, i < ks.length → twoB q (knth ks i).1.2 = true) (hQK : Q < K) (hQ : W0.heap.size ≤ Q) (t : Tr) :
    ∀ (p : Nat) (w : World) (k : Ht), TAt ks t p → t.all (fun _ x _ _ => x ≤ 8000) → Below W0.heap.size W0 w → w.cell? ⟨Q, 0, none⟩ = some (.slice qa q.length qc) → Two w K (.int .i64 k.1) (.int .i64 k.2) 119 → -1 ≤ k.2 → k.2 ≤ 8000 → t.size ≤ 1048576 →
    Calls Try.prog 140 #[.slice (some ⟨bl, off, none⟩) ks.length cap, .int .i64 (t.place p), .func (.func 164) #[] #[.pointer (some ⟨Q, 0, none⟩), .pointer (some ⟨K, 0, none⟩)], .func (.func 166) #[] #[.pointer (some ⟨K, 0, none⟩)]] w fun e w' => e = .returned (.int .i64 (seekB q t k).2) ∧ Two w' K (.int .i64 (seekB q t k).1.1) (.int .i64 (seekB q t k).1.2) 119 ∧ w.grownBy w' (some K) ∧ (-1 ≤ (seekB q t k).1.2 ∧ (seekB q t k).1.2 ≤ 8000) := by
  induction t with
  | leaf =>
    intro p w k _ _ hw hc h2 hk1 hk2 _
    refine (iFrom0 _ _ _ _ _ w).mono ?_
    rintro e w' ⟨rfl, rfl⟩
    exact ⟨rfl, h2, grown_refl _ _, hk1, hk2⟩
  | node m rad l r ihl ihr =>
    intro p w k ht hrad hw hcq h2 hk1 hk2 hns
    obtain ⟨hp, ⟨c0, ⟨ao, ca, c1, hv⟩, c2, c3, c4⟩, htl, htr⟩ := tat_at ht hs
    obtain ⟨hr0, hrl, hrr⟩ := hrad
    have hm : twoB q m.2 = true := by
      obtain ⟨_, hk, _, _⟩ := ht
      have e : knth ks p = (m, (rad : Int), l.place (p + 1), r.place (p + 1 + l.size)) := hk
      have := htw p hp
      rw [e] at this; exact this
    have a0 := (hw.cell (p := ⟨bl, off + p * 5, none⟩) hbl).trans c0
    have a1 := (hw.cell (p := ⟨bl, off + p * 5 + 1, none⟩) hbl).trans c1
    have a2 := (hw.cell (p := ⟨bl, off + p * 5 + 2, none⟩) hbl).trans c2
    have a3 := (hw.cell (p := ⟨bl, off + p * 5 + 3, none⟩) hbl).trans c3
    have a4 := (hw.cell (p := ⟨bl, off + p * 5 + 4, none⟩) hbl).trans c4
    simp only at a0 a1 a2 a3 a4
    have hpl : (0 : Int) ≤ (p : Int) := Int.natCast_nonneg _
    have hpi : (p : Int) < (ks.length : Int) := by omega
    have hsz : (Tr.node m rad l r).size = l.size + r.size + 1 := rfl
    rw [hsz] at hns
    show Calls Try.prog 140 #[.slice (some ⟨bl, off, none⟩) ks.length cap, .int .i64 (p : Int), .func (.func 164) #[] #[.pointer (some ⟨Q, 0, none⟩), .pointer (some ⟨K, 0, none⟩)], .func (.func 166) #[] #[.pointer (some ⟨K, 0, none⟩)]] w _
    generalize hx : l.place (p + 1) = x at *
    generalize hy : r.place (p + 1 + l.size) = y at *
    have hKl := h2.lt
    obtain ⟨W1, hW1⟩ : ∃ W1, W1 = w.alloc (.cells #[.int .i64 m.1, .slice ao m.2.length ca, .int .i64 rad, .int .i64 x, .int .i64 y] 107) := ⟨_, rfl⟩
    have L1 : Below w.heap.size w W1 := by rw [hW1]; exact alloc_below w _
    have hz1 : W1.heap.size = w.heap.size + 1 := by rw [hW1]; simp
    have F1 : Five W1 w.heap.size (.int .i64 m.1) (.slice ao m.2.length ca) (.int .i64 rad) (.int .i64 x) (.int .i64 y) 107 := by rw [hW1]; exact Five.new w _ _ _ _ _ _
    have B1 : Below W0.heap.size W0 W1 := hw.trans (L1.mono hw.size)
    have HSH := hidP (iShow Q K (m.1, ao, ca, m.2) qa qc q k W1 (by omega) ((L1.cell (p := ⟨Q, 0, none⟩) (by show Q < w.heap.size; omega)).trans hcq) (h2.below L1) (hq.next B1) (hv.next B1) hm)
    obtain ⟨g0, g1, g2, g3, g4⟩ := F1.cells
    have HA := hidP ihl
    have HB := hidP ihr
    have HW := hidP hw
    have HTL := hidP (And.intro htl htr)
    have HRL := hidP (And.intro hrl hrr)
    have HF1 := hidP (And.intro F1 L1)
    clear ihl ihr ht hs hw hv hq htl htr hrl hrr c0 c1 c2 c3 c4 F1 B1 L1
    go_enter Try.func140, Try.ntmps140
    go_wp2_with fail
    rw [← hW1]
    refine HSH.out.mono ?_
    rintro e w2 ⟨rfl, T2, G2⟩
    have hst := steps_le q m.2
    generalize hd : stepsV q m.2 = d at *
    obtain ⟨k1, hk1'⟩ : ∃ k1, k1 = keptB k (m.1, d) := ⟨_, rfl⟩
    have hbb : -1 ≤ k1.2 ∧ k1.2 ≤ 8000 := by rw [hk1', keptB_2]; unfold leastV; simp only; split <;> omega
    obtain ⟨u, hu⟩ : ∃ u : Ht × Int, u = (if d - (rad : Int) ≤ k1.2 then seekB q l k1 else (k1, 0)) := ⟨_, rfl⟩
    obtain ⟨v, hv⟩ : ∃ v : Ht × Int, v = (if (rad : Int) - d ≤ u.1.2 then seekB q r u.1 else (u.1, 0)) := ⟨_, rfl⟩
    have HVAL : Hid (seekB q (.node m rad l r) k = (v.1, 1 + u.2 + v.2)) := by
      show seekB q (.node m rad l r) k = _
      simp only [seekB]
      rw [hd, ← hk1', ← hu, ← hv]
    rw [← hk1'] at T2
    have hne : K ≠ w.heap.size := by omega
    have HF2 := hidP (HF1.out.1.kept G2 (fun e => by injection e with e; omega))
    have HG2 := hidP (grown_after HF1.out.2 G2)
    have HT2 := hidP T2
    have hrd : (rad : Int) ≤ 8000 := by omega
    have hrd0 : (0 : Int) ≤ (rad : Int) := Int.natCast_nonneg _
    have HREC : Hid (∀ (wx : World) (kk : Ht), Two wx K (.int .i64 kk.1) (.int .i64 kk.2) 119 → w.grownBy wx (some K) → -1 ≤ kk.2 → kk.2 ≤ 8000 →
        Calls Try.prog 140 #[.slice (some ⟨bl, off, none⟩) ks.length cap, .int .i64 x, .func (.func 164) #[] #[.pointer (some ⟨Q, 0, none⟩), .pointer (some ⟨K, 0, none⟩)], .func (.func 166) #[] #[.pointer (some ⟨K, 0, none⟩)]] wx fun e w' => e = .returned (.int .i64 (seekB q l kk).2) ∧ Two w' K (.int .i64 (seekB q l kk).1.1) (.int .i64 (seekB q l kk).1.2) 119 ∧ wx.grownBy w' (some K) ∧ (-1 ≤ (seekB q l kk).1.2 ∧ (seekB q l kk).1.2 ≤ 8000)) := fun wx kk t g h1 h2 => by
      have hws := HW.out.size
      have := HA.out (p + 1) wx kk HTL.out.1 HRL.out.1 (below_grown HW.out g (by omega) (by omega)) ((cell_grown (by omega) g (fun e => by injection e with e; omega)).trans hcq) t h1 h2 (by omega)
      rwa [hx] at this
    have HREC2 : Hid (∀ (wx : World) (kk : Ht), Two wx K (.int .i64 kk.1) (.int .i64 kk.2) 119 → w.grownBy wx (some K) → -1 ≤ kk.2 → kk.2 ≤ 8000 →
        Calls Try.prog 140 #[.slice (some ⟨bl, off, none⟩) ks.length cap, .int .i64 y, .func (.func 164) #[] #[.pointer (some ⟨Q, 0, none⟩), .pointer (some ⟨K, 0, none⟩)], .func (.func 166) #[] #[.pointer (some ⟨K, 0, none⟩)]] wx fun e w' => e = .returned (.int .i64 (seekB q r kk).2) ∧ Two w' K (.int .i64 (seekB q r kk).1.1) (.int .i64 (seekB q r kk).1.2) 119 ∧ wx.grownBy w' (some K) ∧ (-1 ≤ (seekB q r kk).1.2 ∧ (seekB q r kk).1.2 ≤ 8000)) := fun wx kk t g h1 h2 => by
      have hws := HW.out.size
      have := HB.out (p + 1 + l.size) wx kk HTL.out.2 HRL.out.2 (below_grown HW.out g (by omega) (by omega)) ((cell_grown (by omega) g (fun e => by injection e with e; omega)).trans hcq) t h1 h2 (by omega)
      rwa [hy] at this
    have hc1 := seek_count q l k1
    have hc2 := seek_count q r u.1
    have hub : 0 ≤ u.2 ∧ u.2 ≤ l.size := by rw [hu]; split; exact ⟨hc1.1, hc1.2.1⟩; simp
    have hww : IntKind.i64.wrap (d - (rad : Int)) = d - (rad : Int) := IntWalk.i64_in _ ⟨by omega, by omega⟩
    have hww2 : IntKind.i64.wrap ((rad : Int) - d) = (rad : Int) - d := IntWalk.i64_in _ ⟨by omega, by omega⟩
    have HU := hidP hu
    have HVV := hidP hv
    have hws1 : IntKind.i64.wrap (1 + (seekB q l k1).2) = 1 + (seekB q l k1).2 := IntWalk.i64_in _ ⟨by omega, by omega⟩
    have hws2 : IntKind.i64.wrap (1 + u.2 + (seekB q r u.1).2) = 1 + u.2 + (seekB q r u.1).2 := IntWalk.i64_in _ ⟨by omega, by omega⟩
    have HS : Hid (∀ w', Below w2.heap.size w2 w' → w'.cell? ⟨w.heap.size, 2, none⟩ = some (.int .i64 rad)) := fun w' L => (L.cell (p := ⟨w.heap.size, 2, none⟩) HF2.out.lt).trans HF2.out.cells.2.2.1
    have HCB : Hid (Calls Try.prog 166 #[.pointer (some ⟨K, 0, none⟩)] w2.drew fun e w3 => e = .returned (.agg #[.int .i64 k1.1, .int .i64 k1.2]) ∧ Below w2.heap.size w2 w3) := (iKept K k1 w2.drew HT2.out).mono fun e w3 ⟨he, g⟩ => ⟨he, by rw [g]; exact (Below.refl _ w2).drew.alloc (Nat.le_refl _) _⟩
    clear hW1 a0 a1 a2 a3 a4 g0 g1 g2 g3 g4 HSH HA HB HF1 T2 G2 hu hv hk1' hcq h2 hz1 hx hy hsz htw
    have hfld := fun w => fld99 (.int .i64 k1.1) (.int .i64 k1.2) w
    have hfld2 := fun w => fld99 (.int .i64 u.1.1) (.int .i64 u.1.2) w
    go_wp2_with fail
    go_cut [29] from 12 to 54 (fun bv wx => bv = .bool (decide (d - (rad : Int) ≤ k1.2)) ∧ Below w2.heap.size w2 wx)
    case first =>
      go_region_held3 (fun w' => w'.cell? ⟨w.heap.size, 2, none⟩ = some (.int .i64 rad))
        (first
          | (refine HS.out _ ?_; repeat' (first | (with_reducible exact Below.refl _ _) | (with_reducible exact L3) | (with_reducible refine Below.drew ?_)))
          | go_keep)
        (first | (go_at_call 166; with_reducible refine HCB.out.mono ?_; rintro e w3 ⟨rfl, L3⟩))
      all_goals
        go_wp2_with fail
        go_meet
        exact ⟨rfl, L3⟩
    obtain ⟨rfl, L3⟩ := hcut
    have HL3 := hidP L3
    have HF3 := hidP (HF2.out.below L3)
    have HT3 := hidP (HT2.out.below L3)
    have HG3 := hidP (grown_then HG2.out L3)
    clear L3 HS HCB
    go_upto_if 29 with fail
    go_cut [11] from 12 to 54 (fun lk wx => lk = .int .i64 (1 + u.2) ∧ Two wx K (.int .i64 u.1.1) (.int .i64 u.1.2) 119 ∧ Five wx w.heap.size (.int .i64 m.1) (.slice ao m.2.length ca) (.int .i64 rad) (.int .i64 x) (.int .i64 y) 107 ∧ w.grownBy wx (some K) ∧ -1 ≤ u.1.2 ∧ u.1.2 ≤ 8000)
    case first =>
      by_cases c1 : d - (rad : Int) ≤ k1.2
      · have c1b : decide (d - (rad : Int) ≤ k1.2) = true := by simp [c1]
        have HEU := hidP (show u = seekB q l k1 by rw [HU.out, if_pos c1])
        obtain ⟨_, _, j2, j3, j4⟩ := HF3.out.cells
        go_wp2_with (go_at_call 140; with_reducible refine (HREC.out _ k1 HT3.out HG3.out hbb.1 hbb.2).mono ?_; rintro e w4 ⟨rfl, T4, G4, hb4⟩)
        go_meet
        rw [HEU.out]
        exact ⟨rfl, T4, HF3.out.kept G4 (fun e => by injection e with e; omega), grownK_trans HG3.out G4 (Or.inl rfl), hb4.1, hb4.2⟩
      · have c1b : decide (d - (rad : Int) ≤ k1.2) = false := by simp [c1]
        have HEU := hidP (show u = (k1, 0) by rw [HU.out, if_neg c1])
        go_wp2_with fail
        go_meet
        rw [HEU.out]
        exact ⟨rfl, HT3.out, HF3.out, HG3.out, hbb.1, hbb.2⟩
    case rest =>
      obtain ⟨rfl, T5, F5, G5, hb5⟩ := hcut
      have HT5 := hidP T5
      have HF5 := hidP F5
      have HG5 := hidP G5
      have HS5 : Hid (∀ w', Below wc.heap.size wc w' → w'.cell? ⟨w.heap.size, 2, none⟩ = some (.int .i64 rad)) := fun w' L => (L.cell (p := ⟨w.heap.size, 2, none⟩) HF5.out.lt).trans HF5.out.cells.2.2.1
      have HC5 : Hid (Calls Try.prog 166 #[.pointer (some ⟨K, 0, none⟩)] wc.drew fun e w3 => e = .returned (.agg #[.int .i64 u.1.1, .int .i64 u.1.2]) ∧ Below wc.heap.size wc w3) := (iKept K u.1 wc.drew HT5.out).mono fun e w3 ⟨he, g⟩ => ⟨he, by rw [g]; exact (Below.refl _ wc).drew.alloc (Nat.le_refl _) _⟩
      clear T5 F5 G5 HREC HT2 HF2 HG2 HU HL3 HF3 HT3 HG3
      by_cases c2 : (rad : Int) - d ≤ u.1.2
      · have c2b : decide ((rad : Int) - d ≤ u.1.2) = true := by simp [c2]
        have HEV := hidP (show v = seekB q r u.1 by rw [HVV.out, if_pos c2])
        go_wp2_with fail
        go_region_held3 (fun w' => w'.cell? ⟨w.heap.size, 2, none⟩ = some (.int .i64 rad))
          (first
            | (refine HS5.out _ ?_; repeat' (first | (with_reducible exact Below.refl _ _) | (with_reducible exact L3) | (with_reducible refine Below.drew ?_)))
            | go_keep)
          (first | (go_at_call 166; with_reducible refine HC5.out.mono ?_; rintro e w3 ⟨rfl, L3⟩))
        all_goals
          have F3 := HF5.out.kept (grown_below L3) (by simp)
          obtain ⟨_, _, j2, j3, j4⟩ := F3.cells
          go_wp2_with (go_at_call 140; with_reducible refine (HREC2.out w3 u.1 (HT5.out.below L3) (grown_then HG5.out L3) hb5.1 hb5.2).mono ?_; rintro e w4 ⟨rfl, T4, G4, hb4⟩)
          go_ret
          rw [HVAL.out, HEV.out]
          exact ⟨rfl, T4, grownK_trans (grown_then HG5.out L3) G4 (Or.inl rfl), hb4.1, hb4.2⟩
      · have c2b : decide ((rad : Int) - d ≤ u.1.2) = false := by simp [c2]
        have HEV := hidP (show v = (u.1, 0) by rw [HVV.out, if_neg c2])
        go_wp2_with fail
        go_region_held3 (fun w' => w'.cell? ⟨w.heap.size, 2, none⟩ = some (.int .i64 rad))
          (first
            | (refine HS5.out _ ?_; repeat' (first | (with_reducible exact Below.refl _ _) | (with_reducible exact L3) | (with_reducible refine Below.drew ?_)))
            | go_keep)
          (first | (go_at_call 166; with_reducible refine HC5.out.mono ?_; rintro e w3 ⟨rfl, L3⟩))
        all_goals
          go_wp2_with fail
          go_ret
          rw [HVAL.out, HEV.out]
          exact ⟨by simp, HT5.out.below L3, grown_then HG5.out L3, hb5.1, hb5.2⟩

end Go.Proofs.Ythddhblmnfjciaa
namespace Go.Proofs.Ythddhblmnfjciaa
open Go Go.RowKit

set_option maxHeartbeats 400000 in
theorem iTopV (ao : Option Addr) (n cap : Nat) (w : World) (hn : n ≤ 1048576) :
    Calls Try.prog 141 #[.slice ao n cap] w fun e w' => e = .returned (.int .i64 (if n = 0 then -1 else 0)) ∧ w' = w := by
  by_cases h : n = 0
  · subst h
    go_enter Try.func141, Try.ntmps141
    go_wp2
    go_ret
    exact ⟨rfl, rfl⟩
  · have HV : Hid ((if n = 0 then (-1 : Int) else 0) = min 0 ((n : Int) - 1)) := by show (if n = 0 then (-1 : Int) else 0) = _; rw [if_neg h]; omega
    rw [HV.out]
    clear HV
    go_enter Try.func141, Try.ntmps141
    go_wp2
    go_ret
    exact ⟨rfl, rfl⟩

theorem iFromTop (ao qa : Option Addr) (cap qc : Nat) (ks : List Kn) (q : List Int) (w : World) (hv : KView w ao ks) (hn : ks.length ≤ 1048576) (hq : View w qa q) (t : Tr) (ht : TAt ks t 0) (hrad : t.all (fun _ x _ _ => x ≤ 8000)) (hz : t.size = ks.length) (htw : ∀ i, i < ks.length → twoB q (knth ks i).1.2 = true) (n : Nat) :
    Calls Try.prog 140 #[.slice ao ks.length cap, .int .i64 (if ks.length = 0 then -1 else 0), .func (.func 164) #[] #[.pointer (some ⟨w.heap.size, 0, none⟩), .pointer (some ⟨w.heap.size + 1, 0, none⟩)], .func (.func 166) #[] #[.pointer (some ⟨w.heap.size + 1, 0, none⟩)]] (((w.alloc (.cells #[.slice qa q.length qc] 130)).alloc (.cells #[.int .i64 0, .int .i64 (-1)] 119)).drewN n) fun e w' => e = .returned (.int .i64 (seekB q t (0, -1)).2) ∧ Two w' (w.heap.size + 1) (.int .i64 (seekB q t (0, -1)).1.1) (.int .i64 (seekB q t (0, -1)).1.2) 119 ∧ Below w.heap.size w w' := by
  have L1 : Below w.heap.size w (((w.alloc (.cells #[.slice qa q.length qc] 130)).alloc (.cells #[.int .i64 0, .int .i64 (-1)] 119)).drewN n) := below_drewN (((Below.refl _ _).alloc (Nat.le_refl _) _).alloc (by simp) _) n
  have T1 : Two (((w.alloc (.cells #[.slice qa q.length qc] 130)).alloc (.cells #[.int .i64 0, .int .i64 (-1)] 119)).drewN n) (w.heap.size + 1) (.int .i64 0) (.int .i64 (-1)) 119 := show Two ((w.alloc (.cells #[.slice qa q.length qc] 130)).alloc (.cells #[.int .i64 0, .int .i64 (-1)] 119)) (w.heap.size + 1) _ _ 119 from (by have h := Two.new (w.alloc (.cells #[.slice qa q.length qc] 130)) (.int .i64 0) (.int .i64 (-1)) 119; simpa using h)
  have hpl : t.place 0 = if ks.length = 0 then -1 else 0 := by rw [place_zero, hz]
  rcases hv with h | ⟨b, off, e, hb, hs⟩
  · have h0 : ks.length = 0 := by rw [h]; rfl
    cases t with
    | leaf =>
      rw [if_pos h0]
      refine (iFrom0 _ _ _ _ _ _).mono ?_
      rintro e w' ⟨rfl, rfl⟩
      exact ⟨rfl, T1, L1⟩
    | node m rad l r =>
      have : (Tr.node m rad l r).size = l.size + r.size + 1 := rfl
      omega
  · subst e
    have hc : (((w.alloc (.cells #[.slice qa q.length qc] 130)).alloc (.cells #[.int .i64 0, .int .i64 (-1)] 119)).drewN n).cell? ⟨w.heap.size, 0, none⟩ = some (.slice qa q.length qc) := by
      show ((w.alloc (.cells #[.slice qa q.length qc] 130)).alloc (.cells #[.int .i64 0, .int .i64 (-1)] 119)).cell? ⟨w.heap.size, 0, none⟩ = _
      simp [go_sem]
    have h := iFrom b off cap w.heap.size (w.heap.size + 1) ks qa qc q w hb hs hq htw (by omega) (Nat.le_refl _) t 0 _ (0, -1) ht hrad L1 hc T1 (by simp) (by simp) (by omega)
    rw [hpl] at h
    exact h.mono fun e w' ⟨he, h1, h2, _⟩ => ⟨he, h1, L1.grown h2 L1.size (by intro x hx; cases hx; omega)⟩

set_option maxRecDepth 100000 in
set_option maxHeartbeats 1000000 in
theorem iThru (ao qa : Option Addr) (cap qc : Nat) (ks : List Kn) (q : List Int) (w : World) (hv : KView w ao ks) (hn : ks.length ≤ 1048576) (hq : View w qa q) (t : Tr) (ht : TAt ks t 0) (hrad : t.all (fun _ x _ _ => x ≤ 8000)) (hz : t.size = ks.length) (htw : ∀ i, i < ks.length → twoB q (knth ks i).1.2 = true) :
    Calls Try.prog 96 #[.slice ao ks.length cap, .slice qa q.length qc] w fun e w' => e = .returned (.tuple #[.agg #[.int .i64 (seekB q t (0, -1)).1.1, .int .i64 (seekB q t (0, -1)).1.2], .int .i64 (seekB q t (0, -1)).2]) ∧ Below w.heap.size w w' := by
  obtain ⟨W1, hW1⟩ : ∃ W1, W1 = w.alloc (.cells #[.int .i64 0, .int .i64 0] 119) := ⟨_, rfl⟩
  have L1 : Below w.heap.size w W1 := by rw [hW1]; exact alloc_below w _
  have hz1 : W1.heap.size = w.heap.size + 1 := by rw [hW1]; simp
  have HT1 : Hid (Two W1 w.heap.size (.int .i64 0) (.int .i64 0) 119) := by rw [hW1]; exact Two.new w _ _ _
  have HFR := hidP (iFromTop ao qa cap qc ks q W1 (hv.next L1) hn (hq.next L1) t ht hrad hz htw 0)
  have HTI := hidP (iTill qa q.length qc W1)
  have HTO : Hid (∀ w', Calls Try.prog 141 #[.slice ao ks.length cap] w' fun e w'' => e = .returned (.int .i64 (if ks.length = 0 then -1 else 0)) ∧ w'' = w') := fun w' => iTopV ao ks.length cap w' hn
  have HL1 := hidP L1
  have HZ1 := hidP hz1
  clear hv hq ht hrad hz htw L1 hz1
  generalize seekB q t (0, -1) = s at *
  generalize (if ks.length = 0 then (-1 : Int) else 0) = z at *
  go_enter Try.func96, Try.ntmps96
  go_wp2_with fail
  rw [← hW1]
  clear hW1
  refine HTI.out.mono ?_
  rintro e w1 ⟨rfl, rfl⟩
  go_wp2_with fail
  refine (HTO.out _).mono ?_
  rintro e w2 ⟨rfl, rfl⟩
  go_wp2_with fail
  refine HFR.out.mono ?_
  rintro e w3 ⟨rfl, T3, L3⟩
  have HK3 := hidP (iKept _ s.1 w3 T3)
  have TR := HT1.out.below L3
  have HL3 := hidP (HL1.out.trans (L3.mono HL1.out.size))
  clear L3 T3
  go_wp2_with fail
  refine HK3.out.mono ?_
  rintro e w4 ⟨rfl, hw4⟩
  have T4 : Two w4 w.heap.size (.int .i64 0) (.int .i64 0) 119 := by rw [hw4]; exact TR.below (alloc_below _ _)
  have HL4 : Hid (Below w.heap.size w w4) := by rw [hw4]; exact HL3.out.alloc HL3.out.size _
  clear hw4 TR
  have f0 := T4.frozen 0
  have f1 := T4.frozen 1
  have a0 := T4.c0
  have a1 := T4.c1
  have T5 := (T4.set0 (.int .i64 s.1.1)).set1 (.int .i64 s.1.2)
  have b0 := T5.c0
  have b1 := T5.c1
  go_wp2_with fail
  refine bodyPost_ret (v := .tuple #[.agg #[.int .i64 s.1.1, .int .i64 s.1.2], .int .i64 s.2]) (by simp [results, Try.results96, go_sem, b0, b1]) rfl ?_
  exact ⟨rfl, set_below (set_below HL4.out (Nat.le_refl _) _) (Nat.le_refl _) _⟩

end Go.Proofs.Ythddhblmnfjciaa
