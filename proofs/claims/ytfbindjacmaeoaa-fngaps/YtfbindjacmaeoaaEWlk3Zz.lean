/-
  Rows of numbers, up to sixty in each, that are handed out: marked, and held; the walk of FnExactGroups over what the program's own function answers.
-/
import Derived.Test.YtfbindjacmaeoaaEWalkZz
import Derived.Test.YtfbindjacmaeoaaESpGZz
import Derived.Test.YtfbindjacmaeoaaJRwZz
namespace Go.Proofs.Ytfbindjacmaeoaa
open Go Go.RowKit

set_option maxHeartbeats 1000000 in
theorem markSL (base g c : Nat) (rs : List Rw) (k0 : Int) (w : World) (hm : LMem base w g c rs) (hn : rs.length ≤ 60) (hat : ∀ r ∈ rs, r.2.2.length ≤ 60) (h0 : 1 ≤ k0) (h1 : k0 ≤ 1000000) :
    Calls Try.prog 41 #[.slice (some ⟨g, 0, none⟩) rs.length c, .int .i64 k0] w fun e w' => e = .returned (.int .i64 (k0 + totR rs)) ∧ LMem base w' g c (mkRs k0 rs) ∧ ChgL rs w w' := by
  have HM := hidP hm
  have HAT := hidP hat
  have htot := totR_le rs 60 60 hn hat
  clear hm hat
  go_enter Try.func41, Try.ntmps41
  go_wp2_with fail
  go_loopw [1, 5] (fun kk i wr => ∃ j : Nat, j ≤ rs.length ∧ i = .int .i64 j ∧ kk = .int .i64 (k0 + totR (rs.take j)) ∧ LRow base wr g c rs ∧ (∀ i (h : i < rs.length), IRow base wr rs[i].1 rs[i].2.1 (if i < j then ((mkRs k0 rs)[i]'(by rw [mkRs_length]; exact h)).2.2 else rs[i].2.2)) ∧ ChgL rs w wr) (fun _ i _ => rs.length - (intOf i).toNat)
  case atStart => exact ⟨0, Nat.zero_le _, rfl, by simp [totR], HM.out.row, fun i h => by rw [if_neg (by omega)]; exact HM.out.rows _ (List.getElem_mem h), rfl, rfl, rfl, Nat.le_refl _, fun _ _ _ => rfl⟩
  case round =>
    obtain ⟨j, hj, rfl, rfl, hrow, hrows, hchg⟩ := hrel
    by_cases hlt : j < rs.length
    · have hc := hrow.cell j hlt
      have hr := hrows j hlt
      rw [if_neg (by omega)] at hr
      have hl4 := HAT.out _ (List.getElem_mem hlt)
      have ht1 := totR_le (rs.take j) 60 60 (by simp; omega) (fun x hx => HAT.out x (List.mem_of_mem_take hx))
      have HMK := hidP (markI base rs[j].1 rs[j].2.1 (k0 + totR (rs.take j)) rs[j].2.2 wr hr (by omega) (by omega) (by omega))
      have HTK := hidP (totR_take rs j hlt)
      have HAJ := hidP (mkRs_at k0 rs j hlt)
      have hbw : IntKind.i64.wrap (k0 + totR (rs.take j)) = k0 + totR (rs.take j) := IntWalk.i64_in _ ⟨by omega, by omega⟩
      have HP := hidP (And.intro hrow (And.intro hrows hchg))
      have hi0 : (0 : Int) ≤ (j : Int) := Int.natCast_nonneg _
      have hi1 : (j : Int) < (rs.length : Int) := by omega
      clear hrow hrows hchg hr
      unfold rwV at hc
      go_wp2_with fail
      refine HMK.out.mono ?_
      rintro e w2 ⟨rfl, r2, g2⟩
      have HR2 := hidP (And.intro r2 g2)
      clear r2 g2
      go_wp2_with fail
      go_roundw
      case rel =>
        obtain ⟨hrow, hrows, hchg⟩ := HP.out
        obtain ⟨r2, g2⟩ := HR2.out
        have hother : ∀ i (hi : i < rs.length), i ≠ j → rs[i].1 ≠ rs[j].1 := fun i hi hne e => by
          have a1 : i < (rs.map (·.1)).length := by simpa using hi
          have a2 : j < (rs.map (·.1)).length := by simpa using hlt
          exact hne ((List.getElem_inj HM.out.apart).1 (by simpa using e : (rs.map (·.1))[i] = (rs.map (·.1))[j]))
        refine ⟨j + 1, by omega, by go_num, ?_, hrow.kept g2 (fun e => by injection e with e; exact HM.out.off _ (List.getElem_mem hlt) e.symm), fun i hi => ?_, g2.os.trans hchg.1, g2.tape.trans hchg.2.1, g2.output.trans hchg.2.2.1, Nat.le_trans hchg.2.2.2.1 g2.size, fun i hi hno => ?_⟩
        · rw [HTK.out]
          congr 1
          omega
        · by_cases hij : i = j
          · subst hij
            rw [if_pos (by omega), HAJ.out]
            exact r2
          · have := hrows i hi
            have e : (if i < j + 1 then ((mkRs k0 rs)[i]'(by rw [mkRs_length]; exact hi)).2.2 else rs[i].2.2) = (if i < j then ((mkRs k0 rs)[i]'(by rw [mkRs_length]; exact hi)).2.2 else rs[i].2.2) := by
              by_cases h : i < j
              · rw [if_pos h, if_pos (by omega)]
              · rw [if_neg h, if_neg (by omega)]
            rw [e]
            exact this.kept g2 (fun e => by injection e with e; exact hother i hi hij e)
        · exact (g2.block i (Nat.lt_of_lt_of_le hi hchg.2.2.2.1) (fun e => by injection e with e; exact hno _ (List.getElem_mem hlt) e)).trans (hchg.2.2.2.2 i hi hno)
      case measure => simp [intOf]; omega
    · obtain rfl : j = rs.length := by omega
      go_wp2_with fail
      go_ret
      refine ⟨ret_int (by rw [List.take_length]), ⟨?_, fun x hx => ?_, by rw [mkRs_fst]; exact HM.out.apart, fun x hx => ?_⟩, hchg⟩
      · unfold LRow
        rw [mkRs_length, mkRs_rwV]
        exact hrow
      · obtain ⟨i, hi, rfl⟩ := List.getElem_of_mem hx
        have hi2 : i < rs.length := by rw [mkRs_length] at hi; exact hi
        have := hrows i hi2
        rw [if_pos hi2] at this
        have e := mkRs_at k0 rs i hi2
        rw [e] at this ⊢
        exact this
      · obtain ⟨i, hi, rfl⟩ := List.getElem_of_mem hx
        have hi2 : i < rs.length := by rw [mkRs_length] at hi; exact hi
        rw [mkRs_at k0 rs i hi2]
        exact HM.out.off rs[i] (List.getElem_mem hi2)

set_option maxHeartbeats 1000000 in
theorem heldSL (ao : Option Addr) (cap : Nat) (rs : List Rw) (k0 : Int) (w : World) (hv : LView w ao (nums (mkRs k0 rs))) (hn : rs.length ≤ 60) (hat : ∀ r ∈ rs, r.2.2.length ≤ 60) (h0 : 1 ≤ k0) (h1 : k0 ≤ 1000000) :
    Calls Try.prog 42 #[.slice ao rs.length cap, .int .i64 k0] w fun e w' => e = .returned (.int .i64 (k0 + totR rs)) ∧ w' = w := by
  have HM := hidP hv
  have HAT := hidP hat
  have htot := totR_le rs 60 60 hn hat
  clear hv hat
  go_enter Try.func42, Try.ntmps42
  go_wp2_with fail
  go_loop [1, 5] (fun kk i => ∃ j : Nat, j ≤ rs.length ∧ i = .int .i64 j ∧ kk = .int .i64 (k0 + totR (rs.take j))) (fun _ i => rs.length - (intOf i).toNat)
  case atStart => exact ⟨0, Nat.zero_le _, rfl, by simp [totR]⟩
  case round =>
    obtain ⟨j, hj, rfl, rfl⟩ := hrel
    by_cases hlt : j < rs.length
    · have hl2 : j < (nums (mkRs k0 rs)).length := by simp [nums, mkRs_length, hlt]
      obtain ⟨b, a, c, rfl, hb, c1, va⟩ := HM.out.at hl2
      have e : (nums (mkRs k0 rs))[j] = tabL (fun i => k0 + totR (rs.take j) + i) rs[j].2.2.length := by
        simp only [nums, List.getElem_map]
        rw [mkRs_at k0 rs j hlt]
      rw [e] at c1 va
      rw [tabL_length] at c1
      have hl4 := HAT.out _ (List.getElem_mem hlt)
      have ht1 := totR_le (rs.take j) 60 60 (by simp; omega) (fun x hx => HAT.out x (List.mem_of_mem_take hx))
      have HH := hidP (heldI a c rs[j].2.2.length (k0 + totR (rs.take j)) w va (by omega) (by omega) (by omega))
      have HTK := hidP (totR_take rs j hlt)
      have hi0 : (0 : Int) ≤ (j : Int) := Int.natCast_nonneg _
      have hi1 : (j : Int) < (rs.length : Int) := by omega
      have hneg : ¬ (k0 + (totR (rs.take j) : Int) + (rs[j].2.2.length : Int) < 0) := by omega
      clear va e hl2
      generalize rs[j].2.2.length = m at *
      go_wp2_with fail
      refine HH.out.mono ?_
      rintro e w2 ⟨rfl, rfl⟩
      go_wp2_with fail
      go_round
      case rel => exact ⟨j + 1, by omega, by go_num, by rw [HTK.out]; congr 1; omega⟩
      case measure => simp [intOf]; omega
    · obtain rfl : j = rs.length := by omega
      go_wp2_with fail
      go_ret
      exact ⟨rfl, rfl⟩

/-- What is handed out is marked: only its own blocks turn, and what it has then is told. -/
theorem markOL60 (base c : Nat) (ao : Option Addr) (rs : List Rw) (w : World) (h : LOut base w ao c rs) (hn : rs.length ≤ 60) (hat : ∀ r ∈ rs, r.2.2.length ≤ 60) :
    Calls Try.prog 41 #[.slice ao rs.length c, .int .i64 1] w fun e w' => e = .returned (.int .i64 (1 + totR rs)) ∧ LView w' ao (nums (mkRs 1 rs)) ∧ w'.os = w.os ∧ w'.tape = w.tape ∧ w'.output = w.output ∧ w.heap.size ≤ w'.heap.size ∧ ∀ i, i < w.heap.size → i < base → w'.heap[i]? = w.heap[i]? := by
  rcases h with ⟨rfl, rfl, rfl⟩ | ⟨g, rfl, hm⟩
  · refine (markSS_nil none 0 1 w).mono ?_
    rintro e w' ⟨rfl, rfl⟩
    exact ⟨rfl, Or.inl rfl, rfl, rfl, rfl, Nat.le_refl _, fun _ _ _ => rfl⟩
  · refine (markSL base g c rs 1 w hm hn hat (by omega) (by omega)).mono ?_
    rintro e w' ⟨rfl, hm', h1, h2, h3, h4, h5⟩
    exact ⟨rfl, hm'.view, h1, h2, h3, h4, fun i hi hb => h5 i hi (fun r hr e => by have := (hm.rows r hr).lt.1; omega)⟩

def IGroups : Prop := ∀ (ao : Option Addr) (cap : Nat) (ms : List Mk) (kd k : Int) (w : World), MView w ao ms → MSmall ms → ms.length ≤ cap → Calls Try.prog 24 #[.slice ao ms.length cap, .int .i64 kd, .int .i64 k] w fun e w' => ∃ a c rs, e = .returned (.slice a rs.length c) ∧ nums rs = grpL ms kd k ∧ LOut w.heap.size w' a c rs ∧ Below w.heap.size w w'
theorem grpL_60 (ms : List Mk) (kd k : Int) : (grpL ms kd k).length ≤ 60 ∧ ∀ l ∈ grpL ms kd k, l.length ≤ 60 := by
  rcases hb : grpB ms kd k with _ | _
  · rw [grpL_no hb]; exact ⟨by simp, by simp⟩
  · obtain ⟨h1, -, -⟩ := (grpB_iff ms kd k).1 hb
    have h60 := marksB_len ((thrB_iff ms kd).1 h1).1
    rw [grpL, if_pos hb]
    refine ⟨by rw [grpOf, List.length_map]; exact Nat.le_trans (List.length_filter_le _ _) (by simpa using h60), fun l hl => ?_⟩
    obtain ⟨i, -, rfl⟩ := List.mem_map.1 hl
    rw [grpAt, List.length_map]
    exact Nat.le_trans (List.length_filter_le _ _) (by simpa using h60)
theorem csmall_60 {R : List (List Int)} (h : R.length ≤ 60 ∧ ∀ l ∈ R, l.length ≤ 60) : CSmall R := by
  refine ⟨by omega, fun i => ?_⟩
  unfold cn
  rw [List.getD_eq_getElem?_getD]
  rcases hh : R[i]? with _ | l
  · simp
  · have := h.2 l (List.mem_of_getElem? hh)
    simp; omega
theorem nums_60 {rs : List Rw} {R : List (List Int)} (h : nums rs = R) (hR : R.length ≤ 60 ∧ ∀ l ∈ R, l.length ≤ 60) : rs.length = R.length ∧ rs.length ≤ 60 ∧ ∀ r ∈ rs, r.2.2.length ≤ 60 := by
  subst h
  refine ⟨(nums_length rs).symm, by rw [← nums_length]; exact hR.1, fun r hr => hR.2 _ (List.mem_map_of_mem hr)⟩

set_option maxRecDepth 100000 in
set_option maxHeartbeats 4000000 in
theorem walkGroups (HI : IGroups) (ao0 : Option Addr) (cap0 : Nat) (ms0 : List Mk) (x1 x2 : Int) (w : World) (hv0 : MView w ao0 ms0) (hn0 : ms0.length ≤ maxLen) (hat0 : ∀ i, (mat ms0 i).length ≤ maxLen) :
    Calls Try.prog 8 #[.slice ao0 ms0.length cap0, .int .i64 x1, .int .i64 x2] w fun e w' => e = .returned (.bool true) ∧ Below w.heap.size w w' := by
  have HII := hidP HI
  clear HI
  go_enter Try.func8, Try.ntmps8
  go_wp2_with fail
  refine (szMS ao0 cap0 ms0 _ hv0 hn0 hat0).mono ?_
  rintro e w1 ⟨r, rfl, hr, L1⟩
  by_cases hneg : r < 0
  · go_wp2_with fail
    go_ret
    exact ⟨rfl, L1⟩
  have hsm : MSmall ms0 := by rcases hr with h | h; exact absurd h hneg; exact h
  clear hr
  obtain ⟨R, hR⟩ : ∃ R, grpL ms0 x1 x2 = R := ⟨_, rfl⟩
  have nR : R.length ≤ 60 ∧ ∀ l ∈ R, l.length ≤ 60 := by rw [← hR]; exact grpL_60 ms0 x1 x2
  have cR := csmall_60 nR
  have HR := hidP hR
  have HV0 := hidP hv0
  clear hR hv0
  go_wp2_with fail
  refine (toMS ao0 cap0 ms0 _ (HV0.out.next L1) hsm).mono ?_
  rintro e w2 ⟨b2, rfl, p2, hb2, M2⟩
  have L2 := chain L1 M2
  have HC := hidP (sGroups (some ⟨b2, 0, none⟩) ms0.length ms0 x1 x2 w2 p2.view hsm)
  rw [HR.out] at HC
  clear L1 hb2 M2 p2
  go_wp2_with fail
  refine HC.out.mono ?_
  rintro e w5 ⟨gw, cw, rs, rfl, hnm, row5, M5⟩
  have L5 : Below w.heap.size w w5 := chain L2 M5
  have hrl : rs.length = R.length := by rw [← nums_length, hnm]
  have HA : Hid (∀ W W', Ahead w5.heap.size W W' → LMem 0 W gw cw rs → LMem 0 W' gw cw rs) := fun W W' a h => h.ahead (fun i hi => (row5.all i hi).2) a
  have S5 := hidP (row5.mono (Nat.zero_le _))
  have HSV : Hid (∀ W, LMem 0 W gw cw rs → CView W (some ⟨gw, 0, none⟩) R) := fun W h => by have := h.view.cview; rwa [hnm] at this
  rw [hrl]
  clear M5 HC row5 hnm hrl L2
  go_wp2_with fail
  refine (toMS ao0 cap0 ms0 _ (HV0.out.next L5) hsm).mono ?_
  rintro e w7 ⟨bx, rfl, px, hbx, M7⟩
  have hwx : w.heap.size ≤ bx := Nat.le_trans L5.size hbx
  have h5x : w5.heap.size ≤ bx := hbx
  have L7 := chain L5 M7
  have ov7 := px.over
  have hbl := px.1
  have h57 := M7.size
  have S7 := hidP (HA.out _ _ (ahead_below (Nat.le_refl _) M7) S5.out)
  have HC := hidP (HII.out (some ⟨bx, 0, none⟩) ms0.length ms0 x1 x2 w7 px.view hsm (Nat.le_refl _))
  rw [HR.out] at HC
  clear M7 S5 L5 hbx
  go_wp2_with fail
  refine HC.out.mono ?_
  rintro e w8 ⟨ag, cg, qs, rfl, hnq, O8, M8⟩
  have hql : qs.length = R.length := by rw [← nums_length, hnq]
  have HOV : Hid (∀ W, LOut w7.heap.size W ag cg qs → CView W ag R) := fun W h => by have := h.view.cview; rwa [hnq] at this
  have nq : qs.length ≤ 60 ∧ ∀ x ∈ qs, x.2.2.length ≤ 60 := (nums_60 hnq nR).2
  have HQL := hidP hql
  rw [hql]
  clear hnq hql
  have L8 := chain L7 M8
  have P8 : Hid (LMem 0 w8 gw cw rs ∧ (MPart w8 bx ms0.length ms0.length ms0 ∧ MOver w8 bx w7.heap.size ms0) ∧ LOut w7.heap.size w8 ag cg qs ∧ w7.heap.size ≤ w8.heap.size) := ⟨HA.out _ _ (ahead_below h57 M8) S7.out, ⟨px.below (Nat.le_refl _) M8, ov7.below (Nat.le_refl _) M8⟩, O8, M8.size⟩
  have STP : Hid (∀ wa wb, Below wa.heap.size wa wb → (LMem 0 wa gw cw rs ∧ (MPart wa bx ms0.length ms0.length ms0 ∧ MOver wa bx w7.heap.size ms0) ∧ LOut w7.heap.size wa ag cg qs ∧ w7.heap.size ≤ wa.heap.size) → (LMem 0 wb gw cw rs ∧ (MPart wb bx ms0.length ms0.length ms0 ∧ MOver wb bx w7.heap.size ms0) ∧ LOut w7.heap.size wb ag cg qs ∧ w7.heap.size ≤ wb.heap.size)) :=
    fun wa wb L ⟨q1, q2, q3, q4⟩ => ⟨HA.out _ _ (ahead_below (by omega) L) q1, ⟨q2.1.below (Nat.le_refl _) L, q2.2.below q4 L⟩, q3.below L, Nat.le_trans q4 L.size⟩
  clear HC M8 S7 O8 px ov7 L7
  go_wp2_with fail
  refine (eqCS ag (some ⟨gw, 0, none⟩) cg cw R _ (HOV.out _ P8.out.2.2.1) (HSV.out _ P8.out.1) cR).mono ?_
  rintro e w9 ⟨rfl, n9, hw9⟩
  have M9 : Below w8.heap.size w8 w9 := by rw [hw9]; exact below_drewN (Below.refl _ _) n9
  have P9 := hidP (STP.out _ _ M9 P8.out)
  have L9 := chain L8 M9
  clear hw9 M9 P8 L8
  go_wp2_with fail
  refine (toMS ao0 cap0 ms0 _ (HV0.out.next L9) hsm).mono ?_
  rintro e wa ⟨ba, rfl, pa, hba, Ma⟩
  have Pa := hidP (STP.out _ _ Ma P9.out)
  have La := chain L9 Ma
  clear Ma P9 L9 hba
  go_wp2_with fail
  refine (eqMS _ _ _ _ ms0 ms0 _ Pa.out.2.1.1.view pa.view hsm).mono ?_
  rintro e wb ⟨rfl, Mb⟩
  have ht2 : decide (ms0 = ms0) = true := by simp
  have Pb := hidP (STP.out _ _ Mb Pa.out)
  have Lb := chain La Mb
  clear Mb Pa La pa
  go_wp2_with fail
  refine (markMS bx w7.heap.size ms0.length 1 ms0 wb Pb.out.2.1.2 hsm (by omega) (by omega)).mono ?_
  rintro e we ⟨⟨k1, hk1, hk2, rfl⟩, ge⟩
  have hneg3 : ¬ k1 < 0 := by omega
  have Pf : Hid (LMem 0 we gw cw rs ∧ LOut w7.heap.size we ag cg qs ∧ w7.heap.size ≤ we.heap.size) :=
    ⟨HA.out _ _ (ahead_gin (by have := Pb.out.2.2.2; omega) ge h5x) Pb.out.1, Pb.out.2.2.1.same (fun i h1 h2 => ge.2.2.2.2 i h2 (Or.inr (by omega))), Nat.le_trans Pb.out.2.2.2 ge.2.2.2.1⟩
  have Lf := below_gin Lb ge hwx
  clear Pb Lb ge STP
  go_wp2_with fail
  refine (eqCS ag (some ⟨gw, 0, none⟩) cg cw R _ (HOV.out _ Pf.out.2.1) (HSV.out _ Pf.out.1) cR).mono ?_
  rintro e wg ⟨rfl, ng, hwg⟩
  have Mg : Below we.heap.size we wg := by rw [hwg]; exact below_drewN (Below.refl _ _) ng
  have Pg : Hid (LMem 0 wg gw cw rs ∧ LOut w7.heap.size wg ag cg qs ∧ w7.heap.size ≤ wg.heap.size) := ⟨HA.out _ _ (ahead_below (by have := Pf.out.2.2; omega) Mg) Pf.out.1, Pf.out.2.1.below Mg, Nat.le_trans Pf.out.2.2 Mg.size⟩
  have Lg := chain Lf Mg
  clear hwg Mg Pf Lf
  go_wp2_with fail
  have HM := hidP (markOL60 w7.heap.size cg ag qs wg Pg.out.2.1 nq.1 nq.2)
  rw [HQL.out] at HM
  refine HM.out.mono ?_
  rintro e wh ⟨rfl, vh, q1, q2, q3, q4, q5⟩
  have Ah : Ahead w7.heap.size wg wh := fun i hi => q5 i (by have := Pg.out.2.2; omega) hi
  have Lh : Below w.heap.size w wh := ⟨q1.trans Lg.os, q2.trans Lg.tape, q3.trans Lg.output, Nat.le_trans Lg.size q4, fun i hi => (Ah i (by omega)).trans (Lg.block i hi)⟩
  have Ph : Hid (LMem 0 wh gw cw rs ∧ LView wh ag (nums (mkRs 1 qs)) ∧ w5.heap.size ≤ wh.heap.size) := ⟨HA.out _ _ (fun i hi => Ah i (by omega)) Pg.out.1, vh, by have := Pg.out.2.2; omega⟩
  have HH : Hid (∀ W, LView W ag (nums (mkRs 1 qs)) → Calls Try.prog 42 #[.slice ag R.length cg, .int .i64 1] W fun e w' => e = .returned (.int .i64 (1 + totR qs)) ∧ w' = W) := fun W h => by rw [← HQL.out]; exact heldSL ag cg qs 1 W h nq.1 nq.2 (by omega) (by omega)
  clear Pg Lg vh q1 q2 q3 q4 q5 Ah HM
  have hq0 : ¬ ((1 : Int) + totR qs < 0) := by omega
  have hq1 : (((1 : Int) + totR qs) != (1 + totR qs)) = false := by simp
  go_wp2_with fail
  refine (HH.out wh Ph.out.2.1).mono ?_
  rintro e wi ⟨rfl, hwi⟩
  subst wi
  go_wp2_with fail
  refine (toMS ao0 cap0 ms0 _ (HV0.out.next Lh) hsm).mono ?_
  rintro e wk ⟨bk, rfl, pk, hbk, Mk⟩
  have Lk := chain Lh Mk
  have Pk : Hid (LMem 0 wk gw cw rs ∧ LView wk ag (nums (mkRs 1 qs)) ∧ w5.heap.size ≤ wk.heap.size) := ⟨HA.out _ _ (ahead_below Ph.out.2.2 Mk) Ph.out.1, Ph.out.2.1.next Mk, Nat.le_trans Ph.out.2.2 Mk.size⟩
  have HC := hidP (HII.out (some ⟨bk, 0, none⟩) ms0.length ms0 x1 x2 wk pk.view hsm (Nat.le_refl _))
  rw [HR.out] at HC
  clear pk Mk hbk Ph Lh
  go_wp2_with fail
  refine HC.out.mono ?_
  rintro e wl ⟨al, cl, xs, rfl, hnx, Ol, Ml⟩
  have hxl : xs.length = R.length := by rw [← nums_length, hnx]
  have vl : CView wl al R := by have := Ol.view.cview; rwa [hnx] at this
  rw [hxl]
  have Ll := chain Lk Ml
  have Pl : Hid (LMem 0 wl gw cw rs ∧ LView wl ag (nums (mkRs 1 qs))) := ⟨HA.out _ _ (ahead_below Pk.out.2.2 Ml) Pk.out.1, Pk.out.2.1.next Ml⟩
  clear HC Ml Pk Lk
  go_wp2_with fail
  refine (eqCS al (some ⟨gw, 0, none⟩) cl cw R _ vl (HSV.out _ Pl.out.1) cR).mono ?_
  rintro e wm ⟨rfl, nm, hwm⟩
  have Pm : LView wm ag (nums (mkRs 1 qs)) := by rw [hwm]; exact Pl.out.2.drewN nm
  have Lm : Below w.heap.size w wm := by rw [hwm]; exact below_drewN Ll nm
  clear hwm Pl Ll
  go_wp2_with fail
  refine (HH.out wm Pm).mono ?_
  rintro e wn ⟨rfl, hwn⟩
  subst wn
  go_wp2_with fail
  go_ret
  exact ⟨rfl, Lm⟩

end Go.Proofs.Ytfbindjacmaeoaa
