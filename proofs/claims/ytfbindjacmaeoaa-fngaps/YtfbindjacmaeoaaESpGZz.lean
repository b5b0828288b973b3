/-
  The given Groups answers grpL.
-/
import Derived.Test.YtfbindjacmaeoaaESpAZz
import Derived.Test.YtfbindjacmaeoaaGKeepZz
namespace Go.Proofs.Ytfbindjacmaeoaa
open Go Go.RowKit

theorem grpL_no {ms : List Mk} {kd k : Int} (h : grpB ms kd k = false) : grpL ms kd k = [] := by rw [grpL, if_neg (by rw [h]; simp)]
theorem grpB_of (ms : List Mk) (kd k : Int) : grpB ms kd k = (thrB ms kd && inR k 1 ms.length) := by simp [grpB, inR, Bool.and_assoc]
/-- The group of j among the first m; the groups of the first j. -/
def gTo (ms : List Mk) (p : Nat → Nat) (j m : Nat) : List Int := ((List.range m).filter (fun x => decide (p x = j))).map (mid ms)
def gsTo (ms : List Mk) (p : Nat → Nat) (j : Nat) : List (List Int) := ((List.range j).filter (fun i => decide (p i = i))).map (grpAt ms p)
theorem gTo_start {ms : List Mk} {p : Nat → Nat} (hp : ∀ i, p i ≤ i) (j : Nat) : gTo ms p j j = [] := by
  unfold gTo
  rw [List.filter_eq_nil_iff.2, List.map_nil]
  intro x hx
  have := List.mem_range.1 hx
  have := hp x
  simp; omega
theorem gTo_hit {ms : List Mk} {p : Nat → Nat} {j m : Nat} (h : p m = j) : gTo ms p j (m + 1) = gTo ms p j m ++ [mid ms m] := by simp [gTo, List.range_succ, h]
theorem gTo_miss {ms : List Mk} {p : Nat → Nat} {j m : Nat} (h : ¬ p m = j) : gTo ms p j (m + 1) = gTo ms p j m := by simp [gTo, List.range_succ, h]
theorem gTo_len (ms : List Mk) (p : Nat → Nat) (j m : Nat) : (gTo ms p j m).length ≤ m := by
  rw [gTo, List.length_map]
  exact Nat.le_trans (List.length_filter_le _ _) (by simp)
theorem gTo_all (ms : List Mk) (p : Nat → Nat) (j : Nat) : gTo ms p j ms.length = grpAt ms p j := rfl
theorem gsTo_hit {ms : List Mk} {p : Nat → Nat} {j : Nat} (h : p j = j) : gsTo ms p (j + 1) = gsTo ms p j ++ [grpAt ms p j] := by simp [gsTo, List.range_succ, h]
theorem gsTo_miss {ms : List Mk} {p : Nat → Nat} {j : Nat} (h : ¬ p j = j) : gsTo ms p (j + 1) = gsTo ms p j := by simp [gsTo, List.range_succ, h]
theorem gsTo_len (ms : List Mk) (p : Nat → Nat) (j : Nat) : (gsTo ms p j).length ≤ j := by
  rw [gsTo, List.length_map]
  exact Nat.le_trans (List.length_filter_le _ _) (by simp)
theorem gsTo_all (ms : List Mk) (p : Nat → Nat) : gsTo ms p ms.length = grpOf ms p := rfl
theorem labL_take {ms : List Mk} {kd : Int} (h : thrB ms kd = true) (m : Nat) : labL ms ((thrL ms kd).take m) = natL (lab ((thrE (zD ms kd) ms.length).take m)) ms.length := by
  obtain ⟨hm, -⟩ := (thrB_iff ms kd).1 h
  have e : ((thrL ms kd).take m).map (eOf ms) = (thrE (zD ms kd) ms.length).take m := by
    rw [thrL, if_pos h, ← List.map_take]
    exact eOf_map hm kd (fun e he => thrE_lt e (List.mem_of_mem_take he))
  unfold labL natL
  rw [e]
theorem thrL_len {ms : List Mk} {kd : Int} (h : thrB ms kd = true) (hn : 0 < ms.length) : (thrL ms kd).length + 1 = ms.length := by
  rw [thrL, if_pos h, List.length_map]; exact thrE_len hn
theorem thrL_found {ms : List Mk} {kd : Int} (h : thrB ms kd = true) : ∀ t ∈ thrL ms kd, 0 ≤ zFind ms t.1 ∧ 0 ≤ zFind ms t.2.1 := by
  obtain ⟨hm, -⟩ := (thrB_iff ms kd).1 h
  rw [thrL, if_pos h]
  exact found_of hm thrE_lt

set_option maxRecDepth 100000 in
set_option maxHeartbeats 2000000 in
theorem sGroups_no (ao : Option Addr) (cap : Nat) (ms : List Mk) (kd k : Int) (w : World) (hv : MView w ao ms) (hsm : MSmall ms) (hno : grpB ms kd k = false) :
    Calls Try.prog 27 #[.slice ao ms.length cap, .int .i64 kd, .int .i64 k] w fun e w' => ∃ g c rs, e = .returned (.slice (some ⟨g, 0, none⟩) rs.length c) ∧ nums rs = grpL ms kd k ∧ LMem w.heap.size w' g c rs ∧ Below w.heap.size w w' := by
  have LA : Below w.heap.size w (w.alloc (.cells #[] 36)) := (Below.refl _ _).alloc (Nat.le_refl _) _
  have HC := hidP (sMarks ao cap ms (w.alloc (.cells #[] 36)) (hv.next LA) hsm)
  have HK : ∀ w, Hid _ := fun w => hidP (sKind kd w)
  have HI : ∀ w, Hid _ := fun w => hidP (sIn k 1 ms.length w)
  have HV := hidP (grpL_no hno)
  have HR0 : Hid (LMem w.heap.size (w.alloc (.cells #[] 36)) w.heap.size 0 []) := LMem.start w _ (Nat.le_refl _)
  have HE : Hid (∀ w1, (∃ n, w1 = (w.alloc (.cells #[] 36)).drewN n) → LMem w.heap.size w1 w.heap.size 0 [] ∧ Below w.heap.size w w1) := fun w1 ⟨n, e⟩ => by
    rw [e]
    exact ⟨HR0.out.below (below_drewN (Below.refl _ _) n), below_drewN LA n⟩
  rcases caseT ms kd with ⟨h, h3⟩ | ⟨h, h2, h3⟩ | ⟨h, h2, h3⟩
  · rw [h] at HC
    clear hv hsm hno h h3
    go_enter Try.func27, Try.ntmps27
    go_wp2_with fail
    refine HC.out.mono ?_
    rintro e w1 ⟨rfl, hw1⟩
    have HX := hidP (HE.out w1 hw1)
    clear hw1 HE
    go_wp2_with fail
    go_ret
    exact ⟨w.heap.size, 0, [], rfl, HV.out.symm, HX.out⟩
  · rw [h] at HC
    rw [h2] at HK
    clear hv hsm hno h h2 h3
    go_enter Try.func27, Try.ntmps27
    go_wp2_with fail
    refine HC.out.mono ?_
    rintro e w1 ⟨rfl, hw1⟩
    have HX := hidP (HE.out w1 hw1)
    clear hw1 HE
    go_wp2_with fail
    refine (HK _).out.mono ?_
    rintro e w2 ⟨rfl, hw2⟩
    subst w2
    go_wp2_with fail
    go_ret
    exact ⟨w.heap.size, 0, [], rfl, HV.out.symm, HX.out⟩
  · have h4 : inR k 1 ms.length = false := by rw [grpB_of, h3] at hno; simpa using hno
    rw [h] at HC
    rw [h2] at HK
    rw [h4] at HI
    clear hv hsm hno h h2 h3 h4
    go_enter Try.func27, Try.ntmps27
    go_wp2_with fail
    refine HC.out.mono ?_
    rintro e w1 ⟨rfl, hw1⟩
    have HX := hidP (HE.out w1 hw1)
    clear hw1 HE
    go_wp2_with fail
    refine (HK _).out.mono ?_
    rintro e w2 ⟨rfl, hw2⟩
    subst w2
    go_wp2_with fail
    refine (HI _).out.mono ?_
    rintro e w2 ⟨rfl, hw2⟩
    subst w2
    go_wp2_with fail
    go_ret
    exact ⟨w.heap.size, 0, [], rfl, HV.out.symm, HX.out⟩

set_option maxRecDepth 100000 in
set_option maxHeartbeats 4000000 in
theorem sGroups_in (ao : Option Addr) (cap : Nat) (ms : List Mk) (kd : Int) (k : Nat) (w : World) (hv : MView w ao ms) (hsm : MSmall ms) (hyes : grpB ms kd k = true) :
    Calls Try.prog 27 #[.slice ao ms.length cap, .int .i64 kd, .int .i64 k] w fun e w' => ∃ g c rs, e = .returned (.slice (some ⟨g, 0, none⟩) rs.length c) ∧ nums rs = grpL ms kd k ∧ LMem w.heap.size w' g c rs ∧ Below w.heap.size w w' := by
  have LA : Below w.heap.size w (w.alloc (.cells #[] 36)) := (Below.refl _ _).alloc (Nat.le_refl _) _
  have HC := hidP (sMarks ao cap ms (w.alloc (.cells #[] 36)) (hv.next LA) hsm)
  have HK : ∀ w, Hid _ := fun w => hidP (sKind kd w)
  have HI : ∀ w, Hid _ := fun w => hidP (sIn k 1 ms.length w)
  have HR0 : Hid (LMem w.heap.size (w.alloc (.cells #[] 36)) w.heap.size 0 []) := LMem.start w _ (Nat.le_refl _)
  obtain ⟨hB, hk1, hk2⟩ := (grpB_iff ms kd k).1 hyes
  obtain ⟨hm, hkd⟩ := (thrB_iff ms kd).1 hB
  have hn := marksB_len hm
  have HVV : Hid (grpL ms kd k = grpOf ms (lab ((thrE (zD ms kd) ms.length).take (ms.length - k)))) := by show _ = _; rw [grpL, if_pos hyes]; simp
  rw [hm] at HC
  rw [hkd] at HK
  rw [(inR_iff12 k 1 ms.length).2 ⟨hk1, hk2⟩] at HI
  have HVM := hidP hv
  have HB := hidP hB
  have HSM := hidP hsm
  obtain ⟨i0, hi0, hz0, hz1', hz2⟩ := info_parts Try.infoL
  obtain ⟨j0, hj0, hy0, hy1, hy2⟩ := info_parts Try.info2
  have HLN := hidP (thrL_len hB (by omega))
  clear hv hsm hm hkd hB hyes
  go_enter Try.func27, Try.ntmps27
  go_wp2_with fail
  refine HC.out.mono ?_
  rintro e w1 ⟨rfl, n1, hw1⟩
  have HX : Hid (LMem w.heap.size w1 w.heap.size 0 [] ∧ Below w.heap.size w w1) := by rw [hw1]; exact ⟨HR0.out.below (below_drewN (Below.refl _ _) n1), below_drewN LA n1⟩
  have hz1 : w.heap.size < w1.heap.size := by rw [hw1]; simp
  clear hw1 LA HC HR0
  go_wp2_with fail
  refine (HK _).out.mono ?_
  rintro e w2 ⟨rfl, hw2⟩
  subst w2
  go_wp2_with fail
  refine (HI _).out.mono ?_
  rintro e w2 ⟨rfl, hw2⟩
  subst w2
  have HT := hidP (sThreads ao cap ms kd w1 (HVM.out.next HX.out.2) HSM.out)
  clear HK HI
  go_wp2_with fail
  refine HT.out.mono ?_
  rintro e w2 ⟨gt, ct, rfl, hrt, L2⟩
  have hcap := hrt.cap
  have hln := HLN.out
  have hgt := hrt.lt
  have hz2' := L2.size
  have HX2 : Hid (LMem w.heap.size w2 w.heap.size 0 [] ∧ Below w.heap.size w w2) := ⟨HX.out.1.below L2, HX.out.2.trans (L2.mono (by omega))⟩
  have hwa : IntKind.i64.wrap (((thrL ms kd).length : Int) - k) = ((thrL ms kd).length : Int) - k := IntWalk.i64_in _ ⟨by omega, by omega⟩
  have hwb : IntKind.i64.wrap (((thrL ms kd).length : Int) - k + 1) = ((ms.length - k : Nat) : Int) := by rw [IntWalk.i64_in _ ⟨by omega, by omega⟩]; omega
  have hb0 : (0 : Int) ≤ ((ms.length - k : Nat) : Int) := by omega
  have hb1 : ((ms.length - k : Nat) : Int) ≤ (ct : Int) := by omega
  have hb2 : ms.length - k ≤ ct := by omega
  have htk : ((thrL ms kd).take (ms.length - k)).length = ms.length - k := by simp; omega
  have HP : Hid (∀ at_, TView w2 at_ ((thrL ms kd).take (ms.length - k)) → Calls Try.prog 60 #[.slice ao ms.length cap, .slice at_ (ms.length - k) ct] w2 fun e w' => ∃ g c, e = .returned (.slice (some ⟨g, 0, none⟩) ms.length c) ∧ IRow w2.heap.size w' g c (natL (lab ((thrE (zD ms kd) ms.length).take (ms.length - k))) ms.length) ∧ Below w2.heap.size w2 w') := fun at_ hvt => by
    have h := sParts ao at_ cap ct ms ((thrL ms kd).take (ms.length - k)) w2 (HVM.out.next HX2.out.2) hvt hn (by omega) (fun t ht => thrL_found HB.out t (List.mem_of_mem_take ht))
    rw [htk, labL_take HB.out] at h
    exact h
  have HTV : Hid (TView w2 (some ⟨gt, 0, none⟩) ((thrL ms kd).take (ms.length - k))) := Or.inr ⟨gt, 0, rfl, hgt.2, hrt.seg.take _⟩
  have hpl : ∀ i, lab ((thrE (zD ms kd) ms.length).take (ms.length - k)) i ≤ i := (lab_ok _).le
  generalize lab ((thrE (zD ms kd) ms.length).take (ms.length - k)) = p at *
  have HMEET : Hid (∀ g c w', IRow w2.heap.size w' g c (natL p ms.length) → Below w2.heap.size w2 w' → LMem w.heap.size w' w.heap.size 0 [] ∧ IRow w.heap.size w' g c (natL p ms.length) ∧ w.heap.size ≠ g ∧ Below w.heap.size w w') := fun g c w' hr L => ⟨HX2.out.1.below L, hr.mono (by omega), by have := hr.lt; omega, HX2.out.2.trans (L.mono (by omega))⟩
  have HTK := hidP htk
  have HHT := hidP hln
  clear hrt L2 HX HX2 HT htk hln
  go_upto_region 5 with fail
  go_cut [9] from 33 to 80 (fun v wx => ∃ gp cp, v = .slice (some ⟨gp, 0, none⟩) ms.length cp ∧ LMem w.heap.size wx w.heap.size 0 [] ∧ IRow w.heap.size wx gp cp (natL p ms.length) ∧ w.heap.size ≠ gp ∧ Below w.heap.size w wx)
  case first =>
    by_cases hc0 : ct = 0
    · subst hc0
      have hnk : ms.length - k = 0 := by omega
      have HP0 : Hid (∀ at_, Calls Try.prog 60 #[.slice ao ms.length cap, .slice at_ 0 0] w2 fun e w' => ∃ g c, e = .returned (.slice (some ⟨g, 0, none⟩) ms.length c) ∧ IRow w2.heap.size w' g c (natL p ms.length) ∧ Below w2.heap.size w2 w') := fun at_ => by
        have h := HP.out at_ (Or.inl (by rw [hnk]; rfl))
        rwa [hnk] at h
      rw [hnk] at hwb
      clear HP HTV hb0 hb1 hb2 HTK hnk
      go_wp2_with fail
      refine (HP0.out _).mono ?_
      rintro e w3 ⟨gp, cp, rfl, hrp, L3⟩
      have HM := hidP (HMEET.out gp cp w3 hrp L3)
      clear hrp L3
      go_wp2_with fail
      go_meet
      exact ⟨gp, cp, rfl, HM.out⟩
    · go_wp2_with fail
      refine (HP.out _ HTV.out).mono ?_
      rintro e w3 ⟨gp, cp, rfl, hrp, L3⟩
      have HM := hidP (HMEET.out gp cp w3 hrp L3)
      clear hrp L3
      go_wp2_with fail
      go_meet
      exact ⟨gp, cp, rfl, HM.out⟩
  case rest =>
    obtain ⟨gp, cp, rfl, hl0, hrp, hne0, LW⟩ := hcut
    have H0 := hidP (And.intro hl0 (And.intro hrp (And.intro hne0 LW)))
    clear hl0 hrp hne0 LW HP HTV HMEET HTK hwa hwb hb0 hb1 hb2
    go_wp2_with fail
    go_loopw [7, 10] (fun v i wr => ∃ (j g c : Nat) (rs : List Rw), j ≤ ms.length ∧ i = .int .i64 j ∧ v = .slice (some ⟨g, 0, none⟩) rs.length c ∧ nums rs = gsTo ms p j ∧ LMem w.heap.size wr g c rs ∧ IRow w.heap.size wr gp cp (natL p ms.length) ∧ g ≠ gp ∧ Below w.heap.size w wr) (fun _ i _ => ms.length - (intOf i).toNat)
    case atStart => exact ⟨0, w.heap.size, 0, [], Nat.zero_le _, rfl, rfl, rfl, H0.out⟩
    case round =>
      obtain ⟨j, g, c, rs, hj, rfl, rfl, hnm, hrow, hpr, hne, L⟩ := hrel
      clear H0
      have HNM := hidP hnm
      have hrl : rs.length ≤ 60 := by
        have h1 := congrArg List.length hnm
        rw [nums_length] at h1
        have h2 := gsTo_len ms p j
        omega
      clear hnm
      by_cases hlt : j < ms.length
      · have q1 := hpr.seg j (by rw [natL_len]; exact hlt)
        rw [Nat.zero_add, natL_at _ hlt] at q1
        have hjz : (0 : Int) ≤ (j : Int) := Int.natCast_nonneg _
        have hj1 : (j : Int) < (ms.length : Int) := by omega
        have hbp := hpr.lt
        have HROW := hidP hrow
        have HPR := hidP hpr
        have HL := hidP L
        have hzz := L.size
        by_cases hpj : p j = j
        · have hpb : (((p j : Nat) : Int) != (j : Int)) = false := by simp [hpj]
          have HNX := hidP (gsTo_hit (ms := ms) hpj)
          have HG0 := hidP (gTo_start (ms := ms) hpl j)
          have HGA := hidP (gTo_all ms p j)
          obtain ⟨Wr, hWr⟩ : ∃ Wr, Wr = wr := ⟨_, rfl⟩
          subst hWr
          have HI0 : Hid (IRow Wr.heap.size (Wr.alloc (.cells #[] 2)) Wr.heap.size 0 []) := IRow.start Wr _ (Nat.le_refl _)
          have HLA : Hid (Below Wr.heap.size Wr (Wr.alloc (.cells #[] 2))) := (Below.refl _ _).alloc (Nat.le_refl _) _
          clear hrow hpr L hpj
          go_wp2_with fail
          clear q1 hpb
          go_loopw [11, 12] (fun v i wq => ∃ (m gg cc l : Nat), j ≤ m ∧ m ≤ ms.length ∧ i = .int .i64 m ∧ v = .slice (some ⟨gg, 0, none⟩) l cc ∧ l = (gTo ms p j m).length ∧ IRow Wr.heap.size wq gg cc (gTo ms p j m) ∧ Below Wr.heap.size Wr wq) (fun _ i _ => ms.length - (intOf i).toNat)
          case atStart => exact ⟨j, Wr.heap.size, 0, 0, Nat.le_refl _, hj, rfl, rfl, by rw [HG0.out]; rfl, by rw [HG0.out]; exact HI0.out, HLA.out⟩
          case round =>
            obtain ⟨m, gg, cc, l, hjm, hm, rfl, rfl, hl, hrg, LG⟩ := hrel
            clear HI0 HLA
            have hgg := hrg.lt
            have hll : l ≤ 60 := by rw [hl]; have := gTo_len ms p j m; omega
            by_cases hml : m < ms.length
            · have q1 := (HPR.out.below LG).seg m (by rw [natL_len]; exact hml)
              rw [Nat.zero_add, natL_at _ hml] at q1
              obtain ⟨b, off, rfl, hb, hs⟩ := MSeg.seg (HVM.out.next (HL.out.trans (LG.mono hzz))) (by omega)
              have d0 := (hs.at hml).1
              have hm0 : (0 : Int) ≤ (m : Int) := Int.natCast_nonneg _
              have hm1 : (m : Int) < (ms.length : Int) := by omega
              have HRG := hidP hrg
              have HLG := hidP LG
              have HLE := hidP hl
              have hzg := LG.size
              clear hs hrg LG hl
              by_cases hpm : p m = j
              · have hpb : (((p m : Nat) : Int) == (j : Int)) = true := by simp [hpm]
                have HGN := hidP (gTo_hit (ms := ms) hpm)
                have HOW : Hid (wr.ownsRow Wr.heap.size 2 1 (.slice (some ⟨gg, 0, none⟩) l cc) l ((gTo ms p j m).map (Value.int .i64))) := by
                  have h := HRG.out
                  unfold IRow at h
                  rw [← HLE.out] at h
                  exact h
                clear hpm
                go_wp2_with (at_builtin; refine wpList_append_lies _ rfl (.tmp 68) (.tmp 74) 36 rfl Wr.heap.size 2 j0 _ 1 8 Try.underlying36 hj0 hy0 hy1 hy2 rfl (by omega) (.slice (some ⟨gg, 0, none⟩) l cc) l ((gTo ms p j m).map (Value.int .i64)) rfl (World.ownsRow.alloc HOW.out _) ⟨wr.heap.size, 0, none⟩ 1 1 [.int .i64 (mid ms m)] rfl rfl (World.news_of_block (cs := #[.int .i64 (mid ms m)]) (t := 2) (fr := (0, 0)) (heap_alloc_new wr _)) (by simp [Value.oneCell']) (by omega) (by unfold maxLen; omega) (by omega) (by simp; omega) (wr.heap.size + 1) (by simp) ?_; intro g8 c8 w8 hown hgrow hat8 hlt8)
                have HF : Hid (l + 1 = (gTo ms p j (m + 1)).length ∧ IRow Wr.heap.size w8 g8 c8 (gTo ms p j (m + 1)) ∧ Below Wr.heap.size Wr w8) := by
                  refine ⟨by rw [HGN.out, List.length_append, ← HLE.out]; rfl, ?_, ?_⟩
                  · rw [HGN.out]
                    exact IRow.of hown (by rw [List.length_append, ← HLE.out]; rfl) (by simp)
                  · refine (HLG.out.alloc (by omega) _).grown hgrow (by simp; omega) ?_
                    intro q hq
                    simp [Value.ownBlock] at hq
                    omega
                clear hown hgrow hat8 hlt8
                go_wp2_with fail
                go_roundw
                case rel => exact ⟨m + 1, g8, c8, l + 1, by omega, by omega, by go_num, rfl, HF.out⟩
                case measure => simp [intOf]; omega
              · have hpb : (((p m : Nat) : Int) == (j : Int)) = false := by simp; omega
                have HGN := hidP (gTo_miss (ms := ms) hpm)
                clear hpm
                go_wp2_with fail
                go_roundw
                case rel => exact ⟨m + 1, gg, cc, l, by omega, by omega, by go_num, rfl, by rw [HGN.out]; exact HLE.out, by rw [HGN.out]; exact HRG.out, HLG.out⟩
                case measure => simp [intOf]; omega
            · obtain rfl : m = ms.length := by omega
              rw [HGA.out] at hl hrg
              have A8 := alloc_below wr (.cells #[.slice (some ⟨gg, 0, none⟩) l cc] 36)
              have LX : Below Wr.heap.size Wr (wr.alloc (.cells #[.slice (some ⟨gg, 0, none⟩) l cc] 36)) := LG.trans (A8.mono LG.size)
              have HG8 := hidP (HROW.out.below LX)
              have HP8 := hidP (HPR.out.below LX)
              have HL8 : Hid (Below w.heap.size w (wr.alloc (.cells #[.slice (some ⟨gg, 0, none⟩) l cc] 36))) := HL.out.trans (LX.mono hzz)
              have HR8 : Hid (IRow w.heap.size (wr.alloc (.cells #[.slice (some ⟨gg, 0, none⟩) l cc] 36)) gg cc (grpAt ms p j)) := (hrg.below A8).mono hzz
              have hro : g < Wr.heap.size ∧ ∀ r ∈ rs, r.1 < Wr.heap.size := ⟨HROW.out.row.lt.2, fun r hr => (HROW.out.rows r hr).lt.2⟩
              have HRO := hidP hro
              have HLE := hidP hl
              have HOW : Hid ((wr.alloc (.cells #[.slice (some ⟨gg, 0, none⟩) l cc] 36)).ownsRow w.heap.size 36 1 (.slice (some ⟨g, 0, none⟩) rs.length c) rs.length (rs.map rwV)) := HG8.out.row
              have hzg := LG.size
              clear hrg LG LX A8 hl hro HPR HROW
              go_wp2_with (at_builtin; refine wpList_append_lies _ rfl (.tmp 76) (.tmp 78) 44 rfl w.heap.size 36 i0 _ 1 24 Try.underlying44 hi0 hz0 hz1' hz2 rfl (by omega) (.slice (some ⟨g, 0, none⟩) rs.length c) rs.length (rs.map rwV) rfl HOW.out ⟨wr.heap.size, 0, none⟩ 1 1 [.slice (some ⟨gg, 0, none⟩) l cc] rfl rfl (World.news_of_block (cs := #[.slice (some ⟨gg, 0, none⟩) l cc]) (t := 36) (fr := (0, 0)) (heap_alloc_new wr _)) (by simp [Value.oneCell']) (by omega) (by unfold maxLen; omega) (by omega) (by simp; omega) (wr.heap.size + 1) (by simp) ?_; intro g8 c8 w8 hown hgrow hat8 hlt8)
              have hgr : World.grownBy _ w8 (some g) := hgrow
              have hg4 : ∀ x ∈ rs, x.1 ≠ gg := fun x hx => by have := HRO.out.2 x hx; omega
              have hg4g : gg ≠ g := by have := HRO.out.1; omega
              have HF : Hid (nums (rs ++ [(gg, cc, grpAt ms p j)]) = gsTo ms p (j + 1) ∧ LMem w.heap.size w8 g8 c8 (rs ++ [(gg, cc, grpAt ms p j)]) ∧ IRow w.heap.size w8 gp cp (natL p ms.length) ∧ g8 ≠ gp ∧ Below w.heap.size w w8) := by
                have hown' : w8.ownsRow w.heap.size 36 1 (.slice (some ⟨g8, 0, none⟩) (rs.length + 1) c8) (rs.length + 1) (rs.map rwV ++ [rwV (gg, cc, grpAt ms p j)]) := by
                  unfold rwV
                  rw [← HLE.out]
                  exact hown
                refine ⟨by rw [nums_snoc, HNX.out, HNM.out], HG8.out.snoc hown' hgr (by rcases hat8 with h | h; exact Or.inl (by simpa [Value.ownBlock] using h); exact Or.inr (by rw [h]; simp)) HR8.out hg4g hg4, ?_, ?_, ?_⟩
                · exact HP8.out.kept hgr (by simp; omega)
                · rcases hat8 with h | h
                  · simp [Value.ownBlock] at h; omega
                  · omega
                · exact HL8.out.grown hgr HL8.out.size (by intro q hq; cases hq; have := HG8.out.row.lt; omega)
              clear hown hgrow hat8 hlt8 hgr
              go_wp2_with fail
              go_roundw
              case rel => exact ⟨j + 1, g8, c8, rs ++ [(gg, cc, grpAt ms p j)], by omega, by go_num, by simp, HF.out⟩
              case measure => simp [intOf]; omega
        · have hpb : (((p j : Nat) : Int) != (j : Int)) = true := by simp; omega
          have HNX := hidP (gsTo_miss (ms := ms) hpj)
          clear hrow hpr L hpj
          go_wp2_with fail
          go_roundw
          case rel => exact ⟨j + 1, g, c, rs, by omega, by go_num, rfl, by rw [HNX.out]; exact HNM.out, HROW.out, HPR.out, hne, HL.out⟩
          case measure => simp [intOf]; omega
      · obtain rfl : j = ms.length := by omega
        have HE := hidP (And.intro hrow L)
        clear hrow L hpr
        go_wp2_with fail
        go_ret
        exact ⟨g, c, rs, rfl, by rw [HVV.out, ← gsTo_all]; exact HNM.out, HE.out⟩
theorem sGroups (ao : Option Addr) (cap : Nat) (ms : List Mk) (kd k : Int) (w : World) (hv : MView w ao ms) (hsm : MSmall ms) :
    Calls Try.prog 27 #[.slice ao ms.length cap, .int .i64 kd, .int .i64 k] w fun e w' => ∃ g c rs, e = .returned (.slice (some ⟨g, 0, none⟩) rs.length c) ∧ nums rs = grpL ms kd k ∧ LMem w.heap.size w' g c rs ∧ Below w.heap.size w w' := by
  rcases h : grpB ms kd k with _ | _
  · exact sGroups_no ao cap ms kd k w hv hsm h
  · have h1 := ((grpB_iff ms kd k).1 h).2.1
    obtain ⟨n, rfl⟩ := Int.eq_ofNat_of_zero_le (by omega : 0 ≤ k)
    exact sGroups_in ao cap ms kd n w hv hsm h

end Go.Proofs.Ytfbindjacmaeoaa
