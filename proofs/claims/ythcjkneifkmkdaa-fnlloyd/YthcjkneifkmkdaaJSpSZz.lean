/-
  The given Shifted of chapter 10.
-/
import Derived.Test.YthcjkneifkmkdaaJSpGZz
import Derived.Test.YthcjkneifkmkdaaBI1Zz
import Derived.Test.YthcjkneifkmkdaaCopyZz
namespace Go.Proofs.Ythcjkneifkmkdaa
open Go Go.RowKit

theorem shiftL_in {ms : List Mk} {cs : List (List Int)} (h : ctrsB ms cs = true) : shiftL ms cs = (List.range cs.length).map (shiftP ms cs) := by rw [shiftL, if_pos h]
theorem shiftL_no {ms : List Mk} {cs : List (List Int)} (h : ctrsB ms cs = false) : shiftL ms cs = [] := by rw [shiftL, h]; rfl
theorem mixL_same {f g : Nat → Int} {n i : Nat} (h : i < n) (e : f i = g i) : mixL f g n (i + 1) = mixL f g n i := by
  rw [← mixL_set f g n i h, e, ← mixL_at f g n i h]
  apply List.ext_getElem (by simp)
  intro j h1 h2
  rw [List.getElem_set]
  split
  · rename_i hij
    subst hij
    simp [nth, List.getD, h2]
  · rfl
theorem range_map_succ (f : Nat → List Int) (k : Nat) : (List.range (k + 1)).map f = (List.range k).map f ++ [f k] := by rw [List.range_succ, List.map_append]; rfl
theorem View.pt {w : World} {a : Option Addr} {xs : List Int} (h : View w a xs) (h0 : 1 ≤ xs.length) : ∃ b off, a = some ⟨b, off, none⟩ ∧ b < w.heap.size ∧ Seg w b off xs := by
  rcases h with h | h
  · subst h; simp at h0
  · exact h
theorem own_bd {ms : List Mk} {cs : List (List Int)} (h : ctrsB ms cs = true) (k t n : Nat) (hn : n ≤ ms.length) (i : Nat) : -1000 ≤ nth (ownG (givN ms cs) (ptF ms t) k n) i ∧ nth (ownG (givN ms cs) (ptF ms t) k n) i ≤ 1000 := by
  have hall := ownG_all (givN ms cs) (ptF ms t) k n (fun x => -1000 ≤ x ∧ x ≤ 1000) (fun j hj => ptF_bd h t (by omega))
  by_cases hi : i < (ownG (givN ms cs) (ptF ms t) k n).length
  · have := hall _ (List.getElem_mem hi)
    simpa [nth, List.getD, hi] using this
  · simp [nth, List.getD, hi]
theorem own_shift (ms : List Mk) (cs : List (List Int)) (k t : Nat) (h : 0 < (ownG (givN ms cs) (ptF ms t) k ms.length).length) : mnV (ownG (givN ms cs) (ptF ms t) k ms.length) = shiftF ms cs k t := by
  have := ownG_length (givN ms cs) (ptF ms t) k ms.length
  rw [mnV_own, shiftF, if_neg (by omega)]
theorem own_none (ms : List Mk) (cs : List (List Int)) (k t : Nat) (h : ¬ 0 < (ownG (givN ms cs) (ptF ms t) k ms.length).length) : shiftF ms cs k t = nth (cn cs k) t := by
  have := ownG_length (givN ms cs) (ptF ms t) k ms.length
  rw [shiftF, if_pos (by omega)]
theorem ownG_yes {g : Nat → Nat} {f : Nat → Int} {i n : Nat} (h : g n = i) : ownG g f i (n + 1) = ownG g f i n ++ [f n] := by simp only [ownG]; rw [if_pos h]
theorem ownG_no {g : Nat → Nat} {f : Nat → Int} {i n : Nat} (h : ¬ g n = i) : ownG g f i (n + 1) = ownG g f i n := by simp only [ownG]; rw [if_neg h]
theorem ownG_len (g : Nat → Nat) (f : Nat → Int) (i n : Nat) : (ownG g f i n).length ≤ n := by
  have := ownG_length g f i n
  have := cntG_bd g i n
  omega

set_option maxRecDepth 100000 in
set_option maxHeartbeats 4000000 in
theorem sShift_in (ao ao' : Option Addr) (cap cap' : Nat) (ms : List Mk) (cs : List (List Int)) (w : World) (hv : MView w ao ms) (hv' : CView w ao' cs) (hsm : MSmall ms) (hcm : CSmall cs) (hc : ctrsB ms cs = true) :
    Calls Try.prog 14 #[.slice ao ms.length cap, .slice ao' cs.length cap'] w fun e w' => ∃ g c rs, e = .returned (.slice (some ⟨g, 0, none⟩) rs.length c) ∧ nums rs = (List.range cs.length).map (shiftP ms cs) ∧ LMem w.heap.size w' g c rs ∧ Below w.heap.size w w' := by
  obtain ⟨w1, hw1⟩ : ∃ w1, w.alloc (.cells #[] 29) = w1 := ⟨_, rfl⟩
  have R1 := hidP (show LMem w.heap.size w1 w.heap.size 0 [] by rw [← hw1]; exact LMem.start w w.heap.size (Nat.le_refl _))
  have L1 := hidP (show Below w.heap.size w w1 by rw [← hw1]; exact (Below.refl w.heap.size w).alloc (Nat.le_refl _) (.cells #[] 29))
  have hz1w : Hid (w1.heap.size = w.heap.size + 1) := by show w1.heap.size = _; rw [← hw1]; simp
  have HT := hidP (sCtr ao ao' cap cap' ms cs w1 (hv.next L1.out) (hv'.next L1.out) hsm hcm)
  have HGV := hidP (fun W (L : Below w.heap.size w W) => sGiven ao ao' cap cap' ms cs W (hv.next L) (hv'.next L) hsm hcm)
  rw [hc] at HT
  rw [givenL_in hc, tabL_length] at HGV
  obtain ⟨i0, hi0, hz0, hz1, hz2⟩ := info_parts Try.info2
  obtain ⟨j0, hj0, hy0, hy1, hy2⟩ := info_parts Try.infoL
  have hm60 : ms.length ≤ 60 := marksB_len (toldB_of (ctrsB_of hc).2.2.2).1
  have hk8 := (ctrsB_of hc).2.1
  have HMV := hidP hv
  have HCV := hidP hv'
  have HSM := hidP hsm.2
  have HC := hidP hc
  clear hv hv' hc
  go_enter Try.func14, Try.ntmps14
  go_upto_region 2 with fail
  clear hw1
  go_wp2_with fail
  refine HT.out.mono ?_
  rintro e w2 ⟨rfl, hw2⟩
  have P2 : Hid (LMem w.heap.size w2 w.heap.size 0 [] ∧ Below w.heap.size w w2 ∧ w2.heap.size = w.heap.size + 1) := by obtain ⟨n2, rfl⟩ := hw2; exact ⟨R1.out.below (below_drewN (Below.refl _ _) n2), below_drewN L1.out n2, hz1w.out⟩
  clear hw2 R1 L1 HT hz1w
  go_wp2_with fail
  refine (HGV.out w2 P2.out.2.1).mono ?_
  rintro e w3 ⟨g6, c6, rfl, r6, hg6, L3⟩
  have P3 : Hid (LMem w.heap.size w3 w.heap.size 0 [] ∧ Below w.heap.size w w3 ∧ Seg w3 g6 0 (tabL (givF ms cs) ms.length) ∧ g6 < w3.heap.size ∧ w.heap.size < g6) := ⟨P2.out.1.below L3, chain P2.out.2.1 L3, r6.seg, r6.lt.2, by have := P2.out.2.2; omega⟩
  clear P2 r6 hg6 L3 HGV
  go_wp2_with fail
  go_loopw [5, 7] (fun v i wr => ∃ (k g c : Nat) (rs : List Rw), k ≤ cs.length ∧ i = .int .i64 k ∧ v = .slice (some ⟨g, 0, none⟩) rs.length c ∧ nums rs = (List.range k).map (shiftP ms cs) ∧ LMem w.heap.size wr g c rs ∧ g ≠ g6 ∧ g6 < wr.heap.size ∧ Seg wr g6 0 (tabL (givF ms cs) ms.length) ∧ Below w.heap.size w wr) (fun _ i _ => cs.length - (intOf i).toNat)
  case atStart => exact ⟨0, w.heap.size, 0, [], Nat.zero_le _, rfl, rfl, rfl, P3.out.1, by have := P3.out.2.2.2.2; omega, P3.out.2.2.2.1, P3.out.2.2.1, P3.out.2.1⟩
  case round =>
    obtain ⟨k, g, c, rs, hk, rfl, rfl, hnm, hrow, hgg, hg6, hsg, L⟩ := hrel
    obtain ⟨Wa, rfl⟩ : ∃ Wa, Wa = wr := ⟨wr, rfl⟩
    have HNM := hidP hnm
    have hrl : rs.length = k := by
      have h1 := congrArg List.length hnm
      rw [nums_length] at h1
      simpa using h1
    have HRL := hidP hrl
    have hrl8 : rs.length ≤ 8 := by omega
    clear hnm hrl P3
    by_cases hlt : k < cs.length
    · obtain ⟨b', off', rfl, hb', s2⟩ := (HCV.out.next L).seg (by omega)
      obtain ⟨a1, c1, e1, va1⟩ := s2 k hlt
      obtain ⟨hokk, hlk⟩ := ctrs_len HC.out hlt
      have hl4 := okB_len hokk
      obtain ⟨ba, oa, rfl, hba, hsa⟩ := va1.pt hl4.1
      have HML : Hid (∀ j, j < ms.length → (mat ms j).length = (cn cs k).length) := fun j hj => by have := (ctrs_mark HC.out hj).2; omega
      have HP : Hid (LMem w.heap.size Wa g c rs ∧ Seg Wa g6 0 (tabL (givF ms cs) ms.length) ∧ Below w.heap.size w Wa ∧ MView Wa ao ms) := ⟨hrow, hsg, L, HMV.out.next L⟩
      have hA := alloc_below Wa (.cells #[] 2)
      have HR := hidP (IRow.start Wa Wa.heap.size (Nat.le_refl _))
      have HS := hidP (seg_src (hsa.below hba hA))
      have HA := hidP hA
      have HTL := hidP (tabL_list (cn cs k))
      have HMZ := hidP (mixL_zero (shiftF ms cs k) (nth (cn cs k)) (cn cs k).length)
      have HMA := hidP (mixL_all (shiftF ms cs k) (nth (cn cs k)) (cn cs k).length)
      have hi0' : (0 : Int) ≤ (k : Int) := Int.natCast_nonneg _
      have hi1 : (k : Int) < (cs.length : Int) := by omega
      have e1a : (Wa.alloc (.cells #[] 2)).cell? ⟨b', off' + k, none⟩ = some (.slice (some ⟨ba, oa, none⟩) (cn cs k).length c1) := (hA.cell (p := ⟨b', off' + k, none⟩) hb').trans e1
      have hwa := L.size
      have hg6a := hg6
      clear s2 va1 hokk hlk hsa hA hrow hsg L
      generalize hlen : (cn cs k).length = len at *
      have HLEN := hidP hlen
      clear hlen
      go_wp2_with (at_builtin; refine wpList_append_at _ rfl (.tmp 27) (.tmp 31) 29 rfl Wa.heap.size 2 i0 _ 1 8 Try.underlying29 hi0 hz0 hz1 hz2 rfl (by omega) Wa.heap.size 0 0 [] rfl HR.out (some ⟨ba, oa, none⟩) len c1 ((cn cs k).map (Value.int .i64)) rfl HS.out (by unfold maxLen; omega) (by omega) (by simp) (Wa.heap.size + 1) (by simp) ?_; intro gp cp w4 hown hgrow hat hltt)
      have R4 : Hid (IRow Wa.heap.size w4 gp cp (cn cs k)) := IRow.of hown (by have := HLEN.out; omega) (by simp)
      have L4 : Hid (Below Wa.heap.size Wa w4) := HA.out.grown hgrow (by simp) (by intro k hk; cases hk; omega)
      clear hown hgrow hat hltt e1 e1a HR HS HA
      go_loopw [9] (fun i wq => ∃ (t : Nat), t ≤ len ∧ i = .int .i64 t ∧ IRow Wa.heap.size wq gp cp (mixL (shiftF ms cs k) (nth (cn cs k)) len t) ∧ Below Wa.heap.size Wa wq) (fun i _ => len - (intOf i).toNat)
      case atStart => exact ⟨0, Nat.zero_le _, rfl, by rw [HMZ.out, HTL.out]; exact R4.out, L4.out⟩
      case round =>
        obtain ⟨t, ht, rfl, hmix, Lq⟩ := hrel
        obtain ⟨Wq, rfl⟩ : ∃ Wq, Wq = wr := ⟨wr, rfl⟩
        by_cases htl : t < len
        · have hAq := alloc_below Wq (.cells #[] 2)
          have RQ := hidP (IRow.start Wq Wq.heap.size (Nat.le_refl _))
          have HQ : Hid (IRow Wa.heap.size Wq gp cp (mixL (shiftF ms cs k) (nth (cn cs k)) len t) ∧ Below Wa.heap.size Wa Wq ∧ Seg Wq g6 0 (tabL (givF ms cs) ms.length) ∧ MView Wq ao ms) := ⟨hmix, Lq, HP.out.2.1.below hg6a Lq, HP.out.2.2.2.next Lq⟩
          have HAQ := hidP hAq
          have hwq := Lq.size
          clear hmix Lq hAq R4 L4
          go_wp2_with fail
          go_loopw [10, 11] (fun v i wz => ∃ (j g1 c1 : Nat), j ≤ ms.length ∧ i = .int .i64 j ∧ v = .slice (some ⟨g1, 0, none⟩) (ownG (givN ms cs) (ptF ms t) k j).length c1 ∧ IRow Wq.heap.size wz g1 c1 (ownG (givN ms cs) (ptF ms t) k j) ∧ Below Wq.heap.size Wq wz) (fun _ i _ => ms.length - (intOf i).toNat)
          case atStart => exact ⟨0, Wq.heap.size, 0, Nat.zero_le _, rfl, rfl, RQ.out, HAQ.out⟩
          case round =>
            obtain ⟨j, g1, c1', hj, rfl, rfl, hown1, Lz⟩ := hrel
            have hol := ownG_len (givN ms cs) (ptF ms t) k j
            by_cases hjl : j < ms.length
            · have hcg := (HQ.out.2.2.1.below (by omega : g6 < Wq.heap.size) Lz) j (by rw [tabL_length]; exact hjl)
              rw [Nat.zero_add, tabL_getD _ _ _ hjl] at hcg
              obtain ⟨b, off, rfl, hb, hs⟩ := MSeg.seg (HQ.out.2.2.2.next Lz) (by omega)
              obtain ⟨-, ae, ce, hcm1, hve⟩ := hs.at hjl
              have hmlen := HML.out j hjl
              obtain ⟨be, oe, rfl, hbe, hse⟩ := hve.pt (by omega)
              have hct := hse t (by omega)
              have HR1 := hidP hown1
              have HLZ := hidP Lz
              have hzz := Lz.size
              have hg1 := hown1.lt
              have hq0 : (0 : Int) ≤ (j : Int) := Int.natCast_nonneg _
              have hq1 : (j : Int) < (ms.length : Int) := by omega
              have hr0 : (0 : Int) ≤ (t : Int) := Int.natCast_nonneg _
              have hr1 : (t : Int) < ((mat ms j).length : Int) := by omega
              have hpt : Hid (nth (mat ms j) t = ptF ms t j) := rfl
              rw [hpt.out] at hct
              clear hs hve hse hown1 Lz hpt
              generalize hml : (mat ms j).length = ml at *
              clear hml hmlen
              by_cases hgk : givN ms cs j = k
              · have hgb : (givF ms cs j == (k : Int)) = true := by show (((givN ms cs j : Nat) : Int) == (k : Int)) = true; simp [hgk]
                have HE := hidP (ownG_yes (f := ptF ms t) hgk)
                clear hgk
                generalize ptF ms t j = y at *
                generalize givF ms cs j = gv at *
                obtain ⟨W, hW⟩ : ∃ W, wr = W := ⟨_, rfl⟩
                subst hW
                have HOW := hidP (show wr.ownsRow Wq.heap.size 2 1 (.slice (some ⟨g1, 0, none⟩) (ownG (givN ms cs) (ptF ms t) k j).length c1') (ownG (givN ms cs) (ptF ms t) k j).length ((ownG (givN ms cs) (ptF ms t) k j).map (Value.int .i64)) from HR1.out)
                go_wp2_with (at_builtin; refine wpList_append_lies _ rfl (.tmp 52) (.tmp 61) 29 rfl Wq.heap.size 2 i0 _ 1 8 Try.underlying29 hi0 hz0 hz1 hz2 rfl (by omega) (.slice (some ⟨g1, 0, none⟩) (ownG (givN ms cs) (ptF ms t) k j).length c1') (ownG (givN ms cs) (ptF ms t) k j).length ((ownG (givN ms cs) (ptF ms t) k j).map (Value.int .i64)) rfl (World.ownsRow.alloc HOW.out _) ⟨wr.heap.size, 0, none⟩ 1 1 [.int .i64 y] rfl rfl (World.news_of_block (cs := #[.int .i64 y]) (t := 2) (fr := (0, 0)) (heap_alloc_new wr _)) (by simp [Value.oneCell']) (by omega) (by unfold maxLen; omega) (by omega) (by simp; omega) (wr.heap.size + 1) (by simp) ?_; intro gg cc w8 hown hgrow hat8 hlt8)
                go_roundw
                case rel =>
                  refine ⟨j + 1, gg, cc, by omega, by go_num, by rw [HE.out]; simp, ?_, ?_⟩
                  · rw [HE.out]; exact IRow.of hown (by simp) (by simp)
                  · refine (HLZ.out.alloc (by omega) _).grown hgrow (by simp; omega) ?_
                    intro q hq
                    simp [Value.ownBlock] at hq
                    omega
                case measure => simp [intOf]; omega
              · have hgb : (givF ms cs j == (k : Int)) = false := by show (((givN ms cs j : Nat) : Int) == (k : Int)) = false; simp; omega
                have HE := hidP (ownG_no (f := ptF ms t) hgk)
                clear hgk
                generalize givF ms cs j = gv at *
                go_wp2_with fail
                go_roundw
                case rel => exact ⟨j + 1, g1, c1', by omega, by go_num, by rw [HE.out], by rw [HE.out]; exact HR1.out, HLZ.out⟩
                case measure => simp [intOf]; omega
            · obtain rfl : j = ms.length := by omega
              have HPZ : Hid (IRow Wa.heap.size wr gp cp (mixL (shiftF ms cs k) (nth (cn cs k)) len t) ∧ Below Wa.heap.size Wa wr) := ⟨HQ.out.1.below Lz, chain HQ.out.2.1 Lz⟩
              have HR1 := hidP hown1.seg
              clear hown1 Lz
              by_cases hpos : 0 < (ownG (givN ms cs) (ptF ms t) k ms.length).length
              · have hposI : ((ownG (givN ms cs) (ptF ms t) k ms.length).length : Int) > 0 := by omega
                have HME := hidP (sMean g1 0 c1' (ownG (givN ms cs) (ptF ms t) k ms.length) wr HR1.out hpos (by omega) (own_bd HC.out k t ms.length (Nat.le_refl _)))
                rw [own_shift ms cs k t hpos] at HME
                have HMS := hidP (mixL_set (shiftF ms cs k) (nth (cn cs k)) len t htl)
                have hr0 : (0 : Int) ≤ (t : Int) := Int.natCast_nonneg _
                have hr1 : (t : Int) < (len : Int) := by omega
                clear hpos HR1
                generalize (ownG (givN ms cs) (ptF ms t) k ms.length).length = ol at *
                generalize shiftF ms cs k t = sv at *
                go_wp2_with fail
                refine HME.out.mono ?_
                rintro e w9 ⟨rfl, hw9⟩
                have HP9 : Hid (IRow Wa.heap.size w9 gp cp (mixL (shiftF ms cs k) (nth (cn cs k)) len t) ∧ Below Wa.heap.size Wa w9) := by obtain ⟨n, rfl⟩ := hw9; exact ⟨HPZ.out.1.below (below_drewN (Below.refl _ _) n), below_drewN HPZ.out.2 n⟩
                have hc9 := HP9.out.1.seg t (by rw [mixL_length]; exact htl)
                rw [Nat.zero_add] at hc9
                have hf9 := World.ownsRow.frozenAt HP9.out.1 t
                have hgp := HP9.out.1.lt
                clear hw9 HPZ HME
                go_wp2_with fail
                go_roundw
                case rel => exact ⟨t + 1, by omega, by go_num, by rw [← HMS.out]; exact HP9.out.1.store t _, HP9.out.2.setCell (p := ⟨gp, t, none⟩) hgp.1 _⟩
                case measure => simp [intOf]; omega
              · have hposI : ¬ ((ownG (givN ms cs) (ptF ms t) k ms.length).length : Int) > 0 := by omega
                have HMS := hidP (mixL_same htl (own_none ms cs k t hpos))
                clear hpos HR1
                generalize (ownG (givN ms cs) (ptF ms t) k ms.length).length = ol at *
                go_wp2_with fail
                go_roundw
                case rel => exact ⟨t + 1, by omega, by go_num, by rw [HMS.out]; exact HPZ.out.1, HPZ.out.2⟩
                case measure => simp [intOf]; omega
        · obtain rfl : t = len := by omega
          rw [HMA.out] at hmix
          have HSP : Hid (tabL (shiftF ms cs k) t = shiftP ms cs k) := by show _ = _; rw [shiftP, HLEN.out]
          rw [HSP.out] at hmix
          have HXL : Hid ((shiftP ms cs k).length = t) := by show _ = _; rw [shiftP_length, HLEN.out]
          have HSN := hidP (range_map_succ (shiftP ms cs) k)
          rw [← HNM.out] at HSN
          have A8 := alloc_below Wq (.cells #[.slice (some ⟨gp, 0, none⟩) t cp] 29)
          have G8 := (HP.out.1.below Lq).below A8
          have S8 := (HP.out.2.1.below hg6a Lq).below (Nat.lt_of_lt_of_le hg6a Lq.size) A8
          have L8 := chain (chain HP.out.2.2.1 Lq) A8
          have hgp := hmix.lt
          have R8 : IRow w.heap.size (Wq.alloc (.cells #[.slice (some ⟨gp, 0, none⟩) t cp] 29)) gp cp (shiftP ms cs k) := (hmix.below A8).mono hwa
          have HRO : Hid (g < Wa.heap.size ∧ ∀ r ∈ rs, r.1 < Wa.heap.size) := ⟨HP.out.1.row.lt.2, fun r hr => (HP.out.1.rows r hr).lt.2⟩
          have hgl := HP.out.1.row.lt
          have HL8 : Hid ((Wq.alloc (.cells #[.slice (some ⟨gp, 0, none⟩) t cp] 29)).ownsRow w.heap.size 29 1 (.slice (some ⟨g, 0, none⟩) rs.length c) rs.length (rs.map rwV)) := G8.row
          have HS8 := hidP (And.intro G8 (And.intro S8 (And.intro L8 R8)))
          have hwq := Lq.size
          clear A8 G8 S8 L8 R8 hmix Lq R4 L4 HMZ HMA HTL HSP
          go_wp2_with (at_builtin; refine wpList_append_lies _ rfl (.tmp 71) (.tmp 73) 25 rfl w.heap.size 29 j0 _ 1 24 Try.underlying25 hj0 hy0 hy1 hy2 rfl (by omega) (.slice (some ⟨g, 0, none⟩) rs.length c) rs.length (rs.map rwV) rfl HL8.out ⟨Wq.heap.size, 0, none⟩ 1 1 [.slice (some ⟨gp, 0, none⟩) t cp] rfl rfl (World.news_of_block (cs := #[.slice (some ⟨gp, 0, none⟩) t cp]) (t := 29) (fr := (0, 0)) (heap_alloc_new Wq _)) (by simp [Value.oneCell']) (by omega) (by unfold maxLen; omega) (by omega) (by simp; omega) (Wq.heap.size + 1) (by simp) ?_; intro gg cc w8 hown hgrow hat8 hlt8)
          go_wp2_with fail
          have hgr : World.grownBy _ w8 (some g) := hgrow
          have hg4 : ∀ x ∈ rs, x.1 ≠ gp := fun x hx => by have := HRO.out.2 x hx; omega
          have hg4g : gp ≠ g := by have := HRO.out.1; omega
          have HOW8 : Hid (w8.ownsRow w.heap.size 29 1 (.slice (some ⟨gg, 0, none⟩) (rs.length + 1) cc) (rs.length + 1) (rs.map rwV ++ [rwV (gp, cp, shiftP ms cs k)])) := by
            show World.ownsRow _ _ _ _ _ _ _
            have : rwV (gp, cp, shiftP ms cs k) = .slice (some ⟨gp, 0, none⟩) t cp := by simp [rwV, HXL.out]
            rw [this]; exact hown
          clear hown
          go_roundw
          case rel =>
            obtain ⟨G8, S8, L8, R8⟩ := HS8.out
            refine ⟨k + 1, gg, cc, rs ++ [(gp, cp, shiftP ms cs k)], by omega, by go_num, by simp, by rw [nums_snoc, HSN.out], G8.snoc HOW8.out hgr (by rcases hat8 with h | h; exact Or.inl (by simpa [Value.ownBlock] using h); exact Or.inr (by rw [h]; simp)) R8 hg4g hg4, ?_, ?_, ?_, ?_⟩
            · rcases hat8 with h | h
              · simp [Value.ownBlock] at h; omega
              · omega
            · have := hgr.size; simp at this; omega
            · exact seg_grown S8 (by simp; omega) hgr (by simp; omega)
            · exact L8.grown hgr L8.size (by intro q hq; cases hq; omega)
          case measure => simp [intOf]; omega
    · obtain rfl : k = cs.length := by omega
      go_wp2_with fail
      go_ret
      exact ⟨g, c, rs, rfl, HNM.out, hrow, L⟩

set_option maxRecDepth 100000 in
set_option maxHeartbeats 1000000 in
theorem sShift_no (ao ao' : Option Addr) (cap cap' : Nat) (ms : List Mk) (cs : List (List Int)) (w : World) (hv : MView w ao ms) (hv' : CView w ao' cs) (hsm : MSmall ms) (hcm : CSmall cs) (hc : ctrsB ms cs = false) :
    Calls Try.prog 14 #[.slice ao ms.length cap, .slice ao' cs.length cap'] w fun e w' => e = .returned (.slice (some ⟨w.heap.size, 0, none⟩) 0 0) ∧ LMem w.heap.size w' w.heap.size 0 [] ∧ Below w.heap.size w w' := by
  obtain ⟨w1, hw1⟩ : ∃ w1, w.alloc (.cells #[] 29) = w1 := ⟨_, rfl⟩
  have R1 := hidP (show LMem w.heap.size w1 w.heap.size 0 [] by rw [← hw1]; exact LMem.start w w.heap.size (Nat.le_refl _))
  have L1 := hidP (show Below w.heap.size w w1 by rw [← hw1]; exact (Below.refl w.heap.size w).alloc (Nat.le_refl _) (.cells #[] 29))
  have HT := hidP (sCtr ao ao' cap cap' ms cs w1 (hv.next L1.out) (hv'.next L1.out) hsm hcm)
  rw [hc] at HT
  go_enter Try.func14, Try.ntmps14
  go_upto_region 2 with fail
  clear hw1
  go_wp2_with fail
  refine HT.out.mono ?_
  rintro e w2 ⟨rfl, n2, rfl⟩
  go_wp2_with fail
  go_ret
  exact ⟨rfl, R1.out.below (below_drewN (Below.refl _ _) n2), below_drewN L1.out n2⟩

/-- Shifted, as the specification has it: new rows. -/
theorem sShift (ao ao' : Option Addr) (cap cap' : Nat) (ms : List Mk) (cs : List (List Int)) (w : World) (hv : MView w ao ms) (hv' : CView w ao' cs) (hsm : MSmall ms) (hcm : CSmall cs) :
    Calls Try.prog 14 #[.slice ao ms.length cap, .slice ao' cs.length cap'] w fun e w' => ∃ g c rs, e = .returned (.slice (some ⟨g, 0, none⟩) rs.length c) ∧ nums rs = shiftL ms cs ∧ LMem w.heap.size w' g c rs ∧ Below w.heap.size w w' := by
  rcases hc : ctrsB ms cs with _ | _
  · refine (sShift_no ao ao' cap cap' ms cs w hv hv' hsm hcm hc).mono ?_
    rintro e w' ⟨rfl, h1, h2⟩
    exact ⟨_, _, [], rfl, by rw [shiftL_no hc]; rfl, h1, h2⟩
  · refine (sShift_in ao ao' cap cap' ms cs w hv hv' hsm hcm hc).mono ?_
    rintro e w' ⟨g, c, rs, rfl, h1, h2, h3⟩
    exact ⟨g, c, rs, rfl, by rw [h1, shiftL_in hc], h2, h3⟩

theorem stillB_no {ms : List Mk} {cs : List (List Int)} (h : ctrsB ms cs = false) : stillB ms cs = false := by simp [stillB, h]
theorem stillB_out {ms : List Mk} {cs : List (List Int)} {k : Nat} (h : cn (shiftL ms cs) k ≠ cn cs k) : stillB ms cs = false := by
  have : shiftL ms cs ≠ cs := fun e => h (by rw [e])
  simp [stillB, this]
theorem rows_eq {xs ys : List (List Int)} (hl : xs.length = ys.length) (h : ∀ j, j < xs.length → cn xs j = cn ys j) : xs = ys := by
  apply List.ext_getElem hl
  intro i h1 h2
  have := h i h1
  rwa [cn_at h1, cn_at h2] at this
theorem stillB_yes {ms : List Mk} {cs : List (List Int)} (hc : ctrsB ms cs = true) (h : ∀ j, j < cs.length → cn (shiftL ms cs) j = cn cs j) : stillB ms cs = true := by
  have : shiftL ms cs = cs := rows_eq (shiftL_length hc) (fun j hj => h j (by rw [shiftL_length hc] at hj; exact hj))
  simp [stillB, hc, this]
theorem nums_cn {rs : List Rw} {k : Nat} (h : k < rs.length) : cn (nums rs) k = rs[k].2.2 := by simp [cn, nums, List.getD, h]

set_option maxRecDepth 100000 in
set_option maxHeartbeats 2000000 in
theorem sStill (ao ao' : Option Addr) (cap cap' : Nat) (ms : List Mk) (cs : List (List Int)) (w : World) (hv : MView w ao ms) (hv' : CView w ao' cs) (hsm : MSmall ms) (hcm : CSmall cs) :
    Calls Try.prog 20 #[.slice ao ms.length cap, .slice ao' cs.length cap'] w fun e w' => e = .returned (.bool (stillB ms cs)) ∧ Below w.heap.size w w' := by
  have HT := hidP (sCtr ao ao' cap cap' ms cs w hv hv' hsm hcm)
  rcases hc : ctrsB ms cs with _ | _
  · have HV := hidP (stillB_no hc)
    rw [HV.out]
    rw [hc] at HT
    go_enter Try.func20, Try.ntmps20
    go_wp2_with fail
    refine HT.out.mono ?_
    rintro e w2 ⟨rfl, n2, rfl⟩
    go_wp2_with fail
    go_ret
    exact ⟨rfl, below_drewN (Below.refl _ _) n2⟩
  · rw [hc] at HT
    have HSH := hidP (fun n => sShift ao ao' cap cap' ms cs (w.drewN n) (hv.drewN n) (hv'.drewN n) hsm hcm)
    have HCV := hidP hv'
    have HC := hidP hc
    have hk8 := (ctrsB_of hc).2.1
    have HSL := hidP (shiftL_length hc)
    clear hv hv' hc
    go_enter Try.func20, Try.ntmps20
    go_wp2_with fail
    refine HT.out.mono ?_
    rintro e w2 ⟨rfl, n2, rfl⟩
    go_wp2_with fail
    refine (HSH.out n2).mono ?_
    rintro e w3 ⟨g, c, rs, rfl, hnm, hrow, L3⟩
    have hrl : rs.length = cs.length := by rw [← nums_length, hnm, HSL.out]
    have HP : Hid (nums rs = shiftL ms cs ∧ LMem w.heap.size w3 g c rs ∧ Below w.heap.size w w3) := ⟨hnm, hrow, (below_drewN (Below.refl _ _) n2).trans L3⟩
    have HRL := hidP hrl
    have hr8 : rs.length ≤ 8 := by omega
    clear hnm hrow L3 hrl HT HSH
    go_wp2_with fail
    go_loopw [6] (fun i wr => ∃ (k : Nat), k ≤ rs.length ∧ i = .int .i64 k ∧ (∀ j, j < k → cn (shiftL ms cs) j = cn cs j) ∧ ∃ n, wr = w3.drewN n) (fun i _ => rs.length - (intOf i).toNat)
    case atStart => exact ⟨0, Nat.zero_le _, rfl, fun j hj => by omega, 0, rfl⟩
    case round =>
      obtain ⟨k, hk, rfl, hall, hw⟩ := hrel
      have HA := hidP hall
      have HW := hidP hw
      clear hall hw
      by_cases hlt : k < rs.length
      · have hlc : k < cs.length := by have := HRL.out; omega
        have hrow : LMem w.heap.size wr g c rs := by obtain ⟨n, rfl⟩ := HW.out; exact HP.out.2.1.below (below_drewN (Below.refl _ _) n)
        have v2 : CView wr ao' cs := by obtain ⟨n, rfl⟩ := HW.out; exact (HCV.out.next HP.out.2.2).drewN n
        obtain ⟨b', off', rfl, hb', s2⟩ := v2.seg (by omega)
        obtain ⟨a1, c1, e1, va1⟩ := s2 k hlc
        have hcj := hrow.row.cell k hlt
        have hrj := (hrow.rows _ (List.getElem_mem hlt)).view
        have hnk : Hid (cn (shiftL ms cs) k = rs[k].2.2) := by show _ = _; rw [← HP.out.1]; exact nums_cn hlt
        have hln : rs[k].2.2.length ≤ 1048576 := by rw [← hnk.out, shiftL_at HC.out hlc, shiftP_length]; exact hcm.2 k
        have HSM := hidP (fun n => gsameS _ _ rs[k].2.1 c1 rs[k].2.2 (cn cs k) (wr.drewN n) (hrj.drewN n) (va1.drewN n) hln)
        have hi0 : (0 : Int) ≤ (k : Int) := Int.natCast_nonneg _
        have hi1 : (k : Int) < (rs.length : Int) := by omega
        have hi2 : (k : Int) < (cs.length : Int) := by omega
        unfold rwV at hcj
        clear hrow v2 s2 va1 hrj
        generalize rs[k] = y at *
        by_cases he : y.2.2 = cn cs k
        · have hd : decide (y.2.2 = cn cs k) = true := by simp [he]
          have HE := hidP he
          rw [hd] at HSM
          clear he hd
          go_wp2_with fail
          go_quiet (first | (go_at_call 46; exact Calls.quiet_of (HSM.out _)))
          go_wp2_with fail
          go_roundw
          case rel => exact ⟨k + 1, by omega, by go_num, fun j hj => by
            rcases Nat.lt_or_ge j k with h | h
            · exact HA.out j h
            · rw [show j = k by omega, hnk.out, HE.out], by obtain ⟨n, hn⟩ := HW.out; exact ⟨n + nq, by rw [hn]; simp⟩⟩
          case measure => simp [intOf]; omega
        · have hd : decide (y.2.2 = cn cs k) = false := by simp [he]
          have HE : Hid (stillB ms cs = false) := stillB_out (by rw [hnk.out]; exact he)
          rw [hd] at HSM
          clear he hd
          go_wp2_with fail
          go_quiet (first | (go_at_call 46; exact Calls.quiet_of (HSM.out _)))
          go_wp2_with fail
          go_ret
          exact ⟨ret_bool HE.out.symm, by obtain ⟨n, hn⟩ := HW.out; rw [hn]; exact below_drewN (below_drewN HP.out.2.2 n) nq⟩
      · obtain rfl : k = rs.length := by omega
        have HE : Hid (stillB ms cs = true) := stillB_yes HC.out (fun j hj => HA.out j (by have := HRL.out; omega))
        go_wp2_with fail
        go_ret
        exact ⟨ret_bool HE.out.symm, by obtain ⟨n, hn⟩ := HW.out; rw [hn]; exact below_drewN HP.out.2.2 n⟩

end Go.Proofs.Ythcjkneifkmkdaa
