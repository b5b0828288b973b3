/-
  The given Ranked.
-/
import Derived.Test.YtibkfdefoaimiaaORnkZz
import Derived.Test.YtibkfdefoaimiaaPutZz
import Derived.Deep.RegionHeld3
import Derived.Deep.CutBlock
namespace Go.Proofs.Ytibkfdefoaimiaa
open Go Go.RowKit

/-- The Ids by the woven numbers, where all lie on the line. -/
def ranksS (ds : List Sm) : List Int := if allLine ds = true then (sortBy plt (ds.map pairS)).map (·.2) else []

set_option maxRecDepth 100000 in
set_option maxHeartbeats 4000000 in
theorem sRanked_in (b off cap : Nat) (ds : List Sm) (w : World) (hb : b < w.heap.size) (hs : SSeg w b off ds) (hl : SLies w ds) (h60 : ds.length ≤ 60) (hat : ∀ d ∈ ds, d.2.2.2.length ≤ 1048576) (hM : Hid (∀ W, Below w.heap.size w W → Calls Try.prog 56 #[.slice (some ⟨b, off, none⟩) ds.length cap] W fun e w' => e = .returned (.bool true) ∧ ∃ n, w' = W.drewN n))
    (hid : ∀ i j, i < j → j < ds.length → (snth ds i).1 < (snth ds j).1) :
    Calls Try.prog 23 #[.slice (some ⟨b, off, none⟩) ds.length cap] w fun e w' => ∃ g c, e = .returned (.slice (some ⟨g, 0, none⟩) (ranksS ds).length c) ∧ NRow w.heap.size w' g c (ranksS ds) ∧ Below w.heap.size w w' := by
  obtain ⟨j0, hj0, hy0, hy1, hy2⟩ := info_parts Try.info2
  have HS := hidP hs
  have HLI := hidP hl
  have HID := hidP hid
  have HAT := hidP hat
  have LA := alloc_belowK w (.cells #[] 2)
  have hM1 := hidP (hM.out _ LA)
  clear hs hl hid hat hM
  go_enter Try.func23, Try.ntmps23
  go_wp2_with (go_at_call 56; refine hM1.out.mono ?_; rintro e w1 ⟨rfl, n1, rfl⟩)
  obtain ⟨w0, hw0⟩ : ∃ w0, ((w.alloc (.cells #[] 2)).drewN n1).alloc (.cells #[] 2) = w0 := ⟨_, rfl⟩
  have r0 : NRow w.heap.size w0 w.heap.size 0 [] := by
    rw [← hw0]
    exact NRow.below (w := w.alloc (.cells #[] 2)) (NRow.start w _ (Nat.le_refl _)) (Nat.le_refl _) ((below_drewN (Below.refl (w.alloc (.cells #[] 2)).heap.size (w.alloc (.cells #[] 2))) n1).alloc (by simp) _)
  have r1 : NRow w.heap.size w0 (w.heap.size + 1) 0 [] := by
    have := NRow.start ((w.alloc (.cells #[] 2)).drewN n1) w.heap.size (by simp)
    rw [hw0] at this
    simpa using this
  have L0 : Below w.heap.size w w0 := by rw [← hw0]; exact (below_drewN LA n1).alloc (by simp) _
  rw [hw0]
  clear hw0 hM1 LA
  go_loopw [3, 4, 5] (fun o cs i wr => ∃ (k g c g' c' : Nat), k ≤ ds.length ∧ i = .int .i64 k ∧ o = .slice (some ⟨g, 0, none⟩) k c ∧ cs = .slice (some ⟨g', 0, none⟩) k c' ∧ NRow w.heap.size wr g c ((sortBy plt ((ds.map pairS).take k)).map (·.2)) ∧ NRow w.heap.size wr g' c' ((sortBy plt ((ds.map pairS).take k)).map (·.1)) ∧ Below w.heap.size w wr ∧ (∀ i, i < k → lineB (snth ds i).2.2.2 = true)) (fun _ _ i _ => ds.length - (intOf i).toNat)
  case atStart => exact ⟨0, _, _, _, _, Nat.zero_le _, rfl, rfl, rfl, r0, r1, L0, fun i hi => by omega⟩
  case round =>
    obtain ⟨k, g, c, g', c', hk, rfl, rfl, rfl, hrow, hrow', L, hup⟩ := hrel
    have HUP := hidP hup
    clear hup
    clear r0 r1 L0
    by_cases hlt : k < ds.length
    · have hltp : k < (ds.map pairS).length := by simp; exact hlt
      have HLEN := hidP (show (sortBy plt ((ds.map pairS).take k)).length = k by rw [sortBy_length]; simp; omega)
      have HNX := hidP (sortBy_take plt (ds.map pairS) k hltp)
      have hpk : (ds.map pairS)[k] = pairS (snth ds k) := by rw [snth_get hlt]; simp
      rw [hpk] at HNX
      have HLESS := hidP (show ∀ x ∈ sortBy plt ((ds.map pairS).take k), x.2 < (snth ds k).1 from fun x hx => by
        have hx2 := (sortBy_perm _ _).mem_iff.1 hx
        obtain ⟨i, hi, rfl⟩ := List.getElem_of_mem hx2
        have hik : i < k ∧ i < ds.length := by simp at hi; omega
        have := HID.out i k hik.1 hlt
        rw [snth_get hik.2] at this
        simpa [pairS] using this)
      generalize sortBy plt ((ds.map pairS).take k) = es at *
      obtain ⟨d0, d1⟩ := HS.out k hlt
      have hmd : snth ds k ∈ ds := snth_mem hlt
      have HDV := hidP ((HLI.out _ hmd).next L)
      have HDN := hidP (HAT.out _ hmd)
      have HUP2 : Hid (lineB (snth ds k).2.2.2 = true → ∀ i, i < k + 1 → lineB (snth ds i).2.2.2 = true) := fun h i hi => by
        rcases Nat.lt_or_ge i k with h1 | h1
        · exact HUP.out i h1
        · obtain rfl : i = k := by omega
          exact h
      have HOUT : Hid (lineB (snth ds k).2.2.2 = false → ranksS ds = []) := fun h => by
        have : allLine ds = false := by
          simp only [allLine, List.all_eq_false]
          exact ⟨snth ds k, hmd, by rw [h]; simp⟩
        simp [ranksS, this]
      clear HUP
      generalize snth ds k = d at *
      have z0 := (L.cell (p := ⟨b, off + k * 2, none⟩) hb).trans d0
      have z1 := (L.cell (p := ⟨b, off + k * 2 + 1, none⟩) hb).trans d1
      have HROW := hidP hrow
      have HROW' := hidP hrow'
      have HL := hidP L
      have HWV := hidP (sWeave d.2.1 d.2.2.1 d.2.2.2 wr HDV.out HDN.out)
      rcases hlb : lineB d.2.2.2 with _ | _
      · have HR := hidP (HOUT.out hlb)
        rw [weaveV_out hlb] at HWV
        have LE := hidP (L.alloc L.size (.cells #[] 2))
        have hwz := L.size
        clear hlb HOUT HUP2 HNX HLESS HROW HROW' HL hrow hrow' HDV
        go_wp2_with (go_at_call 18; refine HWV.out.mono ?_; rintro e w2 ⟨rfl, hw2⟩; obtain rfl := hw2.symm)
        go_ret
        exact ⟨_, 0, by rw [HR.out]; rfl, by rw [HR.out]; exact NRow.start _ _ hwz, LE.out⟩
      have HLB := hidP hlb
      have HUPN := hidP (HUP2.out hlb)
      clear hlb HUP2 HOUT
      have hge : 0 ≤ weaveV d.2.2.2 := by rw [weaveV_in HLB.out]; exact Int.natCast_nonneg _
      have HPD : Hid (pairS d = (weaveV d.2.2.2, d.1)) := rfl
      generalize weaveV d.2.2.2 = vw at *
      rw [HPD.out] at HNX
      clear hrow hrow' L d0 d1 hmd hpk hltp HPD
      obtain ⟨W, hW⟩ : ∃ W, W = wr := ⟨wr, rfl⟩
      subst hW
      go_upto_block 2 with (go_at_call 18; refine HWV.out.mono ?_; rintro e w2 ⟨rfl, hw2⟩; obtain rfl := hw2.symm)
      go_cut [7] from 16 to 78 (fun kk wx => ∃ j : Nat, kk = .int .i64 j ∧ j ≤ k ∧ insBy plt (vw, d.1) es = es.take j ++ (vw, d.1) :: es.drop j ∧ wx = W)
      case first =>
        have HS1 := hidP (HROW'.out.seg)
        have hlen := HLEN.out
        clear z0 z1 hge HNX HS HROW HROW'
        go_wp2_with fail
        go_loopw [7] (fun kk wq => ∃ j : Nat, j ≤ k ∧ kk = .int .i64 j ∧ (∀ i (h : i < es.length), i < j → es[i].1 ≤ vw) ∧ wq = W) (fun kk _ => k - (intOf kk).toNat)
        case atStart => exact ⟨0, Nat.zero_le _, rfl, fun i h1 h2 => by omega, rfl⟩
        case round =>
          obtain ⟨j, hj, rfl, hall, hwr⟩ := hrel
          obtain rfl := hwr.symm
          have HA := hidP hall
          clear hall
          by_cases hjk : j < k
          · have hjl : j < es.length := by omega
            have q0 := HS1.out j (by simp; exact hjl)
            have e0 : nth (es.map (·.1)) j = es[j].1 := by simp [nth, hjl]
            rw [Nat.zero_add, e0] at q0
            have hjn : (j : Int) < (k : Int) := by omega
            by_cases hle : es[j].1 ≤ vw
            · have HT : Hid (∀ i (h : i < es.length), i < j + 1 → es[i].1 ≤ vw) := fun i h1 h2 => by
                rcases Nat.lt_or_ge i j with h3 | h3
                · exact HA.out i h1 h3
                · obtain rfl : i = j := by omega
                  exact hle
              generalize es[j].1 = v at *
              clear HA e0
              go_wp2_with fail
              go_roundw
              case rel => first | exact ⟨j + 1, by omega, by go_num, HT.out, rfl⟩ | exact ⟨j + 1, by omega, by go_num, HT.out, trivial⟩
              case measure => simp [intOf]; omega
            · have HT := hidP (put_place (d := (vw, d.1)) (j := j) (by omega) HLESS.out HA.out (fun h => by simpa using hle))
              generalize es[j].1 = v at *
              clear HA e0
              go_wp2_with fail
              go_meet
              first | exact ⟨j, rfl, hj, HT.out, rfl⟩ | exact ⟨j, rfl, hj, HT.out, trivial⟩
          · obtain rfl : j = k := by omega
            have HT := hidP (put_place (d := (vw, d.1)) (j := j) (by omega) HLESS.out HA.out (fun h => by omega))
            clear HA HS1
            go_wp2_with fail
            go_meet
            first | exact ⟨j, rfl, hj, HT.out, rfl⟩ | exact ⟨j, rfl, hj, HT.out, trivial⟩
      case rest =>
        obtain ⟨j, rfl, hjk, hins, hwx⟩ := hcut
        obtain rfl := hwx.symm
        have HINS := hidP hins
        clear hins hwx
        have hlen := HLEN.out
        have HS1 := hidP HROW'.out.seg
        have HS2 := hidP HROW.out.seg
        have hcap1 := HROW'.out.cap
        have hcap2 := HROW.out.cap
        rw [List.length_map] at hcap1 hcap2
        obtain ⟨hgl1, hgl2⟩ := HROW'.out.lt
        obtain ⟨hgl3, hgl4⟩ := HROW.out.lt
        have hw1 := HL.out.size
        obtain ⟨xs, hxs⟩ : ∃ xs, es.map (·.1) = xs := ⟨_, rfl⟩
        obtain ⟨ys, hys⟩ : ∃ ys, es.map (·.2) = ys := ⟨_, rfl⟩
        have hxl : xs.length = k := by rw [← hxs]; simp; omega
        have hyl : ys.length = k := by rw [← hys]; simp; omega
        have HXI := hidP (show (insBy plt (vw, d.1) es).map (·.1) = xs.take j ++ vw :: xs.drop j by rw [HINS.out, ← hxs]; simp)
        have HYI := hidP (show (insBy plt (vw, d.1) es).map (·.2) = ys.take j ++ d.1 :: ys.drop j by rw [HINS.out, ← hys]; simp)
        rw [hxs] at HS1 HROW'
        rw [hys] at HS2 HROW
        clear hxs hys HINS HLESS HWV hge HLB HDV HDN HID HAT
        go_upto_region 14 with fail
        go_cut [8] from 16 to 78 (fun r wx => ∃ gr cr, r = .slice (some ⟨gr, 0, none⟩) (k - j) cr ∧ NRow w.heap.size wx gr cr (xs.drop j) ∧ Below W.heap.size W wx)
        case first =>
          have hj0' : (0 : Int) ≤ (j : Int) := Int.natCast_nonneg _
          have hj1 : (j : Int) ≤ (k : Int) := by omega
          have hj2 : (j : Int) ≤ (c' : Int) := by omega
          have hj3 : (k : Int) ≤ (c' : Int) := by omega
          have LA : Below W.heap.size W (W.alloc (.cells #[] 2)) := (Below.refl _ _).alloc (Nat.le_refl _) _
          by_cases hjlt : j < k
          · have hcj : ¬ c' = 0 := by omega
            have hcj2 : j < c' := by omega
            have hcj3 : ¬ c' - j = 0 := by omega
            have HSRC : Hid (SrcAt (W.alloc (.cells #[] 2)) 1 (some ⟨g', j, none⟩) (k - j) (nvs (xs.drop j))) := by
              have := nsrc ((HS1.out.drop8 j).below (B := W.heap.size) (by omega) LA)
              rwa [Nat.zero_add, show (xs.drop j).length = k - j by simp; omega] at this
            go_wp2_with (at_builtin; refine wpList_append_at _ rfl (.tmp 45) (.tmp 48) 24 rfl w.heap.size 2 j0 _ 1 8 Try.underlying24 hj0 hy0 hy1 hy2 rfl (by omega) W.heap.size 0 0 [] rfl (World.ownsRow_lit W #[] 0 (by omega) (Nat.zero_le _) rfl) (some ⟨g', j, none⟩) (k - j) (c' - j) (nvs (xs.drop j)) rfl HSRC.out (by unfold maxLen; omega) (by omega) (by simp; omega) (W.heap.size + 1) (by simp) ?_; intro gr cr w3 hownr hgrowr hatr hltr)
            have hrest : NRow w.heap.size w3 gr cr (xs.drop j) := NRow.of hownr (by simp; omega) (by simp)
            have L3 : Below W.heap.size W w3 := LA.grown hgrowr (by simp) (by intro q hq; cases hq; exact Nat.le_refl _)
            have HE := hidP (And.intro hrest L3)
            clear hownr hgrowr hatr hltr hrest L3 LA HSRC
            go_meet
            exact ⟨gr, cr, by first | rfl | rw [Nat.zero_add], HE.out.1, HE.out.2⟩
          · obtain rfl : j = k := by omega
            have HE : Hid (NRow w.heap.size (W.alloc (.cells #[] 2)) W.heap.size 0 (xs.drop j)) := by
              rw [List.drop_of_length_le (by omega)]
              exact NRow.start W _ hw1
            have HLA := hidP LA
            clear LA
            by_cases hc0 : c' = 0
            · obtain rfl : j = 0 := by omega
              subst hc0
              go_wp2_with fail
              all_goals
                go_meet
                exact ⟨W.heap.size, 0, rfl, HE.out, HLA.out⟩
            · by_cases hcj : c' = j
              · subst hcj
                go_wp2_with fail
                all_goals
                  go_meet
                  exact ⟨W.heap.size, 0, by simp, HE.out, HLA.out⟩
              · have hcj3 : ¬ c' - j = 0 := by omega
                go_wp2_with fail
                all_goals
                  go_meet
                  exact ⟨W.heap.size, 0, by simp, HE.out, HLA.out⟩
        case rest =>
          obtain ⟨gr, cr, rfl, hrest, L1⟩ := hcut
          obtain ⟨W2, hW2⟩ : ∃ W2, W2 = wc := ⟨_, rfl⟩
          rw [← hW2] at hrest L1
          rw [← hW2]
          clear hW2
          have hz2 := L1.size
          have hw2 : w.heap.size ≤ W2.heap.size := by omega
          have HS3 := hidP (HS2.out.below hgl4 L1)
          have HR1 := hidP hrest
          have HL1 := hidP L1
          clear hrest L1
          go_upto_region 15 with fail
          go_cut [9] from 16 to 78 (fun r wx => ∃ gs cs, r = .slice (some ⟨gs, 0, none⟩) (k - j) cs ∧ NRow w.heap.size wx gs cs (ys.drop j) ∧ Below W2.heap.size W2 wx)
          case first =>
            have hj0' : (0 : Int) ≤ (j : Int) := Int.natCast_nonneg _
            have hj1 : (j : Int) ≤ (k : Int) := by omega
            have hj2 : (j : Int) ≤ (c : Int) := by omega
            have hj3 : (k : Int) ≤ (c : Int) := by omega
            have LA : Below W2.heap.size W2 (W2.alloc (.cells #[] 2)) := (Below.refl _ _).alloc (Nat.le_refl _) _
            by_cases hjlt : j < k
            · have hcj : ¬ c = 0 := by omega
              have hcj2 : j < c := by omega
              have hcj3 : ¬ c - j = 0 := by omega
              have HSRC : Hid (SrcAt (W2.alloc (.cells #[] 2)) 1 (some ⟨g, j, none⟩) (k - j) (nvs (ys.drop j))) := by
                have := nsrc ((HS3.out.drop8 j).below (B := W2.heap.size) (by omega) LA)
                rwa [Nat.zero_add, show (ys.drop j).length = k - j by simp; omega] at this
              go_wp2_with (at_builtin; refine wpList_append_at _ rfl (.tmp 50) (.tmp 53) 24 rfl w.heap.size 2 j0 _ 1 8 Try.underlying24 hj0 hy0 hy1 hy2 rfl (by omega) W2.heap.size 0 0 [] rfl (World.ownsRow_lit W2 #[] 0 (by omega) (Nat.zero_le _) rfl) (some ⟨g, j, none⟩) (k - j) (c - j) (nvs (ys.drop j)) rfl HSRC.out (by unfold maxLen; omega) (by omega) (by simp; omega) (W2.heap.size + 1) (by simp) ?_; intro gr cr w3 hownr hgrowr hatr hltr)
              have hrest : NRow w.heap.size w3 gr cr (ys.drop j) := NRow.of hownr (by simp; omega) (by simp)
              have L3 : Below W2.heap.size W2 w3 := LA.grown hgrowr (by simp) (by intro q hq; cases hq; exact Nat.le_refl _)
              have HE := hidP (And.intro hrest L3)
              clear hownr hgrowr hatr hltr hrest L3 LA HSRC
              go_meet
              exact ⟨gr, cr, by first | rfl | rw [Nat.zero_add], HE.out.1, HE.out.2⟩
            · obtain rfl : j = k := by omega
              have HE : Hid (NRow w.heap.size (W2.alloc (.cells #[] 2)) W2.heap.size 0 (ys.drop j)) := by
                rw [List.drop_of_length_le (by omega)]
                exact NRow.start W2 _ hw2
              have HLA := hidP LA
              clear LA
              by_cases hc0 : c = 0
              · obtain rfl : j = 0 := by omega
                subst hc0
                go_wp2_with fail
                all_goals
                  go_meet
                  exact ⟨W2.heap.size, 0, rfl, HE.out, HLA.out⟩
              · by_cases hcj : c = j
                · subst hcj
                  go_wp2_with fail
                  all_goals
                    go_meet
                    exact ⟨W2.heap.size, 0, by simp, HE.out, HLA.out⟩
                · have hcj3 : ¬ c - j = 0 := by omega
                  go_wp2_with fail
                  all_goals
                    go_meet
                    exact ⟨W2.heap.size, 0, by simp, HE.out, HLA.out⟩
          case rest =>
            obtain ⟨gs, cs, rfl, hrest, L2⟩ := hcut
            obtain ⟨W3, hW3⟩ : ∃ W3, W3 = wc := ⟨_, rfl⟩
            rw [← hW3] at hrest L2
            rw [← hW3]
            clear hW3
            have hz3 := L2.size
            have HR3 := hidP hrest
            have HL3 := hidP (chain HL1.out L2)
            have HR2 := hidP (HR1.out.below (Nat.le_refl _) L2)
            have HS4 := hidP (HS1.out.below hgl2 HL3.out)
            have HS5 := hidP (HS2.out.below hgl4 HL3.out)
            clear hrest L2 HR1 HS3 HL1
            have hk1 : (j : Int) ≤ (c' : Int) := by omega
            have hk2 : (j : Int) ≤ (k : Int) := by omega
            have hk3 : (0 : Int) ≤ (j : Int) := by omega
            have hk4 : j ≤ c' := by omega
            have hw3 : w.heap.size ≤ W3.heap.size := by omega
            have HVR : Hid (∀ w', Below W3.heap.size W3 w' → SrcAt w' 1 (some ⟨gr, 0, none⟩) (k - j) (nvs (xs.drop j))) := fun w' L => by
              have := nsrc (HR2.out.seg.below HR2.out.lt.2 L)
              rwa [show (xs.drop j).length = k - j by simp; omega] at this
            have HEND : Hid (∀ (gC cC : Nat) (wC : World), wC.ownsRow w.heap.size 2 1 (.slice (some ⟨gC, 0, none⟩) (j + 1 + (k - j)) cC) (j + 1 + (k - j)) (nvs (xs.take j) ++ nvs [vw] ++ nvs (xs.drop j)) → Value.slice (some ⟨gC, 0, none⟩) (j + 1 + (k - j)) cC = .slice (some ⟨gC, 0, none⟩) (k + 1) cC ∧ NRow w.heap.size wC gC cC (xs.take j ++ vw :: xs.drop j)) := fun gC cC wC ho => by
              have e : j + 1 + (k - j) = k + 1 := by omega
              refine ⟨by rw [e], NRow.of ho (by simp; omega) (by simp [nvs])⟩
            go_upto_region 16 with fail
            go_cut [4] from 16 to 78 (fun o wx => ∃ gC cC, o = .slice (some ⟨gC, 0, none⟩) (k + 1) cC ∧ NRow w.heap.size wx gC cC (xs.take j ++ vw :: xs.drop j) ∧ Below W3.heap.size W3 wx)
            case first =>
              by_cases hk5 : c' = 0
              · subst hk5
                obtain rfl : j = 0 := by omega
                obtain rfl : k = 0 := by omega
                go_wp2_with first
                  | (at_builtin; refine wpList_append_at _ rfl (.tmp 55) (.tmp 58) 24 rfl w.heap.size 2 j0 _ 1 8 Try.underlying24 hj0 hy0 hy1 hy2 rfl (by omega) W3.heap.size 0 0 [] rfl (World.ownsRow_lit W3 #[] 0 (by omega) (Nat.zero_le _) rfl) _ 0 0 [] rfl (SrcAt.none8 _ _) (by unfold maxLen; omega) (by omega) (by simp; omega) (W3.heap.size + 1) (by simp) ?_; intro gA cA wA hoA hgA haA hlA; rw [Nat.zero_add]; have LwA : Below W3.heap.size W3 wA := ((Below.refl _ _).alloc (Nat.le_refl _) _).grown hgA (by simp) (by intro q hq; cases hq; exact Nat.le_refl _); have hA : W3.heap.size ≤ gA := (by omega); have hoA2 : wA.ownsRow w.heap.size 2 1 (.slice (some ⟨gA, 0, none⟩) 0 cA) 0 [] := (by simpa using hoA))
                  | (at_builtin; refine wpList_append_at _ rfl (.tmp 59) (.tmp 61) 24 rfl w.heap.size 2 j0 _ 1 8 Try.underlying24 hj0 hy0 hy1 hy2 rfl (by omega) gA 0 cA [] rfl (World.ownsRow.alloc hoA2 _) (some ⟨wA.heap.size, 0, none⟩) 1 1 (nvs [vw]) rfl (one_src8 (heap_alloc_new wA _)) (by unfold maxLen; omega) (by omega) (by have := LwA.size; simp; omega) (wA.heap.size + 1) (by simp) ?_; intro gB cB wB hoB hgB haB hlB; have LwB : Below W3.heap.size W3 wB := (LwA.alloc LwA.size _).grown hgB (by have := LwA.size; simp; omega) (by intro q hq; cases hq; exact hA); have hBB : W3.heap.size ≤ gB := (by have := LwA.size; omega); have hoB2 : wB.ownsRow w.heap.size 2 1 (.slice (some ⟨gB, 0, none⟩) (0 + 1) cB) (0 + 1) ([] ++ nvs [vw]) := hoB)
                  | (at_builtin; refine wpList_append_at _ rfl (.tmp 62) (.tmp 63) 24 rfl w.heap.size 2 j0 _ 1 8 Try.underlying24 hj0 hy0 hy1 hy2 rfl (by omega) gB (0 + 1) cB ([] ++ nvs [vw]) rfl hoB2 (some ⟨gr, 0, none⟩) (0 - 0) cr (nvs (xs.drop 0)) rfl (HVR.out _ LwB) (by unfold maxLen; omega) (by omega) (by have := LwB.size; omega) wB.heap.size (by rfl) ?_; intro gC cC wC hoC hgC haC hlC)
                have HF := hidP (HEND.out gC cC wC (by simpa [nvs] using hoC))
                have LC := hidP (LwB.grown hgC LwB.size (by intro q hq; cases hq; exact hBB))
                clear hoC hgC haC hlC hoB hgB hoA hgA hoB2 hoA2 LwA LwB
                go_meet
                exact ⟨gC, cC, by first | exact HF.out.1 | rfl, HF.out.2, LC.out⟩
              · have HVT : Hid (SrcAt (W3.alloc (.cells #[] 2)) 1 (some ⟨g', 0, none⟩) j (nvs (xs.take j))) := by
                  have := nsrc ((HS4.out.take8 j).below (B := W3.heap.size) (by omega) ((Below.refl _ _).alloc (Nat.le_refl _) (.cells #[] 2)))
                  rwa [show (xs.take j).length = j by simp; omega] at this
                go_wp2_with first
                  | (at_builtin; refine wpList_append_at _ rfl (.tmp 55) (.tmp 58) 24 rfl w.heap.size 2 j0 _ 1 8 Try.underlying24 hj0 hy0 hy1 hy2 rfl (by omega) W3.heap.size 0 0 [] rfl (World.ownsRow_lit W3 #[] 0 (by omega) (Nat.zero_le _) rfl) (some ⟨g', 0, none⟩) j c' (nvs (xs.take j)) rfl HVT.out (by unfold maxLen; omega) (by omega) (by simp; omega) (W3.heap.size + 1) (by simp) ?_; intro gA cA wA hoA hgA haA hlA; rw [Nat.zero_add]; have LwA : Below W3.heap.size W3 wA := ((Below.refl _ _).alloc (Nat.le_refl _) _).grown hgA (by simp) (by intro q hq; cases hq; exact Nat.le_refl _); have hA : W3.heap.size ≤ gA := (by omega); have hoA2 : wA.ownsRow w.heap.size 2 1 (.slice (some ⟨gA, 0, none⟩) j cA) j (nvs (xs.take j)) := (by simpa using hoA))
                  | (at_builtin; refine wpList_append_at _ rfl (.tmp 59) (.tmp 61) 24 rfl w.heap.size 2 j0 _ 1 8 Try.underlying24 hj0 hy0 hy1 hy2 rfl (by omega) gA j cA (nvs (xs.take j)) rfl (World.ownsRow.alloc hoA2 _) (some ⟨wA.heap.size, 0, none⟩) 1 1 (nvs [vw]) rfl (one_src8 (heap_alloc_new wA _)) (by unfold maxLen; omega) (by omega) (by have := LwA.size; simp; omega) (wA.heap.size + 1) (by simp) ?_; intro gB cB wB hoB hgB haB hlB; have LwB : Below W3.heap.size W3 wB := (LwA.alloc LwA.size _).grown hgB (by have := LwA.size; simp; omega) (by intro q hq; cases hq; exact hA); have hBB : W3.heap.size ≤ gB := (by have := LwA.size; omega); have hoB2 : wB.ownsRow w.heap.size 2 1 (.slice (some ⟨gB, 0, none⟩) (j + 1) cB) (j + 1) ((nvs (xs.take j)) ++ nvs [vw]) := hoB)
                  | (at_builtin; refine wpList_append_at _ rfl (.tmp 62) (.tmp 63) 24 rfl w.heap.size 2 j0 _ 1 8 Try.underlying24 hj0 hy0 hy1 hy2 rfl (by omega) gB (j + 1) cB ((nvs (xs.take j)) ++ nvs [vw]) rfl hoB2 (some ⟨gr, 0, none⟩) (k - j) cr (nvs (xs.drop j)) rfl (HVR.out _ LwB) (by unfold maxLen; omega) (by omega) (by have := LwB.size; omega) wB.heap.size (by rfl) ?_; intro gC cC wC hoC hgC haC hlC)
                have HF := hidP (HEND.out gC cC wC hoC)
                have LC := hidP (LwB.grown hgC LwB.size (by intro q hq; cases hq; exact hBB))
                clear hoC hgC haC hlC hoB hgB hoA hgA hoB2 hoA2 LwA LwB
                go_meet
                exact ⟨gC, cC, by first | exact HF.out.1 | rfl, HF.out.2, LC.out⟩
            case rest =>
              obtain ⟨gq, cq, rfl, hnew, L4⟩ := hcut
              obtain ⟨W4, hW4⟩ : ∃ W4, W4 = wc := ⟨_, rfl⟩
              rw [← hW4] at hnew L4
              rw [← hW4]
              clear hW4
              have hz4 := L4.size
              have hq3 : b < W4.heap.size := by omega
              have HL4 := hidP (chain (chain HL.out HL3.out) L4)
              have HR4 := hidP (HR3.out.below (Nat.le_refl _) L4)
              have HS6 := hidP (HS5.out.below (Nat.lt_of_lt_of_le hgl4 HL3.out.size) L4)
              have HNEW := hidP hnew
              have e0 := ((chain HL3.out L4).cell (p := ⟨b, off + k * 2, none⟩) (Nat.lt_of_lt_of_le hb hw1)).trans z0
              have hw4 : w.heap.size ≤ W4.heap.size := by omega
              have hm1 : (j : Int) ≤ (c : Int) := by omega
              have hm4 : j ≤ c := by omega
              have hn0 : (0 : Int) ≤ (k : Int) := by omega
              have hn1 : (k : Int) < (ds.length : Int) := by omega
              have HVR : Hid (∀ w', Below W4.heap.size W4 w' → SrcAt w' 1 (some ⟨gs, 0, none⟩) (k - j) (nvs (ys.drop j))) := fun w' L => by
                have := nsrc (HR4.out.seg.below HR4.out.lt.2 L)
                rwa [show (ys.drop j).length = k - j by simp; omega] at this
              have HEND : Hid (∀ (gC cC : Nat) (wC : World), wC.ownsRow w.heap.size 2 1 (.slice (some ⟨gC, 0, none⟩) (j + 1 + (k - j)) cC) (j + 1 + (k - j)) (nvs (ys.take j) ++ nvs [d.1] ++ nvs (ys.drop j)) → Below W4.heap.size W4 wC → Value.slice (some ⟨gC, 0, none⟩) (j + 1 + (k - j)) cC = .slice (some ⟨gC, 0, none⟩) (k + 1) cC ∧ NRow w.heap.size wC gC cC (ys.take j ++ d.1 :: ys.drop j) ∧ NRow w.heap.size wC gq cq (xs.take j ++ vw :: xs.drop j) ∧ Below w.heap.size w wC) := fun gC cC wC ho L => by
                have e : j + 1 + (k - j) = k + 1 := by omega
                exact ⟨by rw [e], NRow.of ho (by simp; omega) (by simp [nvs]), HNEW.out.below (Nat.le_refl _) L, chain HL4.out L⟩
              clear HS1 HS2 HS4 HS5 HR2 HR3 HL3 z0 z1 L4 hnew HROW HROW' HL
              go_upto_region 17 with fail
              by_cases hk5 : c = 0
              · subst hk5
                obtain rfl : j = 0 := by omega
                obtain rfl : k = 0 := by omega
                simp only [Nat.zero_mul, Nat.add_zero] at e0
                go_region_held3 (fun w' => w'.cell? ⟨b, off, none⟩ = some (.int .i64 d.1) ∧ Below W4.heap.size W4 w')
                  (first
                    | exact ⟨e0, (Below.refl _ _).drew⟩
                    | exact DN.grown ⟨f0, LwB⟩ hq3 hgC hBB
                    | exact DN.of hq3 e0 LwB
                    | exact DN.of hq3 e0 (LwA.alloc (by omega) _)
                    | exact DN.of hq3 e0 LwA
                    | exact DN.of hq3 e0 ((Below.refl _ _).alloc (Nat.le_refl _) _).drew
                    | exact DN.of hq3 e0 (((Below.refl _ _).alloc (Nat.le_refl _) _).alloc (by simp) _).drew)
                  (first
                    | (refine step_append_at _ (by rfl) (.tmp 65) (.tmp 68) 24 (by rfl) w.heap.size 2 j0 _ 1 8 Try.underlying24 hj0 hy0 hy1 hy2 rfl (by omega) W4.heap.size 0 0 [] (by rfl) (World.ownsRow.drew (World.ownsRow_lit W4 #[] 0 (by omega) (Nat.zero_le _) rfl)) _ 0 0 [] (by rfl) (SrcAt.none8 _ _) (by unfold maxLen; omega) (by omega) (by simp; omega) (W4.heap.size + 1) (by simp) ?_; intro gA cA wA hoA hgA haA hlA; rw [Nat.zero_add]; have LwA : Below W4.heap.size W4 wA := ((Below.refl _ _).alloc (Nat.le_refl _) _).drew.grown hgA (by simp) (by intro q hq; cases hq; exact Nat.le_refl _); have hA : W4.heap.size ≤ gA := (by omega); have hoA2 : wA.ownsRow w.heap.size 2 1 (.slice (some ⟨gA, 0, none⟩) 0 cA) 0 [] := (by simpa using hoA))
                    | (refine step_append_at _ (by rfl) (.tmp 65) (.tmp 68) 24 (by rfl) w.heap.size 2 j0 _ 1 8 Try.underlying24 hj0 hy0 hy1 hy2 rfl (by omega) W4.heap.size 0 0 [] (by rfl) (World.ownsRow.drew (World.ownsRow.alloc (World.ownsRow_lit W4 #[] 0 (by omega) (Nat.zero_le _) rfl) _)) _ 0 0 [] (by rfl) (SrcAt.none8 _ _) (by unfold maxLen; omega) (by omega) (by simp; omega) (W4.heap.size + 1 + 1) (by simp) ?_; intro gA cA wA hoA hgA haA hlA; rw [Nat.zero_add]; have LwA : Below W4.heap.size W4 wA := (((Below.refl _ _).alloc (Nat.le_refl _) _).alloc (by simp) _).drew.grown hgA (by simp; omega) (by intro q hq; cases hq; exact Nat.le_refl _); have hA : W4.heap.size ≤ gA := (by omega); have hoA2 : wA.ownsRow w.heap.size 2 1 (.slice (some ⟨gA, 0, none⟩) 0 cA) 0 [] := (by simpa using hoA); have hX : wA.heap[W4.heap.size + 1]? = some (.cells #[.int .i64 d.1] 2 (0, 0)) := put_two hgA)
                    | (refine step_append_at _ (by rfl) (.tmp 65) (.tmp 68) 24 (by rfl) w.heap.size 2 j0 _ 1 8 Try.underlying24 hj0 hy0 hy1 hy2 rfl (by omega) (W4.heap.size + 1) 0 0 [] (by rfl) (put_lit8 W4 _ (by omega)) _ 0 0 [] (by rfl) (SrcAt.none8 _ _) (by unfold maxLen; omega) (by omega) (by simp; omega) (W4.heap.size + 1 + 1) (by simp) ?_; intro gA cA wA hoA hgA haA hlA; rw [Nat.zero_add]; have LwA : Below W4.heap.size W4 wA := (((Below.refl _ _).alloc (Nat.le_refl _) _).alloc (by simp) _).drew.grown hgA (by simp; omega) (by intro q hq; cases hq; omega); have hA : W4.heap.size ≤ gA := (by omega); have hoA2 : wA.ownsRow w.heap.size 2 1 (.slice (some ⟨gA, 0, none⟩) 0 cA) 0 [] := (by simpa using hoA); have hX : wA.heap[W4.heap.size]? = some (.cells #[.int .i64 d.1] 2 (0, 0)) := put_one hgA)
                    | (refine step_append_at _ (by rfl) (.tmp 69) (.tmp 75) 24 (by rfl) w.heap.size 2 j0 _ 1 8 Try.underlying24 hj0 hy0 hy1 hy2 rfl (by omega) gA 0 cA [] (by rfl) hoA2 (some ⟨_, 0, none⟩) 1 1 (nvs [d.1]) (by rfl) (one_src8 hX) (by unfold maxLen; omega) (by omega) (by have := LwA.size; omega) wA.heap.size (by rfl) ?_; intro gB cB wB hoB hgB haB hlB; have LwB : Below W4.heap.size W4 wB := LwA.grown hgB LwA.size (by intro q hq; cases hq; exact hA); have hBB : W4.heap.size ≤ gB := (by have := LwA.size; omega); have hoB2 : wB.ownsRow w.heap.size 2 1 (.slice (some ⟨gB, 0, none⟩) (0 + 1) cB) (0 + 1) ([] ++ nvs [d.1]) := hoB)
                    | (refine step_append_at _ (by rfl) (.tmp 69) (.tmp 75) 24 (by rfl) w.heap.size 2 j0 _ 1 8 Try.underlying24 hj0 hy0 hy1 hy2 rfl (by omega) gA 0 cA [] (by rfl) (World.ownsRow.alloc hoA2 _) (some ⟨wA.heap.size, 0, none⟩) 1 1 (nvs [d.1]) (by rfl) (one_src8 (heap_alloc_new wA _)) (by unfold maxLen; omega) (by omega) (by have := LwA.size; simp; omega) (wA.heap.size + 1) (by simp) ?_; intro gB cB wB hoB hgB haB hlB; have LwB : Below W4.heap.size W4 wB := (LwA.alloc LwA.size _).grown hgB (by have := LwA.size; simp; omega) (by intro q hq; cases hq; exact hA); have hBB : W4.heap.size ≤ gB := (by have := LwA.size; omega); have hoB2 : wB.ownsRow w.heap.size 2 1 (.slice (some ⟨gB, 0, none⟩) (0 + 1) cB) (0 + 1) ([] ++ nvs [d.1]) := hoB)
                    | (refine step_append_at _ (by rfl) (.tmp 76) (.tmp 77) 24 (by rfl) w.heap.size 2 j0 _ 1 8 Try.underlying24 hj0 hy0 hy1 hy2 rfl (by omega) gB (0 + 1) cB ([] ++ nvs [d.1]) (by rfl) hoB2 (some ⟨gs, 0, none⟩) (0 - 0) cs (nvs (ys.drop 0)) (by rfl) (HVR.out _ LwB) (by unfold maxLen; omega) (by omega) (by have := LwB.size; omega) wB.heap.size (by rfl) ?_; intro gC cC wC hoC hgC haC hlC; have f0 := (LwB.cell (p := ⟨b, off, none⟩) hq3).trans e0))
                all_goals
                  have HF := hidP (HEND.out gC cC wC (by simpa [nvs] using hoC) (LwB.grown hgC LwB.size (by intro q hq; cases hq; exact hBB)))
                  clear hoC hgC haC hlC hoB hgB hoA hgA hoB2 hoA2 LwA LwB
                  go_wp2_with fail
                  go_roundw
                  case rel => exact ⟨0 + 1, gC, cC, gq, cq, by omega, by go_num, by first | exact HF.out.1 | rfl, by rfl, by rw [HNX.out, HYI.out]; exact HF.out.2.1, by rw [HNX.out, HXI.out]; exact HF.out.2.2.1, HF.out.2.2.2, HUPN.out⟩
                  case measure => simp [intOf]; omega
              · have HVT : Hid (∀ w', Below W4.heap.size W4 w' → SrcAt w' 1 (some ⟨g, 0, none⟩) j (nvs (ys.take j))) := fun w' L => by
                  have := nsrc ((HS6.out.take8 j).below (B := W4.heap.size) (by omega) L)
                  rwa [show (ys.take j).length = j by simp; omega] at this
                go_region_held3 (fun w' => w'.cell? ⟨b, off + k * 2, none⟩ = some (.int .i64 d.1) ∧ Below W4.heap.size W4 w')
                  (first
                    | exact ⟨e0, (Below.refl _ _).drew⟩
                    | exact DN.grown ⟨f0, LwB⟩ hq3 hgC hBB
                    | exact DN.of hq3 e0 LwB
                    | exact DN.of hq3 e0 (LwA.alloc (by omega) _)
                    | exact DN.of hq3 e0 LwA
                    | exact DN.of hq3 e0 ((Below.refl _ _).alloc (Nat.le_refl _) _).drew
                    | exact DN.of hq3 e0 (((Below.refl _ _).alloc (Nat.le_refl _) _).alloc (by simp) _).drew)
                  (first
                    | (refine step_append_at _ (by rfl) (.tmp 65) (.tmp 68) 24 (by rfl) w.heap.size 2 j0 _ 1 8 Try.underlying24 hj0 hy0 hy1 hy2 rfl (by omega) W4.heap.size 0 0 [] (by rfl) (World.ownsRow.drew (World.ownsRow_lit W4 #[] 0 (by omega) (Nat.zero_le _) rfl)) (some ⟨g, 0, none⟩) j c (nvs (ys.take j)) (by rfl) (HVT.out _ ((Below.refl _ _).alloc (Nat.le_refl _) _).drew) (by unfold maxLen; omega) (by omega) (by simp; omega) (W4.heap.size + 1) (by simp) ?_; intro gA cA wA hoA hgA haA hlA; rw [Nat.zero_add]; have LwA : Below W4.heap.size W4 wA := ((Below.refl _ _).alloc (Nat.le_refl _) _).drew.grown hgA (by simp) (by intro q hq; cases hq; exact Nat.le_refl _); have hA : W4.heap.size ≤ gA := (by omega); have hoA2 : wA.ownsRow w.heap.size 2 1 (.slice (some ⟨gA, 0, none⟩) j cA) j (nvs (ys.take j)) := (by simpa using hoA))
                    | (refine step_append_at _ (by rfl) (.tmp 65) (.tmp 68) 24 (by rfl) w.heap.size 2 j0 _ 1 8 Try.underlying24 hj0 hy0 hy1 hy2 rfl (by omega) W4.heap.size 0 0 [] (by rfl) (World.ownsRow.drew (World.ownsRow.alloc (World.ownsRow_lit W4 #[] 0 (by omega) (Nat.zero_le _) rfl) _)) (some ⟨g, 0, none⟩) j c (nvs (ys.take j)) (by rfl) (HVT.out _ (((Below.refl _ _).alloc (Nat.le_refl _) _).alloc (by simp) _).drew) (by unfold maxLen; omega) (by omega) (by simp; omega) (W4.heap.size + 1 + 1) (by simp) ?_; intro gA cA wA hoA hgA haA hlA; rw [Nat.zero_add]; have LwA : Below W4.heap.size W4 wA := (((Below.refl _ _).alloc (Nat.le_refl _) _).alloc (by simp) _).drew.grown hgA (by simp; omega) (by intro q hq; cases hq; exact Nat.le_refl _); have hA : W4.heap.size ≤ gA := (by omega); have hoA2 : wA.ownsRow w.heap.size 2 1 (.slice (some ⟨gA, 0, none⟩) j cA) j (nvs (ys.take j)) := (by simpa using hoA); have hX : wA.heap[W4.heap.size + 1]? = some (.cells #[.int .i64 d.1] 2 (0, 0)) := put_two hgA)
                    | (refine step_append_at _ (by rfl) (.tmp 65) (.tmp 68) 24 (by rfl) w.heap.size 2 j0 _ 1 8 Try.underlying24 hj0 hy0 hy1 hy2 rfl (by omega) (W4.heap.size + 1) 0 0 [] (by rfl) (put_lit8 W4 _ (by omega)) (some ⟨g, 0, none⟩) j c (nvs (ys.take j)) (by rfl) (HVT.out _ (((Below.refl _ _).alloc (Nat.le_refl _) _).alloc (by simp) _).drew) (by unfold maxLen; omega) (by omega) (by simp; omega) (W4.heap.size + 1 + 1) (by simp) ?_; intro gA cA wA hoA hgA haA hlA; rw [Nat.zero_add]; have LwA : Below W4.heap.size W4 wA := (((Below.refl _ _).alloc (Nat.le_refl _) _).alloc (by simp) _).drew.grown hgA (by simp; omega) (by intro q hq; cases hq; omega); have hA : W4.heap.size ≤ gA := (by omega); have hoA2 : wA.ownsRow w.heap.size 2 1 (.slice (some ⟨gA, 0, none⟩) j cA) j (nvs (ys.take j)) := (by simpa using hoA); have hX : wA.heap[W4.heap.size]? = some (.cells #[.int .i64 d.1] 2 (0, 0)) := put_one hgA)
                    | (refine step_append_at _ (by rfl) (.tmp 69) (.tmp 75) 24 (by rfl) w.heap.size 2 j0 _ 1 8 Try.underlying24 hj0 hy0 hy1 hy2 rfl (by omega) gA j cA (nvs (ys.take j)) (by rfl) hoA2 (some ⟨_, 0, none⟩) 1 1 (nvs [d.1]) (by rfl) (one_src8 hX) (by unfold maxLen; omega) (by omega) (by have := LwA.size; omega) wA.heap.size (by rfl) ?_; intro gB cB wB hoB hgB haB hlB; have LwB : Below W4.heap.size W4 wB := LwA.grown hgB LwA.size (by intro q hq; cases hq; exact hA); have hBB : W4.heap.size ≤ gB := (by have := LwA.size; omega); have hoB2 : wB.ownsRow w.heap.size 2 1 (.slice (some ⟨gB, 0, none⟩) (j + 1) cB) (j + 1) ((nvs (ys.take j)) ++ nvs [d.1]) := hoB)
                    | (refine step_append_at _ (by rfl) (.tmp 69) (.tmp 75) 24 (by rfl) w.heap.size 2 j0 _ 1 8 Try.underlying24 hj0 hy0 hy1 hy2 rfl (by omega) gA j cA (nvs (ys.take j)) (by rfl) (World.ownsRow.alloc hoA2 _) (some ⟨wA.heap.size, 0, none⟩) 1 1 (nvs [d.1]) (by rfl) (one_src8 (heap_alloc_new wA _)) (by unfold maxLen; omega) (by omega) (by have := LwA.size; simp; omega) (wA.heap.size + 1) (by simp) ?_; intro gB cB wB hoB hgB haB hlB; have LwB : Below W4.heap.size W4 wB := (LwA.alloc LwA.size _).grown hgB (by have := LwA.size; simp; omega) (by intro q hq; cases hq; exact hA); have hBB : W4.heap.size ≤ gB := (by have := LwA.size; omega); have hoB2 : wB.ownsRow w.heap.size 2 1 (.slice (some ⟨gB, 0, none⟩) (j + 1) cB) (j + 1) ((nvs (ys.take j)) ++ nvs [d.1]) := hoB)
                    | (refine step_append_at _ (by rfl) (.tmp 76) (.tmp 77) 24 (by rfl) w.heap.size 2 j0 _ 1 8 Try.underlying24 hj0 hy0 hy1 hy2 rfl (by omega) gB (j + 1) cB ((nvs (ys.take j)) ++ nvs [d.1]) (by rfl) hoB2 (some ⟨gs, 0, none⟩) (k - j) cs (nvs (ys.drop j)) (by rfl) (HVR.out _ LwB) (by unfold maxLen; omega) (by omega) (by have := LwB.size; omega) wB.heap.size (by rfl) ?_; intro gC cC wC hoC hgC haC hlC; have f0 := (LwB.cell (p := ⟨b, off + k * 2, none⟩) hq3).trans e0))
                all_goals
                  have HF := hidP (HEND.out gC cC wC hoC (LwB.grown hgC LwB.size (by intro q hq; cases hq; exact hBB)))
                  clear hoC hgC haC hlC hoB hgB hoA hgA hoB2 hoA2 LwA LwB
                  go_wp2_with fail
                  go_roundw
                  case rel => exact ⟨k + 1, gC, cC, gq, cq, by omega, by go_num, HF.out.1, rfl, by rw [HNX.out, HYI.out]; exact HF.out.2.1, by rw [HNX.out, HXI.out]; exact HF.out.2.2.1, HF.out.2.2.2, HUPN.out⟩
                  case measure => simp [intOf]; omega
    · obtain rfl : k = ds.length := by omega
      rw [List.take_of_length_le (by simp)] at hrow
      have hR : ranksS ds = (sortBy plt (ds.map pairS)).map (·.2) := by
        have : allLine ds = true := by
          simp only [allLine, List.all_eq_true]
          intro d hd
          obtain ⟨i, hi, rfl⟩ := List.getElem_of_mem hd
          have := HUP.out i hi
          rwa [snth_get hi] at this
        simp [ranksS, this]
      rw [← hR] at hrow
      have HLEN := hidP (show (ranksS ds).length = ds.length by rw [hR]; simp [sortBy_length])
      have HE := hidP (And.intro hrow L)
      clear HUP hR
      clear hrow hrow' L
      go_wp2_with fail
      go_ret
      exact ⟨g, c, by rw [HLEN.out]; rfl, HE.out.1, HE.out.2⟩
end Go.Proofs.Ytibkfdefoaimiaa
