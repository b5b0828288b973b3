/-
  The program's own group and groups of a table of ties; idsOf over marks.
-/
import Derived.Test.YtfbindjacmaeoaaQTieZz
import Derived.Test.YtfbindjacmaeoaaGIdsZz
import Derived.Test.YtfbindjacmaeoaaESpGZz
namespace Go.Proofs.Ytfbindjacmaeoaa
open Go Go.RowKit Go.Maps

def midsL (ms : List Mk) : List Int := ms.map (·.1)
theorem midsL_len (ms : List Mk) : (midsL ms).length = ms.length := by simp [midsL]
theorem midsL_at {ms : List Mk} {i : Nat} (h : i < ms.length) : nth (midsL ms) i = mid ms i := by simp [nth, midsL, mid, List.getD, h]
theorem iIdsM (ao : Option Addr) (cap : Nat) (ms : List Mk) (w : World) (hv : MView w ao ms) (hn : ms.length ≤ 1048576) :
    Calls Try.prog 72 #[.slice ao ms.length cap] w fun e w' => ∃ g, e = .returned (.slice (some ⟨g, 0, none⟩) ms.length ms.length) ∧ w.heap.size ≤ g ∧ Own w' g (midsL ms) ∧ Below w.heap.size w w' := by
  obtain ⟨ds, hds, hsv, hsl⟩ := MView.sview hv
  have hlen : ds.length = ms.length := by rw [← hds, smMarks_length]
  have hid : ds.map (·.1) = midsL ms := by rw [← hds]; simp [midsL, smMarks, smMark]
  have h := gIds ao cap ds w (by omega) hsv
  rw [hlen, hid] at h
  exact h

set_option maxRecDepth 100000 in
set_option maxHeartbeats 2000000 in
theorem iGroup (B gi ci i : Nat) (ms : List Mk) (p : Nat → Nat) (w : World) (hm : marksB ms = true) (hT : Ties w B ms p) (hs : Seg w gi 0 (midsL ms)) (hgi : gi < w.heap.size) (hi : i < ms.length) (hp : ∀ i, p i ≤ i) :
    Calls Try.prog 107 #[.map (some B), .int .i64 (mid ms i), .slice (some ⟨gi, 0, none⟩) ms.length ci] w fun e w' => ∃ g c, e = .returned (.slice (some ⟨g, 0, none⟩) (grpAt ms p i).length c) ∧ IRow w.heap.size w' g c (grpAt ms p i) ∧ Below w.heap.size w w' := by
  obtain ⟨j0, hj0, hy0, hy1, hy2⟩ := info_parts Try.info2
  have HM := hidP hm
  have HT := hidP hT
  have HS := hidP hs
  have hn60 := marksB_len hm
  have HP := hidP hp
  have HGA := hidP (gTo_all ms p i)
  have hBl := hT.lt
  clear hm hT hs hp
  go_enter Try.func107, Try.ntmps107
  go_wp2_with fail
  go_loopw [7, 13] (fun v k wr => ∃ (m g c l : Nat), m ≤ ms.length ∧ k = .int .i64 m ∧ v = .slice (some ⟨g, 0, none⟩) l c ∧ l = (gTo ms p i m).length ∧ IRow w.heap.size wr g c (gTo ms p i m) ∧ Below w.heap.size w wr) (fun _ k _ => ms.length - (intOf k).toNat)
  case atStart => exact ⟨0, w.heap.size, 0, 0, Nat.zero_le _, rfl, rfl, rfl, IRow.start w _ (Nat.le_refl _), (Below.refl _ _).alloc (Nat.le_refl _) _⟩
  case round =>
    obtain ⟨m, g, c, l, hml, rfl, rfl, hl, hrow, L⟩ := hrel
    have hgl := hrow.lt
    have hll : l ≤ 60 := by rw [hl]; have := gTo_len ms p i m; omega
    have HROW := hidP hrow
    have HL := hidP L
    have HLE := hidP hl
    have hzg := L.size
    by_cases hlt : m < ms.length
    · have q1 := (HS.out.below hgi L) m (by rw [midsL_len]; exact hlt)
      rw [Nat.zero_add, midsL_at hlt] at q1
      have hm0 : (0 : Int) ≤ (m : Int) := Int.natCast_nonneg _
      have hm1 : (m : Int) < (ms.length : Int) := by omega
      have HF := hidP (iFirst B ms p m wr HM.out (HT.out.below L) hlt)
      have hpm : p m < ms.length := by have := HP.out m; omega
      clear hrow L hl
      by_cases hpi : p m = i
      · have hpb : (mid ms (p m) == mid ms i) = true := by simp [hpi]
        have HGN := hidP (gTo_hit (ms := ms) hpi)
        have HOW : Hid (wr.ownsRow w.heap.size 2 1 (.slice (some ⟨g, 0, none⟩) l c) l ((gTo ms p i m).map (Value.int .i64))) := by
          have h := HROW.out
          unfold IRow at h
          rw [← HLE.out] at h
          exact h
        clear hpi
        go_wp2_with fail
        refine HF.out.mono ?_
        rintro e w2 ⟨rfl, hw2⟩
        subst w2
        go_wp2_with (at_builtin; refine wpList_append_lies _ rfl (.tmp 22) (.tmp 24) 36 rfl w.heap.size 2 j0 _ 1 8 Try.underlying36 hj0 hy0 hy1 hy2 rfl (by omega) (.slice (some ⟨g, 0, none⟩) l c) l ((gTo ms p i m).map (Value.int .i64)) rfl (World.ownsRow.alloc HOW.out _) ⟨wr.heap.size, 0, none⟩ 1 1 [.int .i64 (mid ms m)] rfl rfl (World.news_of_block (cs := #[.int .i64 (mid ms m)]) (t := 2) (fr := (0, 0)) (heap_alloc_new wr _)) (by simp [Value.oneCell']) (by omega) (by unfold maxLen; omega) (by omega) (by simp; omega) (wr.heap.size + 1) (by simp) ?_; intro g8 c8 w8 hown hgrow hat8 hlt8)
        have HF8 : Hid (l + 1 = (gTo ms p i (m + 1)).length ∧ IRow w.heap.size w8 g8 c8 (gTo ms p i (m + 1)) ∧ Below w.heap.size w w8) := by
          refine ⟨by rw [HGN.out, List.length_append, ← HLE.out]; rfl, ?_, ?_⟩
          · rw [HGN.out]
            exact IRow.of hown (by rw [List.length_append, ← HLE.out]; rfl) (by simp)
          · refine (HL.out.alloc (by omega) _).grown hgrow (by simp; omega) ?_
            intro q hq
            simp [Value.ownBlock] at hq
            omega
        clear hown hgrow hat8 hlt8
        go_wp2_with fail
        go_roundw
        case rel => exact ⟨m + 1, g8, c8, l + 1, by omega, by go_num, rfl, HF8.out⟩
        case measure => simp [intOf]; omega
      · have hpb : (mid ms (p m) == mid ms i) = false := by
          simp only [beq_eq_false_iff_ne]
          exact fun e => hpi (zmid_inj HM.out hpm hi e)
        have HGN := hidP (gTo_miss (ms := ms) hpi)
        clear hpi
        go_wp2_with fail
        refine HF.out.mono ?_
        rintro e w2 ⟨rfl, hw2⟩
        subst w2
        go_wp2_with fail
        go_roundw
        case rel => exact ⟨m + 1, g, c, l, by omega, by go_num, rfl, by rw [HGN.out]; exact HLE.out, by rw [HGN.out]; exact HROW.out, HL.out⟩
        case measure => simp [intOf]; omega
    · obtain rfl : m = ms.length := by omega
      clear hrow L hl
      go_wp2_with fail
      go_ret
      exact ⟨g, c, by rw [← HGA.out, ← HLE.out]; rfl, by rw [← HGA.out]; exact HROW.out, HL.out⟩

set_option maxRecDepth 100000 in
set_option maxHeartbeats 2000000 in
theorem iGrps (B gi ci : Nat) (ms : List Mk) (p : Nat → Nat) (w : World) (hm : marksB ms = true) (hT : Ties w B ms p) (hs : Seg w gi 0 (midsL ms)) (hgi : gi < w.heap.size) (hp : ∀ i, p i ≤ i) :
    Calls Try.prog 71 #[.map (some B), .slice (some ⟨gi, 0, none⟩) ms.length ci] w fun e w' => ∃ g c rs, e = .returned (.slice (some ⟨g, 0, none⟩) rs.length c) ∧ nums rs = grpOf ms p ∧ LMem w.heap.size w' g c rs ∧ Below w.heap.size w w' := by
  obtain ⟨i0, hi0, hz0, hz1', hz2⟩ := info_parts Try.infoL
  have HM := hidP hm
  have HT := hidP hT
  have HS := hidP hs
  have hn60 := marksB_len hm
  have HP := hidP hp
  have hBl := hT.lt
  clear hm hT hs hp
  go_enter Try.func71, Try.ntmps71
  go_wp2_with fail
  go_loopw [5, 11] (fun v k wr => ∃ (m g c : Nat) (rs : List Rw), m ≤ ms.length ∧ k = .int .i64 m ∧ v = .slice (some ⟨g, 0, none⟩) rs.length c ∧ nums rs = gsTo ms p m ∧ LMem w.heap.size wr g c rs ∧ Below w.heap.size w wr) (fun _ k _ => ms.length - (intOf k).toNat)
  case atStart => exact ⟨0, w.heap.size, 0, [], Nat.zero_le _, rfl, rfl, rfl, LMem.start w _ (Nat.le_refl _), (Below.refl _ _).alloc (Nat.le_refl _) _⟩
  case round =>
    obtain ⟨m, g, c, rs, hml, rfl, rfl, hnm, hmem, L⟩ := hrel
    have HNM := hidP hnm
    have hrl : rs.length ≤ 60 := by
      have h1 := congrArg List.length hnm
      rw [nums_length] at h1
      have h2 := gsTo_len ms p m
      omega
    have HMEM := hidP hmem
    have HL := hidP L
    have hzg := L.size
    clear hnm
    by_cases hlt : m < ms.length
    · have q1 := (HS.out.below hgi L) m (by rw [midsL_len]; exact hlt)
      rw [Nat.zero_add, midsL_at hlt] at q1
      have hm0 : (0 : Int) ≤ (m : Int) := Int.natCast_nonneg _
      have hm1 : (m : Int) < (ms.length : Int) := by omega
      have HF := hidP (iFirst B ms p m wr HM.out (HT.out.below L) hlt)
      have hpm : p m < ms.length := by have := HP.out m; omega
      by_cases hpi : p m = m
      · have hpb : (mid ms (p m) == mid ms m) = true := by simp [hpi]
        have HNX := hidP (gsTo_hit (ms := ms) hpi)
        have HG := hidP (iGroup B gi ci m ms p wr HM.out (HT.out.below L) (HS.out.below hgi L) (by omega) hlt HP.out)
        clear hpi hmem L
        go_wp2_with fail
        refine HF.out.mono ?_
        rintro e w2 ⟨rfl, hw2⟩
        subst w2
        go_wp2_with fail
        refine HG.out.mono ?_
        rintro e w3 ⟨gg, cc, rfl, hrg, LG⟩
        have A8 := alloc_below w3 (.cells #[.slice (some ⟨gg, 0, none⟩) (grpAt ms p m).length cc] 36)
        have LX : Below wr.heap.size wr (w3.alloc (.cells #[.slice (some ⟨gg, 0, none⟩) (grpAt ms p m).length cc] 36)) := LG.trans (A8.mono LG.size)
        have HG8 := hidP (HMEM.out.below LX)
        have HL8 : Hid (Below w.heap.size w (w3.alloc (.cells #[.slice (some ⟨gg, 0, none⟩) (grpAt ms p m).length cc] 36))) := HL.out.trans (LX.mono hzg)
        have HR8 : Hid (IRow w.heap.size (w3.alloc (.cells #[.slice (some ⟨gg, 0, none⟩) (grpAt ms p m).length cc] 36)) gg cc (grpAt ms p m)) := (hrg.below A8).mono hzg
        have HRO : Hid (g < wr.heap.size ∧ ∀ r ∈ rs, r.1 < wr.heap.size) := ⟨HMEM.out.row.lt.2, fun r hr => (HMEM.out.rows r hr).lt.2⟩
        have HOW : Hid ((w3.alloc (.cells #[.slice (some ⟨gg, 0, none⟩) (grpAt ms p m).length cc] 36)).ownsRow w.heap.size 36 1 (.slice (some ⟨g, 0, none⟩) rs.length c) rs.length (rs.map rwV)) := HG8.out.row
        have hz3 := LG.size
        have hgg := hrg.lt
        clear hrg LG LX A8 HF HG
        go_wp2_with (at_builtin; refine wpList_append_lies _ rfl (.tmp 20) (.tmp 25) 44 rfl w.heap.size 36 i0 _ 1 24 Try.underlying44 hi0 hz0 hz1' hz2 rfl (by omega) (.slice (some ⟨g, 0, none⟩) rs.length c) rs.length (rs.map rwV) rfl HOW.out ⟨w3.heap.size, 0, none⟩ 1 1 [.slice (some ⟨gg, 0, none⟩) (grpAt ms p m).length cc] rfl rfl (World.news_of_block (cs := #[.slice (some ⟨gg, 0, none⟩) (grpAt ms p m).length cc]) (t := 36) (fr := (0, 0)) (heap_alloc_new w3 _)) (by simp [Value.oneCell']) (by omega) (by unfold maxLen; omega) (by omega) (by simp; omega) (w3.heap.size + 1) (by simp) ?_; intro g8 c8 w8 hown hgrow hat8 hlt8)
        have hgr : World.grownBy _ w8 (some g) := hgrow
        have hg4 : ∀ x ∈ rs, x.1 ≠ gg := fun x hx => by have := HRO.out.2 x hx; omega
        have hg4g : gg ≠ g := by have := HRO.out.1; omega
        have HF8 : Hid (nums (rs ++ [(gg, cc, grpAt ms p m)]) = gsTo ms p (m + 1) ∧ LMem w.heap.size w8 g8 c8 (rs ++ [(gg, cc, grpAt ms p m)]) ∧ Below w.heap.size w w8) := by
          have hown' : w8.ownsRow w.heap.size 36 1 (.slice (some ⟨g8, 0, none⟩) (rs.length + 1) c8) (rs.length + 1) (rs.map rwV ++ [rwV (gg, cc, grpAt ms p m)]) := hown
          refine ⟨by rw [nums_snoc, HNX.out, HNM.out], HG8.out.snoc hown' hgr (by rcases hat8 with h | h; exact Or.inl (by simpa [Value.ownBlock] using h); exact Or.inr (by rw [h]; simp)) HR8.out hg4g hg4, ?_⟩
          exact HL8.out.grown hgr HL8.out.size (by intro q hq; cases hq; have := HG8.out.row.lt; omega)
        clear hown hgrow hat8 hlt8 hgr
        go_wp2_with fail
        go_roundw
        case rel => exact ⟨m + 1, g8, c8, rs ++ [(gg, cc, grpAt ms p m)], by omega, by go_num, by simp, HF8.out⟩
        case measure => simp [intOf]; omega
      · have hpb : (mid ms (p m) == mid ms m) = false := by
          simp only [beq_eq_false_iff_ne]
          exact fun e => hpi (zmid_inj HM.out hpm hlt e)
        have HNX := hidP (gsTo_miss (ms := ms) hpi)
        clear hpi hmem L
        go_wp2_with fail
        refine HF.out.mono ?_
        rintro e w2 ⟨rfl, hw2⟩
        subst w2
        go_wp2_with fail
        go_roundw
        case rel => exact ⟨m + 1, g, c, rs, by omega, by go_num, rfl, by rw [HNX.out]; exact HNM.out, HMEM.out, HL.out⟩
        case measure => simp [intOf]; omega
    · obtain rfl : m = ms.length := by omega
      clear hmem L
      go_wp2_with fail
      go_ret
      exact ⟨g, c, rs, rfl, by rw [← gsTo_all]; exact HNM.out, HMEM.out, HL.out⟩

end Go.Proofs.Ytfbindjacmaeoaa
