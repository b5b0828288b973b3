/-
  The program's own group and groups of a table of ties; idsOf over marks.
  slices.Index over numbers; the program's own groupsOk and tieAll.
  The program's own Gap.
-/
import Derived.Test.YtfbindjacmaeoaaQTieZz
import Derived.Test.YtfbindjacmaeoaaGIdsZz
import Derived.Test.YtfbindjacmaeoaaESpGZz
import Derived.Test.YtfbindjacmaeoaaQGplZz
import Derived.Test.YtfbindjacmaeoaaQDelZz
import Derived.Test.YtfbindjacmaeoaaJRwZz
import Derived.Test.YtfbindjacmaeoaaQThrZz
namespace Go.Proofs.Ytfbindjacmaeoaa
open Go Go.RowKit Go.Maps

def midsL (ms : List Mk) : List Int := ms.map (·.1)
theorem midsL_len (ms : List Mk) : (midsL ms).length = ms.length := by simp [midsL]
theorem midsL_at {ms : List Mk} {i : Nat} (h : i < ms.length) : nth (midsL ms) i = mid ms i := by simp [nth, midsL, mid, List.getD, h]
theorem iIdsM (ao : Option Addr) (cap : Nat) (ms : List Mk) (w : World) (hv : MView w ao ms) (hn : ms.length ≤ 1048576) :
    Calls Try.prog 72 #[.slice ao ms.length cap] w fun e w' => ∃ g, e = .returned (.slice (some ⟨g, 0, none⟩) ms.length ms.length) ∧ w.heap.size ≤ g ∧ Own w' g (midsL ms) ∧ Below w.heap.size w w' := by
  obtain ⟨ds, hds, hsv, hsl⟩ := MView.sview hv
  have hlen : ds.length = ms.length := by rw [← hds, smMarks_length]
  have hid : ds.map (·.1) = midsL ms := by rw [← hds]; simp [midsL, smMarks, smMark]
  have h := gIds ao cap ds w (by omega) hsv
  rw [hlen, hid] at h
  exact h

set_option maxRecDepth 100000 in
set_option maxHeartbeats 2000000 in
theorem iGroup (B gi ci i : Nat) (ms : List Mk) (p : Nat → Nat) (w : World) (hm : marksB ms = true) (hT : Ties w B ms p) (hs : Seg w gi 0 (midsL ms)) (hgi : gi < w.heap.size) (hi : i < ms.length) (hp : ∀ i, p i ≤ i) :
    Calls Try.prog 107 #[.map (some B), .int .i64 (mid ms i), .slice (some ⟨gi, 0, none⟩) ms.length ci] w fun e w' => ∃ g c, e = .returned (.slice (some ⟨g, 0, none⟩) (grpAt ms p i).length c) ∧ IRow w.heap.size w' g c (grpAt ms p i) ∧ Below w.heap.size w w' := by
  obtain ⟨j0, hj0, hy0, hy1, hy2⟩ := info_parts Try.info2
  have HM := hidP hm
  have HT := hidP hT
  have HS := hidP hs
  have hn60 := marksB_len hm
  have HP := hidP hp
  have HGA := hidP (gTo_all ms p i)
  have hBl := hT.lt
  clear hm hT hs hp
  go_enter Try.func107, Try.ntmps107
  go_wp2_with fail
  go_loopw [7, 13] (fun v k wr => ∃ (m g c l : Nat), m ≤ ms.length ∧ k = .int .i64 m ∧ v = .slice (some ⟨g, 0, none⟩) l c ∧ l = (gTo ms p i m).length ∧ IRow w.heap.size wr g c (gTo ms p i m) ∧ Below w.heap.size w wr) (fun _ k _ => ms.length - (intOf k).toNat)
  case atStart => exact ⟨0, w.heap.size, 0, 0, Nat.zero_le _, rfl, rfl, rfl, IRow.start w _ (Nat.le_refl _), (Below.refl _ _).alloc (Nat.le_refl _) _⟩
  case round =>
    obtain ⟨m, g, c, l, hml, rfl, rfl, hl, hrow, L⟩ := hrel
    have hgl := hrow.lt
    have hll : l ≤ 60 := by rw [hl]; have := gTo_len ms p i m; omega
    have HROW := hidP hrow
    have HL := hidP L
    have HLE := hidP hl
    have hzg := L.size
    by_cases hlt : m < ms.length
    · have q1 := (HS.out.below hgi L) m (by rw [midsL_len]; exact hlt)
      rw [Nat.zero_add, midsL_at hlt] at q1
      have hm0 : (0 : Int) ≤ (m : Int) := Int.natCast_nonneg _
      have hm1 : (m : Int) < (ms.length : Int) := by omega
      have HF := hidP (iFirst B ms p m wr HM.out (HT.out.below L) hlt)
      have hpm : p m < ms.length := by have := HP.out m; omega
      clear hrow L hl
      by_cases hpi : p m = i
      · have hpb : (mid ms (p m) == mid ms i) = true := by simp [hpi]
        have HGN := hidP (gTo_hit (ms := ms) hpi)
        have HOW : Hid (wr.ownsRow w.heap.size 2 1 (.slice (some ⟨g, 0, none⟩) l c) l ((gTo ms p i m).map (Value.int .i64))) := by
          have h := HROW.out
          unfold IRow at h
          rw [← HLE.out] at h
          exact h
        clear hpi
        go_wp2_with fail
        refine HF.out.mono ?_
        rintro e w2 ⟨rfl, hw2⟩
        subst w2
        go_wp2_with (at_builtin; refine wpList_append_lies _ rfl (.tmp 22) (.tmp 24) 36 rfl w.heap.size 2 j0 _ 1 8 Try.underlying36 hj0 hy0 hy1 hy2 rfl (by omega) (.slice (some ⟨g, 0, none⟩) l c) l ((gTo ms p i m).map (Value.int .i64)) rfl (World.ownsRow.alloc HOW.out _) ⟨wr.heap.size, 0, none⟩ 1 1 [.int .i64 (mid ms m)] rfl rfl (World.news_of_block (cs := #[.int .i64 (mid ms m)]) (t := 2) (fr := (0, 0)) (heap_alloc_new wr _)) (by simp [Value.oneCell']) (by omega) (by unfold maxLen; omega) (by omega) (by simp; omega) (wr.heap.size + 1) (by simp) ?_; intro g8 c8 w8 hown hgrow hat8 hlt8)
        have HF8 : Hid (l + 1 = (gTo ms p i (m + 1)).length ∧ IRow w.heap.size w8 g8 c8 (gTo ms p i (m + 1)) ∧ Below w.heap.size w w8) := by
          refine ⟨by rw [HGN.out, List.length_append, ← HLE.out]; rfl, ?_, ?_⟩
          · rw [HGN.out]
            exact IRow.of hown (by rw [List.length_append, ← HLE.out]; rfl) (by simp)
          · refine (HL.out.alloc (by omega) _).grown hgrow (by simp; omega) ?_
            intro q hq
            simp [Value.ownBlock] at hq
            omega
        clear hown hgrow hat8 hlt8
        go_wp2_with fail
        go_roundw
        case rel => exact ⟨m + 1, g8, c8, l + 1, by omega, by go_num, rfl, HF8.out⟩
        case measure => simp [intOf]; omega
      · have hpb : (mid ms (p m) == mid ms i) = false := by
          simp only [beq_eq_false_iff_ne]
          exact fun e => hpi (zmid_inj HM.out hpm hi e)
        have HGN := hidP (gTo_miss (ms := ms) hpi)
        clear hpi
        go_wp2_with fail
        refine HF.out.mono ?_
        rintro e w2 ⟨rfl, hw2⟩
        subst w2
        go_wp2_with fail
        go_roundw
        case rel => exact ⟨m + 1, g, c, l, by omega, by go_num, rfl, by rw [HGN.out]; exact HLE.out, by rw [HGN.out]; exact HROW.out, HL.out⟩
        case measure => simp [intOf]; omega
    · obtain rfl : m = ms.length := by omega
      clear hrow L hl
      go_wp2_with fail
      go_ret
      exact ⟨g, c, by rw [← HGA.out, ← HLE.out]; rfl, by rw [← HGA.out]; exact HROW.out, HL.out⟩

set_option maxRecDepth 100000 in
set_option maxHeartbeats 2000000 in
theorem iGrps (B gi ci : Nat) (ms : List Mk) (p : Nat → Nat) (w : World) (hm : marksB ms = true) (hT : Ties w B ms p) (hs : Seg w gi 0 (midsL ms)) (hgi : gi < w.heap.size) (hp : ∀ i, p i ≤ i) :
    Calls Try.prog 71 #[.map (some B), .slice (some ⟨gi, 0, none⟩) ms.length ci] w fun e w' => ∃ g c rs, e = .returned (.slice (some ⟨g, 0, none⟩) rs.length c) ∧ nums rs = grpOf ms p ∧ LMem w.heap.size w' g c rs ∧ Below w.heap.size w w' := by
  obtain ⟨i0, hi0, hz0, hz1', hz2⟩ := info_parts Try.infoL
  have HM := hidP hm
  have HT := hidP hT
  have HS := hidP hs
  have hn60 := marksB_len hm
  have HP := hidP hp
  have hBl := hT.lt
  clear hm hT hs hp
  go_enter Try.func71, Try.ntmps71
  go_wp2_with fail
  go_loopw [5, 11] (fun v k wr => ∃ (m g c : Nat) (rs : List Rw), m ≤ ms.length ∧ k = .int .i64 m ∧ v = .slice (some ⟨g, 0, none⟩) rs.length c ∧ nums rs = gsTo ms p m ∧ LMem w.heap.size wr g c rs ∧ Below w.heap.size w wr) (fun _ k _ => ms.length - (intOf k).toNat)
  case atStart => exact ⟨0, w.heap.size, 0, [], Nat.zero_le _, rfl, rfl, rfl, LMem.start w _ (Nat.le_refl _), (Below.refl _ _).alloc (Nat.le_refl _) _⟩
  case round =>
    obtain ⟨m, g, c, rs, hml, rfl, rfl, hnm, hmem, L⟩ := hrel
    have HNM := hidP hnm
    have hrl : rs.length ≤ 60 := by
      have h1 := congrArg List.length hnm
      rw [nums_length] at h1
      have h2 := gsTo_len ms p m
      omega
    have HMEM := hidP hmem
    have HL := hidP L
    have hzg := L.size
    clear hnm
    by_cases hlt : m < ms.length
    · have q1 := (HS.out.below hgi L) m (by rw [midsL_len]; exact hlt)
      rw [Nat.zero_add, midsL_at hlt] at q1
      have hm0 : (0 : Int) ≤ (m : Int) := Int.natCast_nonneg _
      have hm1 : (m : Int) < (ms.length : Int) := by omega
      have HF := hidP (iFirst B ms p m wr HM.out (HT.out.below L) hlt)
      have hpm : p m < ms.length := by have := HP.out m; omega
      by_cases hpi : p m = m
      · have hpb : (mid ms (p m) == mid ms m) = true := by simp [hpi]
        have HNX := hidP (gsTo_hit (ms := ms) hpi)
        have HG := hidP (iGroup B gi ci m ms p wr HM.out (HT.out.below L) (HS.out.below hgi L) (by omega) hlt HP.out)
        clear hpi hmem L
        go_wp2_with fail
        refine HF.out.mono ?_
        rintro e w2 ⟨rfl, hw2⟩
        subst w2
        go_wp2_with fail
        refine HG.out.mono ?_
        rintro e w3 ⟨gg, cc, rfl, hrg, LG⟩
        have A8 := alloc_below w3 (.cells #[.slice (some ⟨gg, 0, none⟩) (grpAt ms p m).length cc] 36)
        have LX : Below wr.heap.size wr (w3.alloc (.cells #[.slice (some ⟨gg, 0, none⟩) (grpAt ms p m).length cc] 36)) := LG.trans (A8.mono LG.size)
        have HG8 := hidP (HMEM.out.below LX)
        have HL8 : Hid (Below w.heap.size w (w3.alloc (.cells #[.slice (some ⟨gg, 0, none⟩) (grpAt ms p m).length cc] 36))) := HL.out.trans (LX.mono hzg)
        have HR8 : Hid (IRow w.heap.size (w3.alloc (.cells #[.slice (some ⟨gg, 0, none⟩) (grpAt ms p m).length cc] 36)) gg cc (grpAt ms p m)) := (hrg.below A8).mono hzg
        have HRO : Hid (g < wr.heap.size ∧ ∀ r ∈ rs, r.1 < wr.heap.size) := ⟨HMEM.out.row.lt.2, fun r hr => (HMEM.out.rows r hr).lt.2⟩
        have HOW : Hid ((w3.alloc (.cells #[.slice (some ⟨gg, 0, none⟩) (grpAt ms p m).length cc] 36)).ownsRow w.heap.size 36 1 (.slice (some ⟨g, 0, none⟩) rs.length c) rs.length (rs.map rwV)) := HG8.out.row
        have hz3 := LG.size
        have hgg := hrg.lt
        clear hrg LG LX A8 HF HG
        go_wp2_with (at_builtin; refine wpList_append_lies _ rfl (.tmp 20) (.tmp 25) 44 rfl w.heap.size 36 i0 _ 1 24 Try.underlying44 hi0 hz0 hz1' hz2 rfl (by omega) (.slice (some ⟨g, 0, none⟩) rs.length c) rs.length (rs.map rwV) rfl HOW.out ⟨w3.heap.size, 0, none⟩ 1 1 [.slice (some ⟨gg, 0, none⟩) (grpAt ms p m).length cc] rfl rfl (World.news_of_block (cs := #[.slice (some ⟨gg, 0, none⟩) (grpAt ms p m).length cc]) (t := 36) (fr := (0, 0)) (heap_alloc_new w3 _)) (by simp [Value.oneCell']) (by omega) (by unfold maxLen; omega) (by omega) (by simp; omega) (w3.heap.size + 1) (by simp) ?_; intro g8 c8 w8 hown hgrow hat8 hlt8)
        have hgr : World.grownBy _ w8 (some g) := hgrow
        have hg4 : ∀ x ∈ rs, x.1 ≠ gg := fun x hx => by have := HRO.out.2 x hx; omega
        have hg4g : gg ≠ g := by have := HRO.out.1; omega
        have HF8 : Hid (nums (rs ++ [(gg, cc, grpAt ms p m)]) = gsTo ms p (m + 1) ∧ LMem w.heap.size w8 g8 c8 (rs ++ [(gg, cc, grpAt ms p m)]) ∧ Below w.heap.size w w8) := by
          have hown' : w8.ownsRow w.heap.size 36 1 (.slice (some ⟨g8, 0, none⟩) (rs.length + 1) c8) (rs.length + 1) (rs.map rwV ++ [rwV (gg, cc, grpAt ms p m)]) := hown
          refine ⟨by rw [nums_snoc, HNX.out, HNM.out], HG8.out.snoc hown' hgr (by rcases hat8 with h | h; exact Or.inl (by simpa [Value.ownBlock] using h); exact Or.inr (by rw [h]; simp)) HR8.out hg4g hg4, ?_⟩
          exact HL8.out.grown hgr HL8.out.size (by intro q hq; cases hq; have := HG8.out.row.lt; omega)
        clear hown hgrow hat8 hlt8 hgr
        go_wp2_with fail
        go_roundw
        case rel => exact ⟨m + 1, g8, c8, rs ++ [(gg, cc, grpAt ms p m)], by omega, by go_num, by simp, HF8.out⟩
        case measure => simp [intOf]; omega
      · have hpb : (mid ms (p m) == mid ms m) = false := by
          simp only [beq_eq_false_iff_ne]
          exact fun e => hpi (zmid_inj HM.out hpm hlt e)
        have HNX := hidP (gsTo_miss (ms := ms) hpi)
        clear hpi hmem L
        go_wp2_with fail
        refine HF.out.mono ?_
        rintro e w2 ⟨rfl, hw2⟩
        subst w2
        go_wp2_with fail
        go_roundw
        case rel => exact ⟨m + 1, g, c, rs, by omega, by go_num, rfl, by rw [HNX.out]; exact HNM.out, HMEM.out, HL.out⟩
        case measure => simp [intOf]; omega
    · obtain rfl : m = ms.length := by omega
      clear hmem L
      go_wp2_with fail
      go_ret
      exact ⟨g, c, rs, rfl, by rw [← gsTo_all]; exact HNM.out, HMEM.out, HL.out⟩

end Go.Proofs.Ytfbindjacmaeoaa
namespace Go.Proofs.Ytfbindjacmaeoaa
open Go Go.RowKit Go.Maps

set_option maxRecDepth 100000 in
set_option maxHeartbeats 1000000 in
theorem iIndexI (g c n : Nat) (xs : List Int) (x : Int) (w : World) (hs : Seg w g 0 xs) (hn : xs.length = n) (hl : n ≤ 1048576) :
    Calls Try.prog 108 #[.slice (some ⟨g, 0, none⟩) n c, .int .i64 x] w fun e w' => (∃ r : Int, e = .returned (.int .i64 r) ∧ ((∃ k : Nat, r = (k : Int) ∧ k < n ∧ nth xs k = x) ∨ (r = -1 ∧ ∀ j, j < n → nth xs j ≠ x))) ∧ w' = w := by
  have HN := hidP hn
  clear hn
  go_enter Try.func108, Try.ntmps108
  go_wp2_with fail
  go_loop [8] (fun i => ∃ k : Nat, k ≤ n ∧ i = .int .i64 k ∧ ∀ j, j < k → nth xs j ≠ x) (fun i => n - (intOf i).toNat)
  case atStart => exact ⟨0, Nat.zero_le _, rfl, fun j hj => by omega⟩
  case round =>
    obtain ⟨k, hk, rfl, hall⟩ := hrel
    have HA := hidP hall
    clear hall
    by_cases hlt : k < n
    · have hc := hs k (by have := HN.out; omega)
      rw [Nat.zero_add] at hc
      have hi0 : (0 : Int) ≤ (k : Int) := Int.natCast_nonneg _
      have hi1 : (k : Int) < (n : Int) := by omega
      by_cases he : nth xs k = x
      · have heb : (x == nth xs k) = true := by simp [he]
        have HE := hidP he
        clear he
        go_wp2_with fail
        go_ret
        exact ⟨⟨(k : Int), rfl, Or.inl ⟨k, rfl, hlt, HE.out⟩⟩, rfl⟩
      · have heb : (x == nth xs k) = false := by simp; exact fun e => he e.symm
        have HE := hidP he
        clear he
        go_wp2_with fail
        go_round
        case rel => exact ⟨k + 1, by omega, by go_num, fun j hj => by
          rcases Nat.lt_or_ge j k with h | h
          · exact HA.out j h
          · obtain rfl : j = k := by omega
            exact HE.out⟩
        case measure => simp [intOf]; omega
    · obtain rfl : k = n := by omega
      go_wp2_with fail
      go_ret
      exact ⟨⟨-1, rfl, Or.inr ⟨rfl, HA.out⟩⟩, rfl⟩

theorem nth_getE {xs : List Int} {k : Nat} (h : k < xs.length) : nth xs k = xs[k] := by simp [nth, List.getD, h]

set_option maxRecDepth 100000 in
set_option maxHeartbeats 4000000 in
theorem iGrOk (ao ag : Option Addr) (cap cg : Nat) (ms : List Mk) (gs : List (List Int)) (w : World) (hv : MView w ao ms) (hg : CView w ag gs) (hm : marksB ms = true) (hcs : CSmall gs) :
    Calls Try.prog 74 #[.slice ag gs.length cg, .slice ao ms.length cap] w fun e w' => e = .returned (.bool (grOkB ms gs)) ∧ Below w.heap.size w w' := by
  have hn60 := marksB_len hm
  have HI := hidP (iIdsM ao cap ms w hv (by omega))
  have HM := hidP hm
  have HG := hidP hg
  have hgl := hcs.1
  have HCS := hidP hcs.2
  clear hv hm hg hcs
  go_enter Try.func74, Try.ntmps74
  go_wp2_with fail
  refine HI.out.mono ?_
  rintro e w1 ⟨g0, rfl, hg0, hown, L1⟩
  have HI0 : Hid (IRow w.heap.size w1 g0 ms.length (numsM ms) ∧ Below w.heap.size w w1) := by
    refine ⟨?_, L1⟩
    have h := Own.irow (base := w.heap.size) hown hg0 (by rw [midsL_len]; unfold maxLen; omega)
    rw [midsL_len] at h
    exact h
  have HS0 := hidP (LeftOk.start HM.out)
  have HNL := hidP (numsM_len ms)
  clear hown L1 HI hg0
  go_wp2_with fail
  go_loopw [5, 15] (fun v i wr => ∃ (j c n : Nat) (left : List Int) (h : Nat → Nat), j ≤ gs.length ∧ i = .int .i64 j ∧ v = .slice (some ⟨g0, 0, none⟩) n c ∧ left.length = n ∧ inGrp ms (gs.take j) 0 (fun _ => 0) = some h ∧ LeftOk ms h left ∧ n + lenS (gs.take j) = ms.length ∧ IRow w.heap.size wr g0 c left ∧ Below w.heap.size w wr) (fun _ i _ => gs.length - (intOf i).toNat)
  case atStart => exact ⟨0, ms.length, ms.length, numsM ms, fun _ => 0, Nat.zero_le _, rfl, rfl, HNL.out, rfl, HS0.out, by simp [lenS], HI0.out⟩
  case round =>
    clear HI0 HS0 HNL
    obtain ⟨j, c, n, left, h, hj, rfl, rfl, hln, hin, hlo, hct, hrow, L⟩ := hrel
    by_cases hlt : j < gs.length
    · obtain ⟨b, off, rfl, hb, hs⟩ := (HG.out.next L).seg (by omega)
      obtain ⟨a, ca, hc, hva⟩ := hs j hlt
      have hj0 : (0 : Int) ≤ (j : Int) := Int.natCast_nonneg _
      have hj1 : (j : Int) < (gs.length : Int) := by omega
      have HST := hidP (grp_step hlt hin)
      have HTL : Hid (lenS (gs.take (j + 1)) = lenS (gs.take j) + (cn gs j).length) := by show _ = _; rw [take_cn hlt, lenS_snoc]
      have hcl := HCS.out j
      clear hs
      by_cases he : cn gs j = []
      · have HF : Hid (grOkB ms gs = false) := by
          refine grOk_no (inGrp_none (j + 1) ?_)
          rw [HST.out, if_pos he]
        have hz : (cn gs j).length = 0 := by rw [he]; rfl
        have hzb : (((cn gs j).length : Int) == 0) = true := by simp [hz]
        have HL := hidP L
        clear he hva hin hlo hct hrow L hln HST HTL hz
        go_wp2_with fail
        go_ret
        exact ⟨by rw [HF.out]; rfl, HL.out⟩
      · have hzp : 0 < (cn gs j).length := List.length_pos_iff.2 he
        have hzb : (((cn gs j).length : Int) == 0) = false := by simp; intro e; rw [e] at hzp; simp at hzp
        have HST2 : Hid (inGrp ms (gs.take (j + 1)) 0 (fun _ => 0) = inIds ms j (cn gs j) h) := by show _ = _; rw [HST.out, if_neg he]
        have HVA : Hid (View w a (cn gs j)) := by
          obtain ⟨b2, off2, e2, hb2, hs2⟩ := HG.out.seg (by omega)
          injection e2 with e2
          injection e2 with e3 e4
          subst e3 e4
          obtain ⟨a', ca', hc', hva'⟩ := hs2 j hlt
          have := (L.cell (p := ⟨b, off + j, none⟩) hb2).trans hc'
          rw [hc] at this
          simp only [Option.some.injEq, Value.slice.injEq] at this
          rw [this.1]
          exact hva'
        have H0 := hidP (And.intro hln (And.intro hlo (And.intro hct (And.intro hrow L))))
        clear he hva hin hlo hct hrow L hln HST
        generalize hids : cn gs j = ids at *
        go_wp2_with fail
        clear hc hzb
        go_loopw [5, 24] (fun v i wq => ∃ (m c n : Nat) (left : List Int) (h' : Nat → Nat), m ≤ ids.length ∧ i = .int .i64 m ∧ v = .slice (some ⟨g0, 0, none⟩) n c ∧ left.length = n ∧ inIds ms j (ids.take m) h = some h' ∧ LeftOk ms h' left ∧ n + lenS (gs.take j) + m = ms.length ∧ IRow w.heap.size wq g0 c left ∧ Below w.heap.size w wq) (fun _ i _ => ids.length - (intOf i).toNat)
        case atStart => exact ⟨0, c, n, left, h, Nat.zero_le _, rfl, rfl, H0.out.1, rfl, H0.out.2.1, by have := H0.out.2.2.1; omega, H0.out.2.2.2⟩
        case round =>
          clear H0
          obtain ⟨m, c', n', left', h', hml, rfl, rfl, hln, hin, hlo, hct, hrow, L⟩ := hrel
          by_cases hmt : m < ids.length
          · obtain ⟨b2, off2, rfl, hb2, hs2⟩ : ∃ b off, a = some ⟨b, off, none⟩ ∧ b < wr.heap.size ∧ Seg wr b off ids := by
              rcases View.next HVA.out L with h1 | h1
              · rw [h1] at hmt; simp at hmt
              · exact h1
            have q1 := hs2 m hmt
            have hm0 : (0 : Int) ≤ (m : Int) := Int.natCast_nonneg _
            have hm1 : (m : Int) < (ids.length : Int) := by omega
            have HIX := hidP (iIndexI g0 c' n' left' (nth ids m) wr hrow.seg hln (by omega))
            have HTK : Hid (inIds ms j (ids.take (m + 1)) h = if zFind ms (nth ids m) < 0 ∨ h' (zIdx ms (nth ids m)) ≠ 0 then none else some (fun i => if i = zIdx ms (nth ids m) then j + 1 else h' i)) := by
              show _ = _
              rw [List.take_succ_eq_append_getElem hmt, inIds_snoc, hin, nth_getE hmt]
            have HH := hidP (And.intro hln (And.intro hlo (And.intro hct (And.intro hrow L))))
            clear hln hlo hct hrow L hs2 hin
            generalize nth ids m = x at *
            go_wp2_with fail
            refine HIX.out.mono ?_
            rintro e w3 ⟨⟨r, rfl, hr⟩, hw3⟩
            subst w3
            rcases hr with ⟨k, rfl, hkn, hkx⟩ | ⟨rfl, hno⟩
            · obtain ⟨hln, hlo, hct, hrow, L⟩ := HH.out
              have hk0 : ¬ ((k : Int) < 0) := by omega
              have hwk : IntKind.i64.wrap ((k : Int) + 1) = (k : Int) + 1 := IntWalk.i64_in _ ⟨by omega, by omega⟩
              have HDL := hidP (iDelete w.heap.size g0 c' n' k left' wr hrow hln hkn (by omega))
              have hmem : x ∈ left' := by rw [← hkx, nth_getE (by omega)]; exact List.getElem_mem _
              have HNX : Hid (inIds ms j (ids.take (m + 1)) h = some (fun i => if i = zIdx ms x then j + 1 else h' i)) := by show _ = _; rw [HTK.out, if_neg (hlo.found HM.out hmem)]
              have HLO : Hid (LeftOk ms (fun i => if i = zIdx ms x then j + 1 else h' i) (left'.eraseIdx k)) := by
                have h1 := hlo.next HM.out (k := k) (by omega) j
                have e1 : left'[k]'(by omega) = x := by rw [← nth_getE (by omega)]; exact hkx
                rw [e1] at h1
                exact h1
              have HLE : Hid ((left'.eraseIdx k).length = n' - 1) := by show _ = _; rw [List.length_eraseIdx_of_lt (by omega)]; omega
              have HCT := hidP hct
              have hg0l := hrow.lt
              have HL := hidP L
              clear hln hlo hct hrow L hkx hmem
              go_wp2_with fail
              refine HDL.out.mono ?_
              rintro e w4 ⟨rfl, hrow4, hg4⟩
              have HR4 : Hid (IRow w.heap.size w4 g0 c' (left'.eraseIdx k) ∧ Below w.heap.size w w4) := ⟨hrow4, HL.out.grown hg4 HL.out.size (by intro q hq; cases hq; exact hg0l.1)⟩
              clear hrow4 hg4
              go_wp2_with fail
              go_roundw
              case rel => exact ⟨m + 1, c', n' - 1, left'.eraseIdx k, _, by omega, by go_num, rfl, HLE.out, HNX.out, HLO.out, by have := HCT.out; omega, HR4.out⟩
              case measure => simp [intOf]; omega
            · have HF : Hid (grOkB ms gs = false) := by
                refine grOk_no (inGrp_none (j + 1) ?_)
                rw [HST2.out]
                refine inIds_none (m + 1) ?_
                rw [HTK.out, if_pos]
                refine HH.out.2.1.lost (fun hx => ?_)
                obtain ⟨q, hq, e⟩ := List.getElem_of_mem hx
                exact hno q (by have := HH.out.1; omega) (by rw [nth_getE hq]; exact e)
              have hneg : ((-1 : Int) < 0) := by omega
              clear hno
              go_wp2_with fail
              go_ret
              exact ⟨by rw [HF.out]; rfl, HH.out.2.2.2.2⟩
          · obtain rfl : m = ids.length := by omega
            have HE : Hid (left'.length = n' ∧ inGrp ms (gs.take (j + 1)) 0 (fun _ => 0) = some h' ∧ LeftOk ms h' left' ∧ n' + lenS (gs.take (j + 1)) = ms.length ∧ IRow w.heap.size wr g0 c' left' ∧ Below w.heap.size w wr) := by
              rw [List.take_length] at hin
              exact ⟨hln, by rw [HST2.out]; exact hin, hlo, by rw [HTL.out]; omega, hrow, L⟩
            clear hln hin hlo hct hrow L
            go_wp2_with fail
            go_roundw
            case rel => exact ⟨j + 1, c', n', left', h', by omega, by go_num, rfl, HE.out⟩
            case measure => simp [intOf]; omega
    · obtain rfl : j = gs.length := by omega
      have HF : Hid (grOkB ms gs = ((n : Int) == 0)) := by
        show _ = _
        rw [List.take_length] at hin hct
        rw [Bool.eq_iff_iff]
        simp only [grOkB, hin, Option.isSome_some, Bool.true_and, decide_eq_true_eq, beq_iff_eq]
        omega
      have HL := hidP L
      clear hln hin hlo hct hrow L
      go_wp2_with fail
      go_ret
      exact ⟨by rw [HF.out]; rfl, HL.out⟩

set_option maxRecDepth 100000 in
set_option maxHeartbeats 2000000 in
theorem iTieAll (B : Nat) (a : Option Addr) (ca : Nat) (ms : List Mk) (ids : List Int) (E : List Eg) (w : World) (hm : marksB ms = true) (hT : Ties w B ms (lab E)) (hv : View w a ids) (hB : ∀ b off, a = some ⟨b, off, none⟩ → b ≠ B) (hf : ∀ id ∈ ids, 0 ≤ zFind ms id) (hl : ids.length ≤ 1048576) :
    Calls Try.prog 75 #[.map (some B), .slice a ids.length ca] w fun e w' => e = .returned (.tuple #[]) ∧ Ties w' B ms (lab (E ++ tieE ms ids)) ∧ w.grownBy w' (some B) := by
  have HM := hidP hm
  have HV := hidP hv
  have HT := hidP hT
  have HBN := hidP hB
  have HF := hidP hf
  clear hm hT hv hB hf
  go_enter Try.func75, Try.ntmps75
  go_wp2_with fail
  go_loopw [5, 8] (fun _ i wr => ∃ m : Nat, m ≤ ids.length ∧ i = .int .i64 m ∧ Ties wr B ms (lab (E ++ (tieE ms ids).take m)) ∧ w.grownBy wr (some B)) (fun _ i _ => ids.length - (intOf i).toNat)
  case atStart => exact ⟨0, Nat.zero_le _, rfl, by rw [List.take_zero, List.append_nil]; exact HT.out, grown_refl _ _⟩
  case round =>
    obtain ⟨m, hml, rfl, hTi, hg⟩ := hrel
    by_cases hlt : m < ids.length
    · obtain ⟨b, off, rfl, hb, hs⟩ : ∃ b off, a = some ⟨b, off, none⟩ ∧ b < w.heap.size ∧ Seg w b off ids := by
        rcases HV.out with h1 | h1
        · rw [h1] at hlt; simp at hlt
        · exact h1
      have hne := HBN.out b off rfl
      have hcell : ∀ t, wr.cell? ⟨b, t, none⟩ = w.cell? ⟨b, t, none⟩ := fun t => World.cell?_of_block (w := w) (a := ⟨b, t, none⟩) (hg.block b hb (fun e => hne (by injection e)))
      have q1 := (hcell _).trans (hs m hlt)
      have q0 := (hcell _).trans (hs 0 (by omega))
      rw [Nat.add_zero] at q0
      have hm0 : (0 : Int) ≤ (m : Int) := Int.natCast_nonneg _
      have hm1 : (m : Int) < (ids.length : Int) := by omega
      have hi0 : (0 : Int) < (ids.length : Int) := by omega
      have hxs : ids ≠ [] := fun e => by rw [e] at hlt; simp at hlt
      have z0 := zIdx_lt (HF.out _ (nth0_mem hxs))
      have zm := zIdx_lt (HF.out (nth ids m) (by rw [nth_getE hlt]; exact List.getElem_mem hlt))
      have HTI := hidP (iTie B ms (lab (E ++ (tieE ms ids).take m)) (zIdx ms (nth ids 0)) (zIdx ms (nth ids m)) wr HM.out hTi z0.1 zm.1)
      rw [z0.2.2, zm.2.2] at HTI
      have HTK : Hid (E ++ (tieE ms ids).take (m + 1) = (E ++ (tieE ms ids).take m) ++ [(zIdx ms (nth ids 0), zIdx ms (nth ids m))]) := by
        show _ = _
        have hl2 : m < (tieE ms ids).length := by simp [tieE, hlt]
        rw [List.take_succ_eq_append_getElem hl2, ← List.append_assoc]
        congr 2
        simp [tieE, nth_getE hlt]
      have HG := hidP hg
      clear hTi hg hcell hs z0 zm
      go_wp2_with fail
      refine HTI.out.mono ?_
      rintro e w2 ⟨rfl, hT2, hg2⟩
      have HE : Hid (Ties w2 B ms (lab (E ++ (tieE ms ids).take (m + 1))) ∧ w.grownBy w2 (some B)) := by
        refine ⟨?_, grown_trans HG.out hg2⟩
        rw [HTK.out, lab_snoc]
        exact hT2
      clear hT2 hg2
      go_wp2_with fail
      go_roundw
      case rel => exact ⟨m + 1, by omega, by go_num, HE.out⟩
      case measure => simp [intOf]; omega
    · obtain rfl : m = ids.length := by omega
      have HE : Hid (Ties wr B ms (lab (E ++ tieE ms ids)) ∧ w.grownBy wr (some B)) := by
        rw [List.take_of_length_le (by simp [tieE])] at hTi
        exact ⟨hTi, hg⟩
      clear hTi hg
      go_wp2_with fail
      go_end0
      exact ⟨rfl, HE.out⟩

end Go.Proofs.Ytfbindjacmaeoaa
namespace Go.Proofs.Ytfbindjacmaeoaa
open Go Go.RowKit Go.Maps

theorem left_ids {ms : List Mk} (hm : marksB ms = true) (g : Nat) : ∀ {ids : List Int} {h h' : Nat → Nat} {left : List Int}, LeftOk ms h left → inIds ms g ids h = some h' → ∃ left', LeftOk ms h' left' ∧ left'.length + ids.length = left.length
  | [], h, h', left, hl, e => by
    simp only [inIds, Option.some.injEq] at e
    subst e
    exact ⟨left, hl, rfl⟩
  | x :: ids, h, h', left, hl, e => by
    simp only [inIds] at e
    split at e
    · cases e
    · rename_i hc
      have hz := zIdx_lt (ms := ms) (id := x) (by omega)
      have hx : x ∈ left := (hl.mem x).2 ⟨zIdx ms x, hz.1, hz.2.2, by omega⟩
      obtain ⟨k, hk, rfl⟩ := List.getElem_of_mem hx
      obtain ⟨left', h1, h2⟩ := left_ids hm g (hl.next hm hk g) e
      refine ⟨left', h1, ?_⟩
      rw [List.length_eraseIdx_of_lt hk] at h2
      simp only [List.length_cons]
      omega
theorem left_grp {ms : List Mk} (hm : marksB ms = true) : ∀ {gs : List (List Int)} {g : Nat} {h h' : Nat → Nat} {left : List Int}, LeftOk ms h left → inGrp ms gs g h = some h' → ∃ left', LeftOk ms h' left' ∧ left'.length + lenS gs = left.length
  | [], g, h, h', left, hl, e => by
    simp only [inGrp, Option.some.injEq] at e
    subst e
    exact ⟨left, hl, rfl⟩
  | ids :: gs, g, h, h', left, hl, e => by
    simp only [inGrp] at e
    split at e
    · cases e
    · rcases hi : inIds ms g ids h with _ | h1
      · rw [hi] at e; cases e
      · rw [hi] at e
        obtain ⟨l1, a1, a2⟩ := left_ids hm g hl hi
        obtain ⟨l2, b1, b2⟩ := left_grp hm a1 e
        refine ⟨l2, b1, ?_⟩
        have : lenS (ids :: gs) = ids.length + lenS gs := by simp [lenS]
        omega
theorem grp_full {ms : List Mk} (hm : marksB ms = true) {gs : List (List Int)} {h : Nat → Nat} (e : inGrp ms gs 0 (fun _ => 0) = some h) (hl : lenS gs = ms.length) : ∀ i, i < ms.length → h i ≠ 0 := fun i hi h0 => by
  obtain ⟨left, a1, a2⟩ := left_grp hm (LeftOk.start hm) e
  rw [numsM_len] at a2
  have hnil : left = [] := List.length_eq_zero_iff.1 (by omega)
  have := (a1.mem (mid ms i)).2 ⟨i, hi, rfl, h0⟩
  rw [hnil] at this
  simp at this
theorem grOk_yes {ms : List Mk} {gs : List (List Int)} (h : grOkB ms gs = true) : ∃ h', inGrp ms gs 0 (fun _ => 0) = some h' ∧ lenS gs = ms.length := by
  simp only [grOkB, Bool.and_eq_true, decide_eq_true_eq] at h
  obtain ⟨h', e⟩ := Option.isSome_iff_exists.1 h.1
  exact ⟨h', e, h.2⟩
theorem gapI_told {ms : List Mk} {kd : Int} {gs : List (List Int)} (h : gs.length < 2 ∨ marksB ms = false ∨ kindB kd = false ∨ grOkB ms gs = false) : gapI ms kd gs = -1 := by
  unfold gapI
  split
  · rename_i hb
    simp only [gapB, thrB, Bool.and_eq_true, decide_eq_true_eq] at hb
    rcases h with h | h | h | h
    · omega
    · rw [hb.1.1] at h; cases h
    · rw [hb.1.2] at h; cases h
    · rcases e : inGrp ms gs 0 (fun _ => 0) with _ | h'
      · rfl
      · simp only
        rw [if_neg]
        intro hl
        simp [grOkB, e, hl] at h
  · rfl
/-- The gap: how long the first thread of two groups is. -/
theorem gapI_first {ms : List Mk} {kd : Int} {gs : List (List Int)} (hm : marksB ms = true) (hk : kindB kd = true) (h2 : 2 ≤ gs.length) (hg : grOkB ms gs = true) :
    ∃ m, m < (srtE (zD ms kd) ms.length).length ∧ (∀ j, j < m → lab (tieAllE ms gs) (egn (srtE (zD ms kd) ms.length) j).1 = lab (tieAllE ms gs) (egn (srtE (zD ms kd) ms.length) j).2) ∧ lab (tieAllE ms gs) (egn (srtE (zD ms kd) ms.length) m).1 ≠ lab (tieAllE ms gs) (egn (srtE (zD ms kd) ms.length) m).2 ∧ (thOf ms kd (egn (srtE (zD ms kd) ms.length) m)).2.2 = gapI ms kd gs := by
  obtain ⟨h, e, hl⟩ := grOk_yes hg
  have hall := grp_full hm e hl
  have htd := grp_tied e hall
  have hhas := (inGrp_has e).2
  obtain ⟨i1, a1, a2⟩ := hhas 0 (by omega)
  obtain ⟨i2, b1, b2⟩ := hhas 1 (by omega)
  obtain ⟨m, c1, c2, c3⟩ := gap_some (D := zD ms kd) (n := ms.length) (p := lab (tieAllE ms gs)) ⟨i1, i2, a1, b1, fun hh => by have := (htd i1 i2 a1 b1).2 hh; omega⟩
  refine ⟨m, c1, c2, c3, ?_⟩
  have hmem := srtE_lt (D := zD ms kd) _ (egn_mem c1)
  have hB : thrB ms kd = true := (thrB_iff ms kd).2 ⟨hm, hk⟩
  have e1 : gapI ms kd gs = gapAll h (zD ms kd) ms.length := by
    unfold gapI
    rw [if_pos (by simp [gapB, hB, h2]), e]
    simp only
    rw [if_pos hl]
  rw [e1, gapAll_same htd, gap_first (zD_nn ms kd) (zD_comm ms kd) c1 c2 c3]
  exact (zD_in hm kd hk hmem.1 hmem.2).symm
theorem found_all {ms : List Mk} {gs : List (List Int)} (hg : grOkB ms gs = true) {j : Nat} (hj : j < gs.length) : cn gs j ≠ [] ∧ ∀ id ∈ cn gs j, 0 ≤ zFind ms id := by
  obtain ⟨h, e, -⟩ := grOk_yes hg
  have e' : inGrp ms (gs.take gs.length) 0 (fun _ => 0) = some h := by rw [List.take_length]; exact e
  have := (grp_in gs.length (Nat.le_refl _) e').1 j hj
  exact ⟨this.1, fun id hid => (this.2 id hid).1⟩
theorem fld41 (x y z : Value) (w : World) : Sem.run Try.prog (Instr.field 41 (.agg #[x, y, z]) 2) w = .ok z w := by kernel_rfl

set_option maxRecDepth 100000 in
set_option maxHeartbeats 4000000 in
theorem iGap_yes (ao ag : Option Addr) (cap cg : Nat) (ms : List Mk) (kd : Int) (gs : List (List Int)) (w : World) (hv : MView w ao ms) (hg : CView w ag gs) (hsm : MSmall ms) (hcs : CSmall gs) (hcap : ms.length ≤ cap) (h2 : 2 ≤ gs.length) (hm : marksB ms = true) (hk : kindB kd = true) (hok : grOkB ms gs = true) :
    Calls Try.prog 28 #[.slice ao ms.length cap, .int .i64 kd, .slice ag gs.length cg] w fun e w' => e = .returned (.int .i64 (gapI ms kd gs)) ∧ Below w.heap.size w w' := by
  have HC := hidP (iMarks ao cap ms w hv hsm)
  rw [hm] at HC
  have HK := fun w => hidP (iKind kd w)
  rw [hk] at HK
  have HGO := hidP (fun w' (L : Below w.heap.size w w') => iGrOk ao ag cap cg ms gs w' (hv.next L) (hg.next L) hm hcs)
  rw [hok] at HGO
  have HLO := hidP (fun w' (L : Below w.heap.size w w') => iLoose ao cap ms w' hm (hv.next L))
  have HHP := hidP (fun w' (L : Below w.heap.size w w') => iHeapT ao cap ms kd w' (hv.next L) hsm hm hcap)
  have hn60 := marksB_len hm
  have HM := hidP (And.intro hm hk)
  have HG := hidP hg
  have HFA := hidP (fun j (hj : j < gs.length) => found_all hok hj)
  have HCS := hidP hcs.2
  have hgl := hcs.1
  have h2i : ¬ ((gs.length : Int) < 2) := by omega
  have HGF := hidP (gapI_first hm hk h2 hok)
  have hfl := fld41
  clear hv hg hsm hcs hcap h2 hm hk hok
  go_enter Try.func28, Try.ntmps28
  go_wp2_with fail
  refine HC.out.mono ?_
  rintro e w1 ⟨rfl, L1⟩
  have HL1 := hidP L1
  clear L1 HC
  go_wp2_with fail
  refine (HK w1).out.mono ?_
  rintro e w2 ⟨rfl, hw2⟩
  subst w2
  clear HK
  go_wp2_with fail
  refine (HGO.out w1 HL1.out).mono ?_
  rintro e w2 ⟨rfl, L2⟩
  have HL2 := hidP (chain HL1.out L2)
  clear L2 HGO HL1
  go_wp2_with fail
  refine (HLO.out w2 HL2.out).mono ?_
  rintro e w3 ⟨rfl, hT3, L3⟩
  have HI0 : Hid (Ties w3 w2.heap.size ms (lab (tieAllE ms (gs.take 0))) ∧ Below w.heap.size w w3) := ⟨hT3, chain HL2.out L3⟩
  have hBw : w.heap.size ≤ w2.heap.size := HL2.out.size
  clear hT3 L3 HLO HL2
  generalize w2.heap.size = B at *
  go_wp2_with fail
  go_loopw [33] (fun i wr => ∃ j : Nat, j ≤ gs.length ∧ i = .int .i64 j ∧ Ties wr B ms (lab (tieAllE ms (gs.take j))) ∧ Below w.heap.size w wr) (fun i _ => gs.length - (intOf i).toNat)
  case atStart => exact ⟨0, Nat.zero_le _, rfl, HI0.out⟩
  case round =>
    clear HI0
    obtain ⟨j, hj, rfl, hTi, L⟩ := hrel
    by_cases hlt : j < gs.length
    · obtain ⟨b, off, rfl, hb, hs⟩ := HG.out.seg (by omega)
      obtain ⟨a, ca, hcw, hva⟩ := hs j hlt
      have hc := (L.cell (p := ⟨b, off + j, none⟩) hb).trans hcw
      have hj0 : (0 : Int) ≤ (j : Int) := Int.natCast_nonneg _
      have hj1 : (j : Int) < (gs.length : Int) := by omega
      have hfa := HFA.out j hlt
      have hab : ∀ b' off', a = some ⟨b', off', none⟩ → b' ≠ B := fun b' off' e => by
        rcases hva with h1 | ⟨b2, off2, e2, hb2, -⟩
        · exact absurd h1 hfa.1
        · rw [e] at e2
          injection e2 with e2
          injection e2 with e3
          omega
      have HTA := hidP (iTieAll B a ca ms (cn gs j) (tieAllE ms (gs.take j)) wr HM.out.1 hTi (View.next hva L) hab hfa.2 (HCS.out j))
      have HTK : Hid (tieAllE ms (gs.take (j + 1)) = tieAllE ms (gs.take j) ++ tieE ms (cn gs j)) := by show _ = _; rw [take_cn hlt, tieAllE_snoc]
      have HL := hidP L
      clear hTi L hs hva hab hfa hcw
      go_wp2_with fail
      refine HTA.out.mono ?_
      rintro e w4 ⟨rfl, hT4, hg4⟩
      have HE : Hid (Ties w4 B ms (lab (tieAllE ms (gs.take (j + 1)))) ∧ Below w.heap.size w w4) := ⟨by rw [HTK.out]; exact hT4, HL.out.grown hg4 HL.out.size (by intro q hq; cases hq; exact hBw)⟩
      clear hT4 hg4
      go_wp2_with fail
      go_roundw
      case rel => exact ⟨j + 1, by omega, by go_num, HE.out⟩
      case measure => simp [intOf]; omega
    · obtain rfl : j = gs.length := by omega
      rw [List.take_length] at hTi
      have HTi := hidP hTi
      have HL := hidP L
      have HHW := hidP (HHP.out wr L)
      clear hTi L HHP
      go_wp2_with fail
      refine HHW.out.mono ?_
      rintro e w4 ⟨p, g, c, l, rfl, hp4, hA4, hok4, L4⟩
      obtain ⟨m, c1, c2, c3, c4⟩ := HGF.out
      have hSl := srtE_len (zD ms kd) hn60
      have HNT := hidP (iNextTie wr.heap.size p g c B l (srtE (zD ms kd) ms.length) m ms kd (lab (tieAllE ms gs)) w4 HM.out.1 HM.out.2 hA4 hok4 (srtE_ord _ _) (fun e he => srtE_lt e he) (HTi.out.below L4) c1 c2 c3 (by omega))
      rw [c4] at HNT
      have hgw := hA4.2.2.lt.1
      have hzw := HL.out.size
      have HL4 := hidP (chain HL.out L4)
      clear hA4 hok4 L4 c1 c2 c3 c4 hSl HHW HGF
      generalize (thOf ms kd (egn (srtE (zD ms kd) ms.length) m)).1 = t1 at *
      generalize (thOf ms kd (egn (srtE (zD ms kd) ms.length) m)).2.1 = t2 at *
      go_wp2_with fail
      refine HNT.out.mono ?_
      rintro e w5 ⟨rfl, l5, -, -, -, hC5⟩
      have HL5 : Hid (Below w.heap.size w w5) := hC5.base HL4.out (by omega) (by omega) hBw
      clear hC5
      go_wp2_with fail
      go_ret
      exact ⟨rfl, HL5.out⟩

set_option maxRecDepth 100000 in
set_option maxHeartbeats 2000000 in
theorem iGap_no (ao ag : Option Addr) (cap cg : Nat) (ms : List Mk) (kd : Int) (gs : List (List Int)) (w : World) (hv : MView w ao ms) (hg : CView w ag gs) (hsm : MSmall ms) (hcs : CSmall gs) (hb : gs.length < 2 ∨ marksB ms = false ∨ kindB kd = false ∨ grOkB ms gs = false) :
    Calls Try.prog 28 #[.slice ao ms.length cap, .int .i64 kd, .slice ag gs.length cg] w fun e w' => e = .returned (.int .i64 (-1)) ∧ Below w.heap.size w w' := by
  have HC := hidP (iMarks ao cap ms w hv hsm)
  have HK := fun w => hidP (iKind kd w)
  by_cases h2 : gs.length < 2
  · have h2i : (gs.length : Int) < 2 := by omega
    clear hv hg hcs hb HC HK
    go_enter Try.func28, Try.ntmps28
    go_wp2_with fail
    go_ret
    exact ⟨rfl, Below.refl _ _⟩
  · have h2i : ¬ ((gs.length : Int) < 2) := by omega
    rcases hm : marksB ms with _ | _
    · rw [hm] at HC
      clear hv hg hcs hb hm HK
      go_enter Try.func28, Try.ntmps28
      go_wp2_with fail
      refine HC.out.mono ?_
      rintro e w1 ⟨rfl, L1⟩
      have HL := hidP L1
      clear L1
      go_wp2_with fail
      go_ret
      exact ⟨rfl, HL.out⟩
    · rw [hm] at HC
      rcases hk : kindB kd with _ | _
      · rw [hk] at HK
        clear hv hg hcs hb hm hk
        go_enter Try.func28, Try.ntmps28
        go_wp2_with fail
        refine HC.out.mono ?_
        rintro e w1 ⟨rfl, L1⟩
        have HL := hidP L1
        clear L1
        go_wp2_with fail
        refine (HK w1).out.mono ?_
        rintro e w2 ⟨rfl, hw2⟩
        subst w2
        go_wp2_with fail
        go_ret
        exact ⟨rfl, HL.out⟩
      · rw [hk] at HK
        have hno : grOkB ms gs = false := by
          rcases hb with h | h | h | h
          · exact absurd h h2
          · rw [hm] at h; cases h
          · rw [hk] at h; cases h
          · exact h
        have HGO := hidP (fun w' (L : Below w.heap.size w w') => iGrOk ao ag cap cg ms gs w' (hv.next L) (hg.next L) hm hcs)
        rw [hno] at HGO
        clear hv hg hcs hb hm hk hno
        go_enter Try.func28, Try.ntmps28
        go_wp2_with fail
        refine HC.out.mono ?_
        rintro e w1 ⟨rfl, L1⟩
        have HL := hidP L1
        clear L1
        go_wp2_with fail
        refine (HK w1).out.mono ?_
        rintro e w2 ⟨rfl, hw2⟩
        subst w2
        go_wp2_with fail
        refine (HGO.out w1 HL.out).mono ?_
        rintro e w2 ⟨rfl, L2⟩
        have HL2 := hidP (chain HL.out L2)
        clear L2
        go_wp2_with fail
        go_ret
        exact ⟨rfl, HL2.out⟩

theorem iGap : IGap := fun ao ag cap cg ms kd gs w hv hg hsm hcs hcap => by
  by_cases h : 2 ≤ gs.length ∧ marksB ms = true ∧ kindB kd = true ∧ grOkB ms gs = true
  · exact iGap_yes ao ag cap cg ms kd gs w hv hg hsm hcs hcap h.1 h.2.1 h.2.2.1 h.2.2.2
  · have hb : gs.length < 2 ∨ marksB ms = false ∨ kindB kd = false ∨ grOkB ms gs = false := by
      by_cases h0 : gs.length < 2
      · exact Or.inl h0
      · rcases h1 : marksB ms with _ | _
        · exact Or.inr (Or.inl rfl)
        · rcases h2 : kindB kd with _ | _
          · exact Or.inr (Or.inr (Or.inl rfl))
          · rcases h3 : grOkB ms gs with _ | _
            · exact Or.inr (Or.inr (Or.inr rfl))
            · exact absurd ⟨by omega, h1, h2, h3⟩ h
    refine (iGap_no ao ag cap cg ms kd gs w hv hg hsm hcs hb).mono ?_
    rintro e w' ⟨rfl, L⟩
    exact ⟨by rw [gapI_told hb], L⟩

end Go.Proofs.Ytfbindjacmaeoaa
