/-
  The program's own upTo, and first of no hits.
-/
import Derived.Test.YtgfcdfiekancnaaHM6
namespace Go.Proofs.Ytgfcdfiekancnaa
open Go Go.RowKit

set_option maxRecDepth 100000 in
set_option maxHeartbeats 1000000 in
theorem iFirst0 (p : Nat) (k : Int) (w : World) (hp : p < w.heap.size) (h : w.cell? ⟨p, 0, none⟩ = some (.slice none 0 0)) :
    Calls Try.prog 45 #[.pointer (some ⟨p, 0, none⟩), .int .i64 k] w fun e w' => ∃ t ct, e = .returned (.slice (some ⟨t, 0, none⟩) 0 ct) ∧ HRow w.heap.size w' t ct [] ∧ Below w.heap.size w w' := by
  have hB := (Below.refl w.heap.size w).alloc (Nat.le_refl _) (.cells #[] 68)
  have HR := hidP (And.intro (HRow.start w w.heap.size (Nat.le_refl _)) hB)
  have hc : (w.alloc (.cells #[] 68)).cell? ⟨p, 0, none⟩ = some (.slice none 0 0) := (hB.cell (p := ⟨p, 0, none⟩) hp).trans h
  have HL := hidP (iLen none 0 0 (w.alloc (.cells #[] 68)))
  clear hB h
  go_enter Try.func45, Try.ntmps45
  go_wp2
  go_loop [5] (fun v => v = .slice (some ⟨w.heap.size, 0, none⟩) 0 0) (fun _ => 0)
  case atStart => exact rfl
  case round =>
    subst hrel
    go_wp2_with fail
    refine HL.out.mono ?_
    rintro e w1 ⟨rfl, rfl⟩
    go_wp2
    go_ret
    exact ⟨_, 0, rfl, HR.out.1, HR.out.2⟩

set_option maxRecDepth 100000 in
set_option maxHeartbeats 4000000 in
theorem iUpTo (base p g c : Nat) (most : Int) (l : List Ht) (w : World) (h : HAt base w p g c l) (hl : l.length ≤ 1048576) (hh : HeapN l l.length) :
    Calls Try.prog 54 #[.pointer (some ⟨p, 0, none⟩), .int .i64 most] w fun e w' => ∃ t ct, e = .returned (.slice (some ⟨t, 0, none⟩) ((sortL l).filter (fun h => decide (h.2 ≤ most))).length ct) ∧ HRow w.heap.size w' t ct ((sortL l).filter (fun h => decide (h.2 ≤ most))) ∧ Chg p g w w' := by
  obtain ⟨j0, hj0, hy0, hy1, hy2⟩ := info_parts Try.info68
  have hB := (Below.refl w.heap.size w).alloc (Nat.le_refl _) (.cells #[] 68)
  have HT : Hid (Taking base w (w.alloc (.cells #[] 68)) p g c w.heap.size 0 l []) := ⟨h.below hB, hh, HRow.start w _ (Nat.le_refl _), Chg.below hB, h.lt, h.2.2.lt.2⟩
  obtain ⟨all, hall⟩ : ∃ all, all = (sortL l).filter (fun h => decide (h.2 ≤ most)) := ⟨_, rfl⟩
  have HA := hidP hall
  rw [← hall]
  clear h hh hB hall
  go_enter Try.func54, Try.ntmps54
  go_wp2
  go_loopw [5] (fun v wr => ∃ (l' T : List Ht) (t ct : Nat), v = .slice (some ⟨t, 0, none⟩) T.length ct ∧ Taking base w wr p g c t ct l' T ∧ T ++ (sortL l').filter (fun h => decide (h.2 ≤ most)) = all ∧ T.length + l'.length ≤ l.length) (fun _ wr => lenAt p wr)
  case atStart => exact ⟨l, [], w.heap.size, 0, rfl, HT.out, by rw [HA.out]; rfl, by simp⟩
  case round =>
    clear HT
    obtain ⟨l', T, t, ct, rfl, hT, hE, hTl⟩ := hrel
    have HS := hidP hT
    have HE := hidP hE
    have hcp := hT.1.cell
    have HLn := hidP (iLen (some ⟨g, 0, none⟩) l'.length c wr)
    clear hT hE
    by_cases h0 : l' = []
    · have HF := hidP (upto_stop HE.out (Or.inl h0))
      subst h0
      go_wp2_with fail
      refine HLn.out.mono ?_
      rintro e w1 ⟨rfl, rfl⟩
      go_wp2
      go_ret
      have e1 := HF.out
      subst e1
      exact ⟨t, ct, rfl, HS.out.2.2.1, HS.out.2.2.2.1⟩
    · obtain ⟨n, hn⟩ : ∃ n, l'.length = n + 1 := ⟨l'.length - 1, by have : 0 < l'.length := List.length_pos_iff.2 h0; omega⟩
      have hgt : (l'.length : Int) > 0 := by omega
      have hpos : 0 < l'.length := by omega
      have HN := hidP (iNext base p g c n l' wr HS.out.1 hn (by omega) HS.out.2.1)
      have HM := hidP (heap_min HS.out.2.1)
      have hsg := HS.out.1.2.2.seg 0 hpos
      obtain ⟨hs0, hs1⟩ := hsg
      have HST := fun (h : most < (hnth l' 0).2) => hidP (upto_stop HE.out (Or.inr ⟨HM.out, h⟩))
      have HSTO := hidP HST
      clear hn h0 HST
      obtain ⟨x, hx⟩ : ∃ x, x = hnth l' 0 := ⟨_, rfl⟩
      rw [← hx] at HN HM hs0 hs1 HSTO
      clear hx
      by_cases hle : x.2 ≤ most
      · go_wp2_with fail
        refine HLn.out.mono ?_
        rintro e w1 ⟨rfl, rfl⟩
        clear HLn
        go_wp2_with fail
        refine HN.out.mono ?_
        rintro e w3 ⟨rfl, l2, h2, hc2, hp2, hh2⟩
        obtain ⟨h1, hh1, hr1, hc1, hpl, hgl⟩ := HS.out
        have htl := hr1.lt
        have hl2 : l2.length + 1 = l'.length := by rw [← hp2.length_eq]; rfl
        have HF := hidP (upto_take HE.out (pop_sorted hp2 HM.out) hle)
        have LA := World.grownBy_alloc w3 (.cells #[.int .i64 x.1, .int .i64 x.2] 68) none
        have hB3 := (Below.refl w3.heap.size w3).alloc (Nat.le_refl _) (.cells #[.int .i64 x.1, .int .i64 x.2] 68)
        have hr3 := hc2.hrow hr1 (by omega) (by omega)
        have HS4 : Hid (Taking base w (w3.alloc (.cells #[.int .i64 x.1, .int .i64 x.2] 68)) p g c t ct l2 T) := ⟨h2.below hB3, hh2, hr3.kept LA (by simp), (hc1.trans hc2).trans (Chg.below hB3), hpl, hgl⟩
        have hz := (hc1.trans hc2).2.2.2.1
        have HZ := hidP hr3.lt
        have HLT := hidP (And.intro hl2 HS.out.1.len)
        clear h1 hh1 hr1 hc1 h2 hc2 hp2 hh2 LA hB3 hr3 htl HM HS HN hl2 hcp hs0 hs1 HSTO
        go_wp2_with (at_builtin; refine wpList_append_at _ rfl (.tmp 22) (.tmp 25) 28 rfl w.heap.size 68 j0 _ 2 16 Try.underlying28 hj0 hy0 hy1 hy2 rfl (by omega) t T.length ct (hCells T) rfl HS4.out.2.2.1 (some ⟨w3.heap.size, 0, none⟩) 1 1 (hCells [x]) rfl (one_src (heap_alloc_new w3 _)) (by unfold maxLen; omega) (by omega) (by simp; omega) (w3.heap.size + 1) (by simp) ?_; intro gg cc w4 hown hgrow hat hltt)
        go_wp2
        obtain ⟨h1, hh1, hr1, hc1, _, _⟩ := HS4.out
        have ht0 := HZ.out
        have hA4 := h1.other hgrow (show p ≠ t by omega) (show g ≠ t by omega)
        have hlen := HLT.out
        go_roundw
        case rel => exact ⟨l2, T ++ [x], gg, cc, by rw [List.length_append, List.length_singleton], ⟨hA4, hh1, HRow.snoc hown, hc1.far hgrow ht0.1, hpl, hgl⟩, HF.out, by rw [List.length_append, List.length_singleton]; omega⟩
        case measure => rw [hA4.len, hlen.2]; omega
      · have HF := hidP ((HSTO.out (by omega)).out)
        go_wp2_with fail
        refine HLn.out.mono ?_
        rintro e w1 ⟨rfl, rfl⟩
        go_wp2
        go_ret
        have e1 := HF.out
        subst e1
        exact ⟨t, ct, rfl, HS.out.2.2.1, HS.out.2.2.2.1⟩

end Go.Proofs.Ytgfcdfiekancnaa
