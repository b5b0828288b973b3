/-
  The program's own hasId.
  The program's own first and upTo: what the heap hands out, in order.
  The program's own upTo, and first of no hits.
-/
import Derived.Test.YtodielfilhodeaaGreatHM1Zz
import Derived.Test.YtodielfilhodeaaGreatArgsZz
namespace Go.Proofs.YtodielfilhodeaaGreat
open Go Go.RowKit

def hasH (hs : List Ht) (id : Int) : Bool := hasB (hs.map Prod.fst) id
theorem hasH_yes {hs : List Ht} {id : Int} {k : Nat} (hk : k < hs.length) (h : (hnth hs k).1 = id) : hasH hs id = true := by
  unfold hasH hasB
  rw [List.contains_iff_mem, ← h]
  exact List.mem_map_of_mem (hnth_mem hk)
theorem hasH_no {hs : List Ht} {id : Int} (h : ∀ j, j < hs.length → (hnth hs j).1 ≠ id) : hasH hs id = false := by
  rcases hb : hasH hs id with _ | _
  · rfl
  · unfold hasH hasB at hb
    rw [List.contains_iff_mem, List.mem_map] at hb
    obtain ⟨x, hx, e⟩ := hb
    obtain ⟨j, hj, e2⟩ := List.getElem_of_mem hx
    exact absurd (by rw [← e, ← e2]; simp [hnth, List.getD, hj]) (h j hj)

end Go.Proofs.YtodielfilhodeaaGreat
namespace Go.Proofs.YtodielfilhodeaaGreat
open Go Go.RowKit

theorem heap_min {l : List Ht} (h : HeapN l l.length) : ∀ y ∈ l, leH (hnth l 0) y := fun y hy => by
  obtain ⟨j, hj, e⟩ := List.getElem_of_mem hy
  have := heap_first h j hj
  rw [show hnth l j = y by rw [← e]; simp [hnth, List.getD, hj]] at this
  exact this
theorem pop_sorted {x : Ht} {l l' : List Ht} (hp : (x :: l').Perm l) (hm : ∀ y ∈ l, leH x y) : sortL l = x :: sortL l' := by
  refine (sortL_unique (List.pairwise_cons.2 ⟨fun y hy => hm y (hp.mem_iff.1 (List.mem_cons_of_mem _ ((sortL_perm l').mem_iff.1 hy))), sortL_sorted l'⟩) ?_).symm
  exact (List.Perm.cons x (sortL_perm l')).trans hp
theorem sortL_nil : sortL [] = [] := rfl
/-- What is still to come, behind what is taken. -/
theorem first_skip {T l l' : List Ht} {x : Ht} {all : List Ht} (he : T ++ onceG (T.map Prod.fst) (sortL l) = all) (hs : sortL l = x :: sortL l') (hx : hasH T x.1 = true) : T ++ onceG (T.map Prod.fst) (sortL l') = all := by
  rw [← he, hs]
  unfold hasH at hx
  simp [onceG, hx]
theorem first_take {T l l' : List Ht} {x : Ht} {all : List Ht} (he : T ++ onceG (T.map Prod.fst) (sortL l) = all) (hs : sortL l = x :: sortL l') (hx : hasH T x.1 = false) : (T ++ [x]) ++ onceG ((T ++ [x]).map Prod.fst) (sortL l') = all := by
  rw [← he, hs]
  unfold hasH at hx
  simp [onceG, hx]
theorem upto_take {T l l' : List Ht} {x : Ht} {all : List Ht} {most : Int} (he : T ++ (sortL l).filter (fun h => decide (h.2 ≤ most)) = all) (hs : sortL l = x :: sortL l') (hx : x.2 ≤ most) : (T ++ [x]) ++ (sortL l').filter (fun h => decide (h.2 ≤ most)) = all := by
  rw [← he, hs, List.filter_cons_of_pos (by simpa using hx)]
  simp
theorem upto_stop {T l : List Ht} {all : List Ht} {most : Int} (he : T ++ (sortL l).filter (fun h => decide (h.2 ≤ most)) = all) (hs : l = [] ∨ (∀ y ∈ l, leH (hnth l 0) y) ∧ most < (hnth l 0).2) : T = all := by
  rw [← he]
  have : (sortL l).filter (fun h => decide (h.2 ≤ most)) = [] := by
    rw [List.filter_eq_nil_iff]
    intro y hy
    have hy := (sortL_perm l).mem_iff.1 hy
    rcases hs with rfl | ⟨h1, h2⟩
    · cases hy
    · have := h1 y hy
      unfold leH at this
      simp; omega
  rw [this, List.append_nil]
theorem Chg.hrow {p g base t c : Nat} {w w' : World} {T : List Ht} (h : Chg p g w w') (hr : HRow base w t c T) (h1 : t ≠ p) (h2 : t ≠ g) : HRow base w' t c T := by
  have hl := hr.lt.2
  have hb := h.2.2.2.2 t hl h1 h2
  obtain ⟨k1, k2 | ⟨g', c', cur, e, h3, h4, h5⟩⟩ := hr
  · exact ⟨k1, Or.inl k2⟩
  · refine ⟨k1, Or.inr ⟨g', c', cur, e, h3, ?_, h5⟩⟩
    injection e with e1 e2 e3
    have : g' = t := by simp at e1; omega
    subst this
    rw [hb]; exact h4
def lenAt (p : Nat) (w : World) : Nat := match w.cell? ⟨p, 0, none⟩ with
  | some (.slice _ n _) => n
  | _ => 0
theorem HAt.len {base : Nat} {w : World} {p g c : Nat} {l : List Ht} (h : HAt base w p g c l) : lenAt p w = l.length := by unfold lenAt; rw [h.cell]
/-- A loop's state: what the heap holds, what is taken. -/
def Taking (base : Nat) (w wr : World) (p g c t ct : Nat) (l T : List Ht) : Prop := HAt base wr p g c l ∧ HeapN l l.length ∧ HRow w.heap.size wr t ct T ∧ Chg p g w wr ∧ p < w.heap.size ∧ g < w.heap.size

end Go.Proofs.YtodielfilhodeaaGreat
namespace Go.Proofs.YtodielfilhodeaaGreat
open Go Go.RowKit

set_option maxRecDepth 100000 in
set_option maxHeartbeats 4000000 in
theorem iUpTo (base p g c : Nat) (most : Int) (l : List Ht) (w : World) (h : HAt base w p g c l) (hl : l.length ≤ 1048576) (hh : HeapN l l.length) :
    Calls Tryz.prog 97 #[.pointer (some ⟨p, 0, none⟩), .int .i64 most] w fun e w' => ∃ t ct, e = .returned (.slice (some ⟨t, 0, none⟩) ((sortL l).filter (fun h => decide (h.2 ≤ most))).length ct) ∧ HRow w.heap.size w' t ct ((sortL l).filter (fun h => decide (h.2 ≤ most))) ∧ Chg p g w w' := by
  obtain ⟨j0, hj0, hy0, hy1, hy2⟩ := info_parts Tryz.info89
  have hB := (Below.refl w.heap.size w).alloc (Nat.le_refl _) (.cells #[] 89)
  have HT : Hid (Taking base w (w.alloc (.cells #[] 89)) p g c w.heap.size 0 l []) := ⟨h.below hB, hh, HRow.start w _ (Nat.le_refl _), Chg.below hB, h.lt, h.2.2.lt.2⟩
  obtain ⟨all, hall⟩ : ∃ all, all = (sortL l).filter (fun h => decide (h.2 ≤ most)) := ⟨_, rfl⟩
  have HA := hidP hall
  rw [← hall]
  clear h hh hB hall
  go_enter Tryz.func97, Tryz.ntmps97
  go_wp2
  go_loopw [5] (fun v wr => ∃ (l' T : List Ht) (t ct : Nat), v = .slice (some ⟨t, 0, none⟩) T.length ct ∧ Taking base w wr p g c t ct l' T ∧ T ++ (sortL l').filter (fun h => decide (h.2 ≤ most)) = all ∧ T.length + l'.length ≤ l.length) (fun _ wr => lenAt p wr)
  case atStart => exact ⟨l, [], w.heap.size, 0, rfl, HT.out, by rw [HA.out]; rfl, by simp⟩
  case round =>
    clear HT
    obtain ⟨l', T, t, ct, rfl, hT, hE, hTl⟩ := hrel
    have HS := hidP hT
    have HE := hidP hE
    have hcp := hT.1.cell
    have HLn := hidP (iLen (some ⟨g, 0, none⟩) l'.length c wr)
    clear hT hE
    by_cases h0 : l' = []
    · have HF := hidP (upto_stop HE.out (Or.inl h0))
      subst h0
      go_wp2_with fail
      refine HLn.out.mono ?_
      rintro e w1 ⟨rfl, rfl⟩
      go_wp2
      go_ret
      have e1 := HF.out
      subst e1
      exact ⟨t, ct, rfl, HS.out.2.2.1, HS.out.2.2.2.1⟩
    · obtain ⟨n, hn⟩ : ∃ n, l'.length = n + 1 := ⟨l'.length - 1, by have : 0 < l'.length := List.length_pos_iff.2 h0; omega⟩
      have hgt : (l'.length : Int) > 0 := by omega
      have hpos : 0 < l'.length := by omega
      have HN := hidP (iNext base p g c n l' wr HS.out.1 hn (by omega) HS.out.2.1)
      have HM := hidP (heap_min HS.out.2.1)
      have hsg := HS.out.1.2.2.seg 0 hpos
      obtain ⟨hs0, hs1⟩ := hsg
      have HST := fun (h : most < (hnth l' 0).2) => hidP (upto_stop HE.out (Or.inr ⟨HM.out, h⟩))
      have HSTO := hidP HST
      clear hn h0 HST
      obtain ⟨x, hx⟩ : ∃ x, x = hnth l' 0 := ⟨_, rfl⟩
      rw [← hx] at HN HM hs0 hs1 HSTO
      clear hx
      by_cases hle : x.2 ≤ most
      · go_wp2_with fail
        refine HLn.out.mono ?_
        rintro e w1 ⟨rfl, rfl⟩
        clear HLn
        go_wp2_with fail
        refine HN.out.mono ?_
        rintro e w3 ⟨rfl, l2, h2, hc2, hp2, hh2⟩
        obtain ⟨h1, hh1, hr1, hc1, hpl, hgl⟩ := HS.out
        have htl := hr1.lt
        have hl2 : l2.length + 1 = l'.length := by rw [← hp2.length_eq]; rfl
        have HF := hidP (upto_take HE.out (pop_sorted hp2 HM.out) hle)
        have LA := World.grownBy_alloc w3 (.cells #[.int .i64 x.1, .int .i64 x.2] 89) none
        have hB3 := (Below.refl w3.heap.size w3).alloc (Nat.le_refl _) (.cells #[.int .i64 x.1, .int .i64 x.2] 89)
        have hr3 := hc2.hrow hr1 (by omega) (by omega)
        have HS4 : Hid (Taking base w (w3.alloc (.cells #[.int .i64 x.1, .int .i64 x.2] 89)) p g c t ct l2 T) := ⟨h2.below hB3, hh2, hr3.kept LA (by simp), (hc1.trans hc2).trans (Chg.below hB3), hpl, hgl⟩
        have hz := (hc1.trans hc2).2.2.2.1
        have HZ := hidP hr3.lt
        have HLT := hidP (And.intro hl2 HS.out.1.len)
        clear h1 hh1 hr1 hc1 h2 hc2 hp2 hh2 LA hB3 hr3 htl HM HS HN hl2 hcp hs0 hs1 HSTO
        go_wp2_with (at_builtin; refine wpList_append_at _ rfl (.tmp 22) (.tmp 25) 31 rfl w.heap.size 89 j0 _ 2 16 Tryz.underlying31 hj0 hy0 hy1 hy2 rfl (by omega) t T.length ct (hCells T) rfl HS4.out.2.2.1 (some ⟨w3.heap.size, 0, none⟩) 1 1 (hCells [x]) rfl (one_src (heap_alloc_new w3 _)) (by unfold maxLen; omega) (by omega) (by simp; omega) (w3.heap.size + 1) (by simp) ?_; intro gg cc w4 hown hgrow hat hltt)
        go_wp2
        obtain ⟨h1, hh1, hr1, hc1, _, _⟩ := HS4.out
        have ht0 := HZ.out
        have hA4 := h1.other hgrow (show p ≠ t by omega) (show g ≠ t by omega)
        have hlen := HLT.out
        go_roundw
        case rel => exact ⟨l2, T ++ [x], gg, cc, by rw [List.length_append, List.length_singleton], ⟨hA4, hh1, HRow.snoc hown, hc1.far hgrow ht0.1, hpl, hgl⟩, HF.out, by rw [List.length_append, List.length_singleton]; omega⟩
        case measure => rw [hA4.len, hlen.2]; omega
      · have HF := hidP ((HSTO.out (by omega)).out)
        go_wp2_with fail
        refine HLn.out.mono ?_
        rintro e w1 ⟨rfl, rfl⟩
        go_wp2
        go_ret
        have e1 := HF.out
        subst e1
        exact ⟨t, ct, rfl, HS.out.2.2.1, HS.out.2.2.2.1⟩

end Go.Proofs.YtodielfilhodeaaGreat
