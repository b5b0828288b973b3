/-
  The given InCell.
-/
import Derived.Test.YtodielfilhodeaaGreatGGridZz
import Derived.Test.YtodielfilhodeaaGreatCopyZz
import Derived.Test.YtodielfilhodeaaGreatBMarkZz
import Derived.Deep.RegionHeld3
namespace Go.Proofs.YtodielfilhodeaaGreat
open Go Go.RowKit

theorem gmarks {ms : List Mk} (h : marksB ms = true) : ∀ a ∈ ms, okB a.2 = true ∧ a.2.length = (mat ms 0).length := fun a ha => by
  obtain ⟨i, hi, rfl⟩ := List.getElem_of_mem ha
  have := (mOkAt_iff ms i).1 (marksB_at h hi)
  have e : mat ms i = ms[i].2 := by simp [mat, List.getD, hi]
  rw [e] at this
  exact ⟨this.2.2.1, this.2.2.2.1⟩
def idsL (s : Int) (cell : List Int) (ms : List Mk) : List Int := (ms.filter fun m => decide (cellV m.2 s = cell)).map (·.1)
def inCellL (s : Int) (ms : List Mk) (cell : List Int) : List Int := if gridB s ms = true then idsL s cell ms else []
theorem idsL_length (s : Int) (cell : List Int) (ms : List Mk) : (idsL s cell ms).length ≤ ms.length := by
  rw [idsL, List.length_map]; exact List.length_filter_le _ _
theorem idsL_snoc (s : Int) (cell : List Int) (ms : List Mk) (m : Mk) : idsL s cell (ms ++ [m]) = if cellV m.2 s = cell then idsL s cell ms ++ [m.1] else idsL s cell ms := by
  unfold idsL
  rw [List.filter_append]
  by_cases h : cellV m.2 s = cell
  · simp [h]
  · simp [h]
theorem take_mark {ms : List Mk} {k : Nat} (h : k < ms.length) : ms.take (k + 1) = ms.take k ++ [(mid ms k, mat ms k)] := by
  rw [List.take_add_one]
  simp only [mid, mat, List.getD, List.getElem?_eq_getElem h, Option.getD_some, Option.toList_some]

set_option maxRecDepth 100000 in
set_option maxHeartbeats 2000000 in
theorem sInCell (ao qa : Option Addr) (cap qc : Nat) (s : Int) (ms : List Mk) (cell : List Int) (w : World) (hv : MView w ao ms) (hsm : MSmall ms) (hq : View w qa cell) :
    Calls Tryz.prog 32 #[.agg #[.int .i64 s, .slice ao ms.length cap], .slice qa cell.length qc] w fun e w' => ∃ g c, e = .returned (.slice (some ⟨g, 0, none⟩) (inCellL s ms cell).length c) ∧ IRow w.heap.size w' g c (inCellL s ms cell) ∧ Below w.heap.size w w' := by
  obtain ⟨W1, hW1⟩ : ∃ W, W = w.alloc (.cells #[.int .i64 s, .slice ao ms.length cap] 46) := ⟨_, rfl⟩
  obtain ⟨W2, hW2⟩ : ∃ W, W = W1.alloc (.cells #[] 2) := ⟨_, rfl⟩
  have hz1 : W1.heap.size = w.heap.size + 1 := by rw [hW1]; simp
  have T1 : Two W1 w.heap.size (.int .i64 s) (.slice ao ms.length cap) 46 := by rw [hW1]; exact Two.new w _ _ _
  have M1 : Below w.heap.size w W1 := by rw [hW1]; exact alloc_below w _
  have M2 : Below W1.heap.size W1 W2 := by rw [hW2]; exact alloc_below W1 _
  have T2 := T1.below M2
  have L2 := chain M1 M2
  have R2 : IRow w.heap.size W2 (w.heap.size + 1) 0 [] := by rw [hW2, ← hz1]; exact (IRow.start W1 w.heap.size (by omega))
  have c0 := T2.c0
  have c1 := T2.c1
  have HG := hidP (sGrid ao cap s ms W2 (hv.next L2) hsm)
  rcases hgd : gridB s ms with _ | _
  · have HV : Hid (inCellL s ms cell = []) := by show inCellL s ms cell = []; simp [inCellL, hgd]
    rw [hgd] at HG
    rw [HV.out]
    have HP := hidP (And.intro R2 L2)
    clear hv hq T1 M1 M2 T2 L2 R2 hz1
    subst hW2
    subst hW1
    go_enter Tryz.func32, Tryz.ntmps32
    go_wp2_with fail
    refine HG.out.mono ?_
    rintro e w3 ⟨rfl, L3⟩
    have HQ := hidP (And.intro (HP.out.1.below L3) (chain HP.out.2 L3))
    clear L3
    go_wp2_with fail
    go_ret
    exact ⟨_, _, rfl, HQ.out.1, HQ.out.2⟩
  · have HV : Hid (inCellL s ms cell = idsL s cell ms) := by show inCellL s ms cell = _; simp [inCellL, hgd]
    rw [hgd] at HG
    rw [HV.out]
    have hgd' : gsideB s = true ∧ marksB ms = true := by simpa [gridB] using hgd
    obtain ⟨hs1, hs2⟩ := (gsideB_iff s).1 hgd'.1
    have HOK := hidP (gmarks hgd'.2)
    have hl60 := marksB_len hgd'.2
    have hsd := hgd'.1
    have HP := hidP (And.intro R2 (And.intro T2 L2))
    have HVW := hidP hv
    have HQV := hidP hq
    have hat := hsm.2
    obtain ⟨i0, hi0, hz0, hz1', hz2⟩ := info_parts Tryz.info2
    clear hv hq T1 M1 M2 T2 L2 R2 hz1 hgd hgd' HV
    subst hW2
    subst hW1
    go_enter Tryz.func32, Tryz.ntmps32
    go_wp2_with fail
    refine HG.out.mono ?_
    rintro e w3 ⟨rfl, L3⟩
    have HQ := hidP (And.intro (HP.out.1.below L3) (And.intro (HP.out.2.1.below L3) (chain HP.out.2.2 L3)))
    clear L3 HP HG
    go_wp2_with fail
    go_loopw [5, 6] (fun v i wr => ∃ (k g c : Nat), k ≤ ms.length ∧ i = .int .i64 k ∧ v = .slice (some ⟨g, 0, none⟩) (idsL s cell (ms.take k)).length c ∧ IRow w.heap.size wr g c (idsL s cell (ms.take k)) ∧ w.heap.size + 1 ≤ g ∧ Two wr w.heap.size (.int .i64 s) (.slice ao ms.length cap) 46 ∧ Below w.heap.size w wr) (fun _ i _ => ms.length - (intOf i).toNat)
    case atStart => exact ⟨0, w.heap.size + 1, 0, Nat.zero_le _, rfl, rfl, HQ.out.1, Nat.le_refl _, HQ.out.2.1, HQ.out.2.2⟩
    case round =>
      obtain ⟨k, g, c, hk, rfl, rfl, hrow, hgg, TT, L⟩ := hrel
      have t0 := TT.c0
      have t1 := TT.c1
      by_cases hlt : k < ms.length
      · have hvw := HVW.out.next L
        have hqw := HQV.out.next L
        obtain ⟨b, off, rfl, hb, hseg⟩ := MSeg.seg hvw (by omega)
        obtain ⟨d0, ae, ce, d1, hve⟩ := hseg.at hlt
        have hbw : b < w.heap.size := by
          obtain ⟨b', off', e, hb', _⟩ := MSeg.seg HVW.out (by omega)
          injection e with e
          injection e with e1 e2
          omega
        have hm : mnth ms k ∈ ms := by
          have : mnth ms k = ms[k] := by simp [mnth, List.getD, hlt]
          rw [this]; exact List.getElem_mem hlt
        have hokk := (HOK.out _ hm).1
        have ecv : cellL (mat ms k) s = cellV (mat ms k) s := by
          have : okB (mat ms k) = true := hokk
          simp [cellL, this, hsd]
        have HC := hidP (sCell ae ce (mat ms k) s wr.drew hve.drew (hat k))
        rw [ecv] at HC
        obtain ⟨X, hX⟩ : ∃ X, X = cellV (mat ms k) s := ⟨_, rfl⟩
        rw [← hX] at HC
        have hXl : X.length ≤ 4 := by rw [hX, cellV_length]; exact (okB_len hokk).2
        have HSAME : Hid (∀ (W : World) g4 c4, IOwn wr.drew.heap.size W g4 c4 X → Below wr.drew.heap.size wr.drew W → Calls Tryz.prog 70 #[.slice (some ⟨g4, 0, none⟩) X.length c4, .slice qa cell.length qc] W fun e w' => e = .returned (.bool (decide (X = cell))) ∧ ∃ n, w' = W.drewN n) := fun W g4 c4 ho hL =>
          gsameS _ qa c4 qc X cell W (own_view ho) (hqw.drew.next hL) (by omega)
        have HTK := hidP (take_mark hlt)
        have HSN := hidP (idsL_snoc s cell (ms.take k) (mid ms k, mat ms k))
        have HXX := hidP hX
        have HROW := hidP hrow
        have HTT := hidP TT
        have HL := hidP L
        have hi0' : (0 : Int) ≤ (k : Int) := Int.natCast_nonneg _
        have hi1 : (k : Int) < (ms.length : Int) := by omega
        have hwz := L.size
        have hbz : w.heap.size < wr.heap.size := TT.lt
        clear hvw hqw hseg hve hm hokk ecv hX hrow TT L
        by_cases htt : X = cell
        · have hbb : decide (X = cell) = true := by simp [htt]
          rw [hbb] at HSAME
          have HTX := hidP htt
          clear hbb htt
          go_wp2_with fail
          go_region_held3 (fun w' => w'.cell? ⟨b, off + k * 2, none⟩ = some (.int .i64 (mid ms k)) ∧ w'.cell? ⟨b, off + k * 2 + 1, none⟩ = some (.slice ae (mat ms k).length ce) ∧ w'.cell? ⟨w.heap.size, 0, none⟩ = some (.int .i64 s) ∧ w'.cell? ⟨w.heap.size, 1, none⟩ = some (.slice (some ⟨b, off, none⟩) ms.length cap))
            (first
              | go_keep
              | (refine ⟨(L4.cell (p := ⟨b, off + k * 2, none⟩) hb).trans d0, (L4.cell (p := ⟨b, off + k * 2 + 1, none⟩) hb).trans d1, (L4.cell (p := ⟨w.heap.size, 0, none⟩) hbz).trans t0, (L4.cell (p := ⟨w.heap.size, 1, none⟩) hbz).trans t1⟩))
            (first
              | (go_at_call 36; refine HC.out.mono ?_; rintro e w4 ⟨g4, c4, rfl, o4, L4⟩)
              | (go_at_call 70; refine (HSAME.out _ g4 c4 o4 L4).mono ?_; rintro e w5 ⟨rfl, n5, rfl⟩))
          obtain ⟨w6, hw6⟩ : ∃ w6, w6 = w4.drewN n5 := ⟨_, rfl⟩
          rw [← hw6]
          have L6 : Below wr.heap.size wr w6 := by rw [hw6]; exact Below.trans ((Below.refl wr.heap.size wr).drew) (below_drewN L4 n5)
          have e0 := (L6.cell (p := ⟨b, off + k * 2, none⟩) hb).trans d0
          have e1 := (L6.cell (p := ⟨w.heap.size, 1, none⟩) hbz).trans t1
          have R6 := HROW.out.below L6
          have T6 := HTT.out.below L6
          have LL6 := chain HL.out L6
          have hz6 := LL6.size
          have hrl := R6.lt
          have HS6 := hidP (And.intro R6 (And.intro T6 LL6))
          have hlen : (idsL s cell (ms.take k)).length ≤ 60 := by have := idsL_length s cell (ms.take k); have h3 : (ms.take k).length ≤ ms.length := by simp; omega
                                                                  omega
          have HNX : Hid (idsL s cell (ms.take (k + 1)) = idsL s cell (ms.take k) ++ [mid ms k]) := by
            show idsL s cell (ms.take (k + 1)) = _
            rw [HTK.out, HSN.out, if_pos (by rw [← HTX.out]; exact HXX.out.symm)]
          clear L4 hw6 o4 R6 T6 LL6 d0 d1 t0 t1 HC HSAME HSN HTK L6
          simp only [Exit.then]
          go_wp2_with (at_builtin; refine wpList_append_lies _ rfl (.tmp 30) (.tmp 37) 28 rfl w.heap.size 2 i0 _ 1 8 Tryz.underlying28 hi0 hz0 hz1' hz2 rfl (by omega) (.slice (some ⟨g, 0, none⟩) (idsL s cell (ms.take k)).length c) (idsL s cell (ms.take k)).length ((idsL s cell (ms.take k)).map (Value.int .i64)) rfl (World.ownsRow.alloc HS6.out.1 _) ⟨w6.heap.size, 0, none⟩ 1 1 [.int .i64 (mid ms k)] rfl rfl (World.news_of_block (cs := #[.int .i64 (mid ms k)]) (t := 2) (fr := (0, 0)) (heap_alloc_new w6 _)) (by simp [Value.oneCell']) (by omega) (by unfold maxLen; omega) (by omega) (by simp; omega) (w6.heap.size + 1) (by simp) ?_; intro gg cc w8 hown hgrow hat8 hlt8)
          go_wp2_with fail
          have A7 : Below w6.heap.size w6 (w6.alloc (.cells #[.int .i64 (mid ms k)] 2)) := alloc_below w6 _
          have T7 := HS6.out.2.1.below A7
          have L7 := chain HS6.out.2.2 A7
          have hgr : World.grownBy _ w8 (some g) := hgrow
          go_roundw
          case rel =>
            refine ⟨k + 1, gg, cc, by omega, by go_num, by rw [HNX.out]; simp, ?_, ?_, ?_, ?_⟩
            · rw [HNX.out]; exact IRow.of hown (by simp) (by simp)
            · rcases hat8 with h | h
              · simp [Value.ownBlock] at h; omega
              · omega
            · exact (hgr.block _ T7.lt (by simp; omega)).trans T7
            · exact L7.grown hgr L7.size (by intro q hq; cases hq; omega)
          case measure => simp [intOf]; omega
        · have hbb : decide (X = cell) = false := by simp [htt]
          rw [hbb] at HSAME
          have HTX := hidP htt
          clear hbb htt
          go_wp2_with fail
          go_region_held3 (fun w' => w'.cell? ⟨b, off + k * 2, none⟩ = some (.int .i64 (mid ms k)) ∧ w'.cell? ⟨b, off + k * 2 + 1, none⟩ = some (.slice ae (mat ms k).length ce) ∧ w'.cell? ⟨w.heap.size, 0, none⟩ = some (.int .i64 s) ∧ w'.cell? ⟨w.heap.size, 1, none⟩ = some (.slice (some ⟨b, off, none⟩) ms.length cap))
            (first
              | go_keep
              | (refine ⟨(L4.cell (p := ⟨b, off + k * 2, none⟩) hb).trans d0, (L4.cell (p := ⟨b, off + k * 2 + 1, none⟩) hb).trans d1, (L4.cell (p := ⟨w.heap.size, 0, none⟩) hbz).trans t0, (L4.cell (p := ⟨w.heap.size, 1, none⟩) hbz).trans t1⟩))
            (first
              | (go_at_call 36; refine HC.out.mono ?_; rintro e w4 ⟨g4, c4, rfl, o4, L4⟩)
              | (go_at_call 70; refine (HSAME.out _ g4 c4 o4 L4).mono ?_; rintro e w5 ⟨rfl, n5, rfl⟩))
          obtain ⟨w6, hw6⟩ : ∃ w6, w6 = w4.drewN n5 := ⟨_, rfl⟩
          rw [← hw6]
          have L6 : Below wr.heap.size wr w6 := by rw [hw6]; exact Below.trans ((Below.refl wr.heap.size wr).drew) (below_drewN L4 n5)
          have HS6 := hidP (And.intro (HROW.out.below L6) (And.intro (HTT.out.below L6) (chain HL.out L6)))
          have HNX : Hid (idsL s cell (ms.take (k + 1)) = idsL s cell (ms.take k)) := by
            show idsL s cell (ms.take (k + 1)) = _
            rw [HTK.out, HSN.out, if_neg (by rw [← HXX.out]; exact HTX.out)]
          clear L4 hw6 o4 d0 d1 t0 t1 HC HSAME HSN HTK L6
          simp only [Exit.then]
          go_wp2_with fail
          go_roundw
          case rel => exact ⟨k + 1, g, c, by omega, by go_num, by rw [HNX.out], by rw [HNX.out]; exact HS6.out.1, hgg, HS6.out.2.1, HS6.out.2.2⟩
          case measure => simp [intOf]; omega
      · obtain rfl : k = ms.length := by omega
        rw [List.take_length] at *
        go_wp2_with fail
        go_ret
        exact ⟨g, c, rfl, hrow, L⟩

end Go.Proofs.YtodielfilhodeaaGreat
