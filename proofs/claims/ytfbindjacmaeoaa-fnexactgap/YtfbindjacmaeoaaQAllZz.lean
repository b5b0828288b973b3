/-
  The program's own allThreads: the threads of any two marks.
-/
import Derived.Test.YtfbindjacmaeoaaQHm0Zz
import Derived.Test.YtfbindjacmaeoaaBetZz
import Derived.Test.YtfbindjacmaeoaaECellsZz
namespace Go.Proofs.Ytfbindjacmaeoaa
open Go Go.RowKit

theorem TRow.off {base : Nat} {w : World} {g c q : Nat} {ts : List Th} {X : Array Value} {t : TypeId} {f : Nat × Nat} (h : TRow base w g c ts) (hq : w.heap[q]? = some (.cells X t f)) (ht : t ≠ 41) : g ≠ q := by
  obtain ⟨_, ⟨h1, _⟩ | ⟨g', c', cur, h1, _, h2, _⟩⟩ := h
  · cases h1
  · injection h1 with e1
    injection e1 with e1
    injection e1 with e1
    subst e1
    intro e
    subst e
    rw [hq] at h2
    injection h2 with h2
    injection h2 with _ h2
    exact ht h2
theorem two_cells {w : World} {q : Nat} {u v : Value} {t : TypeId} (h : w.heap[q]? = some (.cells #[u, v] t)) : w.cell? ⟨q, 0, none⟩ = some u ∧ w.cell? ⟨q, 1, none⟩ = some v := by
  constructor <;> · simp only [World.cell?, h]; rfl

set_option maxRecDepth 100000 in
set_option maxHeartbeats 4000000 in
theorem iAllT (ao : Option Addr) (cap : Nat) (ms : List Mk) (kd : Int) (w : World) (hv : MView w ao ms) (hsm : MSmall ms) (hn : ms.length ≤ 60) (hcap : ms.length ≤ cap) :
    Calls Try.prog 62 #[.slice ao ms.length cap, .int .i64 kd] w fun e w' => ∃ g c, e = .returned (.slice (some ⟨g, 0, none⟩) (thsL ms kd (pairsTo ms.length ms.length)).length c) ∧ TRow w.heap.size w' g c (thsL ms kd (pairsTo ms.length ms.length)) ∧ Below w.heap.size w w' := by
  obtain ⟨j0, hj0, hy0, hy1, hy2⟩ := info_parts Try.info41
  have HV := hidP hv
  have HAT := hidP hsm.2
  clear hv hsm
  go_enter Try.func62, Try.ntmps62
  go_wp2_with fail
  go_loopw [5, 13] (fun o i wr => ∃ (k m g c : Nat), k ≤ ms.length ∧ i = .int .i64 k ∧ o = .slice (some ⟨g, 0, none⟩) m c ∧ m = (thsL ms kd (pairsTo ms.length k)).length ∧ TRow w.heap.size wr g c (thsL ms kd (pairsTo ms.length k)) ∧ Below w.heap.size w wr) (fun _ i _ => ms.length - (intOf i).toNat)
  case atStart => exact ⟨0, 0, w.heap.size, 0, Nat.zero_le _, rfl, rfl, rfl, TRow.start w _ (Nat.le_refl _), (Below.refl _ _).alloc (Nat.le_refl _) _⟩
  case round =>
    obtain ⟨a, m, g, c, ha, rfl, rfl, hm, hrow, L⟩ := hrel
    by_cases hal : a < ms.length
    · obtain ⟨b, off, rfl, hb, hs⟩ := MSeg.seg HV.out (by omega)
      obtain ⟨p0w, ae, ce, p1w, vae⟩ := hs.at hal
      have HSW := hidP hs
      have p0 := (L.cell (p := ⟨b, off + a * 2, none⟩) hb).trans p0w
      have p1 := (L.cell (p := ⟨b, off + a * 2 + 1, none⟩) hb).trans p1w
      have HPS := hidP (prs_start ms.length a)
      have HPE := hidP (prs_end ms.length a)
      have HVA := hidP vae
      have ha0 : (0 : Int) ≤ (a : Int) := Int.natCast_nonneg _
      have ha1 : (a : Int) < (ms.length : Int) := by omega
      have hwa : IntKind.i64.wrap ((a : Int) + 1) = ((a + 1 : Nat) : Int) := by rw [IntWalk.i64_in _ ⟨by omega, by omega⟩]; omega
      have LB := (Below.refl wr.heap.size wr).alloc (Nat.le_refl _) (.cells #[.int .i64 (mid ms a), .slice ae (mat ms a).length ce] 38)
      obtain ⟨W, hW⟩ : ∃ W, W = wr.alloc (.cells #[.int .i64 (mid ms a), .slice ae (mat ms a).length ce] 38) := ⟨_, rfl⟩
      rw [← hW] at LB
      have HA : Hid (W.heap[wr.heap.size]? = some (.cells #[.int .i64 (mid ms a), .slice ae (mat ms a).length ce] 38)) := by show _ = _; rw [hW]; exact heap_alloc_new wr _
      have HR1 : Hid (m = (thsL ms kd (pairsTo ms.length a)).length ∧ TRow w.heap.size W g c (thsL ms kd (pairsTo ms.length a)) ∧ Below w.heap.size w W) := ⟨hm, hrow.below (Nat.le_refl _) LB, chain L LB⟩
      clear hm hrow L hs vae LB p0w p1w
      by_cases hce : cap = a + 1
      · have HML : Hid (ms.length = a + 1) := by show _ = _; omega
        have hz : ((ms.length - (a + 1) : Nat) : Int) = 0 := by omega
        go_wp2_with fail
        rw [← hW]
        clear hW
        refine wp_loop_rounds 1 ?_
        rw [rounds_succ]
        go_wp2_with fail
        go_roundw
        case rel => exact ⟨a + 1, m, g, c, by omega, by go_num, rfl, by
          have e : pairsTo ms.length (a + 1) = pairsTo ms.length a := by rw [← HPE.out, ← HPS.out, HML.out]
          rw [e]; exact HR1.out⟩
        case measure => simp [intOf]; omega
      · go_wp2_with fail
        rw [← hW]
        clear hW p0 p1
        generalize wr.heap.size = q at *
        go_loopw [5, 9, 23] (fun o _ i wx => ∃ (kk m g c : Nat), kk ≤ ms.length - (a + 1) ∧ i = .int .i64 kk ∧ o = .slice (some ⟨g, 0, none⟩) m c ∧ m = (thsL ms kd (prs ms.length a (a + 1 + kk))).length ∧ TRow w.heap.size wx g c (thsL ms kd (prs ms.length a (a + 1 + kk))) ∧ Below w.heap.size w wx ∧ wx.heap[q]? = some (.cells #[.int .i64 (mid ms a), .slice ae (mat ms a).length ce] 38)) (fun _ _ i _ => ms.length - (intOf i).toNat)
        case atStart => exact ⟨0, m, g, c, Nat.zero_le _, rfl, rfl, by rw [Nat.add_zero, HPS.out]; exact HR1.out.1, by rw [Nat.add_zero, HPS.out]; exact HR1.out.2.1, HR1.out.2.2, HA.out⟩
        case round =>
          clear HR1 HA
          obtain ⟨kk, m', g', c', hkk, rfl, rfl, hm, hrow, L, hA⟩ := hrel
          by_cases hlt : kk < ms.length - (a + 1)
          · have hkl : a + 1 + kk < ms.length := by omega
            obtain ⟨k, hk⟩ : ∃ k, k = a + 1 + kk := ⟨_, rfl⟩
            obtain ⟨q0w, af, cf, q1w, vaf⟩ := HSW.out.at hkl
            have q0 := (L.cell (p := ⟨b, off + (a + 1 + kk) * 2, none⟩) hb).trans q0w
            have q1 := (L.cell (p := ⟨b, off + (a + 1 + kk) * 2 + 1, none⟩) hb).trans q1w
            have hk0 : (0 : Int) ≤ (kk : Int) := Int.natCast_nonneg _
            have hk1 : (kk : Int) < ((ms.length - (a + 1) : Nat) : Int) := by omega
            have hml : m' ≤ 3660 := by rw [hm, thsL_len]; exact prs_len hn (by omega) (by omega)
            have HNX : Hid (thsL ms kd (prs ms.length a (a + 1 + kk + 1)) = thsL ms kd (prs ms.length a (a + 1 + kk)) ++ [thOf ms kd (a, a + 1 + kk)]) := by
              show _ = _
              rw [prs_snoc (by omega), thsL_snoc]
            have eoff : off + (a + 1) * 2 + kk * 2 = off + (a + 1 + kk) * 2 := by omega
            rw [← eoff] at q0 q1
            have HWN : Hid ((kk : Int) + 1 = ((kk + 1 : Nat) : Int)) := by show _ = _; omega
            clear eoff q0w q1w hk k
            have HBT : Hid (∀ W', Below w.heap.size w W' → Calls Try.prog 22 #[.slice ae (mat ms a).length ce, .slice af (mat ms (a + 1 + kk)).length cf, .int .i64 kd] W' fun e w' => e = .returned (.int .i64 (thOf ms kd (a, a + 1 + kk)).2.2) ∧ Below W'.heap.size W' w') := fun W' LW =>
              iBet ae af ce cf (mat ms a) (mat ms (a + 1 + kk)) kd W' (View.below HVA.out (Nat.le_refl _) LW) (View.below vaf (Nat.le_refl _) LW) (HAT.out a) (HAT.out _)
            have e1 : (thOf ms kd (a, a + 1 + kk)).1 = mid ms a := rfl
            have e2 : (thOf ms kd (a, a + 1 + kk)).2.1 = mid ms (a + 1 + kk) := rfl
            have HA2 := hidP hA
            have HD1 : Hid ((thOf ms kd (a, a + 1 + kk)).1 = mid ms a) := e1
            rw [← e1] at HA2
            rw [← e2] at q0
            clear e1 e2 hA vaf
            generalize thOf ms kd (a, a + 1 + kk) = d at *
            generalize thsL ms kd (prs ms.length a (a + 1 + kk)) = es at *
            have HLEN := hidP hm
            have LB2 := (Below.refl wr.heap.size wr).alloc (Nat.le_refl _) (.cells #[.int .i64 d.2.1, .slice af (mat ms (a + 1 + kk)).length cf] 38)
            obtain ⟨W2, hW2⟩ : ∃ W2, W2 = wr.alloc (.cells #[.int .i64 d.2.1, .slice af (mat ms (a + 1 + kk)).length cf] 38) := ⟨_, rfl⟩
            rw [← hW2] at LB2
            have HB2 : Hid (W2.heap[wr.heap.size]? = some (.cells #[.int .i64 d.2.1, .slice af (mat ms (a + 1 + kk)).length cf] 38)) := by show _ = _; rw [hW2]; exact heap_alloc_new wr _
            have HROW := hidP (hrow.below (Nat.le_refl _) LB2)
            have HL := hidP (chain L LB2)
            have hqw := block_ltT HA2.out
            have HA3 : Hid (W2.heap[q]? = some (.cells #[.int .i64 d.1, .slice ae (mat ms a).length ce] 38)) := (LB2.block q hqw).trans HA2.out
            have hq2 := block_ltT HB2.out
            have hq3 := block_ltT HA3.out
            have HOFF : Hid (g' ≠ q ∧ g' ≠ wr.heap.size) := ⟨HROW.out.off HA3.out (by decide), HROW.out.off HB2.out (by decide)⟩
            have hgl := HROW.out.lt
            have hzw := HL.out.size
            clear hm hrow L LB2 HA2
            go_wp2_with fail
            rw [← hW2]
            clear hW2 q0 q1
            generalize wr.heap.size = q2 at *
            have HKS : Hid (∀ w' : World, w'.heap[q]? = W2.heap[q]? → w'.heap[q2]? = W2.heap[q2]? → w'.cell? ⟨q, 0, none⟩ = some (.int .i64 d.1) ∧ w'.cell? ⟨q, 1, none⟩ = some (.slice ae (mat ms a).length ce) ∧ w'.cell? ⟨q2, 0, none⟩ = some (.int .i64 d.2.1) ∧ w'.cell? ⟨q2, 1, none⟩ = some (.slice af (mat ms (a + 1 + kk)).length cf)) := fun w' h1 h2 => by
              obtain ⟨x0, x1⟩ := two_cells (h1.trans HA3.out)
              obtain ⟨y0, y1⟩ := two_cells (h2.trans HB2.out)
              exact ⟨x0, x1, y0, y1⟩
            refine wp_region_takes (S := fun w' => w'.cell? ⟨q, 0, none⟩ = some (.int .i64 d.1) ∧ w'.cell? ⟨q, 1, none⟩ = some (.slice ae (mat ms a).length ce) ∧ w'.cell? ⟨q2, 0, none⟩ = some (.int .i64 d.2.1) ∧ w'.cell? ⟨q2, 1, none⟩ = some (.slice af (mat ms (a + 1 + kk)).length cf)) (fuel := 5)
              [0, 1, 2, 3, 4, 5, 6, 7, 8, 9] (by kernel_rfl) (by kernel_rfl) (by kernel_rfl) (by kernel_rfl) (HKS.out _ rfl rfl) (fun _ => ?_)
            iterate 10
              refine ⟨_, rfl, ?_⟩
              apply Exists.intro
              refine ⟨Or.inl ⟨by rfl, fun w' hw' => ?_⟩, ?_⟩
              · first
                | (go_simp; done)
                | (go_simp; with_reducible rfl)
              simp only [Act.put, List.getElem_toArray, List.getElem_cons_succ, List.getElem_cons_zero, List.setIfInBounds_toArray, List.set_cons_zero, List.set_cons_succ]
            refine calm_one 10 (by kernel_rfl) rfl (fun K hK => ?_)
            go_simp
            refine (HBT.out _ HL.out.drew).mono ?_
            rintro e w3 ⟨rfl, L3⟩
            have M3 : Below W2.heap.size W2 w3 := ⟨L3.os, L3.tape, L3.output, L3.size, L3.block⟩
            have hS3 := HKS.out w3 (M3.block q hq3) (M3.block q2 hq2)
            refine hK.out _ _ hS3 (fun _ => ?_)
            clear hK K
            refine calm_one 11 (by kernel_rfl) rfl (fun K hK => ?_)
            go_simp
            refine hK.out _ _ hS3 (fun _ => ?_)
            clear hK K
            have LZ3 := M3.size
            have HROW3 : Hid (w3.ownsRow w.heap.size 41 3 (.slice (some ⟨g', 0, none⟩) m' c') m' (tCells es)) := by
              have h := HROW.out.below (Nat.le_refl _) M3
              unfold TRow at h
              rw [← HLEN.out] at h
              exact h
            have LA := (Below.refl w3.heap.size w3).alloc (Nat.le_refl _) (.cells #[.int .i64 d.1, .int .i64 d.2.1, .int .i64 d.2.2] 41)
            refine calm_one 12 (by kernel_rfl) rfl (fun K hK => ?_)
            go_simp
            refine hK.out _ _ (HKS.out _ ((LA.block q (by omega)).trans (M3.block q hq3)) ((LA.block q2 (by omega)).trans (M3.block q2 hq2))) (fun _ => ?_)
            clear hK K
            refine calm_one 13 (by kernel_rfl) rfl (fun K hK => ?_)
            refine step_append_at _ (by rfl) (.tmp 27) (.tmp 39) 27 (by rfl) w.heap.size 41 j0 _ 3 24 Try.underlying27 hj0 hy0 hy1 hy2 rfl (by omega) g' m' c' (tCells es) (by rfl) (World.ownsRow.alloc HROW3.out _) (some ⟨w3.heap.size, 0, none⟩) 1 1 (tCells [d]) (by rfl) (one_srcT (heap_alloc_new w3 _)) (by unfold maxLen; omega) (by omega) (by simp; omega) (w3.heap.size + 1) (by simp) ?_
            intro gg cc w8 hown hgrow hat8 hlt8
            have hown' : w8.ownsRow w.heap.size 41 3 (.slice (some ⟨gg, 0, none⟩) (es.length + 1) cc) (es.length + 1) (tCells es ++ tCells [d]) := by rw [← HLEN.out]; exact hown
            have HR8 := hidP (TRow.snoc hown')
            have HM8 : Hid (m' + 1 = (es ++ [d]).length) := by show _ = _; rw [List.length_append, ← HLEN.out]; rfl
            have hblk : ∀ i, i < W2.heap.size → i ≠ g' → w8.heap[i]? = W2.heap[i]? := fun i hi hne => ((hgrow.block i (by simp; omega) (fun e => by injection e with e; exact hne e)).trans (LA.block i (by omega))).trans (M3.block i hi)
            have H8q : Hid (w8.heap[q]? = some (.cells #[.int .i64 d.1, .slice ae (mat ms a).length ce] 38)) := (hblk q hq3 (fun e => HOFF.out.1 e.symm)).trans HA3.out
            have HL8 : Hid (Below w.heap.size w w8) := (((HL.out.trans (M3.mono HL.out.size)).trans (LA.mono (by omega)))).grown hgrow (by simp; omega) (by intro k hk; cases hk; exact hgl.1)
            refine hK.out _ _ (HKS.out _ (hblk q hq3 (fun e => HOFF.out.1 e.symm)) (hblk q2 hq2 (fun e => HOFF.out.2 e.symm))) (fun hS8 => ?_)
            clear hK K hown hgrow hat8 hlt8 hown' hS3 LA M3 L3 HROW3 hblk
            refine calm_rest [14] rfl (by kernel_rfl) (by kernel_rfl) (by kernel_rfl) hS8 ?_
            refine ⟨_, rfl, ?_⟩
            apply Exists.intro
            refine ⟨Or.inl ⟨by rfl, fun w' hw' => ?_⟩, ?_⟩
            · first
              | (go_simp; done)
              | (go_simp; with_reducible rfl)
            simp only [Act.put, List.getElem_toArray, List.getElem_cons_succ, List.getElem_cons_zero, List.setIfInBounds_toArray, List.set_cons_zero, List.set_cons_succ]
            refine NoPanic.normal (NoPanic.normal ?_)
            go_wp2_with fail
            go_roundw
            case rel => exact ⟨kk + 1, m' + 1, gg, cc, by omega, by go_num, rfl, by rw [show a + 1 + (kk + 1) = a + 1 + kk + 1 by omega, HNX.out]; exact HM8.out, by rw [show a + 1 + (kk + 1) = a + 1 + kk + 1 by omega, HNX.out]; exact HR8.out, HL8.out, by rw [← HD1.out]; exact H8q.out⟩
            case measure => simp [intOf]; omega
          · have HEND : Hid (m' = (thsL ms kd (pairsTo ms.length (a + 1))).length ∧ TRow w.heap.size wr g' c' (thsL ms kd (pairsTo ms.length (a + 1))) ∧ Below w.heap.size w wr) := by
              have e : a + 1 + kk = ms.length := by omega
              rw [e, HPE.out] at hm hrow
              exact ⟨hm, hrow, L⟩
            clear hm hrow L hA
            go_wp2_with fail
            go_roundw
            case rel => exact ⟨a + 1, m', g', c', by omega, by go_num, rfl, HEND.out⟩
            case measure => simp [intOf]; omega
    · obtain rfl : a = ms.length := by omega
      have HE := hidP (And.intro hm (And.intro hrow L))
      clear hm hrow L
      go_wp2_with fail
      go_ret
      exact ⟨g, c, by rw [← HE.out.1]; rfl, HE.out.2.1, HE.out.2.2⟩

end Go.Proofs.Ytfbindjacmaeoaa
