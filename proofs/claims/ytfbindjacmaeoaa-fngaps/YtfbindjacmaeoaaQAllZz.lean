/-
  The program's own allThreads: the threads of any two marks.
  The program's own heapedThreads and nextTie: the first thread of the heap that ties two parts.
-/
import Derived.Test.YtfbindjacmaeoaaQHm0Zz
import Derived.Test.YtfbindjacmaeoaaBetZz
import Derived.Test.YtfbindjacmaeoaaECellsZz
import Derived.Test.YtfbindjacmaeoaaQTieZz
namespace Go.Proofs.Ytfbindjacmaeoaa
open Go Go.RowKit

theorem TRow.off {base : Nat} {w : World} {g c q : Nat} {ts : List Th} {X : Array Value} {t : TypeId} {f : Nat × Nat} (h : TRow base w g c ts) (hq : w.heap[q]? = some (.cells X t f)) (ht : t ≠ 41) : g ≠ q := by
  obtain ⟨_, ⟨h1, _⟩ | ⟨g', c', cur, h1, _, h2, _⟩⟩ := h
  · cases h1
  · injection h1 with e1
    injection e1 with e1
    injection e1 with e1
    subst e1
    intro e
    subst e
    rw [hq] at h2
    injection h2 with h2
    injection h2 with _ h2
    exact ht h2
theorem two_cells {w : World} {q : Nat} {u v : Value} {t : TypeId} (h : w.heap[q]? = some (.cells #[u, v] t)) : w.cell? ⟨q, 0, none⟩ = some u ∧ w.cell? ⟨q, 1, none⟩ = some v := by
  constructor <;> · simp only [World.cell?, h]; rfl

set_option maxRecDepth 100000 in
set_option maxHeartbeats 4000000 in
theorem iAllT (ao : Option Addr) (cap : Nat) (ms : List Mk) (kd : Int) (w : World) (hv : MView w ao ms) (hsm : MSmall ms) (hn : ms.length ≤ 60) (hcap : ms.length ≤ cap) :
    Calls Try.prog 62 #[.slice ao ms.length cap, .int .i64 kd] w fun e w' => ∃ g c, e = .returned (.slice (some ⟨g, 0, none⟩) (thsL ms kd (pairsTo ms.length ms.length)).length c) ∧ TRow w.heap.size w' g c (thsL ms kd (pairsTo ms.length ms.length)) ∧ Below w.heap.size w w' := by
  obtain ⟨j0, hj0, hy0, hy1, hy2⟩ := info_parts Try.info41
  have HV := hidP hv
  have HAT := hidP hsm.2
  clear hv hsm
  go_enter Try.func62, Try.ntmps62
  go_wp2_with fail
  go_loopw [5, 13] (fun o i wr => ∃ (k m g c : Nat), k ≤ ms.length ∧ i = .int .i64 k ∧ o = .slice (some ⟨g, 0, none⟩) m c ∧ m = (thsL ms kd (pairsTo ms.length k)).length ∧ TRow w.heap.size wr g c (thsL ms kd (pairsTo ms.length k)) ∧ Below w.heap.size w wr) (fun _ i _ => ms.length - (intOf i).toNat)
  case atStart => exact ⟨0, 0, w.heap.size, 0, Nat.zero_le _, rfl, rfl, rfl, TRow.start w _ (Nat.le_refl _), (Below.refl _ _).alloc (Nat.le_refl _) _⟩
  case round =>
    obtain ⟨a, m, g, c, ha, rfl, rfl, hm, hrow, L⟩ := hrel
    by_cases hal : a < ms.length
    · obtain ⟨b, off, rfl, hb, hs⟩ := MSeg.seg HV.out (by omega)
      obtain ⟨p0w, ae, ce, p1w, vae⟩ := hs.at hal
      have HSW := hidP hs
      have p0 := (L.cell (p := ⟨b, off + a * 2, none⟩) hb).trans p0w
      have p1 := (L.cell (p := ⟨b, off + a * 2 + 1, none⟩) hb).trans p1w
      have HPS := hidP (prs_start ms.length a)
      have HPE := hidP (prs_end ms.length a)
      have HVA := hidP vae
      have ha0 : (0 : Int) ≤ (a : Int) := Int.natCast_nonneg _
      have ha1 : (a : Int) < (ms.length : Int) := by omega
      have hwa : IntKind.i64.wrap ((a : Int) + 1) = ((a + 1 : Nat) : Int) := by rw [IntWalk.i64_in _ ⟨by omega, by omega⟩]; omega
      have LB := (Below.refl wr.heap.size wr).alloc (Nat.le_refl _) (.cells #[.int .i64 (mid ms a), .slice ae (mat ms a).length ce] 38)
      obtain ⟨W, hW⟩ : ∃ W, W = wr.alloc (.cells #[.int .i64 (mid ms a), .slice ae (mat ms a).length ce] 38) := ⟨_, rfl⟩
      rw [← hW] at LB
      have HA : Hid (W.heap[wr.heap.size]? = some (.cells #[.int .i64 (mid ms a), .slice ae (mat ms a).length ce] 38)) := by show _ = _; rw [hW]; exact heap_alloc_new wr _
      have HR1 : Hid (m = (thsL ms kd (pairsTo ms.length a)).length ∧ TRow w.heap.size W g c (thsL ms kd (pairsTo ms.length a)) ∧ Below w.heap.size w W) := ⟨hm, hrow.below (Nat.le_refl _) LB, chain L LB⟩
      clear hm hrow L hs vae LB p0w p1w
      by_cases hce : cap = a + 1
      · have HML : Hid (ms.length = a + 1) := by show _ = _; omega
        have hz : ((ms.length - (a + 1) : Nat) : Int) = 0 := by omega
        go_wp2_with fail
        rw [← hW]
        clear hW
        refine wp_loop_rounds 1 ?_
        rw [rounds_succ]
        go_wp2_with fail
        go_roundw
        case rel => exact ⟨a + 1, m, g, c, by omega, by go_num, rfl, by
          have e : pairsTo ms.length (a + 1) = pairsTo ms.length a := by rw [← HPE.out, ← HPS.out, HML.out]
          rw [e]; exact HR1.out⟩
        case measure => simp [intOf]; omega
      · go_wp2_with fail
        rw [← hW]
        clear hW p0 p1
        generalize wr.heap.size = q at *
        go_loopw [5, 9, 23] (fun o _ i wx => ∃ (kk m g c : Nat), kk ≤ ms.length - (a + 1) ∧ i = .int .i64 kk ∧ o = .slice (some ⟨g, 0, none⟩) m c ∧ m = (thsL ms kd (prs ms.length a (a + 1 + kk))).length ∧ TRow w.heap.size wx g c (thsL ms kd (prs ms.length a (a + 1 + kk))) ∧ Below w.heap.size w wx ∧ wx.heap[q]? = some (.cells #[.int .i64 (mid ms a), .slice ae (mat ms a).length ce] 38)) (fun _ _ i _ => ms.length - (intOf i).toNat)
        case atStart => exact ⟨0, m, g, c, Nat.zero_le _, rfl, rfl, by rw [Nat.add_zero, HPS.out]; exact HR1.out.1, by rw [Nat.add_zero, HPS.out]; exact HR1.out.2.1, HR1.out.2.2, HA.out⟩
        case round =>
          clear HR1 HA
          obtain ⟨kk, m', g', c', hkk, rfl, rfl, hm, hrow, L, hA⟩ := hrel
          by_cases hlt : kk < ms.length - (a + 1)
          · have hkl : a + 1 + kk < ms.length := by omega
            obtain ⟨k, hk⟩ : ∃ k, k = a + 1 + kk := ⟨_, rfl⟩
            obtain ⟨q0w, af, cf, q1w, vaf⟩ := HSW.out.at hkl
            have q0 := (L.cell (p := ⟨b, off + (a + 1 + kk) * 2, none⟩) hb).trans q0w
            have q1 := (L.cell (p := ⟨b, off + (a + 1 + kk) * 2 + 1, none⟩) hb).trans q1w
            have hk0 : (0 : Int) ≤ (kk : Int) := Int.natCast_nonneg _
            have hk1 : (kk : Int) < ((ms.length - (a + 1) : Nat) : Int) := by omega
            have hml : m' ≤ 3660 := by rw [hm, thsL_len]; exact prs_len hn (by omega) (by omega)
            have HNX : Hid (thsL ms kd (prs ms.length a (a + 1 + kk + 1)) = thsL ms kd (prs ms.length a (a + 1 + kk)) ++ [thOf ms kd (a, a + 1 + kk)]) := by
              show _ = _
              rw [prs_snoc (by omega), thsL_snoc]
            have eoff : off + (a + 1) * 2 + kk * 2 = off + (a + 1 + kk) * 2 := by omega
            rw [← eoff] at q0 q1
            have HWN : Hid ((kk : Int) + 1 = ((kk + 1 : Nat) : Int)) := by show _ = _; omega
            clear eoff q0w q1w hk k
            have HBT : Hid (∀ W', Below w.heap.size w W' → Calls Try.prog 22 #[.slice ae (mat ms a).length ce, .slice af (mat ms (a + 1 + kk)).length cf, .int .i64 kd] W' fun e w' => e = .returned (.int .i64 (thOf ms kd (a, a + 1 + kk)).2.2) ∧ Below W'.heap.size W' w') := fun W' LW =>
              iBet ae af ce cf (mat ms a) (mat ms (a + 1 + kk)) kd W' (View.below HVA.out (Nat.le_refl _) LW) (View.below vaf (Nat.le_refl _) LW) (HAT.out a) (HAT.out _)
            have e1 : (thOf ms kd (a, a + 1 + kk)).1 = mid ms a := rfl
            have e2 : (thOf ms kd (a, a + 1 + kk)).2.1 = mid ms (a + 1 + kk) := rfl
            have HA2 := hidP hA
            have HD1 : Hid ((thOf ms kd (a, a + 1 + kk)).1 = mid ms a) := e1
            rw [← e1] at HA2
            rw [← e2] at q0
            clear e1 e2 hA vaf
            generalize thOf ms kd (a, a + 1 + kk) = d at *
            generalize thsL ms kd (prs ms.length a (a + 1 + kk)) = es at *
            have HLEN := hidP hm
            have LB2 := (Below.refl wr.heap.size wr).alloc (Nat.le_refl _) (.cells #[.int .i64 d.2.1, .slice af (mat ms (a + 1 + kk)).length cf] 38)
            obtain ⟨W2, hW2⟩ : ∃ W2, W2 = wr.alloc (.cells #[.int .i64 d.2.1, .slice af (mat ms (a + 1 + kk)).length cf] 38) := ⟨_, rfl⟩
            rw [← hW2] at LB2
            have HB2 : Hid (W2.heap[wr.heap.size]? = some (.cells #[.int .i64 d.2.1, .slice af (mat ms (a + 1 + kk)).length cf] 38)) := by show _ = _; rw [hW2]; exact heap_alloc_new wr _
            have HROW := hidP (hrow.below (Nat.le_refl _) LB2)
            have HL := hidP (chain L LB2)
            have hqw := block_ltT HA2.out
            have HA3 : Hid (W2.heap[q]? = some (.cells #[.int .i64 d.1, .slice ae (mat ms a).length ce] 38)) := (LB2.block q hqw).trans HA2.out
            have hq2 := block_ltT HB2.out
            have hq3 := block_ltT HA3.out
            have HOFF : Hid (g' ≠ q ∧ g' ≠ wr.heap.size) := ⟨HROW.out.off HA3.out (by decide), HROW.out.off HB2.out (by decide)⟩
            have hgl := HROW.out.lt
            have hzw := HL.out.size
            clear hm hrow L LB2 HA2
            go_wp2_with fail
            rw [← hW2]
            clear hW2 q0 q1
            generalize wr.heap.size = q2 at *
            have HKS : Hid (∀ w' : World, w'.heap[q]? = W2.heap[q]? → w'.heap[q2]? = W2.heap[q2]? → w'.cell? ⟨q, 0, none⟩ = some (.int .i64 d.1) ∧ w'.cell? ⟨q, 1, none⟩ = some (.slice ae (mat ms a).length ce) ∧ w'.cell? ⟨q2, 0, none⟩ = some (.int .i64 d.2.1) ∧ w'.cell? ⟨q2, 1, none⟩ = some (.slice af (mat ms (a + 1 + kk)).length cf)) := fun w' h1 h2 => by
              obtain ⟨x0, x1⟩ := two_cells (h1.trans HA3.out)
              obtain ⟨y0, y1⟩ := two_cells (h2.trans HB2.out)
              exact ⟨x0, x1, y0, y1⟩
            refine wp_region_takes (S := fun w' => w'.cell? ⟨q, 0, none⟩ = some (.int .i64 d.1) ∧ w'.cell? ⟨q, 1, none⟩ = some (.slice ae (mat ms a).length ce) ∧ w'.cell? ⟨q2, 0, none⟩ = some (.int .i64 d.2.1) ∧ w'.cell? ⟨q2, 1, none⟩ = some (.slice af (mat ms (a + 1 + kk)).length cf)) (fuel := 5)
              [0, 1, 2, 3, 4, 5, 6, 7, 8, 9] (by kernel_rfl) (by kernel_rfl) (by kernel_rfl) (by kernel_rfl) (HKS.out _ rfl rfl) (fun _ => ?_)
            iterate 10
              refine ⟨_, rfl, ?_⟩
              apply Exists.intro
              refine ⟨Or.inl ⟨by rfl, fun w' hw' => ?_⟩, ?_⟩
              · first
                | (go_simp; done)
                | (go_simp; with_reducible rfl)
              simp only [Act.put, List.getElem_toArray, List.getElem_cons_succ, List.getElem_cons_zero, List.setIfInBounds_toArray, List.set_cons_zero, List.set_cons_succ]
            refine calm_one 10 (by kernel_rfl) rfl (fun K hK => ?_)
            go_simp
            refine (HBT.out _ HL.out.drew).mono ?_
            rintro e w3 ⟨rfl, L3⟩
            have M3 : Below W2.heap.size W2 w3 := ⟨L3.os, L3.tape, L3.output, L3.size, L3.block⟩
            have hS3 := HKS.out w3 (M3.block q hq3) (M3.block q2 hq2)
            refine hK.out _ _ hS3 (fun _ => ?_)
            clear hK K
            refine calm_one 11 (by kernel_rfl) rfl (fun K hK => ?_)
            go_simp
            refine hK.out _ _ hS3 (fun _ => ?_)
            clear hK K
            have LZ3 := M3.size
            have HROW3 : Hid (w3.ownsRow w.heap.size 41 3 (.slice (some ⟨g', 0, none⟩) m' c') m' (tCells es)) := by
              have h := HROW.out.below (Nat.le_refl _) M3
              unfold TRow at h
              rw [← HLEN.out] at h
              exact h
            have LA := (Below.refl w3.heap.size w3).alloc (Nat.le_refl _) (.cells #[.int .i64 d.1, .int .i64 d.2.1, .int .i64 d.2.2] 41)
            refine calm_one 12 (by kernel_rfl) rfl (fun K hK => ?_)
            go_simp
            refine hK.out _ _ (HKS.out _ ((LA.block q (by omega)).trans (M3.block q hq3)) ((LA.block q2 (by omega)).trans (M3.block q2 hq2))) (fun _ => ?_)
            clear hK K
            refine calm_one 13 (by kernel_rfl) rfl (fun K hK => ?_)
            refine step_append_at _ (by rfl) (.tmp 27) (.tmp 39) 27 (by rfl) w.heap.size 41 j0 _ 3 24 Try.underlying27 hj0 hy0 hy1 hy2 rfl (by omega) g' m' c' (tCells es) (by rfl) (World.ownsRow.alloc HROW3.out _) (some ⟨w3.heap.size, 0, none⟩) 1 1 (tCells [d]) (by rfl) (one_srcT (heap_alloc_new w3 _)) (by unfold maxLen; omega) (by omega) (by simp; omega) (w3.heap.size + 1) (by simp) ?_
            intro gg cc w8 hown hgrow hat8 hlt8
            have hown' : w8.ownsRow w.heap.size 41 3 (.slice (some ⟨gg, 0, none⟩) (es.length + 1) cc) (es.length + 1) (tCells es ++ tCells [d]) := by rw [← HLEN.out]; exact hown
            have HR8 := hidP (TRow.snoc hown')
            have HM8 : Hid (m' + 1 = (es ++ [d]).length) := by show _ = _; rw [List.length_append, ← HLEN.out]; rfl
            have hblk : ∀ i, i < W2.heap.size → i ≠ g' → w8.heap[i]? = W2.heap[i]? := fun i hi hne => ((hgrow.block i (by simp; omega) (fun e => by injection e with e; exact hne e)).trans (LA.block i (by omega))).trans (M3.block i hi)
            have H8q : Hid (w8.heap[q]? = some (.cells #[.int .i64 d.1, .slice ae (mat ms a).length ce] 38)) := (hblk q hq3 (fun e => HOFF.out.1 e.symm)).trans HA3.out
            have HL8 : Hid (Below w.heap.size w w8) := (((HL.out.trans (M3.mono HL.out.size)).trans (LA.mono (by omega)))).grown hgrow (by simp; omega) (by intro k hk; cases hk; exact hgl.1)
            refine hK.out _ _ (HKS.out _ (hblk q hq3 (fun e => HOFF.out.1 e.symm)) (hblk q2 hq2 (fun e => HOFF.out.2 e.symm))) (fun hS8 => ?_)
            clear hK K hown hgrow hat8 hlt8 hown' hS3 LA M3 L3 HROW3 hblk
            refine calm_rest [14] rfl (by kernel_rfl) (by kernel_rfl) (by kernel_rfl) hS8 ?_
            refine ⟨_, rfl, ?_⟩
            apply Exists.intro
            refine ⟨Or.inl ⟨by rfl, fun w' hw' => ?_⟩, ?_⟩
            · first
              | (go_simp; done)
              | (go_simp; with_reducible rfl)
            simp only [Act.put, List.getElem_toArray, List.getElem_cons_succ, List.getElem_cons_zero, List.setIfInBounds_toArray, List.set_cons_zero, List.set_cons_succ]
            refine NoPanic.normal (NoPanic.normal ?_)
            go_wp2_with fail
            go_roundw
            case rel => exact ⟨kk + 1, m' + 1, gg, cc, by omega, by go_num, rfl, by rw [show a + 1 + (kk + 1) = a + 1 + kk + 1 by omega, HNX.out]; exact HM8.out, by rw [show a + 1 + (kk + 1) = a + 1 + kk + 1 by omega, HNX.out]; exact HR8.out, HL8.out, by rw [← HD1.out]; exact H8q.out⟩
            case measure => simp [intOf]; omega
          · have HEND : Hid (m' = (thsL ms kd (pairsTo ms.length (a + 1))).length ∧ TRow w.heap.size wr g' c' (thsL ms kd (pairsTo ms.length (a + 1))) ∧ Below w.heap.size w wr) := by
              have e : a + 1 + kk = ms.length := by omega
              rw [e, HPE.out] at hm hrow
              exact ⟨hm, hrow, L⟩
            clear hm hrow L hA
            go_wp2_with fail
            go_roundw
            case rel => exact ⟨a + 1, m', g', c', by omega, by go_num, rfl, HEND.out⟩
            case measure => simp [intOf]; omega
    · obtain rfl : a = ms.length := by omega
      have HE := hidP (And.intro hm (And.intro hrow L))
      clear hm hrow L
      go_wp2_with fail
      go_ret
      exact ⟨g, c, by rw [← HE.out.1]; rfl, HE.out.2.1, HE.out.2.2⟩

end Go.Proofs.Ytfbindjacmaeoaa
namespace Go.Proofs.Ytfbindjacmaeoaa
open Go Go.RowKit Go.Maps

theorem TRow.same {base : Nat} {w w' : World} {g c : Nat} {ts : List Th} (h : TRow base w g c ts) (e : w'.heap[g]? = w.heap[g]?) : TRow base w' g c ts := by
  obtain ⟨k1, ⟨k2, _⟩ | ⟨g', c', cur, e1, h3, h4, h5⟩⟩ := h
  · cases k2
  · injection e1 with e2 e3 e4
    injection e2 with e2
    injection e2 with e2
    subst e2
    exact ⟨k1, Or.inr ⟨g, c', cur, by rw [e4], h3, e.trans h4, h5⟩⟩
theorem HAtT.same {base : Nat} {w w' : World} {p g c : Nat} {l : List Th} (h : HAtT base w p g c l) (e1 : w'.heap[p]? = w.heap[p]?) (e2 : w'.heap[g]? = w.heap[g]?) : HAtT base w' p g c l := ⟨h.1, e1.trans h.2.1, h.2.2.same e2⟩
theorem TMap.same {w w' : World} {B : Nat} {ms : List Mk} {k : Nat} {q : Nat → Nat} (h : TMap w B ms k q) (e : w'.heap[B]? = w.heap[B]?) : TMap w' B ms k q := by
  obtain ⟨D, ⟨es, clock, hb, F⟩, h2⟩ := h
  exact ⟨D, ⟨es, clock, e.trans hb, F⟩, h2⟩
theorem Ties.same {w w' : World} {B : Nat} {ms : List Mk} {p : Nat → Nat} (h : Ties w B ms p) (e : w'.heap[B]? = w.heap[B]?) : Ties w' B ms p := by
  obtain ⟨q, h1, h2⟩ := h
  exact ⟨q, h1, h2.same e⟩
theorem Ties.obj {w : World} {B : Nat} {ms : List Mk} {p : Nat → Nat} (h : Ties w B ms p) : ∃ es clock, w.heap[B]? = some (.map es clock) := by
  obtain ⟨q, _, D, ⟨es, clock, hb, _⟩, _⟩ := h
  exact ⟨es, clock, hb⟩
theorem TRow.obj {base : Nat} {w : World} {g c : Nat} {ts : List Th} (h : TRow base w g c ts) : ∃ cur, w.heap[g]? = some (.cells cur 41 (0, 0)) := by
  obtain ⟨_, ⟨h1, _⟩ | ⟨g', c', cur, h1, _, h2, _⟩⟩ := h
  · cases h1
  · injection h1 with e1
    injection e1 with e1
    injection e1 with e1
    subst e1
    exact ⟨cur, h2⟩
theorem Ties.off_row {base : Nat} {w : World} {B g c : Nat} {ms : List Mk} {p : Nat → Nat} {ts : List Th} (h : Ties w B ms p) (hr : TRow base w g c ts) : B ≠ g := by
  obtain ⟨es, clock, h1⟩ := h.obj
  obtain ⟨cur, h2⟩ := hr.obj
  intro e
  subst e
  rw [h1] at h2
  cases h2
theorem Ties.off_ptr {base : Nat} {w : World} {B q g c : Nat} {ms : List Mk} {p : Nat → Nat} {l : List Th} (h : Ties w B ms p) (hr : HAtT base w q g c l) : B ≠ q := by
  obtain ⟨es, clock, h1⟩ := h.obj
  intro e
  subst e
  rw [hr.2.1] at h1
  cases h1
/-- Of the blocks that were there, at most these three have changed. -/
def Chg3 (p g B : Nat) (w w' : World) : Prop := w'.os = w.os ∧ w'.tape = w.tape ∧ w'.output = w.output ∧ w.heap.size ≤ w'.heap.size ∧ ∀ i, i < w.heap.size → i ≠ p → i ≠ g → i ≠ B → w'.heap[i]? = w.heap[i]?
theorem Chg3.refl (p g B : Nat) (w : World) : Chg3 p g B w w := ⟨rfl, rfl, rfl, Nat.le_refl _, fun _ _ _ _ _ => rfl⟩
theorem Chg3.trans {p g B : Nat} {w w1 w2 : World} (h : Chg3 p g B w w1) (k : Chg3 p g B w1 w2) : Chg3 p g B w w2 :=
  ⟨k.1.trans h.1, k.2.1.trans h.2.1, k.2.2.1.trans h.2.2.1, Nat.le_trans h.2.2.2.1 k.2.2.2.1, fun i hi h1 h2 h3 => (k.2.2.2.2 i (Nat.lt_of_lt_of_le hi h.2.2.2.1) h1 h2 h3).trans (h.2.2.2.2 i hi h1 h2 h3)⟩
theorem Chg3.two {p g B : Nat} {w w' : World} (h : ChgT p g w w') : Chg3 p g B w w' := ⟨h.1, h.2.1, h.2.2.1, h.2.2.2.1, fun i hi h1 h2 _ => h.2.2.2.2 i hi h1 h2⟩
theorem Chg3.tie {p g B : Nat} {w w' : World} (h : w.grownBy w' (some B)) : Chg3 p g B w w' := ⟨h.os, h.tape, h.output, h.size, fun i hi _ _ h3 => h.block i hi (fun e => h3 (by injection e))⟩
theorem Chg3.below {p g B : Nat} {w w' : World} (h : Below w.heap.size w w') : Chg3 p g B w w' := ⟨h.os, h.tape, h.output, h.size, fun i hi _ _ _ => h.block i hi⟩
theorem Chg3.far {p g B q : Nat} {w w1 w2 : World} (h : Chg3 p g B w w1) (k : w1.grownBy w2 (some q)) (hq : w.heap.size ≤ q) : Chg3 p g B w w2 :=
  ⟨k.os.trans h.1, k.tape.trans h.2.1, k.output.trans h.2.2.1, Nat.le_trans h.2.2.2.1 k.size, fun i hi h1 h2 h3 => (k.block i (Nat.lt_of_lt_of_le hi h.2.2.2.1) (fun e => by injection e with e; omega)).trans (h.2.2.2.2 i hi h1 h2 h3)⟩
theorem Chg3.base {p g B : Nat} {w0 w w' : World} (h : Chg3 p g B w w') (h0 : Below w0.heap.size w0 w) (h1 : w0.heap.size ≤ p) (h2 : w0.heap.size ≤ g) (h3 : w0.heap.size ≤ B) : Below w0.heap.size w0 w' :=
  ⟨h.1.trans h0.os, h.2.1.trans h0.tape, h.2.2.1.trans h0.output, Nat.le_trans h0.size h.2.2.2.1, fun i hi => (h.2.2.2.2 i (Nat.lt_of_lt_of_le hi h0.size) (by omega) (by omega) (by omega)).trans (h0.block i hi)⟩
def lenAtT (p : Nat) (w : World) : Nat := match w.cell? ⟨p, 0, none⟩ with
  | some (.slice _ n _) => n
  | _ => 0
theorem HAtT.len {base : Nat} {w : World} {p g c : Nat} {l : List Th} (h : HAtT base w p g c l) : lenAtT p w = l.length := by unfold lenAtT; rw [h.cell]

set_option maxRecDepth 100000 in
set_option maxHeartbeats 1000000 in
theorem iHeapT (ao : Option Addr) (cap : Nat) (ms : List Mk) (kd : Int) (w : World) (hv : MView w ao ms) (hsm : MSmall ms) (hm : marksB ms = true) (hcap : ms.length ≤ cap) :
    Calls Try.prog 50 #[.slice ao ms.length cap, .int .i64 kd] w fun e w' => ∃ p g c l, e = .returned (.pointer (some ⟨p, 0, none⟩)) ∧ w.heap.size ≤ p ∧ HAtT w.heap.size w' p g c l ∧ HpOk ms kd (srtE (zD ms kd) ms.length) l ∧ Below w.heap.size w w' := by
  have HC := hidP (iAllT ao cap ms kd w hv hsm (marksB_len hm) hcap)
  have HPR := hidP (pairs_srt ms kd ms.length (zD ms kd))
  have HLN : Hid ((thsL ms kd (pairsTo ms.length ms.length)).length ≤ 1048576) := by
    show _ ≤ _
    have h1 := pairs_len ms.length ms.length
    have h2 := marksB_len hm
    have h3 : ms.length * ms.length ≤ 60 * 60 := Nat.mul_le_mul h2 h2
    rw [thsL_len]
    omega
  clear hv hsm hm hcap
  generalize thsL ms kd (pairsTo ms.length ms.length) = L0 at *
  go_enter Try.func50, Try.ntmps50
  go_wp2_with fail
  refine HC.out.mono ?_
  rintro e w1 ⟨g, c, rfl, hrow, L1⟩
  have hB := (Below.refl w1.heap.size w1).alloc (Nat.le_refl _) (.cells #[.slice (some ⟨g, 0, none⟩) L0.length c] 113)
  have hgl := hrow.lt
  have hA : HAtT w.heap.size (w1.alloc (.cells #[.slice (some ⟨g, 0, none⟩) L0.length c] 113)) w1.heap.size g c L0 := ⟨by omega, heap_alloc_new w1 _, hrow.below (Nat.le_refl _) hB⟩
  have HI := hidP (iInitT w.heap.size w1.heap.size g c L0 _ hA HLN.out)
  have HL := hidP (chain L1 hB)
  have hz := L1.size
  clear HC hrow L1 hB hA
  go_wp2_with fail
  refine HI.out.mono ?_
  rintro e w2 ⟨rfl, l2, h2, hg2, hp2, hh2⟩
  go_wp2_with fail
  go_ret
  exact ⟨w1.heap.size, g, c, l2, rfl, hz, h2, ⟨hp2.trans HPR.out, hh2⟩, HL.out.grown hg2 HL.out.size (by intro k hk; cases hk; exact hgl.1)⟩

/-- The state of the search for the next thread: i of the heap's are behind. -/
structure NxAt (base p g c B : Nat) (ms : List Mk) (kd : Int) (S : List Eg) (pt : Nat → Nat) (w0 : World) (R V i : Nat) (l : List Th) (w : World) : Prop where
  heap : HAtT base w p g c l
  ok : HpOk ms kd (S.drop (i + 1)) l
  ties : Ties w B ms pt
  chg : Chg3 p g B w0 w
  res : w.heap[R]? = some (.cells #[.int .i64 0, .int .i64 0, .int .i64 0] 41)
  cur : w.heap[V]? = some (.cells #[.int .i64 (thOf ms kd (egn S i)).1, .int .i64 (thOf ms kd (egn S i)).2.1, .int .i64 (thOf ms kd (egn S i)).2.2] 41)
theorem three_cells {w : World} {q : Nat} {x y z : Value} {t : TypeId} (h : w.heap[q]? = some (.cells #[x, y, z] t)) : w.cell? ⟨q, 0, none⟩ = some x ∧ w.cell? ⟨q, 1, none⟩ = some y ∧ w.cell? ⟨q, 2, none⟩ = some z := by
  refine ⟨?_, ?_, ?_⟩ <;> · simp only [World.cell?, h]; rfl
theorem three_free {w : World} {q : Nat} {x y z : Value} {t : TypeId} (h : w.heap[q]? = some (.cells #[x, y, z] t)) : w.frozen? ⟨q, 0, none⟩ = false ∧ w.frozen? ⟨q, 1, none⟩ = false ∧ w.frozen? ⟨q, 2, none⟩ = false := by
  refine ⟨?_, ?_, ?_⟩ <;> · simp only [World.frozen?, h]; rfl
theorem three_block {w : World} {q : Nat} {x y z : Value} {t : TypeId} (h : w.heap[q]? = some (.cells #[x, y, z] t)) (u v s : Value) : (((w.setCell ⟨q, 0, none⟩ u).setCell ⟨q, 1, none⟩ v).setCell ⟨q, 2, none⟩ s).heap[q]? = some (.cells #[u, v, s] t) := by
  unfold World.setCell
  simp only [Array.getElem?_modify, if_true, h]
  rfl

set_option maxRecDepth 100000 in
set_option maxHeartbeats 4000000 in
theorem iNextTie (base p g c B : Nat) (l : List Th) (S : List Eg) (m : Nat) (ms : List Mk) (kd : Int) (pt : Nat → Nat) (w : World) (hm : marksB ms = true) (hk : kindB kd = true) (hA : HAtT base w p g c l) (hok : HpOk ms kd S l) (hS : Ord12 (zD ms kd) S) (hr : ∀ e ∈ S, e.1 < ms.length ∧ e.2 < ms.length)
    (hT : Ties w B ms pt) (hml : m < S.length) (hb : ∀ j, j < m → pt (egn S j).1 = pt (egn S j).2) (hu : pt (egn S m).1 ≠ pt (egn S m).2) (hl : S.length ≤ 1048575) :
    Calls Try.prog 52 #[.pointer (some ⟨p, 0, none⟩), .map (some B)] w fun e w' => e = .returned (.agg #[.int .i64 (thOf ms kd (egn S m)).1, .int .i64 (thOf ms kd (egn S m)).2.1, .int .i64 (thOf ms kd (egn S m)).2.2]) ∧ ∃ l', HAtT base w' p g c l' ∧ HpOk ms kd (S.drop (m + 1)) l' ∧ Ties w' B ms (relab pt (egn S m).1 (egn S m).2) ∧ Chg3 p g B w w' := by
  have hB0 := (Below.refl w.heap.size w).alloc (Nat.le_refl _) (.cells #[.int .i64 0, .int .i64 0, .int .i64 0] 41)
  have hgl := hA.2.2.lt.2
  have hpl := hA.lt
  have hBl := hT.lt
  have hBg := hT.off_row hA.2.2
  have hBp := hT.off_ptr hA
  have hll := hok.len
  have HF := hidP (hok.first hm hk hS hr (by omega))
  have HNX := hidP (iNextT base p g c (l.length - 1) l _ (hA.below hB0) (by omega) (by omega) hok.heap)
  have HT0 := hidP (hT.below hB0)
  have HX : Hid ((w.alloc (.cells #[.int .i64 0, .int .i64 0, .int .i64 0] 41)).heap[w.heap.size]? = some (.cells #[.int .i64 0, .int .i64 0, .int .i64 0] 41)) := heap_alloc_new w _
  have HB0 := hidP hB0
  have HOK := hidP hok
  have HM := hidP (And.intro hm (And.intro hk (And.intro hS hr)))
  have HB := hidP hb
  have HU := hidP hu
  rw [HF.out] at HNX
  clear hm hk hA hok hS hr hT hb hu hB0 hll
  go_enter Try.func52, Try.ntmps52
  go_wp2_with fail
  refine HNX.out.mono ?_
  rintro e w1 ⟨rfl, l1, h1, hc1, hp1, hh1⟩
  have LV := (Below.refl w1.heap.size w1).alloc (Nat.le_refl _) (.cells #[.int .i64 (thOf ms kd (egn S 0)).1, .int .i64 (thOf ms kd (egn S 0)).2.1, .int .i64 (thOf ms kd (egn S 0)).2.2] 41)
  have hz1 : w.heap.size < w1.heap.size := by have := hc1.2.2.2.1; simp at this; omega
  have HI0 : Hid (NxAt base p g c B ms kd S pt w w.heap.size w1.heap.size 0 l1 (w1.alloc (.cells #[.int .i64 (thOf ms kd (egn S 0)).1, .int .i64 (thOf ms kd (egn S 0)).2.1, .int .i64 (thOf ms kd (egn S 0)).2.2] 41))) := by
    have hblk : ∀ i, i < w.heap.size + 1 → i ≠ p → i ≠ g → w1.heap[i]? = (w.alloc (.cells #[.int .i64 0, .int .i64 0, .int .i64 0] 41)).heap[i]? := fun i hi a b => hc1.2.2.2.2 i (by simp; omega) a b
    refine ⟨h1.below LV, HOK.out.next (by omega) HF.out (by rw [HF.out]; exact hp1) hh1, ?_, ?_, ?_, heap_alloc_new w1 _⟩
    · exact (HT0.out.same (hblk B (by omega) hBp hBg)).below LV
    · exact ((Chg3.below HB0.out).trans (Chg3.two hc1)).trans (Chg3.below LV)
    · exact (LV.block _ hz1).trans ((hblk _ (by omega) (by omega) (by omega)).trans HX.out)
  clear HNX h1 hc1 hp1 hh1 LV HT0 HX HB0 HOK HF
  go_wp2_with fail
  generalize w1.alloc (.cells #[.int .i64 (thOf ms kd (egn S 0)).1, .int .i64 (thOf ms kd (egn S 0)).2.1, .int .i64 (thOf ms kd (egn S 0)).2.2] 41) = W0 at *
  generalize w1.heap.size = V at *
  obtain ⟨R, hR⟩ : ∃ R, R = w.heap.size := ⟨_, rfl⟩
  have HRW : Hid (w.heap.size ≤ R) := by show _ ≤ _; omega
  rw [← hR] at HI0 hz1 hpl hgl hBl ⊢
  clear hR
  go_loopw [8] (fun _ wr => ∃ (i : Nat) (l' : List Th), i ≤ m ∧ NxAt base p g c B ms kd S pt w R V i l' wr) (fun _ wr => lenAtT p wr)
  case atStart => exact ⟨0, l1, Nat.zero_le _, HI0.out⟩
  case round =>
    clear HI0
    obtain ⟨i, l', him, hI⟩ := hrel
    have HI := hidP hI
    have his : i < S.length := by omega
    obtain ⟨hm, hk, hS, hr⟩ := HM.out
    have hre := hr _ (egn_mem his)
    have HTI := hidP (iTie B ms pt (egn S i).1 (egn S i).2 wr hm hI.ties hre.1 hre.2)
    have e1 : mid ms (egn S i).1 = (thOf ms kd (egn S i)).1 := rfl
    have e2 : mid ms (egn S i).2 = (thOf ms kd (egn S i)).2.1 := rfl
    rw [e1, e2] at HTI
    obtain ⟨c0, c1, c2⟩ := three_cells hI.cur
    have hln := hI.heap.len
    have hll := hI.ok.len
    rw [List.length_drop] at hll
    have HLN := hidP (And.intro hln hll)
    clear hm hk hS hr hre hI e1 e2 hln hll
    by_cases hlt : i < m
    · have hd : decide (pt (egn S i).1 ≠ pt (egn S i).2) = false := by simp [HB.out i hlt]
      rw [hd] at HTI
      clear hd
      obtain ⟨d, hd⟩ : ∃ d, d = thOf ms kd (egn S i) := ⟨_, rfl⟩
      rw [← hd] at HTI c0 c1 c2
      have HD := hidP hd
      clear hd
      go_wp2_with fail
      refine HTI.out.mono ?_
      rintro e w2 ⟨rfl, ht2, hg2⟩
      have hrs := relab_same (HB.out i hlt)
      rw [hrs] at ht2
      have hB2 : ∀ q, q ≠ B → q < wr.heap.size → w2.heap[q]? = wr.heap[q]? := fun q h1 h2 => hg2.block q h2 (fun e => h1 (by injection e))
      have h2 : HAtT base w2 p g c l' := HI.out.heap.same (hB2 p (fun e => hBp e.symm) HI.out.heap.lt) (hB2 g (fun e => hBg e.symm) HI.out.heap.2.2.lt.2)
      have hVl := block_ltT HI.out.cur
      have hRl := block_ltT HI.out.res
      have k2 : Hid (w2.heap[V]? = some (.cells #[.int .i64 (thOf ms kd (egn S i)).1, .int .i64 (thOf ms kd (egn S i)).2.1, .int .i64 (thOf ms kd (egn S i)).2.2] 41) ∧ w2.heap[R]? = some (.cells #[.int .i64 0, .int .i64 0, .int .i64 0] 41)) := ⟨(hB2 V (by omega) hVl).trans HI.out.cur, (hB2 R (by omega) hRl).trans HI.out.res⟩
      obtain ⟨hm, hk, hS, hr⟩ := HM.out
      have hF := HI.out.ok.first hm hk (ord_drop hS _) (fun e he => hr e (List.mem_of_mem_drop he)) (by rw [List.length_drop]; omega)
      rw [egn_drop, Nat.add_zero] at hF
      have HNX := hidP (iNextT base p g c (l'.length - 1) l' w2 h2 (by have := HLN.out.2; omega) (by have := HLN.out.2; omega) HI.out.ok.heap)
      rw [hF] at HNX
      have HF := hidP hF
      have HT2 := hidP (And.intro ht2 hg2)
      clear hm hk hS hr hF ht2 hg2 hrs h2 hB2 c0 c1 c2 hVl hRl
      go_wp2_with fail
      refine HNX.out.mono ?_
      rintro e w3 ⟨rfl, l3, h3, hc3, hp3, hh3⟩
      have hz2 := HT2.out.2.size
      have hVl2 := block_ltT k2.out.1
      have hRl2 := block_ltT k2.out.2
      have k3 : w3.heap[V]? = some (.cells #[.int .i64 (thOf ms kd (egn S i)).1, .int .i64 (thOf ms kd (egn S i)).2.1, .int .i64 (thOf ms kd (egn S i)).2.2] 41) := (hc3.2.2.2.2 V hVl2 (by omega) (by omega)).trans k2.out.1
      obtain ⟨c0, c1, c2⟩ := three_cells k3
      obtain ⟨f0, f1, f2⟩ := three_free k3
      obtain ⟨x, hx⟩ : ∃ x, x = thOf ms kd (egn S (i + 1)) := ⟨_, rfl⟩
      have HE : Hid (NxAt base p g c B ms kd S pt w R V (i + 1) l3 (((w3.setCell ⟨V, 0, none⟩ (.int .i64 x.1)).setCell ⟨V, 1, none⟩ (.int .i64 x.2.1)).setCell ⟨V, 2, none⟩ (.int .i64 x.2.2))) := by
        obtain ⟨-, -, -, hgw⟩ := three_set w3 V x c0 c1 c2
        have hz3 := hc3.2.2.2.1
        have hw3 : ∀ q, q ≠ V → q < w3.heap.size → (((w3.setCell ⟨V, 0, none⟩ (.int .i64 x.1)).setCell ⟨V, 1, none⟩ (.int .i64 x.2.1)).setCell ⟨V, 2, none⟩ (.int .i64 x.2.2)).heap[q]? = w3.heap[q]? := fun q h1 h2 => hgw.block q h2 (fun e => h1 (by injection e))
        have hT3 : Ties w3 B ms pt := HT2.out.1.same (hc3.2.2.2.2 B HT2.out.1.lt (by omega) (by omega))
        refine ⟨h3.same (hw3 p (by omega) h3.lt) (hw3 g (by omega) h3.2.2.lt.2), ?_, hT3.same (hw3 B (by omega) hT3.lt), ?_, ?_, ?_⟩
        · have := HI.out.ok.next (by rw [List.length_drop]; omega) (by rw [egn_drop, Nat.add_zero]; exact HF.out) (by rw [HF.out]; exact hp3) hh3
          rw [List.drop_drop] at this
          exact this
        · exact ((HI.out.chg.trans (Chg3.tie HT2.out.2)).trans (Chg3.two hc3)).far hgw (by have := HRW.out; omega)
        · exact (hw3 R (by omega) (by omega)).trans ((hc3.2.2.2.2 R hRl2 (by omega) (by omega)).trans k2.out.2)
        · rw [← hx]; exact three_block k3 _ _ _
      rw [← hx]
      have HX := hidP hx
      have HL3 : Hid (l3.length < l'.length) := by
        show _ < _
        have := hp3.length_eq
        simp at this
        omega
      have HLA : Hid (lenAtT p (((w3.setCell ⟨V, 0, none⟩ (.int .i64 x.1)).setCell ⟨V, 1, none⟩ (.int .i64 x.2.1)).setCell ⟨V, 2, none⟩ (.int .i64 x.2.2)) < lenAtT p wr) := by
        show _ < _
        rw [HE.out.heap.len, HI.out.heap.len]
        exact HL3.out
      clear hx h3 hc3 hp3 hh3 k3 HNX HT2
      go_wp2_with fail
      go_roundw
      case rel => exact ⟨i + 1, l3, by omega, HE.out⟩
      case measure => exact HLA.out
    · obtain rfl : i = m := by omega
      have hd : decide (pt (egn S i).1 ≠ pt (egn S i).2) = true := by simp; exact HU.out
      rw [hd] at HTI
      clear hd
      obtain ⟨d, hd⟩ : ∃ d, d = thOf ms kd (egn S i) := ⟨_, rfl⟩
      rw [← hd] at HTI c0 c1 c2
      have HD := hidP hd
      clear hd
      go_wp2_with fail
      refine HTI.out.mono ?_
      rintro e w2 ⟨rfl, ht2, hg2⟩
      have hB2 : ∀ q, q ≠ B → q < wr.heap.size → w2.heap[q]? = wr.heap[q]? := fun q h1 h2 => hg2.block q h2 (fun e => h1 (by injection e))
      have h2 : HAtT base w2 p g c l' := HI.out.heap.same (hB2 p (fun e => hBp e.symm) HI.out.heap.lt) (hB2 g (fun e => hBg e.symm) HI.out.heap.2.2.lt.2)
      have hVl := block_ltT HI.out.cur
      have hRl := block_ltT HI.out.res
      have hz2 := hg2.size
      have kV : w2.heap[V]? = some (.cells #[.int .i64 d.1, .int .i64 d.2.1, .int .i64 d.2.2] 41) := by rw [HD.out]; exact (hB2 V (by omega) hVl).trans HI.out.cur
      have kR : w2.heap[R]? = some (.cells #[.int .i64 0, .int .i64 0, .int .i64 0] 41) := (hB2 R (by omega) hRl).trans HI.out.res
      clear c0 c1 c2
      obtain ⟨c0, c1, c2⟩ := three_cells kV
      obtain ⟨r0, r1, r2⟩ := three_cells kR
      obtain ⟨f0, f1, f2⟩ := three_free kR
      have HE : Hid (∃ l', HAtT base (((w2.setCell ⟨R, 0, none⟩ (.int .i64 d.1)).setCell ⟨R, 1, none⟩ (.int .i64 d.2.1)).setCell ⟨R, 2, none⟩ (.int .i64 d.2.2)) p g c l' ∧ HpOk ms kd (S.drop (i + 1)) l' ∧ Ties (((w2.setCell ⟨R, 0, none⟩ (.int .i64 d.1)).setCell ⟨R, 1, none⟩ (.int .i64 d.2.1)).setCell ⟨R, 2, none⟩ (.int .i64 d.2.2)) B ms (relab pt (egn S i).1 (egn S i).2) ∧ Chg3 p g B w (((w2.setCell ⟨R, 0, none⟩ (.int .i64 d.1)).setCell ⟨R, 1, none⟩ (.int .i64 d.2.1)).setCell ⟨R, 2, none⟩ (.int .i64 d.2.2))) := by
        obtain ⟨-, -, -, hgw⟩ := three_set w2 R d r0 r1 r2
        have hw3 : ∀ q, q ≠ R → q < w2.heap.size → (((w2.setCell ⟨R, 0, none⟩ (.int .i64 d.1)).setCell ⟨R, 1, none⟩ (.int .i64 d.2.1)).setCell ⟨R, 2, none⟩ (.int .i64 d.2.2)).heap[q]? = w2.heap[q]? := fun q h1 h2 => hgw.block q h2 (fun e => h1 (by injection e))
        exact ⟨l', h2.same (hw3 p (by omega) h2.lt) (hw3 g (by omega) h2.2.2.lt.2), HI.out.ok, ht2.same (hw3 B (by omega) ht2.lt), (HI.out.chg.trans (Chg3.tie hg2)).far hgw HRW.out⟩
      obtain ⟨k0, k1, k2, -⟩ := three_set w2 R d r0 r1 r2
      clear h2 ht2 hg2 hB2 kV kR hVl hRl
      go_wp2_with fail
      refine bodyPost_ret (v := .agg #[.int .i64 d.1, .int .i64 d.2.1, .int .i64 d.2.2]) (by simp [results, Try.results52, go_sem, k0, k1, k2]) rfl ?_
      exact ⟨by rw [HD.out], HE.out⟩

end Go.Proofs.Ytfbindjacmaeoaa
