/-
  The given Within and Merged.
-/
import Derived.Test.YtgfcdfiekancnaaNear
import Derived.Test.YtgfcdfiekancnaaMRow
namespace Go.Proofs.Ytgfcdfiekancnaa
open Go Go.RowKit

def keepL (ss : List Ht) (most : Int) (k : Nat) : List Ht := (ss.take k).filter (fun h => decide (h.2 ≤ most))
theorem take_snoc {ss : List Ht} {k : Nat} (hk : k < ss.length) : ss.take (k + 1) = ss.take k ++ [hnth ss k] := by
  rw [List.take_add_one]; congr 1; simp [hnth, List.getD, hk]
theorem keepL_yes {ss : List Ht} {most : Int} {k : Nat} (hk : k < ss.length) (h : (hnth ss k).2 ≤ most) : keepL ss most (k + 1) = keepL ss most k ++ [hnth ss k] := by
  unfold keepL; rw [take_snoc hk, List.filter_append]; simp [h]
theorem keepL_no {ss : List Ht} {most : Int} {k : Nat} (hk : k < ss.length) (h : ¬ (hnth ss k).2 ≤ most) : keepL ss most (k + 1) = keepL ss most k := by
  unfold keepL; rw [take_snoc hk, List.filter_append]; simp [h]
theorem keepL_le (ss : List Ht) (most : Int) (k : Nat) : (keepL ss most k).length ≤ ss.length := by
  unfold keepL
  exact Nat.le_trans (List.length_filter_le _ _) (by simp; omega)
theorem keepL_all (ss : List Ht) (most : Int) : keepL ss most ss.length = ss.filter (fun h => decide (h.2 ≤ most)) := by unfold keepL; rw [List.take_length]

theorem HSeg.grown {w w' : World} {b : Nat} {hs : List Ht} {r : Option Nat} (h : HSeg w b 0 hs) (hb : b < w.heap.size) (hg : w.grownBy w' r) (hr : some b ≠ r) : HSeg w' b 0 hs := fun i hi =>
  ⟨(World.cell?_of_block (w := w) (a := ⟨b, 0 + i * 2, none⟩) (hg.block b hb hr)).trans (h i hi).1, (World.cell?_of_block (w := w) (a := ⟨b, 0 + i * 2 + 1, none⟩) (hg.block b hb hr)).trans (h i hi).2⟩
theorem HRow.snoc {base : Nat} {w' : World} {gg cc : Nat} {hs : List Ht} {x : Ht} (h : w'.ownsRow base 68 2 (.slice (some ⟨gg, 0, none⟩) (hs.length + 1) cc) (hs.length + 1) (hCells hs ++ [.int .i64 x.1, .int .i64 x.2])) : HRow base w' gg cc (hs ++ [x]) :=
  HRow.of h (by simp) (by rw [hCells_append]; rfl)

set_option maxRecDepth 100000 in
set_option maxHeartbeats 2000000 in
theorem sWithin (ao ao' : Option Addr) (cap cap' : Nat) (ms : List Mk) (q : List Int) (most : Int) (w : World) (hv : MView w ao ms) (hv' : View w ao' q) (hsm : MSmall ms) (hq : q.length ≤ 1048576) :
    Calls Try.prog 27 #[.slice ao ms.length cap, .slice ao' q.length cap', .int .i64 most] w fun e w' => ∃ g c, e = .returned (.slice (some ⟨g, 0, none⟩) (withinL ms q most).length c) ∧ HRow w.heap.size w' g c (withinL ms q most) ∧ Below w.heap.size w w' := by
  obtain ⟨j0, hj0, hy0, hy1, hy2⟩ := info_parts Try.info68
  have R0 := HRow.start w w.heap.size (Nat.le_refl _)
  have L0 : Below w.heap.size w (w.alloc (.cells #[] 68)) := (Below.refl _ _).alloc (Nat.le_refl _) _
  have hz0 : (w.alloc (.cells #[] 68)).heap.size = w.heap.size + 1 := by simp
  have hvA := hv.next L0
  have hvB := View.next hv' L0
  have hn1 := hsm.1
  rcases ht : toldB ms q with _ | _
  · have HV : Hid (withinL ms q most = []) := by show withinL ms q most = []; simp [withinL, ht]
    rw [HV.out]
    go_enter Try.func27, Try.ntmps27
    go_wp2_with fail
    generalize w.alloc (.cells #[] 68) = W0 at *
    have HT := hidP (sTold ao ao' cap cap' ms q W0 hvA hvB hsm hq)
    rw [ht] at HT
    refine HT.out.mono ?_
    rintro e w1 ⟨rfl, n1, rfl⟩
    go_wp2_with fail
    go_ret
    exact ⟨_, 0, rfl, R0, below_drewN L0 n1⟩
  · by_cases hneg : most < 0
    · have HV : Hid (withinL ms q most = []) := by show withinL ms q most = []; simp [withinL]; omega
      rw [HV.out]
      go_enter Try.func27, Try.ntmps27
      go_wp2_with fail
      generalize w.alloc (.cells #[] 68) = W0 at *
      have HT := hidP (sTold ao ao' cap cap' ms q W0 hvA hvB hsm hq)
      rw [ht] at HT
      refine HT.out.mono ?_
      rintro e w1 ⟨rfl, n1, rfl⟩
      go_wp2_with fail
      go_ret
      exact ⟨_, 0, rfl, R0, below_drewN L0 n1⟩
    · have HV : Hid (withinL ms q most = keepL (sortL (hitsL ms q)) most (sortL (hitsL ms q)).length) := by show withinL ms q most = _; rw [keepL_all]; simp [withinL, ht]; intro h; omega
      generalize withinL ms q most = tt at *
      have hl : (sortL (hitsL ms q)).length ≤ 1048576 := by rw [sortL_length, hitsL_length]; exact hn1
      go_enter Try.func27, Try.ntmps27
      go_wp2_with fail
      generalize w.alloc (.cells #[] 68) = W0 at *
      have HT := hidP (sTold ao ao' cap cap' ms q W0 hvA hvB hsm hq)
      rw [ht] at HT
      refine HT.out.mono ?_
      rintro e w1 ⟨rfl, n1, rfl⟩
      have HSA := hidP (sAll ao ao' cap cap' ms q (W0.drewN n1) (hvA.drewN n1) (hvB.drewN n1) hsm hq)
      generalize sortL (hitsL ms q) = ss at *
      have L1 := below_drewN L0 n1
      have R1 : HRow w.heap.size (W0.drewN n1) w.heap.size 0 [] := R0
      have hz1 : (W0.drewN n1).heap.size = w.heap.size + 1 := hz0
      clear R0 L0 hvA hvB
      go_wp2_with fail
      generalize W0.drewN n1 = W1 at *
      refine HSA.out.mono ?_
      rintro e w3 ⟨g, c, rfl, hrow, L3⟩
      have hgl := hrow.lt
      have R3 := HRow.below R1 (Nat.le_refl _) L3
      have L3' := L1.trans (L3.mono L1.size)
      have HSG := hidP hrow.seg
      clear hrow L3 R1 L1 HSA
      go_wp2_with fail
      go_loopw [7, 9] (fun v i wr => ∃ (k g' c' : Nat) (os : List Ht), k ≤ ss.length ∧ i = .int .i64 k ∧ v = .slice (some ⟨g', 0, none⟩) os.length c' ∧ os = keepL ss most k ∧ HRow w.heap.size wr g' c' os ∧ g' ≠ g ∧ g < wr.heap.size ∧ HSeg wr g 0 ss ∧ Below w.heap.size w wr) (fun _ i _ => ss.length - (intOf i).toNat)
      case atStart => exact ⟨0, w.heap.size, 0, [], Nat.zero_le _, rfl, rfl, rfl, R3, by omega, hgl.2, HSG.out, L3'⟩
      case round =>
        obtain ⟨k, g', c', os, hk, rfl, rfl, eos, hro, hne, hgw, hsg, L⟩ := hrel
        have hol : os.length ≤ ss.length := by rw [eos]; exact keepL_le _ _ _
        have HEO := hidP eos
        have HRO := hidP hro
        have HLL := hidP L
        have hz := L.size
        have hgl' := hro.lt
        clear eos hro L
        by_cases hlt : k < ss.length
        · obtain ⟨hc0, hc1⟩ := hsg k hlt
          rw [Nat.zero_add] at hc0 hc1
          have HSW := hidP hsg
          clear hsg
          by_cases hle : (hnth ss k).2 ≤ most
          · have HKY := hidP (keepL_yes hlt hle)
            have LA := World.grownBy_alloc wr (.cells #[.int .i64 (hnth ss k).1, .int .i64 (hnth ss k).2] 68) none
            have HRA := hidP (HRO.out.kept LA (by simp))
            have HSA2 := hidP (HSW.out.grown hgw LA (by simp))
            go_wp2_with (at_builtin; refine wpList_append_at _ rfl (.tmp 36) (.tmp 41) 28 rfl w.heap.size 68 j0 _ 2 16 Try.underlying28 hj0 hy0 hy1 hy2 rfl (by omega) g' os.length c' (hCells os) rfl HRA.out (some ⟨wr.heap.size, 0, none⟩) 1 1 (hCells [hnth ss k]) rfl (one_src (heap_alloc_new wr _)) (by unfold maxLen; omega) (by omega) (by simp; omega) (wr.heap.size + 1) (by simp) ?_; intro gg cc w4 hown hgrow hat hltt)
            go_wp2
            go_roundw
            case rel => exact ⟨k + 1, gg, cc, os ++ [hnth ss k], by omega, by go_num, by rw [List.length_append, List.length_singleton], by rw [HKY.out, HEO.out], HRow.snoc hown, by omega, Nat.lt_of_lt_of_le (by simp; omega) hgrow.size, HSA2.out.grown (by simp; omega) hgrow (by simp; omega), (HLL.out.alloc hz _).grown hgrow (by simp; omega) (by intro k hk; cases hk; omega)⟩
            case measure => simp [intOf]; omega
          · have HKN := hidP (keepL_no hlt hle)
            go_wp2_with fail
            go_roundw
            case rel => exact ⟨k + 1, g', c', os, by omega, by go_num, rfl, by rw [HKN.out, HEO.out], HRO.out, hne, hgw, HSW.out, HLL.out⟩
            case measure => simp [intOf]; omega
        · go_wp2_with fail
          go_ret
          obtain rfl : k = ss.length := by omega
          have e1 : tt = os := by rw [HV.out, HEO.out]
          rw [e1]
          exact ⟨g', c', rfl, HRO.out, HLL.out⟩

def onceSt (s : List Int × List Ht) (x : Ht) : List Int × List Ht := if hasB s.1 x.1 = true then s else (s.1 ++ [x.1], s.2 ++ [x])
def onceK (ss : List Ht) (k : Nat) : List Int × List Ht := (ss.take k).foldl onceSt ([], [])
theorem once_fold (l : List Ht) (ids : List Int) (os : List Ht) : (l.foldl onceSt (ids, os)).2 = os ++ onceG ids l := by
  induction l generalizing ids os with
  | nil => simp [onceG]
  | cons x xs ih =>
    simp only [List.foldl_cons, onceSt, onceG]
    split
    · rw [ih]
    · rw [ih]; simp
theorem onceK_all (ss : List Ht) : (onceK ss ss.length).2 = onceL ss := by unfold onceK onceL; rw [List.take_length, once_fold]; rfl
theorem onceK_next {ss : List Ht} {k : Nat} (hk : k < ss.length) : onceK ss (k + 1) = onceSt (onceK ss k) (hnth ss k) := by
  unfold onceK; rw [take_snoc hk, List.foldl_append]; rfl
theorem onceK_le (ss : List Ht) (k : Nat) : (onceK ss k).1.length = (onceK ss k).2.length ∧ (onceK ss k).2.length ≤ k := by
  induction k with
  | zero => simp [onceK]
  | succ k ih =>
    rcases Nat.lt_or_ge k ss.length with h | h
    · rw [onceK_next h]; unfold onceSt; split
      · omega
      · simp; omega
    · have e : onceK ss (k + 1) = onceK ss k := by unfold onceK; rw [List.take_of_length_le h, List.take_of_length_le (by omega)]
      rw [e]; omega
theorem onceK_has {ss : List Ht} {k : Nat} (hk : k < ss.length) (h : hasB (onceK ss k).1 (hnth ss k).1 = true) : onceK ss (k + 1) = onceK ss k := by rw [onceK_next hk]; simp [onceSt, h]
theorem onceK_new {ss : List Ht} {k : Nat} (hk : k < ss.length) (h : hasB (onceK ss k).1 (hnth ss k).1 = false) : onceK ss (k + 1) = ((onceK ss k).1 ++ [(hnth ss k).1], (onceK ss k).2 ++ [hnth ss k]) := by rw [onceK_next hk]; simp [onceSt, h]
theorem sortL_take {aa : List Ht} {k : Nat} (hk : k < aa.length) : sortL (aa.take (k + 1)) = putL (sortL (aa.take k)) (hnth aa k) := by rw [take_snoc hk, sortL_snoc]
theorem sortL_take2 {aa bb : List Ht} {k : Nat} (hk : k < bb.length) : sortL (aa ++ bb.take (k + 1)) = putL (sortL (aa ++ bb.take k)) (hnth bb k) := by rw [take_snoc hk, ← List.append_assoc, sortL_snoc]
theorem one_int {w : World} {n : Nat} {x : Int} (hb : w.heap[n]? = some (.cells #[.int .i64 x] 2 (0, 0))) : SrcAt w 1 (some ⟨n, 0, none⟩) 1 [.int .i64 x] :=
  ⟨rfl, by simp [Value.oneCell'], Or.inr ⟨_, rfl, World.news_of_block (cs := #[.int .i64 x]) hb⟩⟩
theorem Row.snoc {base : Nat} {w' : World} {gg cc : Nat} {xs : List Int} {x : Int} (h : w'.ownsRow base 2 1 (.slice (some ⟨gg, 0, none⟩) (xs.length + 1) cc) (xs.length + 1) (xs.map (Value.int .i64) ++ [.int .i64 x])) : Row base w' gg cc (xs ++ [x]) := by
  unfold Row; rw [List.length_append, List.length_singleton, List.map_append]; exact h
theorem Row.keptBy {base : Nat} {w w' : World} {g c : Nat} {r : Option Nat} {xs : List Int} (h : Row base w g c xs) (hg : w.grownBy w' r) (hr : some g ≠ r) : Row base w' g c xs :=
  World.ownsRow.kept h hg (Or.inr hr)
theorem Row.start (w : World) (base : Nat) (hb : base ≤ w.heap.size) : Row base (w.alloc (.cells #[] 2)) w.heap.size 0 [] := World.ownsRow_lit w #[] 0 hb (Nat.zero_le _) rfl

/-- What holds of the three rows while each number is taken once. -/
def OnceR (base : Nat) (w : World) (g : Nat) (ss : List Ht) (gi ci : Nat) (ids : List Int) (go co : Nat) (os : List Ht) : Prop :=
  g < w.heap.size ∧ HSeg w g 0 ss ∧ Row base w gi ci ids ∧ HRow base w go co os ∧ gi ≠ g ∧ go ≠ g ∧ gi ≠ go

set_option maxRecDepth 100000 in
set_option maxHeartbeats 1500000 in
theorem sMerged (ao ao' : Option Addr) (cap cap' : Nat) (aa bb : List Ht) (k : Int) (w : World) (hv : HView w ao aa) (hv' : HView w ao' bb) (hn : aa.length ≤ 1048576) (hn' : bb.length ≤ 1048576) :
    Calls Try.prog 14 #[.slice ao aa.length cap, .slice ao' bb.length cap', .int .i64 k] w fun e w' => ∃ g c, e = .returned (.slice (some ⟨g, 0, none⟩) (mergedL aa bb k).length c) ∧ HRow w.heap.size w' g c (mergedL aa bb k) ∧ Below w.heap.size w w' := by
  obtain ⟨j0, hj0, hy0, hy1, hy2⟩ := info_parts Try.info68
  obtain ⟨i0, hi0, hx0, hx1, hx2⟩ := info_parts Try.info2
  have HK := hidP (sIn k 1 60 w)
  have R0 := hidP (HRow.start w w.heap.size (Nat.le_refl _))
  have L0 : Below w.heap.size w (w.alloc (.cells #[] 68)) := (Below.refl _ _).alloc (Nat.le_refl _) _
  rcases hk : countB k with _ | _
  · rw [countB_in, hk] at HK
    have HV : Hid (mergedL aa bb k = []) := by show mergedL aa bb k = []; simp [mergedL, hk]
    rw [HV.out]
    go_enter Try.func14, Try.ntmps14
    go_wp2_with fail
    refine HK.out.mono ?_
    rintro e w1 ⟨rfl, rfl⟩
    go_wp2_with fail
    go_ret
    exact ⟨_, 0, rfl, R0.out, L0⟩
  · rw [countB_in, hk] at HK
    have hk0 : 0 ≤ k := by simp [countB] at hk; omega
    have HV : Hid (mergedL aa bb k = (onceL (sortL (aa ++ bb))).take k.toNat) := by show mergedL aa bb k = _; simp [mergedL, hk]
    generalize mergedL aa bb k = tt at *
    have HVA := hidP hv
    have HVB := hidP hv'
    clear hv hv'
    go_enter Try.func14, Try.ntmps14
    go_wp2_with fail
    refine HK.out.mono ?_
    rintro e w1 ⟨rfl, rfl⟩
    clear HK
    go_wp2_with fail
    go_loopw [7, 8] (fun v i wr => ∃ (j g c : Nat) (hs : List Ht), j ≤ aa.length ∧ i = .int .i64 j ∧ v = .slice (some ⟨g, 0, none⟩) hs.length c ∧ hs = sortL (aa.take j) ∧ HRow w1.heap.size wr g c hs ∧ Below w1.heap.size w1 wr) (fun _ i _ => aa.length - (intOf i).toNat)
    case atStart => exact ⟨0, w1.heap.size, 0, [], Nat.zero_le _, rfl, rfl, rfl, R0.out, L0⟩
    case round =>
      obtain ⟨j, g, c, hs, hj, rfl, rfl, ehs, hrow, L⟩ := hrel
      have hlen : hs.length ≤ 1048576 := by rw [ehs, sortL_length, List.length_take]; omega
      have HEH := hidP ehs
      have HR := hidP hrow
      have HLL := hidP L
      have hz := L.size
      clear ehs hrow
      by_cases hlt : j < aa.length
      · obtain ⟨b, off, rfl, hb, hseg⟩ := HVA.out.seg (by omega)
        obtain ⟨hc0, hc1⟩ := (hseg.below hb L) j hlt
        have HP := hidP (sPut w1.heap.size g c hs (hnth aa j) wr HR.out (by omega))
        have HT := hidP (sortL_take hlt)
        clear L hseg
        go_wp2_with fail
        refine HP.out.mono ?_
        rintro e w3 ⟨g', c', rfl, hrow3, L3⟩
        have LF := hidP (HLL.out.trans (L3.mono hz))
        have hrow4 := hidP (hrow3.mono hz)
        clear L3 hrow3
        go_wp2_with fail
        go_roundw
        case rel => exact ⟨j + 1, g', c', putL hs (hnth aa j), by omega, by go_num, rfl, by rw [HT.out, HEH.out], hrow4.out, LF.out⟩
        case measure => simp [intOf]; omega
      · have HEH2 : Hid (hs = sortL (aa ++ bb.take 0)) := by show hs = _; rw [HEH.out, List.take_of_length_le (by omega), List.take_zero, List.append_nil]
        have hseg0 := HR.out.lt
        clear L HEH
        go_wp2_with fail
        go_loopw [7, 9] (fun v i wr => ∃ (j g c : Nat) (hs : List Ht), j ≤ bb.length ∧ i = .int .i64 j ∧ v = .slice (some ⟨g, 0, none⟩) hs.length c ∧ hs = sortL (aa ++ bb.take j) ∧ HRow w1.heap.size wr g c hs ∧ Below w1.heap.size w1 wr) (fun _ i _ => bb.length - (intOf i).toNat)
        case atStart => exact ⟨0, g, c, hs, Nat.zero_le _, rfl, rfl, HEH2.out, HR.out, HLL.out⟩
        case round =>
          clear hseg0 HEH2 HR HLL hz hlen
          obtain ⟨j2, g2, c2, hs2, hj2, rfl, rfl, ehs2, hrow2, L2⟩ := hrel
          have hlen2 : hs2.length ≤ 2097152 := by rw [ehs2, sortL_length, List.length_append, List.length_take]; omega
          have HEH := hidP ehs2
          have HR := hidP hrow2
          have HLL := hidP L2
          have hz2 := L2.size
          clear ehs2 hrow2
          by_cases hlt2 : j2 < bb.length
          · obtain ⟨b, off, rfl, hb, hseg⟩ := HVB.out.seg (by omega)
            obtain ⟨hc0, hc1⟩ := (hseg.below hb L2) j2 hlt2
            have HP := hidP (sPut w1.heap.size g2 c2 hs2 (hnth bb j2) wr HR.out (by omega))
            have HT := hidP (sortL_take2 (aa := aa) hlt2)
            clear L2 hseg
            go_wp2_with fail
            refine HP.out.mono ?_
            rintro e w3 ⟨g', c', rfl, hrow3, L3⟩
            have LF := hidP (HLL.out.trans (L3.mono hz2))
            have hrow4 := hidP (hrow3.mono hz2)
            clear L3 hrow3
            go_wp2_with fail
            go_roundw
            case rel => exact ⟨j2 + 1, g', c', putL hs2 (hnth bb j2), by omega, by go_num, rfl, by rw [HT.out, HEH.out], hrow4.out, LF.out⟩
            case measure => simp [intOf]; omega
          · have HES : Hid (hs2 = sortL (aa ++ bb)) := by show hs2 = _; rw [HEH.out, List.take_of_length_le (by omega)]
            have HFIN := hidP (HES.out ▸ HV.out : tt = (onceL hs2).take k.toNat)
            have hgl := HR.out.lt
            have LA : Below w1.heap.size w1 (wr.alloc (.cells #[] 68)) := L2.alloc hz2 _
            have LB : Below w1.heap.size w1 ((wr.alloc (.cells #[] 68)).alloc (.cells #[] 2)) := LA.alloc (by simp; omega) _
            have HO1 : HRow w1.heap.size (wr.alloc (.cells #[] 68)) wr.heap.size 0 [] := HRow.start wr _ hz2
            have HO2 : HRow w1.heap.size ((wr.alloc (.cells #[] 68)).alloc (.cells #[] 2)) wr.heap.size 0 [] := HO1.kept (World.grownBy_alloc _ _ none) (by simp)
            have HI2 : Row w1.heap.size ((wr.alloc (.cells #[] 68)).alloc (.cells #[] 2)) (wr.heap.size + 1) 0 [] := by
              have := Row.start (wr.alloc (.cells #[] 68)) w1.heap.size (by simp; omega)
              rwa [show (wr.alloc (.cells #[] 68)).heap.size = wr.heap.size + 1 by simp] at this
            have hall := HR.out.kept (World.grownBy_alloc wr (.cells #[] 68) none) (by simp)
            have hall2 := hall.kept (World.grownBy_alloc (wr.alloc (.cells #[] 68)) (.cells #[] 2) none) (by simp)
            have HONE : Hid (OnceR w1.heap.size ((wr.alloc (.cells #[] 68)).alloc (.cells #[] 2)) g2 hs2 (wr.heap.size + 1) 0 [] wr.heap.size 0 []) := ⟨hall2.lt.2, hall2.seg, HI2, HO2, by omega, by omega, by omega⟩
            have HLB := hidP LB
            clear L2 HEH HES HV LA LB HO1 HO2 HI2 hall hall2 HR HLL
            go_wp2_with fail
            generalize ((wr.alloc (.cells #[] 68)).alloc (.cells #[] 2)) = W3 at *
            go_loopw [10, 11, 12] (fun vo vi i wq => ∃ (m gi ci go co : Nat), m ≤ hs2.length ∧ i = .int .i64 m ∧ vi = .slice (some ⟨gi, 0, none⟩) (onceK hs2 m).1.length ci ∧ vo = .slice (some ⟨go, 0, none⟩) (onceK hs2 m).2.length co ∧ OnceR w1.heap.size wq g2 hs2 gi ci (onceK hs2 m).1 go co (onceK hs2 m).2 ∧ Below w1.heap.size w1 wq) (fun _ _ i _ => hs2.length - (intOf i).toNat)
            case atStart => exact ⟨0, wr.heap.size + 1, 0, wr.heap.size, 0, Nat.zero_le _, rfl, rfl, rfl, HONE.out, HLB.out⟩
            case round =>
              clear HONE HLB
              obtain ⟨m, gi, ci, go, co, hm, rfl, rfl, rfl, ⟨hgw, hsg, hri, hro, n1, n2, n3⟩, L⟩ := hrel
              have hle := onceK_le hs2 m
              have HKA := hidP (onceK_has (ss := hs2) (k := m))
              have HKN := hidP (onceK_new (ss := hs2) (k := m))
              have HAL := hidP (onceK_all hs2)
              obtain ⟨ids, eids⟩ : ∃ ids, ids = (onceK hs2 m).1 := ⟨_, rfl⟩
              obtain ⟨os, eos⟩ : ∃ os, os = (onceK hs2 m).2 := ⟨_, rfl⟩
              rw [← eids] at hle hri HKA HKN ⊢
              rw [← eos] at hle hro HKN ⊢
              have HEI := hidP eids
              have HEO := hidP eos
              have HLL := hidP L
              have hz3 := L.size
              have hil := hri.lt2
              have hol := hro.lt
              have hle1 : ids.length ≤ 2097152 := by omega
              have hle2 : os.length ≤ 2097152 := by omega
              clear eids eos L hle
              by_cases hlt3 : m < hs2.length
              · obtain ⟨hc0, hc1⟩ := hsg m hlt3
                rw [Nat.zero_add] at hc0 hc1
                have HH := hidP (sHas (some ⟨gi, 0, none⟩) ci ids (hnth hs2 m).1 wr hri.view (by omega))
                have HSG := hidP hsg
                have HRI := hidP hri
                have HRO := hidP hro
                clear hsg hri hro
                rcases hb : hasB ids (hnth hs2 m).1 with _ | _
                · rw [hb] at HH
                  have HNX := hidP (HKN.out hlt3 hb)
                  go_wp2_with fail
                  refine HH.out.mono ?_
                  rintro e w4 ⟨rfl, rfl⟩
                  clear HH
                  have GA := World.grownBy_alloc w4 (.cells #[.int .i64 (hnth hs2 m).1] 2) none
                  have HRIA := hidP (HRI.out.keptBy GA (by simp))
                  have HROA := hidP (HRO.out.kept GA (by simp))
                  have HSGA := hidP (HSG.out.grown hgw GA (by simp))
                  have HLA := hidP (HLL.out.alloc hz3 (.cells #[.int .i64 (hnth hs2 m).1] 2))
                  have hga : g2 < (w4.alloc (.cells #[.int .i64 (hnth hs2 m).1] 2)).heap.size := by simp; omega
                  clear GA HRI HRO HSG
                  go_wp2_with (at_builtin; first
                    | (refine wpList_append_at _ rfl (.tmp 58) (.tmp 64) 25 rfl w1.heap.size 2 i0 _ 1 8 Try.underlying25 hi0 hx0 hx1 hx2 rfl (by omega) gi ids.length ci (ids.map (Value.int .i64)) rfl HRIA.out (some ⟨w4.heap.size, 0, none⟩) 1 1 [.int .i64 (hnth hs2 m).1] rfl (one_int (heap_alloc_new w4 _)) (by unfold maxLen; omega) (by omega) (by simp; omega) (w4.heap.size + 1) (by simp) ?_; intro g5 c5 w5 hown5 hgrow5 hat5 hlt5; have HSG5 := hidP (HSGA.out.grown hga hgrow5 (by simp; omega)); have hd0 := (HSG5.out m hlt3).1; have hd1 := (HSG5.out m hlt3).2; rw [Nat.zero_add] at hd0 hd1; have hs5 := hgrow5.size; have HROX := hidP ((HROA.out.kept hgrow5 (by simp; omega)).kept (World.grownBy_alloc w5 (.cells #[.int .i64 (hnth hs2 m).1, .int .i64 (hnth hs2 m).2] 68) none) (by simp)))
                    | (refine wpList_append_at _ rfl (.tmp 66) (.tmp 71) 28 rfl w1.heap.size 68 j0 _ 2 16 Try.underlying28 hj0 hy0 hy1 hy2 rfl (by omega) go os.length co (hCells os) rfl HROX.out (some ⟨w5.heap.size, 0, none⟩) 1 1 (hCells [hnth hs2 m]) rfl (one_src (heap_alloc_new w5 _)) (by unfold maxLen; omega) (by omega) (by simp at hs5 ⊢; omega) (w5.heap.size + 1) (by simp) ?_; intro g6 c6 w6 hown6 hgrow6 hat6 hlt6))
                  have hs5b : w4.heap.size + 1 ≤ w5.heap.size := by simpa using hs5
                  have hs6 := hgrow6.size
                  have hs6b : w5.heap.size + 1 ≤ w6.heap.size := by simpa using hs6
                  have GX := World.grownBy_alloc w5 (.cells #[.int .i64 (hnth hs2 m).1, .int .i64 (hnth hs2 m).2] 68) none
                  have HRI6 := hidP (((Row.snoc hown5).keptBy GX (by simp)).keptBy hgrow6 (by simp; omega))
                  have HRO6 := hidP (HRow.snoc hown6)
                  have HSG6 := hidP ((HSG5.out.grown (by omega) GX (by simp)).grown (by simp; omega) hgrow6 (by simp; omega))
                  have HL6 := hidP (((HLA.out.grown hgrow5 (by simp; omega) (by intro q hq; cases hq; omega)).alloc (by omega) (.cells #[.int .i64 (hnth hs2 m).1, .int .i64 (hnth hs2 m).2] 68)).grown hgrow6 (by simp; omega) (by intro q hq; cases hq; omega))
                  clear hown5 hown6 hs5 hs6 GX HSGA HROA HRIA HLA HROX HSG5
                  go_wp2_with fail
                  go_roundw
                  case rel => exact ⟨m + 1, g5, c5, g6, c6, by omega, by go_num, by rw [HNX.out]; simp, by rw [HNX.out]; simp, by rw [HNX.out]; exact ⟨by omega, HSG6.out, HRI6.out, HRO6.out, by omega, by omega, by omega⟩, HL6.out⟩
                  case measure => simp [intOf]; omega
                · rw [hb] at HH
                  have HNX := hidP (HKA.out hlt3 hb)
                  go_wp2_with fail
                  refine HH.out.mono ?_
                  rintro e w4 ⟨rfl, rfl⟩
                  go_wp2_with fail
                  go_roundw
                  case rel => exact ⟨m + 1, gi, ci, go, co, by omega, by go_num, by rw [HNX.out, ← HEI.out], by rw [HNX.out, ← HEO.out], by rw [HNX.out, ← HEI.out, ← HEO.out]; exact ⟨hgw, HSG.out, HRI.out, HRO.out, n1, n2, n3⟩, HLL.out⟩
                  case measure => simp [intOf]; omega
              · obtain rfl : m = hs2.length := by omega
                have e1 : os = onceL hs2 := by rw [HEO.out, HAL.out]
                have HSF := hidP (sFirst w1.heap.size go co os k wr hro (by omega) hk0)
                rw [e1, ← HFIN.out, ← e1] at HSF
                clear e1
                go_wp2_with fail
                refine HSF.out.mono ?_
                rintro e w5 ⟨g', c', rfl, hrow', L4⟩
                go_wp2_with fail
                go_ret
                exact ⟨g', c', rfl, hrow'.mono hz3, HLL.out.trans (L4.mono hz3)⟩

end Go.Proofs.Ytgfcdfiekancnaa
