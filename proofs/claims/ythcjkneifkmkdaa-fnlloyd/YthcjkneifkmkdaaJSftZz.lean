/-
  The program's Shifted and Still.
-/
import Derived.Test.YthcjkneifkmkdaaJGthZz
import Derived.Test.YthcjkneifkmkdaaJRwZz
namespace Go.Proofs.Ythcjkneifkmkdaa
open Go Go.RowKit

/-- A row of n slices, the first ones laid in. -/
def laidC (rs : List Rw) (n : Nat) : Array Value := (rs.map rwV ++ List.replicate (n - rs.length) (Value.slice none 0 0)).toArray
theorem laidC_zero (n : Nat) : laidC [] n = madeCells #[.slice none 0 0] n := by
  apply Array.ext
  · simp [laidC, madeCells]
  · intro i h1 h2
    simp [laidC, madeCells, Nat.mod_one]
theorem laidC_size (rs : List Rw) (n : Nat) (h : rs.length ≤ n) : (laidC rs n).size = n := by simp [laidC]; omega
theorem laidC_next (rs : List Rw) (n : Nat) (h : rs.length < n) : (laidC rs n)[rs.length]? = some (.slice none 0 0) := by
  unfold laidC
  rw [List.getElem?_toArray, List.getElem?_append_right (by simp), List.length_map, Nat.sub_self, List.getElem?_replicate, if_pos (by omega)]
theorem laidC_set (rs : List Rw) (n : Nat) (h : rs.length < n) (r : Rw) : (laidC rs n).setIfInBounds rs.length (rwV r) = laidC (rs ++ [r]) n := by
  unfold laidC
  rw [List.setIfInBounds_toArray]
  congr 1
  rw [List.set_append_right _ _ (by simp), List.length_map, Nat.sub_self, List.map_append, List.length_append, List.length_singleton, show n - rs.length = (n - (rs.length + 1)) + 1 by omega, List.replicate_succ, List.set_cons_zero, List.append_assoc]
  rfl
theorem laidC_all (rs : List Rw) : laidC rs rs.length = (rs.map rwV).toArray := by simp [laidC]
theorem lrow_of {base : Nat} {w : World} {V : Nat} {rs : List Rw} (h : w.heap[V]? = some (.cells (rs.map rwV).toArray 29)) (hb : base ≤ V) (hn : rs.length ≤ maxLen) : LRow base w V rs.length rs := by
  refine ⟨by simp, Or.inr ⟨V, rs.length, (rs.map rwV).toArray, rfl, hb, h, Nat.le_refl _, hn, by simp, ?_⟩⟩
  simp only [Nat.mul_one]
  exact List.take_of_length_le (by simp)

/-- Rows of their own so far. -/
structure RsAt (base : Nat) (w : World) (V : Nat) (rs : List Rw) : Prop where
  rows : ∀ r ∈ rs, IRow base w r.1 r.2.1 r.2.2
  apart : (rs.map (·.1)).Nodup
  off : ∀ r ∈ rs, r.1 ≠ V
theorem RsAt.below {base V : Nat} {w w' : World} {rs : List Rw} (h : RsAt base w V rs) (hb : Below w.heap.size w w') : RsAt base w' V rs := ⟨fun r hr => (h.rows r hr).below hb, h.apart, h.off⟩
theorem RsAt.set {base V j : Nat} {w : World} {rs : List Rw} (h : RsAt base w V rs) (v : Value) : RsAt base (w.setCell ⟨V, j, none⟩ v) V rs :=
  ⟨fun r hr => (h.rows r hr).kept (grown_setCell w V j v) (fun e => by injection e with e; exact h.off r hr e), h.apart, h.off⟩
theorem RsAt.snoc {base V : Nat} {w : World} {rs : List Rw} (h : RsAt base w V rs) {r : Rw} (hr : IRow base w r.1 r.2.1 r.2.2) (hn : ∀ x ∈ rs, x.1 ≠ r.1) (hV : r.1 ≠ V) : RsAt base w V (rs ++ [r]) :=
  ⟨fun x hx => by
    rcases List.mem_append.1 hx with hx | hx
    · exact h.rows x hx
    · rw [List.mem_singleton.1 hx]; exact hr, by
    rw [List.map_append, List.nodup_append]
    refine ⟨h.apart, by simp, fun a ha b hb => ?_⟩
    obtain ⟨x, hx, rfl⟩ := List.mem_map.1 ha
    simp at hb
    rw [hb]
    exact hn x hx, fun x hx => by
    rcases List.mem_append.1 hx with hx | hx
    · exact h.off x hx
    · rw [List.mem_singleton.1 hx]; exact hV⟩

set_option maxRecDepth 100000 in
set_option maxHeartbeats 1000000 in
theorem iShift_no (ao ao' : Option Addr) (cap cap' : Nat) (ms : List Mk) (cs : List (List Int)) (w : World) (hv : MView w ao ms) (hv' : CView w ao' cs) (hsm : MSmall ms) (hcm : CSmall cs) (hc : ctrsB ms cs = false) :
    Calls Try.prog 10 #[.slice ao ms.length cap, .slice ao' cs.length cap'] w fun e w' => e = .returned (.slice none 0 0) ∧ Below w.heap.size w w' := by
  have HT := hidP (iCtr ao ao' cap cap' ms cs w hv hv' hsm hcm)
  rw [hc] at HT
  go_enter Try.func10, Try.ntmps10
  go_wp2_with fail
  refine HT.out.mono ?_
  rintro e w1 ⟨rfl, L1⟩
  go_wp2_with fail
  go_ret
  exact ⟨rfl, L1⟩

set_option maxRecDepth 100000 in
set_option maxHeartbeats 2000000 in
theorem iShift_in (ao ao' : Option Addr) (cap cap' : Nat) (ms : List Mk) (cs : List (List Int)) (w : World) (hv : MView w ao ms) (hv' : CView w ao' cs) (hsm : MSmall ms) (hcm : CSmall cs) (hc : ctrsB ms cs = true) :
    Calls Try.prog 10 #[.slice ao ms.length cap, .slice ao' cs.length cap'] w fun e w' => ∃ V rs, e = .returned (.slice (some ⟨V, 0, none⟩) cs.length cs.length) ∧ nums rs = (List.range cs.length).map (shiftP ms cs) ∧ LMem w.heap.size w' V cs.length rs ∧ Below w.heap.size w w' := by
  have HT := hidP (iCtr ao ao' cap cap' ms cs w hv hv' hsm hcm)
  rw [hc] at HT
  obtain ⟨h1, h8, -, -⟩ := ctrsB_of hc
  have hm60 : ms.length ≤ 60 := marksB_len (toldB_of (ctrsB_of hc).2.2.2).1
  obtain ⟨b', off', rfl, hb', hs'⟩ := hv'.seg (by omega)
  obtain ⟨ba, oa, ca, hct⟩ := ctr_at hs' (fun i hi => (okB_len (ctrs_len hc hi).1).1)
  have HG : Hid (∀ w1, Below w.heap.size w w1 → Calls Try.prog 36 #[.slice ao ms.length cap, .slice (some ⟨b', off', none⟩) cs.length cap'] w1 fun e w' => ∃ A Q gs, e = .returned (.slice (some ⟨A, 0, none⟩) cs.length cs.length) ∧ GAll w' A cs.length Q (ctrV ba oa ca cs) (gmany ms cs ms.length) (gcost ms cs ms.length) gs (gsum ms cs ms.length) ∧ w1.heap.size ≤ A ∧ Below w1.heap.size w1 w') := fun w1 L1 =>
    iGath ao b' off' cap cap' ba oa ca ms cs w1 (hv.next L1) (Nat.lt_of_lt_of_le hb' L1.size) (hs'.below hb' (Nat.le_refl _) L1) (fun i hi => by
      obtain ⟨x1, x2, x3⟩ := hct i hi
      exact ⟨(L1.cell (p := ⟨b', off' + i, none⟩) hb').trans x1, Nat.lt_of_lt_of_le x2 L1.size, x3.below x2 L1⟩) hc
  have hmk := run_make_rows (P := Try.prog) 25 29 (.slice none 0 0) 1 24 Try.underlying25 Try.infoL .i64 .i64 cs.length (by omega) (by omega)
  rw [Nat.mul_one, show (Value.slice none 0 0).cells = #[Value.slice none 0 0] from rfl, ← laidC_zero] at hmk
  have HC := hidP hc
  have HCT := hidP hct
  clear hv hv' hs' hct hc
  go_enter Try.func10, Try.ntmps10
  go_wp2_with fail
  refine HT.out.mono ?_
  rintro e w1 ⟨rfl, L1⟩
  obtain ⟨V, hV⟩ : ∃ V, V = w1.heap.size := ⟨_, rfl⟩
  obtain ⟨W1, hW1⟩ : ∃ W1, W1 = w1.alloc (.cells (laidC [] cs.length) 29) := ⟨_, rfl⟩
  have P1 : Hid (W1.heap[V]? = some (.cells (laidC [] cs.length) 29) ∧ Below w.heap.size w W1 ∧ V < W1.heap.size) := by
    refine ⟨by rw [hV, hW1]; exact heap_alloc_new w1 _, by rw [hW1]; exact L1.alloc L1.size _, by rw [hV, hW1]; simp⟩
  have hz : w.heap.size ≤ V := by rw [hV]; exact L1.size
  clear L1 HT
  go_upto_region 4 with fail
  rw [← hW1, ← hV]
  clear hW1 hV hmk
  go_wp2_with fail
  refine (HG.out W1 P1.out.2.1).mono ?_
  rintro e w2 ⟨A, Q, gs, rfl, G2, hA, L2⟩
  have P2 : Hid (GAll w2 A cs.length Q (ctrV ba oa ca cs) (gmany ms cs ms.length) (gcost ms cs ms.length) gs (gsum ms cs ms.length) ∧ w2.heap[V]? = some (.cells (laidC [] cs.length) 29) ∧ Below w.heap.size w w2) := ⟨G2, (L2.block V P1.out.2.2).trans P1.out.1, chain P1.out.2.1 L2⟩
  have hVA : V < A := by have := P1.out.2.2; omega
  clear G2 L2 HG P1
  go_wp2_with fail
  go_loopw [19] (fun i wr => ∃ (k : Nat) (rs : List Rw), k ≤ cs.length ∧ i = .int .i64 k ∧ rs.length = k ∧ nums rs = (List.range k).map (shiftP ms cs) ∧ GAll wr A cs.length Q (ctrV ba oa ca cs) (gmany ms cs ms.length) (gcost ms cs ms.length) gs (gsum ms cs ms.length) ∧ wr.heap[V]? = some (.cells (laidC rs cs.length) 29) ∧ RsAt w.heap.size wr V rs ∧ Below w.heap.size w wr) (fun i _ => cs.length - (intOf i).toNat)
  case atStart => exact ⟨0, [], Nat.zero_le _, rfl, rfl, rfl, P2.out.1, P2.out.2.1, ⟨by simp, by simp, by simp⟩, P2.out.2.2⟩
  case round =>
    obtain ⟨k, rs, hk, rfl, hrl, hnm, hG, hV, hrs, L⟩ := hrel
    by_cases hlt : k < cs.length
    · obtain ⟨x0, x1, x2⟩ := hG.cells k hlt
      obtain ⟨-, hbk, hsk⟩ := HCT.out k hlt
      have hl4 := okB_len (ctrs_len HC.out hlt).1
      obtain ⟨W, hW⟩ : ∃ W, W = wr.alloc (.cells #[addV (Q k), cstV (Q k), menV (Q k)] 54) := ⟨_, rfl⟩
      have LW : Below wr.heap.size wr W := by rw [hW]; exact alloc_below wr _
      have cm : W.cell? ⟨wr.heap.size, 2, none⟩ = some (menV (Q k)) := by rw [hW]; go_simp
      have LwW := chain L LW
      have hcb := cntG_bd (givN ms cs) k ms.length
      have HM := hidP (iMean (Q k) (ba k) (oa k) (ca k) (gs k) (cn cs k) (gsum ms cs ms.length k) (gmany ms cs ms.length k) (gcost ms cs ms.length k) W ((hG.below LW).here k hlt) (hsk.below hbk LwW) (Nat.lt_of_lt_of_le hbk LwW.size) hl4.2 (gsum_length ms cs _ k) hcb.1 (by show cntG _ _ _ ≤ 60; omega) (fun i => by have := gsum_bd HC.out k ms.length (Nat.le_refl _) i; omega))
      rw [gmean_shift] at HM
      have hVl : V < wr.heap.size := (Array.getElem?_eq_some_iff.1 hV).1
      have HPW : Hid (GAll W A cs.length Q (ctrV ba oa ca cs) (gmany ms cs ms.length) (gcost ms cs ms.length) gs (gsum ms cs ms.length) ∧ W.heap[V]? = some (.cells (laidC rs cs.length) 29) ∧ RsAt w.heap.size W V rs ∧ Below w.heap.size w W ∧ V < W.heap.size ∧ ∀ r ∈ rs, r.1 < W.heap.size) :=
        ⟨hG.below LW, (LW.block V hVl).trans hV, hrs.below LW, LwW, Nat.lt_of_lt_of_le hVl LW.size, fun r hr => Nat.lt_of_lt_of_le (hrs.rows r hr).lt.2 LW.size⟩
      have HNM := hidP hnm
      have HRL := hidP hrl
      have HSL := hidP (shiftP_length ms cs k)
      have HSN : Hid ((List.range (k + 1)).map (shiftP ms cs) = nums rs ++ [shiftP ms cs k]) := by show _ = _; rw [List.range_succ, List.map_append, ← HNM.out]; rfl
      have hi0 : (0 : Int) ≤ (k : Int) := Int.natCast_nonneg _
      have hi1 : (k : Int) < (cs.length : Int) := by omega
      clear hG hV hrs L LW LwW hsk hnm hrl
      unfold addV cstV menV at *
      go_upto_region 7 with fail
      rw [← hW]
      clear hW x0 x1 x2
      go_wp2_with fail
      refine HM.out.mono ?_
      rintro e w3 ⟨g', c', rfl, r3, hg', L3⟩
      obtain ⟨GW, hV, hrs, Lw, hVl2, hrb⟩ := HPW.out
      have hV3 := (L3.block V hVl2).trans hV
      have hnx := laidC_next rs cs.length (by have := HRL.out; omega)
      rw [HRL.out] at hnx
      have e1 : w3.cell? ⟨V, k, none⟩ = some (.slice none 0 0) := by simp [World.cell?, hV3, hnx]
      have e2 : w3.frozen? ⟨V, k, none⟩ = false := by simp [World.frozen?, hV3]
      have hst := laidC_set rs cs.length (by have := HRL.out; omega) (g', c', shiftP ms cs k)
      rw [HRL.out] at hst
      have hg3 := r3.lt
      have hwW := Lw.size
      have HE : Hid (GAll (w3.setCell ⟨V, k, none⟩ (rwV (g', c', shiftP ms cs k))) A cs.length Q (ctrV ba oa ca cs) (gmany ms cs ms.length) (gcost ms cs ms.length) gs (gsum ms cs ms.length) ∧ (w3.setCell ⟨V, k, none⟩ (rwV (g', c', shiftP ms cs k))).heap[V]? = some (.cells (laidC (rs ++ [(g', c', shiftP ms cs k)]) cs.length) 29) ∧ RsAt w.heap.size (w3.setCell ⟨V, k, none⟩ (rwV (g', c', shiftP ms cs k))) V (rs ++ [(g', c', shiftP ms cs k)]) ∧ Below w.heap.size w (w3.setCell ⟨V, k, none⟩ (rwV (g', c', shiftP ms cs k)))) := by
        refine ⟨?_, ?_, ?_, (chain Lw L3).setCell (p := ⟨V, k, none⟩) hz _⟩
        · have G3 := GW.below L3
          have hch : ChgQ [V] w3 (w3.setCell ⟨V, k, none⟩ (rwV (g', c', shiftP ms cs k))) := (ChgQ.refl [V] w3).set (by simp) _
          refine ⟨fun i hi => (G3.here i hi).chgQ hch (fun b hb hm => ?_), G3.nod, G3.dis, G3.rows, G3.rowA, G3.up, fun i hi => ?_, by rw [setCell_size]; exact G3.lt⟩
          · simp at hm
            rcases List.mem_cons.1 hb with e | e
            · have := G3.rowA i hi; omega
            · have := G3.up i hi b e; omega
          · have hcc : ∀ j, (w3.setCell ⟨V, k, none⟩ (rwV (g', c', shiftP ms cs k))).cell? ⟨A, j, none⟩ = w3.cell? ⟨A, j, none⟩ := fun j => World.cell?_of_block (w := w3) (a := ⟨A, j, none⟩) (hch.2.2.2.2 A G3.lt (by simp; omega))
            rw [hcc, hcc, hcc]; exact G3.cells i hi
        · rw [← hst]; exact heap_setCell_same w3 V k _ 29 _ hV3
        · exact ((hrs.below L3).snoc (r3.mono hwW) (fun x hx => by have := hrb x hx; show x.1 ≠ g'; omega) (by show g' ≠ V; omega)).set _
      clear GW hV hrs Lw hV3 hnx hst r3 L3 hrb HM cm HPW
      unfold rwV at HE
      simp only [HSL.out] at HE
      go_wp2_with fail
      go_roundw
      case rel => exact ⟨k + 1, rs ++ [(g', c', shiftP ms cs k)], by omega, by go_num, by simp [HRL.out], by rw [nums_snoc, HSN.out], HE.out.1, HE.out.2.1, HE.out.2.2.1, HE.out.2.2.2⟩
      case measure => simp [intOf]; omega
    · obtain rfl : k = cs.length := by omega
      rw [← hrl, laidC_all] at hV
      have HE : Hid (nums rs = (List.range cs.length).map (shiftP ms cs) ∧ LMem w.heap.size wr V cs.length rs ∧ Below w.heap.size w wr) := by
        refine ⟨hnm, ?_, L⟩
        have := lrow_of hV hz (by unfold maxLen; omega)
        rw [hrl] at this
        exact ⟨this, hrs.rows, hrs.apart, hrs.off⟩
      clear hG hV hrs L hnm hrl
      go_wp2_with fail
      go_ret
      exact ⟨V, rs, rfl, HE.out.1, HE.out.2.1, HE.out.2.2⟩

/-- Shifted: nothing, or rows of its own. -/
theorem iShift (ao ao' : Option Addr) (cap cap' : Nat) (ms : List Mk) (cs : List (List Int)) (w : World) (hv : MView w ao ms) (hv' : CView w ao' cs) (hsm : MSmall ms) (hcm : CSmall cs) :
    Calls Try.prog 10 #[.slice ao ms.length cap, .slice ao' cs.length cap'] w fun e w' => ∃ a c rs, e = .returned (.slice a rs.length c) ∧ nums rs = shiftL ms cs ∧ LOut w.heap.size w' a c rs ∧ Below w.heap.size w w' := by
  rcases hc : ctrsB ms cs with _ | _
  · refine (iShift_no ao ao' cap cap' ms cs w hv hv' hsm hcm hc).mono ?_
    rintro e w' ⟨rfl, L⟩
    exact ⟨none, 0, [], rfl, by rw [shiftL, hc]; rfl, Or.inl ⟨rfl, rfl, rfl⟩, L⟩
  · refine (iShift_in ao ao' cap cap' ms cs w hv hv' hsm hcm hc).mono ?_
    rintro e w' ⟨V, rs, rfl, h1, h2, h3⟩
    have hrl : rs.length = cs.length := by have := congrArg List.length h1; rw [nums_length] at this; simpa using this
    exact ⟨some ⟨V, 0, none⟩, cs.length, rs, by rw [hrl], by rw [h1, shiftL, if_pos hc], Or.inr ⟨V, rfl, h2⟩, h3⟩

set_option maxRecDepth 100000 in
set_option maxHeartbeats 2000000 in
theorem iStill (ao ao' : Option Addr) (cap cap' : Nat) (ms : List Mk) (cs : List (List Int)) (w : World) (hv : MView w ao ms) (hv' : CView w ao' cs) (hsm : MSmall ms) (hcm : CSmall cs) :
    Calls Try.prog 19 #[.slice ao ms.length cap, .slice ao' cs.length cap'] w fun e w' => e = .returned (.bool (stillB ms cs)) ∧ Below w.heap.size w w' := by
  have HT := hidP (iCtr ao ao' cap cap' ms cs w hv hv' hsm hcm)
  rcases hc : ctrsB ms cs with _ | _
  · have HV : Hid (stillB ms cs = false) := by show _ = _; simp [stillB, hc]
    rw [HV.out]
    rw [hc] at HT
    go_enter Try.func19, Try.ntmps19
    go_wp2_with fail
    refine HT.out.mono ?_
    rintro e w1 ⟨rfl, L1⟩
    go_wp2_with fail
    go_ret
    exact ⟨rfl, L1⟩
  · rw [hc] at HT
    have HV : Hid (stillB ms cs = decide (shiftL ms cs = cs)) := by show _ = _; simp [stillB, hc]
    have HSH := hidP (fun w1 (L1 : Below w.heap.size w w1) => iShift ao ao' cap cap' ms cs w1 (hv.next L1) (hv'.next L1) hsm hcm)
    have HSL := hidP (shiftL_length hc)
    have h8 := (ctrsB_of hc).2.1
    have HEQ : Hid (∀ a c rs w2, nums rs = shiftL ms cs → CView w2 a (nums rs) → Below w.heap.size w w2 → Calls Try.prog 44 #[.slice a rs.length c, .slice ao' cs.length cap', .func (.func 45) #[] #[]] w2 fun e w' => e = .returned (.bool (decide (shiftL ms cs = cs))) ∧ ∃ n, w' = w2.drewN n) := fun a c rs w2 hn hv2 L2 => by
      have hrl : rs.length = (shiftL ms cs).length := by rw [← nums_length, hn]
      rw [hrl]
      rw [hn] at hv2
      refine jeqF a ao' c cap' (shiftL ms cs) cs w2 hv2 (hv'.next L2) HSL.out (by rw [HSL.out]; exact h8) (fun i => ?_)
      rcases Nat.lt_or_ge i cs.length with hi | hi
      · rw [shiftL_at hc hi, shiftP_length]; exact hcm.2 i
      · have : cn (shiftL ms cs) i = [] := by simp [cn, List.getD, HSL.out, hi]
        rw [this]; simp
    rw [HV.out]
    clear hv hv' hc
    go_enter Try.func19, Try.ntmps19
    go_wp2_with fail
    refine HT.out.mono ?_
    rintro e w1 ⟨rfl, L1⟩
    have HL1 := hidP L1
    clear L1 HT
    go_wp2_with fail
    refine (HSH.out w1 HL1.out).mono ?_
    rintro e w2 ⟨a, c, rs, rfl, hn, hlo, L2⟩
    have HL2 := hidP (chain HL1.out L2)
    have HE := hidP (HEQ.out a c rs w2 hn hlo.view.cview HL2.out)
    clear hn hlo L2 HSH HEQ
    obtain ⟨d, hd⟩ : ∃ d, decide (shiftL ms cs = cs) = d := ⟨_, rfl⟩
    rw [hd] at HE
    have HD := hidP hd
    clear hd
    go_wp2_with fail
    refine HE.out.mono ?_
    rintro e w3 ⟨rfl, n3, rfl⟩
    go_wp2_with fail
    go_ret
    exact ⟨ret_bool HD.out.symm, below_drewN HL2.out n3⟩

end Go.Proofs.Ythcjkneifkmkdaa
