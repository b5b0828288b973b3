/-
  The program's gathered: a gathering for each center, and each mark into that of its nearest.
  The program's Given, Cost and Shifted.
-/
import Derived.Test.YthcjkneifkmkdaaJAddZz
import Derived.Test.YthcjkneifkmkdaaJImpZz
import Derived.Deep.RegionHeld3
import Derived.Test.YthcjkneifkmkdaaGKeepZz
namespace Go.Proofs.Ythcjkneifkmkdaa
open Go Go.RowKit Go.Deep

theorem Try.infoG : (Try.prog.info? 54).map (fun i => (i.zero, i.size, i.bytes)) = some (some (.agg #[.nilFunc, .nilFunc, .nilFunc]), 3, 24) := by kernel_rfl

/-- Where the centers lie. -/
def ctrV (ba oa ca : Nat → Nat) (cs : List (List Int)) (i : Nat) : Value := .slice (some ⟨ba i, oa i, none⟩) (cn cs i).length (ca i)
def CtrAt (w : World) (b' off' : Nat) (ba oa ca : Nat → Nat) (cs : List (List Int)) : Prop :=
  ∀ i, i < cs.length → w.cell? ⟨b', off' + i, none⟩ = some (ctrV ba oa ca cs i) ∧ ba i < w.heap.size ∧ Seg w (ba i) (oa i) (cn cs i)
theorem ctr_at {w : World} {b' off' : Nat} {cs : List (List Int)} (hs : CSeg w b' off' cs) (hl : ∀ i, i < cs.length → 1 ≤ (cn cs i).length) : ∃ ba oa ca, CtrAt w b' off' ba oa ca cs := by
  have each : ∀ i, i < cs.length → ∃ q : Nat × Nat × Nat, w.cell? ⟨b', off' + i, none⟩ = some (.slice (some ⟨q.1, q.2.1, none⟩) (cn cs i).length q.2.2) ∧ q.1 < w.heap.size ∧ Seg w q.1 q.2.1 (cn cs i) := fun i hi => by
    obtain ⟨a, c, e, v⟩ := hs i hi
    rcases v with h | ⟨b, off, rfl, hb, hs⟩
    · have := hl i hi; rw [h] at this; simp at this
    · exact ⟨(b, off, c), e, hb, hs⟩
  obtain ⟨q, hq⟩ := choose_lt each
  exact ⟨fun i => (q i).1, fun i => (q i).2.1, fun i => (q i).2.2, fun i hi => hq i hi⟩

def gfar (ms : List Mk) (cs : List (List Int)) (i j : Nat) : Int := farV (cn cs i) (mat ms j)
def gmany (ms : List Mk) (cs : List (List Int)) (n : Nat) (i : Nat) : Int := cntG (givN ms cs) i n
def gcost (ms : List Mk) (cs : List (List Int)) (n : Nat) (i : Nat) : Int := sumG (givN ms cs) (gfar ms cs i) i n
def gsumF (ms : List Mk) (cs : List (List Int)) (n i k : Nat) : Int := sumG (givN ms cs) (ptF ms k) i n
def gsum (ms : List Mk) (cs : List (List Int)) (n i : Nat) : List Int := tabL (gsumF ms cs n i) (cn cs i).length
theorem gsum_zero (ms : List Mk) (cs : List (List Int)) (i : Nat) : gsum ms cs 0 i = List.replicate (cn cs i).length 0 := by
  apply List.ext_getElem
  · simp [gsum, tabL]
  · intro k h1 h2
    simp [gsum, tabL, gsumF, sumG]
theorem gsum_succ {ms : List Mk} {cs : List (List Int)} {n : Nat} (i : Nat) : gsum ms cs (n + 1) i = if givN ms cs n = i then tabL (plusF (gsum ms cs n i) (mat ms n)) (cn cs i).length else gsum ms cs n i := by
  split
  · rename_i h
    unfold gsum
    apply List.ext_getElem
    · simp [tabL]
    · intro k h1 h2
      have hk : k < (cn cs i).length := by simpa [tabL] using h1
      have e := tabL_getD (gsumF ms cs n i) (cn cs i).length k hk
      simp only [tabL, List.getElem_map, List.getElem_range]
      show gsumF ms cs (n + 1) i k = nth (tabL (gsumF ms cs n i) (cn cs i).length) k + nth (mat ms n) k
      rw [e]
      show sumG _ _ _ (n + 1) = _
      simp only [sumG]
      rw [if_pos h]
      rfl
  · rename_i h
    unfold gsum
    congr 1
    funext k
    show sumG _ _ _ (n + 1) = _
    simp only [sumG]
    rw [if_neg h]
    rfl
theorem gcost_bd {ms : List Mk} {cs : List (List Int)} (h : ctrsB ms cs = true) {i : Nat} (hi : i < cs.length) (n : Nat) (hn : n ≤ ms.length) : 0 ≤ gcost ms cs n i ∧ gcost ms cs n i ≤ 16000000 * n := by
  unfold gcost
  induction n with
  | zero => simp [sumG]
  | succ n ih =>
    have ih' := ih (by omega)
    have ht := ctrs_two h hi (j := n) (by omega)
    have hb := farV_pos ht
    rw [farV_comm] at hb
    simp only [sumG]
    have e : gfar ms cs i n = farV (cn cs i) (mat ms n) := rfl
    rw [e]
    split
    · omega
    · omega
theorem gsum_bd {ms : List Mk} {cs : List (List Int)} (h : ctrsB ms cs = true) (i n : Nat) (hn : n ≤ ms.length) (k : Nat) : -(1000 * (n : Int)) ≤ nth (gsum ms cs n i) k ∧ nth (gsum ms cs n i) k ≤ 1000 * (n : Int) := by
  by_cases hk : k < (cn cs i).length
  · rw [gsum, tabL_getD _ _ _ hk]
    have h1 := sumG_bd (givN ms cs) (ptF ms k) i n 1000 (by omega) (fun j hj => ptF_bd h k (by omega))
    have h2 := cntG_bd (givN ms cs) i n
    unfold gsumF
    omega
  · have : nth (gsum ms cs n i) k = 0 := by simp [nth, List.getD, gsum, tabL, hk]
    omega
theorem gsum_length (ms : List Mk) (cs : List (List Int)) (n i : Nat) : (gsum ms cs n i).length = (cn cs i).length := tabL_length _ _

set_option maxRecDepth 100000 in
set_option maxHeartbeats 4000000 in
theorem iGath (ao : Option Addr) (b' off' : Nat) (cap cap' : Nat) (ba oa ca : Nat → Nat) (ms : List Mk) (cs : List (List Int)) (w : World) (hv : MView w ao ms) (hb' : b' < w.heap.size) (hcs : CSeg w b' off' cs) (hct : CtrAt w b' off' ba oa ca cs) (hc : ctrsB ms cs = true) :
    Calls Try.prog 36 #[.slice ao ms.length cap, .slice (some ⟨b', off', none⟩) cs.length cap'] w fun e w' => ∃ A Q gs, e = .returned (.slice (some ⟨A, 0, none⟩) cs.length cs.length) ∧ GAll w' A cs.length Q (ctrV ba oa ca cs) (gmany ms cs ms.length) (gcost ms cs ms.length) gs (gsum ms cs ms.length) ∧ w.heap.size ≤ A ∧ Below w.heap.size w w' := by
  obtain ⟨h1, h8, hpr, htd⟩ := ctrsB_of hc
  have hm60 : ms.length ≤ 60 := marksB_len (toldB_of htd).1
  have HMV := hidP hv
  have HCS := hidP hcs
  have HCT := hidP hct
  have HC := hidP hc
  have hmk := run_make_rows (P := Try.prog) 48 54 (.agg #[.nilFunc, .nilFunc, .nilFunc]) 3 24 Try.underlying48 Try.infoG .i64 .i64 cs.length (by omega) (by omega)
  have HA0 : Hid (∀ z : Array Value, (∀ j, j < cs.length * 3 → ∃ v, (w.alloc (.cells (madeCells z (cs.length * 3)) 54)).cell? ⟨w.heap.size, j, none⟩ = some v) ∧ ∀ j, (w.alloc (.cells (madeCells z (cs.length * 3)) 54)).frozen? ⟨w.heap.size, j, none⟩ = false) := fun z =>
    ⟨fun j hj => by rw [World.cell?_alloc_at _ _ _ _ rfl]; exact ⟨_, Array.getElem?_eq_getElem (by rw [size_madeCells]; exact hj)⟩, fun j => World.frozen?_alloc_at _ _ _ _ rfl⟩
  have HL0 : Hid (∀ o, Below w.heap.size w (w.alloc o)) := fun o => (Below.refl _ _).alloc (Nat.le_refl _) o
  clear hv hcs hct hc hpr htd
  go_enter Try.func36, Try.ntmps36
  go_wp2_with fail
  clear hmk
  go_loopw [15] (fun i wr => ∃ (k : Nat) (Q : Nat → Gq) (gs : Nat → Nat), k ≤ cs.length ∧ i = .int .i64 k ∧ GAll wr w.heap.size k Q (ctrV ba oa ca cs) (gmany ms cs 0) (gcost ms cs 0) gs (gsum ms cs 0) ∧ (∀ j, k * 3 ≤ j → j < cs.length * 3 → ∃ v, wr.cell? ⟨w.heap.size, j, none⟩ = some v) ∧ (∀ j, wr.frozen? ⟨w.heap.size, j, none⟩ = false) ∧ Below w.heap.size w wr) (fun i _ => cs.length - (intOf i).toNat)
  case atStart => exact ⟨0, _, _, Nat.zero_le _, rfl, (GAll.none _ _ (by simp)).congr (fun i hi => by omega), fun j _ hj => (HA0.out _).1 j hj, (HA0.out _).2, HL0.out _⟩
  case round =>
    obtain ⟨k, Q, gs, hk, rfl, hG, hrest, hfr, L⟩ := hrel
    by_cases hlt : k < cs.length
    · obtain ⟨e1, hba, hsa⟩ := HCT.out k hlt
      have e1' := (L.cell (p := ⟨b', off' + k, none⟩) hb').trans e1
      have hl4 := okB_len (ctrs_len HC.out hlt).1
      have HGA := hidP (iGat (some ⟨ba k, oa k, none⟩) (ca k) (cn cs k) wr hl4.2)
      have HP := hidP (And.intro hG (And.intro hrest (And.intro hfr L)))
      have hi0 : (0 : Int) ≤ (k : Int) := Int.natCast_nonneg _
      have hi1 : (k : Int) < (cs.length : Int) := by omega
      have hAl := hG.lt
      unfold ctrV at e1'
      clear e1 hsa hG hrest hfr L
      go_wp2_with fail
      refine HGA.out.mono ?_
      rintro e w1 ⟨q, g, rfl, hq, hnd, hup, L1⟩
      obtain ⟨hG, hrest, hfr, L⟩ := HP.out
      have cel : ∀ j, k * 3 ≤ j → j < cs.length * 3 → ∃ v, w1.cell? ⟨w.heap.size, j, none⟩ = some v := fun j hj1 hj2 => by
        obtain ⟨v, hv⟩ := hrest j hj1 hj2
        exact ⟨v, (L1.cell (p := ⟨w.heap.size, j, none⟩) hAl).trans hv⟩
      have fro : ∀ j, w1.frozen? ⟨w.heap.size, j, none⟩ = false := fun j => (L1.frozen (p := ⟨w.heap.size, j, none⟩) hAl).trans (hfr j)
      obtain ⟨v0, x0⟩ := cel (k * 3) (Nat.le_refl _) (by omega)
      obtain ⟨v1, x1⟩ := cel (k * 3 + 1) (by omega) (by omega)
      obtain ⟨v2, x2⟩ := cel (k * 3 + 2) (by omega) (by omega)
      have y0 := fro (k * 3)
      have y1 := fro (k * 3 + 1)
      have y2 := fro (k * 3 + 2)
      have hsn := hG.snoc L1 hq hnd hup (fun j hj => cel (k * 3 + j) (by omega) (by omega))
      have HSN := hidP (hsn.congr (ctr' := ctrV ba oa ca cs) (many' := gmany ms cs 0) (cost' := gcost ms cs 0) (S' := gsum ms cs 0) (fun i hi => by
        by_cases e : i = k
        · subst e
          simp only [upd_same]
          exact ⟨rfl, rfl, rfl, (gsum_zero ms cs i).symm⟩
        · simp only [upd_other _ _ e]
          exact ⟨trivial, trivial, trivial, trivial⟩))
      have HR : Hid ((∀ j, k * 3 ≤ j → j < cs.length * 3 → ∃ v, w1.cell? ⟨w.heap.size, j, none⟩ = some v) ∧ (∀ j, w1.frozen? ⟨w.heap.size, j, none⟩ = false) ∧ Below w.heap.size w w1) := ⟨cel, fro, chain L L1⟩
      clear hG hrest hfr L cel fro hsn hq hnd hup L1 HP HGA
      unfold gatV addV cstV menV at *
      go_wp2_with fail
      go_roundw
      case rel =>
        refine ⟨k + 1, _, _, by omega, by go_num, HSN.out, fun j hj1 hj2 => ?_, fun j => ?_, ?_⟩
        · obtain ⟨v, hv⟩ := HR.out.1 j (by omega) hj2
          exact ⟨v, by rw [cell_setOther _ _ _ _ _ (by omega), cell_setOther _ _ _ _ _ (by omega), cell_setOther _ _ _ _ _ (by omega)]; exact hv⟩
        · rw [World.frozen?_setCell, World.frozen?_setCell, World.frozen?_setCell]; exact HR.out.2.1 j
        · exact ((HR.out.2.2.setCell (by simp) _).setCell (by simp) _).setCell (by simp) _
      case measure => simp [intOf]; omega
    · obtain rfl : k = cs.length := by omega
      have HG0 := hidP (And.intro hG L)
      clear hG hrest hfr L
      go_wp2_with fail
      go_loopw [28] (fun i wz => ∃ (j : Nat) (gs : Nat → Nat), j ≤ ms.length ∧ i = .int .i64 j ∧ GAll wz w.heap.size cs.length Q (ctrV ba oa ca cs) (gmany ms cs j) (gcost ms cs j) gs (gsum ms cs j) ∧ Below w.heap.size w wz) (fun i _ => ms.length - (intOf i).toNat)
      case atStart => exact ⟨0, gs, Nat.zero_le _, rfl, HG0.out.1, HG0.out.2⟩
      case round =>
        obtain ⟨j, gs', hj, rfl, hG, L⟩ := hrel
        by_cases hjl : j < ms.length
        · obtain ⟨b, off, rfl, hb, hs⟩ := MSeg.seg HMV.out (by omega)
          obtain ⟨hc0, ae, ce, hc1, hve⟩ := hs.at hjl
          have hmk := ctrs_mark HC.out hjl
          obtain ⟨bp, op, rfl, hbp, hsp⟩ : ∃ b off, ae = some ⟨b, off, none⟩ ∧ b < w.heap.size ∧ Seg w b off (mat ms j) := by
            rcases hve with h | h
            · have := okB_len hmk.1; rw [h] at this; simp at this
            · exact h
          have hgl := givN_lt (ms := ms) h1 j
          obtain ⟨-, hbG, hsG⟩ := HCT.out (givN ms cs j) hgl
          have hd0 := (L.cell (p := ⟨b, off + j * 2, none⟩) hb).trans hc0
          have hd1 := (L.cell (p := ⟨b, off + j * 2 + 1, none⟩) hb).trans hc1
          obtain ⟨W, hW⟩ : ∃ W, W = wr.alloc (.cells #[.int .i64 (mid ms j), .slice (some ⟨bp, op, none⟩) (mat ms j).length ce] 37) := ⟨_, rfl⟩
          have LW0 : Below wr.heap.size wr W := by rw [hW]; exact alloc_below wr _
          have LW := chain L LW0
          have GW := hG.below LW0
          have hmb : wr.heap.size < W.heap.size := by rw [hW]; simp
          have cm : W.cell? ⟨wr.heap.size, 1, none⟩ = some (.slice (some ⟨bp, op, none⟩) (mat ms j).length ce) := by rw [hW]; go_simp
          have cA := (GW.cells (givN ms cs j) hgl).1
          have HN := hidP (iNearest (some ⟨bp, op, none⟩) (some ⟨b', off', none⟩) ce cap' (mat ms j) cs W.drew ((hve.next LW).drew) (Or.inr ⟨b', off', rfl, Nat.lt_of_lt_of_le hb' LW.size, HCS.out.below hb' (Nat.le_refl _) LW.drew⟩) h1 h8 (fun i hi => ctrs_two HC.out hi hjl))
          have HGE : Hid (givI cs (mat ms j) cs.length = givN ms cs j) := rfl
          rw [HGE.out] at HN
          have hupG := GW.up (givN ms cs j) hgl
          have hA : w.heap.size < W.heap.size := GW.lt
          have HADD : Hid (∀ w5, Below W.heap.size W w5 → Calls Try.prog 70 #[.slice (some ⟨bp, op, none⟩) (mat ms j).length ce, ptrV (Q (givN ms cs j)).2.1, ptrV (Q (givN ms cs j)).2.2.1, ptrV (Q (givN ms cs j)).1, ptrV (Q (givN ms cs j)).2.2.2] w5 fun e w' => e = .returned (.tuple #[]) ∧ ∃ g', GatAt w' (Q (givN ms cs j)) (ctrV ba oa ca cs (givN ms cs j)) (gmany ms cs j (givN ms cs j) + 1) (gcost ms cs j (givN ms cs j) + farV (cn cs (givN ms cs j)) (mat ms j)) g' (tabL (plusF (gsum ms cs j (givN ms cs j)) (mat ms j)) (cn cs (givN ms cs j)).length) ∧ w5.heap.size ≤ g' ∧ ChgQ [(Q (givN ms cs j)).2.1, (Q (givN ms cs j)).2.2.1, (Q (givN ms cs j)).2.2.2] w5 w') := fun w5 L5 => by
            have L5w := chain LW L5
            have hcb := cntG_bd (givN ms cs) (givN ms cs j) j
            have hkb := gcost_bd HC.out hgl j (by omega)
            refine iAdd (Q (givN ms cs j)) (ba (givN ms cs j)) (oa (givN ms cs j)) (ca (givN ms cs j)) bp op ce _ _ _ _ _ _ w5 ((GW.below L5).here _ hgl) ((GW.below L5).both hgl) (hsG.below hbG L5w) (Nat.lt_of_lt_of_le hbG L5w.size) (fun hm => by have := hupG _ hm; omega) (hsp.below hbp L5w) (Nat.lt_of_lt_of_le hbp L5w.size) (fun hm => by have := hupG _ hm; omega) ?_ (gsum_length ms cs j _) hcb.1 (by show cntG _ _ _ ≤ 60; omega) hkb.1 (by omega) (fun k => by have := gsum_bd HC.out (givN ms cs j) j (by omega) k; omega)
            have := ctrs_two HC.out hgl hjl
            obtain ⟨x1, x2, x3⟩ := twoB_of this
            exact twoB_true x2 x1 x3.symm
          have HK5 : Hid (∀ w5, Below W.heap.size W w5 → w5.cell? ⟨wr.heap.size, 1, none⟩ = some (.slice (some ⟨bp, op, none⟩) (mat ms j).length ce) ∧ w5.cell? ⟨w.heap.size, givN ms cs j * 3, none⟩ = some (addV (Q (givN ms cs j)))) := fun w5 L5 =>
            ⟨(L5.cell (p := ⟨wr.heap.size, 1, none⟩) hmb).trans cm, (L5.cell (p := ⟨w.heap.size, givN ms cs j * 3, none⟩) hA).trans cA⟩
          have HK6 : Hid (∀ w5 w6, Below W.heap.size W w5 → ChgQ [(Q (givN ms cs j)).2.1, (Q (givN ms cs j)).2.2.1, (Q (givN ms cs j)).2.2.2] w5 w6 → w6.cell? ⟨wr.heap.size, 1, none⟩ = some (.slice (some ⟨bp, op, none⟩) (mat ms j).length ce) ∧ w6.cell? ⟨w.heap.size, givN ms cs j * 3, none⟩ = some (addV (Q (givN ms cs j)))) := fun w5 w6 L5 C6 => by
            obtain ⟨k1, k2⟩ := HK5.out w5 L5
            have hold := (hG.here (givN ms cs j) hgl).lts
            have hsub : ∀ b, b ∈ [(Q (givN ms cs j)).2.1, (Q (givN ms cs j)).2.2.1, (Q (givN ms cs j)).2.2.2] → b ∈ gatL (Q (givN ms cs j)) := fun b hb => by simp [gatL] at hb ⊢; omega
            exact ⟨(World.cell?_of_block (w := w5) (a := ⟨wr.heap.size, 1, none⟩) (C6.2.2.2.2 _ (Nat.lt_of_lt_of_le hmb L5.size) (fun hm => by have hq : wr.heap.size < wr.heap.size := hold _ (hsub _ hm); omega))).trans k1,
              (World.cell?_of_block (w := w5) (a := ⟨w.heap.size, givN ms cs j * 3, none⟩) (C6.2.2.2.2 _ (Nat.lt_of_lt_of_le hA L5.size) (fun hm => by have hq : w.heap.size < w.heap.size := hupG _ (hsub _ hm); omega))).trans k2⟩
          have HEND : Hid (∀ w5 w6 g', Below W.heap.size W w5 → GatAt w6 (Q (givN ms cs j)) (ctrV ba oa ca cs (givN ms cs j)) (gmany ms cs j (givN ms cs j) + 1) (gcost ms cs j (givN ms cs j) + farV (cn cs (givN ms cs j)) (mat ms j)) g' (tabL (plusF (gsum ms cs j (givN ms cs j)) (mat ms j)) (cn cs (givN ms cs j)).length) → w5.heap.size ≤ g' → ChgQ [(Q (givN ms cs j)).2.1, (Q (givN ms cs j)).2.2.1, (Q (givN ms cs j)).2.2.2] w5 w6 →
              GAll w6 w.heap.size cs.length Q (ctrV ba oa ca cs) (gmany ms cs (j + 1)) (gcost ms cs (j + 1)) (upd gs' (givN ms cs j) g') (gsum ms cs (j + 1)) ∧ Below w.heap.size w w6) := fun w5 w6 g' L5 G6 hg6 C6 => by
            refine ⟨((GW.below L5).add hgl G6 hg6 C6).congr (fun i hi => ?_), below_chgQ (chain LW L5) C6 (Nat.le_refl _) (fun b hb => ?_)⟩
            · by_cases e : i = givN ms cs j
              · subst e
                rw [upd_same, upd_same, upd_same, gsum_succ, if_pos rfl]
                refine ⟨rfl, ?_, ?_, rfl⟩
                · show _ = cntG _ _ (j + 1); simp [cntG, gmany]
                · show _ = sumG _ _ _ (j + 1); simp [sumG, gcost, gfar]
              · have e' : ¬ givN ms cs j = i := fun h => e h.symm
                rw [upd_other _ _ e, upd_other _ _ e, upd_other _ _ e, gsum_succ, if_neg e']
                refine ⟨rfl, ?_, ?_, rfl⟩
                · show _ = cntG _ _ (j + 1); simp [cntG, gmany, e']
                · show _ = sumG _ _ _ (j + 1); simp [sumG, gcost, e']
            · have := hupG b (by simp [gatL] at hb ⊢; omega)
              omega
          have hi0 : (0 : Int) ≤ (j : Int) := Int.natCast_nonneg _
          have hi1 : (j : Int) < (ms.length : Int) := by omega
          have hj0 : (0 : Int) ≤ (givN ms cs j : Int) := Int.natCast_nonneg _
          have hj1 : (givN ms cs j : Int) < (cs.length : Int) := by omega
          clear hs hve hmk hsp hsG hG L LW0 LW GW hc0 hc1 hupG HGE
          generalize givN ms cs j = y at *
          unfold addV at *
          go_upto_region 10 with fail
          rw [← hW]
          clear hW hd0 hd1
          go_region_held3 (fun w' => w'.cell? ⟨wr.heap.size, 1, none⟩ = some (.slice (some ⟨bp, op, none⟩) (mat ms j).length ce) ∧ w'.cell? ⟨w.heap.size, y * 3, none⟩ = some (.func (.func 70) #[] #[ptrV (Q y).2.1, ptrV (Q y).2.2.1, ptrV (Q y).1, ptrV (Q y).2.2.2]))
            (first
              | exact HK5.out _ ((Below.refl _ W).drew)
              | exact HK5.out _ L5
              | exact HK6.out _ _ L5 C6)
            (first
              | (go_at_call 37; refine HN.out.mono ?_; rintro e w5 ⟨rfl, L5'⟩; have L5 : Below W.heap.size W w5 := ((Below.refl _ W).drew).trans L5')
              | (go_at_call 70; refine (HADD.out w5 L5).mono ?_; rintro e w6 ⟨rfl, g', G6, hg6, C6⟩))
          have HE := hidP (HEND.out _ _ _ L5 G6 hg6 C6)
          clear HEND HK5 HK6 HADD HN L5 L5' G6 hg6 C6 cm cA
          simp only [Exit.then, Exit.inBlock]
          go_wp2_with fail
          go_roundw
          case rel => exact ⟨j + 1, _, by omega, by go_num, HE.out.1, HE.out.2⟩
          case measure => simp [intOf]; omega
        · obtain rfl : j = ms.length := by omega
          have HG1 := hidP (And.intro hG L)
          clear hG L
          go_wp2_with fail
          go_ret
          exact ⟨w.heap.size, Q, gs', rfl, HG1.out.1, Nat.le_refl _, HG1.out.2⟩

end Go.Proofs.Ythcjkneifkmkdaa
namespace Go.Proofs.Ythcjkneifkmkdaa
open Go Go.RowKit

theorem cost_all {ms : List Mk} {cs : List (List Int)} (h : ctrsB ms cs = true) : sumTo (gcost ms cs ms.length) cs.length = costV ms cs := by
  have h1 := (ctrsB_of h).1
  rw [costV, if_pos h]
  have e := sumG_all (givN ms cs) (gfar ms cs) cs.length ms.length (fun j _ => givN_lt h1 j)
  rw [show sumTo (gcost ms cs ms.length) cs.length = sumTo (fun i => sumG (givN ms cs) (gfar ms cs i) i ms.length) cs.length from rfl, ← e]
  refine sumTo_congr _ _ _ (fun j _ => ?_)
  show farV _ _ = farV _ _
  rw [farV_comm]
theorem gmean_shift (ms : List Mk) (cs : List (List Int)) (i : Nat) : gmean (cn cs i) (gsum ms cs ms.length i) (gmany ms cs ms.length i) = shiftP ms cs i := by
  unfold gmean gmany
  split
  · rename_i h
    unfold shiftP
    have : shiftF ms cs i = nth (cn cs i) := by funext k; simp only [shiftF]; rw [if_pos h]
    rw [this, tabL_list]
  · rename_i h
    rw [gsum_length]
    unfold shiftP
    apply eq_of_nth
    · simp [tabL_length]
    · intro k hk
      rw [tabL_length] at hk
      rw [tabL_getD _ _ _ hk, tabL_getD _ _ _ hk]
      show meanN (nth (gsum ms cs ms.length i) k) _ = shiftF ms cs i k
      rw [gsum, tabL_getD _ _ _ hk, shiftF, if_neg h]
      rfl

set_option maxRecDepth 100000 in
set_option maxHeartbeats 1000000 in
theorem iGiven_no (ao ao' : Option Addr) (cap cap' : Nat) (ms : List Mk) (cs : List (List Int)) (w : World) (hv : MView w ao ms) (hv' : CView w ao' cs) (hsm : MSmall ms) (hcm : CSmall cs) (hc : ctrsB ms cs = false) :
    Calls Try.prog 11 #[.slice ao ms.length cap, .slice ao' cs.length cap'] w fun e w' => e = .returned (.slice none 0 0) ∧ Below w.heap.size w w' := by
  have HT := hidP (iCtr ao ao' cap cap' ms cs w hv hv' hsm hcm)
  rw [hc] at HT
  go_enter Try.func11, Try.ntmps11
  go_wp2_with fail
  refine HT.out.mono ?_
  rintro e w1 ⟨rfl, L1⟩
  go_wp2_with fail
  go_ret
  exact ⟨rfl, L1⟩

set_option maxRecDepth 100000 in
set_option maxHeartbeats 1000000 in
theorem iGiven_nil (ao ao' : Option Addr) (cap cap' : Nat) (cs : List (List Int)) (w : World) (hv' : CView w ao' cs) (hcm : CSmall cs) (hc : ctrsB [] cs = true) :
    Calls Try.prog 11 #[.slice ao 0 cap, .slice ao' cs.length cap'] w fun e w' => ∃ g, e = .returned (.slice (some ⟨g, 0, none⟩) 0 0) ∧ Own w' g [] ∧ w.heap.size ≤ g ∧ Below w.heap.size w w' := by
  have HT := hidP (iCtr ao ao' cap cap' [] cs w (Or.inl rfl) hv' ⟨by simp, fun i => by simp [mat]⟩ hcm)
  rw [hc] at HT
  have hmk : ∀ w, (Instr.makeSlice 29 (.int .i64 0) (.int .i64 0)).run Try.prog w = .ok (.slice (some ⟨w.heap.size, 0, none⟩) 0 0) (w.alloc (.cells #[] 2)) := fun _ => by kernel_rfl
  go_enter Try.func11, Try.ntmps11
  go_wp2_with fail
  refine HT.out.mono ?_
  rintro e w1 ⟨rfl, L1⟩
  have HP : Hid (Own (w1.alloc (.cells #[] 2)) w1.heap.size [] ∧ Below w.heap.size w (w1.alloc (.cells #[] 2))) := ⟨Own.new w1 [], L1.alloc L1.size _⟩
  have hz := L1.size
  clear L1
  go_wp2_with fail
  clear hmk
  refine wp_loop_rounds 1 ?_
  rw [rounds_succ]
  go_wp2
  go_ret
  exact ⟨w1.heap.size, rfl, HP.out.1, hz, HP.out.2⟩

set_option maxRecDepth 100000 in
set_option maxHeartbeats 2000000 in
theorem iGiven_in (b off : Nat) (ao' : Option Addr) (cap cap' : Nat) (ms : List Mk) (cs : List (List Int)) (w : World) (hb : b < w.heap.size) (hs : MSeg w b off ms) (hv' : CView w ao' cs) (hsm : MSmall ms) (hcm : CSmall cs) (hc : ctrsB ms cs = true) :
    Calls Try.prog 11 #[.slice (some ⟨b, off, none⟩) ms.length cap, .slice ao' cs.length cap'] w fun e w' => ∃ g, e = .returned (.slice (some ⟨g, 0, none⟩) ms.length ms.length) ∧ Own w' g (tabL (givF ms cs) ms.length) ∧ w.heap.size ≤ g ∧ Below w.heap.size w w' := by
  have HT := hidP (iCtr (some ⟨b, off, none⟩) ao' cap cap' ms cs w (Or.inr ⟨b, off, rfl, hb, hs⟩) hv' hsm hcm)
  rw [hc] at HT
  have hm60 : ms.length ≤ 60 := marksB_len (toldB_of (ctrsB_of hc).2.2.2).1
  obtain ⟨h1, h8, -, -⟩ := ctrsB_of hc
  have hmk := run_make_row' (P := Try.prog) 29 2 (.int .i64 0) 8 Try.underlying29 Try.info2 rfl .i64 .i64 ms.length (by omega) (by omega)
  have HC := hidP hc
  have HS := hidP hs
  have HCV := hidP hv'
  clear hc hs hv'
  go_enter Try.func11, Try.ntmps11
  go_wp2_with fail
  refine HT.out.mono ?_
  rintro e w1 ⟨rfl, L1⟩
  obtain ⟨V, hV⟩ : ∃ V, V = w1.heap.size := ⟨_, rfl⟩
  have HP : Hid ((w1.alloc (.cells (filled (givF ms cs) ms.length 0) 2)).heap[V]? = some (.cells (filled (givF ms cs) ms.length 0) 2) ∧ Below w.heap.size w (w1.alloc (.cells (filled (givF ms cs) ms.length 0) 2))) := ⟨by rw [hV]; exact heap_alloc_new w1 _, L1.alloc L1.size _⟩
  have hz : w.heap.size ≤ V := by rw [hV]; exact L1.size
  rw [← filled_zero (givF ms cs) ms.length] at hmk
  clear L1 HT
  go_wp2_with fail
  rw [← hV]
  clear hmk hV
  go_loopw [17] (fun i wr => ∃ k : Nat, k ≤ ms.length ∧ i = .int .i64 k ∧ wr.heap[V]? = some (.cells (filled (givF ms cs) ms.length k) 2) ∧ Below w.heap.size w wr) (fun i _ => ms.length - (intOf i).toNat)
  case atStart => exact ⟨0, Nat.zero_le _, rfl, HP.out.1, HP.out.2⟩
  case round =>
    obtain ⟨k, hk, rfl, ho, L⟩ := hrel
    by_cases hlt : k < ms.length
    · obtain ⟨hc0, ae, ce, hc1, hve⟩ := HS.out.at hlt
      have hd0 := (L.cell (p := ⟨b, off + k * 2, none⟩) hb).trans hc0
      have hd1 := (L.cell (p := ⟨b, off + k * 2 + 1, none⟩) hb).trans hc1
      have hlw : V < wr.heap.size := (Array.getElem?_eq_some_iff.1 ho).1
      have hnext := filled_next (givF ms cs) ms.length k hlt
      obtain ⟨W, hW⟩ : ∃ W, W = wr.alloc (.cells #[.int .i64 (mid ms k), .slice ae (mat ms k).length ce] 37) := ⟨_, rfl⟩
      have ho2 : W.heap[V]? = some (.cells (filled (givF ms cs) ms.length k) 2) := by rw [hW]; exact (Below.heap_alloc _ _ _ hlw).trans ho
      have L2 : Below w.heap.size w W := by rw [hW]; exact L.alloc L.size _
      have cm : W.cell? ⟨wr.heap.size, 1, none⟩ = some (.slice ae (mat ms k).length ce) := by rw [hW]; go_simp
      have HN := hidP (iNearest ae ao' ce cap' (mat ms k) cs W (hve.next L2) (HCV.out.next L2) h1 h8 (fun i hi => ctrs_two HC.out hi hlt))
      have HGE : Hid (((givI cs (mat ms k) cs.length : Nat) : Int) = givF ms cs k) := rfl
      rw [HGE.out] at HN
      have HF := hidP (filled_set (givF ms cs) ms.length k hlt)
      have HO := hidP ho2
      have HL := hidP L2
      have hWV : V < W.heap.size := (Array.getElem?_eq_some_iff.1 ho2).1
      have hi0 : (0 : Int) ≤ (k : Int) := Int.natCast_nonneg _
      have hi1 : (k : Int) < (ms.length : Int) := by omega
      clear ho L ho2 L2 hve hc0 hc1 HGE
      generalize givF ms cs k = y at *
      go_upto_region 7 with fail
      rw [← hW]
      clear hW hd0 hd1
      go_wp2_with fail
      refine HN.out.mono ?_
      rintro e w2 ⟨rfl, L2⟩
      have ho2 := (L2.block V hWV).trans HO.out
      have e1 : w2.cell? ⟨V, k, none⟩ = some (.int .i64 0) := by simp [World.cell?, ho2, hnext]
      have e2 : w2.frozen? ⟨V, k, none⟩ = false := by simp [World.frozen?, ho2]
      have HO2 := hidP ho2
      have HL2 := hidP (chain HL.out L2)
      clear ho2 L2 HN cm hnext
      go_wp2_with fail
      go_roundw
      case rel =>
        refine ⟨k + 1, by omega, by go_num, ?_, HL2.out.setCell (p := ⟨V, k, none⟩) hz _⟩
        rw [← HF.out]
        exact heap_setCell_same w2 V k _ 2 _ HO2.out
      case measure => simp [intOf]; omega
    · obtain rfl : k = ms.length := by omega
      rw [filled_all] at ho
      have HE := hidP (And.intro ho L)
      clear ho L
      go_wp2
      go_ret
      exact ⟨V, rfl, HE.out.1, hz, HE.out.2⟩

/-- Given: nothing, or a row of its own. -/
theorem iGiven (ao ao' : Option Addr) (cap cap' : Nat) (ms : List Mk) (cs : List (List Int)) (w : World) (hv : MView w ao ms) (hv' : CView w ao' cs) (hsm : MSmall ms) (hcm : CSmall cs) :
    Calls Try.prog 11 #[.slice ao ms.length cap, .slice ao' cs.length cap'] w fun e w' => ∃ a c, e = .returned (.slice a (givenL ms cs).length c) ∧ IOut w.heap.size w' (.slice a (givenL ms cs).length c) (givenL ms cs) ∧ Below w.heap.size w w' := by
  rcases hc : ctrsB ms cs with _ | _
  · refine (iGiven_no ao ao' cap cap' ms cs w hv hv' hsm hcm hc).mono ?_
    rintro e w' ⟨rfl, L⟩
    have e : givenL ms cs = [] := by rw [givenL, hc]; rfl
    rw [e]
    exact ⟨none, 0, rfl, Or.inl ⟨rfl, rfl⟩, L⟩
  · have e : givenL ms cs = tabL (givF ms cs) ms.length := by rw [givenL, if_pos hc]
    have hm60 : ms.length ≤ 60 := marksB_len (toldB_of (ctrsB_of hc).2.2.2).1
    rcases hv with rfl | ⟨b, off, rfl, hb, hs⟩
    · refine (iGiven_nil ao ao' cap cap' cs w hv' hcm hc).mono ?_
      rintro e' w' ⟨g, rfl, o, hg, L⟩
      rw [e]
      exact ⟨some ⟨g, 0, none⟩, 0, rfl, Or.inr ⟨g, 0, rfl, o.irow hg (Nat.zero_le _)⟩, L⟩
    · refine (iGiven_in b off ao' cap cap' ms cs w hb hs hv' hsm hcm hc).mono ?_
      rintro e' w' ⟨g, rfl, o, hg, L⟩
      have ho := o.out (base := w.heap.size) hg (by rw [tabL_length]; unfold maxLen; omega)
      rw [tabL_length] at ho
      rw [e, tabL_length]
      exact ⟨some ⟨g, 0, none⟩, ms.length, rfl, ho, L⟩

set_option maxRecDepth 100000 in
set_option maxHeartbeats 2000000 in
theorem iCost (ao ao' : Option Addr) (cap cap' : Nat) (ms : List Mk) (cs : List (List Int)) (w : World) (hv : MView w ao ms) (hv' : CView w ao' cs) (hsm : MSmall ms) (hcm : CSmall cs) :
    Calls Try.prog 17 #[.slice ao ms.length cap, .slice ao' cs.length cap'] w fun e w' => e = .returned (.int .i64 (costV ms cs)) ∧ Below w.heap.size w w' := by
  have HT := hidP (iCtr ao ao' cap cap' ms cs w hv hv' hsm hcm)
  rcases hc : ctrsB ms cs with _ | _
  · have HV : Hid (costV ms cs = -1) := by show _ = _; rw [costV, hc]; rfl
    rw [HV.out]
    rw [hc] at HT
    go_enter Try.func17, Try.ntmps17
    go_wp2_with fail
    refine HT.out.mono ?_
    rintro e w1 ⟨rfl, L1⟩
    go_wp2_with fail
    go_ret
    exact ⟨rfl, L1⟩
  · rw [hc] at HT
    obtain ⟨h1, h8, -, -⟩ := ctrsB_of hc
    have hm60 : ms.length ≤ 60 := marksB_len (toldB_of (ctrsB_of hc).2.2.2).1
    obtain ⟨b', off', rfl, hb', hs'⟩ := hv'.seg (by omega)
    obtain ⟨ba, oa, ca, hct⟩ := ctr_at hs' (fun i hi => (okB_len (ctrs_len hc hi).1).1)
    have HG : Hid (∀ w1, Below w.heap.size w w1 → Calls Try.prog 36 #[.slice ao ms.length cap, .slice (some ⟨b', off', none⟩) cs.length cap'] w1 fun e w' => ∃ A Q gs, e = .returned (.slice (some ⟨A, 0, none⟩) cs.length cs.length) ∧ GAll w' A cs.length Q (ctrV ba oa ca cs) (gmany ms cs ms.length) (gcost ms cs ms.length) gs (gsum ms cs ms.length) ∧ w1.heap.size ≤ A ∧ Below w1.heap.size w1 w') := fun w1 L1 =>
      iGath ao b' off' cap cap' ba oa ca ms cs w1 (hv.next L1) (Nat.lt_of_lt_of_le hb' L1.size) (hs'.below hb' (Nat.le_refl _) L1) (fun i hi => by
        obtain ⟨x1, x2, x3⟩ := hct i hi
        exact ⟨(L1.cell (p := ⟨b', off' + i, none⟩) hb').trans x1, Nat.lt_of_lt_of_le x2 L1.size, x3.below x2 L1⟩) hc
    have HCA := hidP (cost_all hc)
    have HB : Hid (∀ i, i < cs.length → 0 ≤ gcost ms cs ms.length i ∧ gcost ms cs ms.length i ≤ 960000000) := fun i hi => by have := gcost_bd hc hi ms.length (Nat.le_refl _); omega
    have HSB : Hid (∀ k, k ≤ cs.length → 0 ≤ sumTo (gcost ms cs ms.length) k ∧ sumTo (gcost ms cs ms.length) k ≤ 960000000 * (k : Int)) := fun k => by
      induction k with
      | zero => intro _; simp [sumTo]
      | succ k ih => intro hk; have := ih (by omega); have := HB.out k (by omega); simp only [sumTo]; omega
    clear hv hv' hs' hct hc
    rw [← HCA.out]
    go_enter Try.func17, Try.ntmps17
    go_wp2_with fail
    refine HT.out.mono ?_
    rintro e w1 ⟨rfl, L1⟩
    have HL1 := hidP L1
    clear L1 HT
    go_wp2_with fail
    refine (HG.out w1 HL1.out).mono ?_
    rintro e w2 ⟨A, Q, gs, rfl, G2, hA, L2⟩
    have HG2 := hidP (And.intro G2 (chain HL1.out L2))
    clear G2 L2 HG HL1
    go_wp2_with fail
    go_loopw [5, 16] (fun v i wr => ∃ k : Nat, k ≤ cs.length ∧ i = .int .i64 k ∧ v = .int .i64 (sumTo (gcost ms cs ms.length) k) ∧ Below w2.heap.size w2 wr) (fun _ i _ => cs.length - (intOf i).toNat)
    case atStart => exact ⟨0, Nat.zero_le _, rfl, rfl, Below.refl _ _⟩
    case round =>
      obtain ⟨k, hk, rfl, rfl, L⟩ := hrel
      have hsb := HSB.out k hk
      by_cases hlt : k < cs.length
      · have GW := HG2.out.1.below L
        obtain ⟨x0, x1, x2⟩ := GW.cells k hlt
        have hg := HB.out k hlt
        have hAl := GW.lt
        obtain ⟨W, hW⟩ : ∃ W, W = wr.alloc (.cells #[addV (Q k), cstV (Q k), menV (Q k)] 54) := ⟨_, rfl⟩
        have LW : Below wr.heap.size wr W := by rw [hW]; exact alloc_below wr _
        have HLW := hidP (chain L LW)
        have cm : W.cell? ⟨wr.heap.size, 1, none⟩ = some (cstV (Q k)) := by rw [hW]; go_simp
        obtain ⟨k1, -⟩ := one_cell ((GW.below LW).here k hlt).hcost
        have HF := hidP (iCstFn (Q k).2.2.1 (gcost ms cs ms.length k) W k1)
        have HN : Hid (sumTo (gcost ms cs ms.length) (k + 1) = sumTo (gcost ms cs ms.length) k + gcost ms cs ms.length k) := rfl
        have hi0 : (0 : Int) ≤ (k : Int) := Int.natCast_nonneg _
        have hi1 : (k : Int) < (cs.length : Int) := by omega
        clear GW L LW k1
        generalize gcost ms cs ms.length k = y at *
        unfold addV cstV menV at *
        go_upto_region 7 with fail
        rw [← hW]
        clear hW x0 x1 x2
        go_wp2_with fail
        refine HF.out.mono ?_
        rintro e w3 ⟨rfl, hw3⟩
        subst w3
        go_wp2_with fail
        go_roundw
        case rel => exact ⟨k + 1, by omega, by go_num, by rw [HN.out], HLW.out⟩
        case measure => simp [intOf]; omega
      · obtain rfl : k = cs.length := by omega
        have HE := hidP (chain HG2.out.2 L)
        clear L
        go_wp2_with fail
        go_ret
        exact ⟨rfl, HE.out⟩

end Go.Proofs.Ythcjkneifkmkdaa
