/-
  The program's own heaped and hitsOf.
  The program's own countOk, suits, Nearest and Within.
  Found: the given one and the program's.
-/
import Derived.Test.YtodielfilhodeaaGreatHM5Zz
import Derived.Test.YtodielfilhodeaaGreatCopyZz
import Derived.Test.YtodielfilhodeaaGreatMCopyZz
import Derived.Test.YtodielfilhodeaaGreatMRowZz
import Derived.Deep.RegionWith
import Derived.Test.YtodielfilhodeaaGreatNearZz
import Derived.Test.YtodielfilhodeaaGreatKLkLZz
namespace Go.Proofs.YtodielfilhodeaaGreat
open Go Go.RowKit

set_option maxHeartbeats 1000000 in
theorem iHeaped (base g c : Nat) (l : List Ht) (w : World) (h : HRow base w g c l) (hl : l.length ≤ 1048576) :
    Calls Tryz.prog 135 #[.slice (some ⟨g, 0, none⟩) l.length c] w fun e w' => e = .returned (.pointer (some ⟨w.heap.size, 0, none⟩)) ∧ ∃ l', HAt base w' w.heap.size g c l' ∧ w.grownBy w' (some g) ∧ l'.Perm l ∧ HeapN l' l'.length := by
  have hB := (Below.refl w.heap.size w).alloc (Nat.le_refl _) (.cells #[.slice (some ⟨g, 0, none⟩) l.length c] 164)
  have hg := h.lt.2
  have hA : HAt base (w.alloc (.cells #[.slice (some ⟨g, 0, none⟩) l.length c] 164)) w.heap.size g c l := ⟨by omega, by unfold World.alloc; simp only [Array.getElem?_push_size], h.below (Nat.le_refl _) hB⟩
  have HI := hidP (iInit base w.heap.size g c l _ hA hl)
  have HB := hidP hB
  clear h hB hA
  go_enter Tryz.func135, Tryz.ntmps135
  go_wp2_with fail
  refine HI.out.mono ?_
  rintro e w2 ⟨rfl, l2, h2, hg2, hp2, hh2⟩
  go_wp2
  go_ret
  exact ⟨rfl, l2, h2, ⟨hg2.os, hg2.tape, hg2.output, Nat.le_trans HB.out.size hg2.size, fun i hi hne => (hg2.block i (Nat.lt_of_lt_of_le hi HB.out.size) hne).trans (HB.out.block i hi)⟩, hp2, hh2⟩

set_option maxHeartbeats 1000000 in
theorem iHeaped0 (w : World) :
    Calls Tryz.prog 135 #[.slice none 0 0] w fun e w' => e = .returned (.pointer (some ⟨w.heap.size, 0, none⟩)) ∧ w' = w.alloc (.cells #[.slice none 0 0] 164) := by
  have HI := hidP (iInit0 w.heap.size (w.alloc (.cells #[.slice none 0 0] 164)) (by simp))
  go_enter Tryz.func135, Tryz.ntmps135
  go_wp2_with fail
  refine HI.out.mono ?_
  rintro e w2 ⟨rfl, rfl⟩
  go_wp2
  go_ret
  exact ⟨rfl, rfl⟩

theorem hitsL_at (ms : List Mk) (q : List Int) (k : Nat) (hk : k < ms.length) : hnth (hitsL ms q) k = (mid ms k, farV (mat ms k) q) := by
  simp [hnth, hitsL, hk, hitF, mid, mat, List.getD]

set_option maxRecDepth 100000 in
set_option maxHeartbeats 2000000 in
theorem iHitsOf (ao ao' : Option Addr) (cap cap' : Nat) (ms : List Mk) (q : List Int) (w : World) (hv : MView w ao ms) (hv' : View w ao' q) (hsm : MSmall ms) (hq : q.length ≤ 1048576) :
    Calls Tryz.prog 96 #[.slice ao ms.length cap, .slice ao' q.length cap'] w fun e w' => ∃ p g l', e = .returned (.pointer (some ⟨p, 0, none⟩)) ∧ w.heap.size ≤ p ∧ HAt w.heap.size w' p g ms.length l' ∧ Below w.heap.size w w' ∧ l'.Perm (hitsL ms q) ∧ HeapN l' l'.length := by
  obtain ⟨hn, hat⟩ := hsm
  have hmk := run_make_rows (P := Tryz.prog) 31 89 (.agg #[.int .i64 0, .int .i64 0]) 2 16 Tryz.underlying31 Tryz.info89 .i64 .i64 ms.length (by omega) (by omega)
  have R0 := hidP (HRow.made w ms.length (by unfold maxLen; omega))
  have HLN := hidP (hitsL_length ms q)
  rw [← hitsL_length ms q, ← fillH_zero, hitsL_length ms q] at R0
  go_enter Tryz.func96, Tryz.ntmps96
  go_wp2
  clear hmk
  go_loopw [13] (fun i wr => ∃ k : Nat, k ≤ ms.length ∧ i = .int .i64 k ∧ HRow w.heap.size wr w.heap.size ms.length (fillH (hitsL ms q) k) ∧ Below w.heap.size w wr) (fun i _ => ms.length - (intOf i).toNat)
  case atStart => exact ⟨0, Nat.zero_le _, rfl, R0.out, (Below.refl _ _).alloc (Nat.le_refl _) _⟩
  case round =>
    clear R0
    obtain ⟨k, hk, rfl, hr, L⟩ := hrel
    by_cases hlt : k < ms.length
    · obtain ⟨b, off, rfl, hb, hseg⟩ := MSeg.seg hv (by omega)
      obtain ⟨hc0, ae, ce, hc1, hve⟩ := (hseg.below hb (Nat.le_refl _) L).at hlt
      have hqw := View.next hv' L
      have hi0 : (0 : Int) ≤ (k : Int) := Int.natCast_nonneg _
      have hi1 : (k : Int) < (ms.length : Int) := by omega
      have hz := L.size
      have hbw : b < wr.heap.size := by omega
      have hB := (Below.refl wr.heap.size wr).alloc (Nat.le_refl _) (.cells #[.int .i64 (mid ms k), .slice ae (mat ms k).length ce] 40)
      have HF := hidP (iFar ae ao' ce cap' (mat ms k) q (wr.alloc (.cells #[.int .i64 (mid ms k), .slice ae (mat ms k).length ce] 40)).drew (hve.next hB).drew (hqw.next hB).drew (hat k) hq)
      have hr1 := hr.below (Nat.le_refl _) hB
      have HR := hidP hr1
      have HL := hidP (L.trans (hB.mono hz))
      have hwl := hr.lt.2
      have hfl := fillH_length (hitsL ms q) k (by rw [hitsL_length]; omega)
      rw [hitsL_length] at hfl
      have HFL := hidP hfl
      have hk0 : (wr.alloc (.cells #[.int .i64 (mid ms k), .slice ae (mat ms k).length ce] 40)).cell? ⟨wr.heap.size, 0, none⟩ = some (.int .i64 (mid ms k)) := by simp
      have hk1 : (wr.alloc (.cells #[.int .i64 (mid ms k), .slice ae (mat ms k).length ce] 40)).cell? ⟨wr.heap.size, 1, none⟩ = some (.slice ae (mat ms k).length ce) := by simp
      obtain ⟨W, hW⟩ : ∃ W, W = wr.alloc (.cells #[.int .i64 (mid ms k), .slice ae (mat ms k).length ce] 40) := ⟨_, rfl⟩
      obtain ⟨e0, e1⟩ := HR.out.seg k (by omega)
      rw [Nat.zero_add] at e0 e1
      have f0 := World.ownsRow.frozenAt HR.out (k * 2)
      have f1 := World.ownsRow.frozenAt HR.out (k * 2 + 1)
      have hbl : w.heap.size < W.heap.size ∧ wr.heap.size < W.heap.size := by rw [hW]; simp; omega
      clear L hve hqw hseg hr hr1 hB hfl
      go_wp2_with fail
      rw [← hW] at HF HR HL hk0 hk1 e0 e1 f0 f1 ⊢
      clear hW
      obtain ⟨y, hy⟩ : ∃ y, y = hnth (fillH (hitsL ms q) k) k := ⟨_, rfl⟩
      rw [← hy] at e0 e1
      clear hy
      have c0 : ∀ w2, Below W.drew.heap.size W.drew w2 → (w2.cell? ⟨wr.heap.size, 0, none⟩ = some (.int .i64 (mid ms k)) ∧ w2.cell? ⟨wr.heap.size, 1, none⟩ = some (.slice ae (mat ms k).length ce)) ∧ (w2.cell? ⟨w.heap.size, k * 2, none⟩ = some (.int .i64 y.1) ∧ w2.cell? ⟨w.heap.size, k * 2 + 1, none⟩ = some (.int .i64 y.2)) ∧ (w2.frozen? ⟨w.heap.size, k * 2, none⟩ = false ∧ w2.frozen? ⟨w.heap.size, k * 2 + 1, none⟩ = false) := fun w2 L3 =>
        ⟨⟨(L3.cell (p := ⟨wr.heap.size, 0, none⟩) hbl.2).trans hk0, (L3.cell (p := ⟨wr.heap.size, 1, none⟩) hbl.2).trans hk1⟩, ⟨(L3.cell (p := ⟨w.heap.size, k * 2, none⟩) hbl.1).trans e0, (L3.cell (p := ⟨w.heap.size, k * 2 + 1, none⟩) hbl.1).trans e1⟩, ⟨(frozen_grown (w := W) hbl.1 (r := none) ⟨L3.os, L3.tape, L3.output, L3.size, fun i hi _ => L3.block i hi⟩ (by simp)).trans f0, (frozen_grown (w := W) hbl.1 (r := none) ⟨L3.os, L3.tape, L3.output, L3.size, fun i hi _ => L3.block i hi⟩ (by simp)).trans f1⟩⟩
      have CC := hidP c0
      clear c0
      go_region_with (go_at_call 134; refine HF.out.mono ?_; rintro e w2 ⟨rfl, L3⟩; obtain ⟨⟨k0, k1⟩, ⟨k2, k3⟩, k4, k5⟩ := CC.out w2 L3)
      all_goals (
        have L4 : Below W.heap.size W w2 := ⟨L3.os, L3.tape, L3.output, L3.size, L3.block⟩
        have hr2 := (HR.out.below (Nat.le_refl _) L4).store k (mid ms k, farV (mat ms k) q)
        have e5 : (fillH (hitsL ms q) k).set k (mid ms k, farV (mat ms k) q) = fillH (hitsL ms q) (k + 1) := by
          rw [← hitsL_at ms q k hlt]; exact fillH_set _ _ (by rw [hitsL_length]; exact hlt)
        rw [e5] at hr2
        have HS := hidP hr2
        have HL2 := hidP (HL.out.trans (L4.mono HL.out.size))
        clear L3 L4 hr2 e5 HR k0 k1 k2 k3 k4 k5
        go_wp2_with fail
        go_roundw
        case rel => exact ⟨k + 1, by omega, by go_num, HS.out, (HL2.out.setCell (by simp) _).setCell (by simp) _⟩
        case measure => simp [intOf]; omega)
    · clear hv hv'
      obtain rfl : k = ms.length := by omega
      have hr2 := hr
      rw [← hitsL_length ms q, fillH_all, hitsL_length] at hr2
      have HH := hidP (iHeaped w.heap.size w.heap.size ms.length (hitsL ms q) wr hr2 (by rw [hitsL_length]; exact hn))
      rw [hitsL_length] at HH
      have HL := hidP L
      have HRL := hidP hr2.lt.2
      clear hr hr2 L
      go_wp2_with fail
      refine HH.out.mono ?_
      rintro e w2 ⟨rfl, l2, h2, hg2, hp2, hh2⟩
      go_wp2
      go_ret
      exact ⟨_, _, l2, rfl, HL.out.size, h2, HL.out.grown hg2 HL.out.size (by intro k hk; cases hk; exact Nat.le_refl _), hp2, hh2⟩

end Go.Proofs.YtodielfilhodeaaGreat
namespace Go.Proofs.YtodielfilhodeaaGreat
open Go Go.RowKit

/-- What is handed out: nothing, or a row of the call's own. -/
def HOut (base : Nat) (w : World) (v : Value) (hs : List Ht) : Prop := (v = .slice none 0 0 ∧ hs = []) ∨ ∃ g c, v = .slice (some ⟨g, 0, none⟩) hs.length c ∧ HRow base w g c hs
theorem HOut.view {base : Nat} {w : World} {v : Value} {hs : List Ht} (h : HOut base w v hs) : ∃ ao c, v = .slice ao hs.length c ∧ HView w ao hs := by
  rcases h with ⟨rfl, rfl⟩ | ⟨g, c, rfl, hr⟩
  · exact ⟨none, 0, rfl, Or.inl rfl⟩
  · exact ⟨_, c, rfl, hr.view⟩
theorem onceG_all (ids : List Int) (l : List Ht) (hd : l.Pairwise (fun a b => a.1 ≠ b.1)) (hn : ∀ x ∈ l, x.1 ∉ ids) : onceG ids l = l := by
  induction l generalizing ids with
  | nil => rfl
  | cons x xs ih =>
    rw [List.pairwise_cons] at hd
    have h1 : hasB ids x.1 = false := by
      rcases hb : hasB ids x.1 with _ | _
      · rfl
      · unfold hasB at hb
        rw [List.contains_iff_mem] at hb
        exact absurd hb (hn x (List.mem_cons_self ..))
    simp only [onceG, h1]
    rw [ih (ids ++ [x.1]) hd.2 (fun y hy hm => by
      rcases List.mem_append.1 hm with h | h
      · exact hn y (List.mem_cons_of_mem _ hy) h
      · simp at h; exact hd.1 y hy h.symm)]
    rfl
theorem once_near {ms : List Mk} {q : List Int} (hm : marksB ms = true) : onceL (sortL (hitsL ms q)) = sortL (hitsL ms q) :=
  onceG_all [] _ (perm_distinct (sortL_perm _).symm (marks_distinct hm q)) (fun _ _ h => by cases h)
theorem below_chg {B p g : Nat} {w w1 w2 : World} (h : Below B w w1) (k : Chg p g w1 w2) (hB : B ≤ w1.heap.size) (hp : B ≤ p) (hg : B ≤ g) : Below B w w2 :=
  ⟨k.1.trans h.os, k.2.1.trans h.tape, k.2.2.1.trans h.output, Nat.le_trans h.size k.2.2.2.1, fun i hi => (k.2.2.2.2 i (Nat.lt_of_lt_of_le hi hB) (by omega) (by omega)).trans (h.block i hi)⟩

end Go.Proofs.YtodielfilhodeaaGreat
namespace Go.Proofs.YtodielfilhodeaaGreat
open Go Go.RowKit

theorem found_len (ks : List Kn) (q : List Int) (k : Int) : (foundV ks q k).length ≤ 60 := by
  unfold foundV
  split
  · unfold nearL
    split
    · rename_i h
      have hk : k ≤ 60 := by have := h.2; simp [countB] at this; omega
      have : ((sortL (hitsL (knotMs ks) q)).take k.toNat).length ≤ k.toNat := List.length_take_le _ _
      omega
    · simp
  · simp

set_option maxRecDepth 100000 in
set_option maxHeartbeats 1000000 in
theorem sFound (ao qa : Option Addr) (cap qc : Nat) (ks : List Kn) (q : List Int) (k : Int) (w : World) (hv : KView w ao ks) (hsm : KSmall ks) (hq : View w qa q) (hqn : q.length ≤ 1048576) :
    Calls Tryz.prog 15 #[.slice ao ks.length cap, .slice qa q.length qc, .int .i64 k] w fun e w' => ∃ g c, e = .returned (.slice (some ⟨g, 0, none⟩) (foundV ks q k).length c) ∧ HRow w.heap.size w' g c (foundV ks q k) ∧ Below w.heap.size w w' := by
  have HC := hidP (sKnotsOk ao cap ks w hv hsm)
  rcases hk : knotsB ks with _ | _
  · have HV : Hid (foundV ks q k = []) := by show foundV ks q k = []; simp [foundV, hk]
    rw [hk] at HC
    rw [HV.out]
    clear hv hq
    go_enter Tryz.func15, Tryz.ntmps15
    go_wp2_with fail
    refine HC.out.mono ?_
    rintro e w1 ⟨rfl, L1⟩
    have HL1 := hidP L1
    clear L1
    go_wp2_with fail
    go_ret
    exact ⟨_, 0, rfl, HRow.start w1 _ HL1.out.size, HL1.out.alloc HL1.out.size _⟩
  · rw [hk] at HC
    obtain ⟨hms, hml⟩ := knotMs_smallK hsm
    have HM : Hid (∀ w1, Below w.heap.size w w1 → Calls Tryz.prog 63 #[.slice ao ks.length cap] w1 fun e w' => ∃ g c, e = .returned (.slice (some ⟨g, 0, none⟩) ks.length c) ∧ MView w' (some ⟨g, 0, none⟩) (knotMs ks) ∧ Below w.heap.size w w') := fun w1 L1 => by
      obtain ⟨ds, hds, hs5, hsl⟩ := (hv.next L1).sview
      have hdl : ds.length = ks.length := by rw [← smMarks_length, hds, List.length_map]
      have h := sMarksOf ao cap ds w1 hs5 (by have := hsm.1; omega)
      rw [hdl] at h
      refine h.mono fun e w' ⟨g, c, he, hr, L⟩ => ⟨g, c, he, ?_, chain L1 L⟩
      have e1 : smMarks (sortBy smid ds) = knotMs ks := by rw [sortI_marks, hds]; rfl
      rw [← e1]
      exact hr.view (hsl.sub (fun d hd => (sortBy_perm _ _).mem_iff.1 hd)) L
    have HNE : Hid (∀ g c w2, MView w2 (some ⟨g, 0, none⟩) (knotMs ks) → Below w.heap.size w w2 → Calls Tryz.prog 22 #[.slice (some ⟨g, 0, none⟩) ks.length c, .slice qa q.length qc, .int .i64 k] w2 fun e w' => ∃ g c, e = .returned (.slice (some ⟨g, 0, none⟩) (foundV ks q k).length c) ∧ HRow w.heap.size w' g c (foundV ks q k) ∧ Below w.heap.size w w') := fun g c w2 h L => by
      have e : foundV ks q k = nearL (knotMs ks) q k := by simp [foundV, hk]
      have := sNear (some ⟨g, 0, none⟩) qa c qc (knotMs ks) q k w2 h (hq.next L) hms hqn
      rw [hml] at this
      rw [e]
      refine this.mono fun e w' ⟨g, c, he, hr, L2⟩ => ⟨g, c, he, hr.mono L.size, chain L L2⟩
    clear hv hq hms hml
    generalize foundV ks q k = R at *
    go_enter Tryz.func15, Tryz.ntmps15
    go_wp2_with fail
    refine HC.out.mono ?_
    rintro e w1 ⟨rfl, L1⟩
    have HM1 := hidP (HM.out w1 L1)
    clear L1
    go_wp2_with fail
    refine HM1.out.mono ?_
    rintro e w2 ⟨g, c, rfl, hv2, L2⟩
    have HT2 := hidP (HNE.out g c w2 hv2 L2)
    clear hv2 L2
    go_wp2_with fail
    refine HT2.out.mono ?_
    rintro e w3 ⟨g3, c3, rfl, hr3, L3⟩
    have HE := hidP (And.intro hr3 L3)
    clear hr3 L3
    go_wp2_with fail
    go_ret
    exact ⟨g3, c3, rfl, HE.out.1, HE.out.2⟩

set_option maxRecDepth 100000 in
set_option maxHeartbeats 1000000 in
theorem iFound (ao qa : Option Addr) (cap qc : Nat) (ks : List Kn) (q : List Int) (k : Int) (w : World) (hv : KView w ao ks) (hsm : KSmall ks) (hq : View w qa q) (hqn : q.length ≤ 1048576) :
    Calls Tryz.prog 10 #[.slice ao ks.length cap, .slice qa q.length qc, .int .i64 k] w fun e w' => ∃ v, e = .returned v ∧ HOut w.heap.size w' v (foundV ks q k) ∧ Below w.heap.size w w' := by
  rcases hcb : countB k with _ | _
  · have HV : Hid (foundV ks q k = []) := by show foundV ks q k = []; simp [foundV, nearL, hcb]
    have HC := hidP (iCount k w)
    rw [hcb] at HC
    rw [HV.out]
    clear hv hq
    go_enter Tryz.func10, Tryz.ntmps10
    go_wp2_with fail
    refine HC.out.mono ?_
    rintro e w1 ⟨rfl, hw1⟩
    subst hw1
    go_wp2_with fail
    go_ret
    exact ⟨_, rfl, Or.inl ⟨rfl, rfl⟩, Below.refl _ _⟩
  · have hk1 : 1 ≤ k ∧ k ≤ 60 := by simp [countB] at hcb; exact hcb
    obtain ⟨n, rfl⟩ := Int.eq_ofNat_of_zero_le (show 0 ≤ k by omega)
    have HC0 := hidP (iCount n w)
    rw [hcb] at HC0
    have HC := hidP (iLeadK ao qa cap qc ks q w hv hsm hq hqn)
    by_cases hkt : (knotsB ks && toldB (knotMs ks) q) = true
    · have hk : knotsB ks = true := by revert hkt; cases knotsB ks <;> simp
      have hto : toldB (knotMs ks) q = true := by revert hkt; rw [hk]; simp
      have hfv : (seekT q n (treeF 60 (knotMs ks) 0) ([], 0)).1 = foundV ks q n := by
        rw [seek_found hto n (by omega) 0]
        simp [foundV, nearL, hk, hto, hcb]
      have HS : Hid (∀ w1, Below w.heap.size w w1 → Calls Tryz.prog 59 #[.slice ao ks.length cap, .slice qa q.length qc, .int .i64 n] w1 fun e w' => ∃ v, e = .returned (.pointer (some ⟨w1.heap.size, 0, none⟩)) ∧ w'.cell? ⟨w1.heap.size, 3, none⟩ = some v ∧ HOut w.heap.size w' v (foundV ks q n) ∧ Below w.heap.size w w') := fun w1 L1 => by
        refine (iSearched ao qa cap qc n ks q w1 (hv.next L1) hsm (hq.next L1) hk hto (by omega) (by omega) _ rfl).mono ?_
        rintro e w' ⟨a, c, he, T, hrow, B⟩
        rw [hfv] at T hrow
        refine ⟨_, he, T.cells.2.2.2.1, ?_, chain L1 B⟩
        have hr2 := hrow
        rcases hrow.2 with ⟨e1, e2⟩ | ⟨g, cc, cur, e1, hg, hh⟩
        · left
          exact ⟨by rw [e1], List.length_eq_zero_iff.1 e2⟩
        · right
          refine ⟨g, cc, e1, ?_⟩
          rw [e1] at hr2
          have hz := L1.size
          exact HRow.mono (base := w1.heap.size + 1) hr2 (by omega)
      rw [hkt] at HC
      clear hv hq hfv hcb
      generalize foundV ks q n = R at *
      go_enter Tryz.func10, Tryz.ntmps10
      go_wp2_with fail
      refine HC0.out.mono ?_
      rintro e w0 ⟨rfl, hw0⟩
      subst hw0
      go_wp2_with fail
      refine HC.out.mono ?_
      rintro e w1 ⟨rfl, L1⟩
      have HS1 := hidP (HS.out w1 L1)
      clear L1
      go_wp2_with fail
      refine HS1.out.mono ?_
      rintro e w2 ⟨v, rfl, c3, ho, L2⟩
      have HE := hidP (And.intro ho L2)
      clear ho L2
      go_wp2_with fail
      go_ret
      exact ⟨v, rfl, HE.out.1, HE.out.2⟩
    · rw [Bool.not_eq_true] at hkt
      have HV : Hid (foundV ks q n = []) := by
        show foundV ks q n = []
        revert hkt
        unfold foundV nearL
        cases knotsB ks <;> simp <;> intro h <;> simp [h]
      rw [hkt] at HC
      rw [HV.out]
      clear hv hq
      go_enter Tryz.func10, Tryz.ntmps10
      go_wp2_with fail
      refine HC0.out.mono ?_
      rintro e w0 ⟨rfl, hw0⟩
      subst hw0
      go_wp2_with fail
      refine HC.out.mono ?_
      rintro e w1 ⟨rfl, L1⟩
      have HL1 := hidP L1
      clear L1
      go_wp2_with fail
      go_ret
      exact ⟨_, rfl, Or.inl ⟨rfl, rfl⟩, HL1.out⟩

end Go.Proofs.YtodielfilhodeaaGreat
