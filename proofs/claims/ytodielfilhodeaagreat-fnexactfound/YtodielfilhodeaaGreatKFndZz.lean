/-
  Found: the given one and the program's.
-/
import Derived.Test.YtodielfilhodeaaGreatKLkLZz
import Derived.Test.YtodielfilhodeaaGreatHM8Zz
namespace Go.Proofs.YtodielfilhodeaaGreat
open Go Go.RowKit

theorem found_len (ks : List Kn) (q : List Int) (k : Int) : (foundV ks q k).length ≤ 60 := by
  unfold foundV
  split
  · unfold nearL
    split
    · rename_i h
      have hk : k ≤ 60 := by have := h.2; simp [countB] at this; omega
      have : ((sortL (hitsL (knotMs ks) q)).take k.toNat).length ≤ k.toNat := List.length_take_le _ _
      omega
    · simp
  · simp

set_option maxRecDepth 100000 in
set_option maxHeartbeats 1000000 in
theorem sFound (ao qa : Option Addr) (cap qc : Nat) (ks : List Kn) (q : List Int) (k : Int) (w : World) (hv : KView w ao ks) (hsm : KSmall ks) (hq : View w qa q) (hqn : q.length ≤ 1048576) :
    Calls Tryz.prog 15 #[.slice ao ks.length cap, .slice qa q.length qc, .int .i64 k] w fun e w' => ∃ g c, e = .returned (.slice (some ⟨g, 0, none⟩) (foundV ks q k).length c) ∧ HRow w.heap.size w' g c (foundV ks q k) ∧ Below w.heap.size w w' := by
  have HC := hidP (sKnotsOk ao cap ks w hv hsm)
  rcases hk : knotsB ks with _ | _
  · have HV : Hid (foundV ks q k = []) := by show foundV ks q k = []; simp [foundV, hk]
    rw [hk] at HC
    rw [HV.out]
    clear hv hq
    go_enter Tryz.func15, Tryz.ntmps15
    go_wp2_with fail
    refine HC.out.mono ?_
    rintro e w1 ⟨rfl, L1⟩
    have HL1 := hidP L1
    clear L1
    go_wp2_with fail
    go_ret
    exact ⟨_, 0, rfl, HRow.start w1 _ HL1.out.size, HL1.out.alloc HL1.out.size _⟩
  · rw [hk] at HC
    obtain ⟨hms, hml⟩ := knotMs_smallK hsm
    have HM : Hid (∀ w1, Below w.heap.size w w1 → Calls Tryz.prog 63 #[.slice ao ks.length cap] w1 fun e w' => ∃ g c, e = .returned (.slice (some ⟨g, 0, none⟩) ks.length c) ∧ MView w' (some ⟨g, 0, none⟩) (knotMs ks) ∧ Below w.heap.size w w') := fun w1 L1 => by
      obtain ⟨ds, hds, hs5, hsl⟩ := (hv.next L1).sview
      have hdl : ds.length = ks.length := by rw [← smMarks_length, hds, List.length_map]
      have h := sMarksOf ao cap ds w1 hs5 (by have := hsm.1; omega)
      rw [hdl] at h
      refine h.mono fun e w' ⟨g, c, he, hr, L⟩ => ⟨g, c, he, ?_, chain L1 L⟩
      have e1 : smMarks (sortBy smid ds) = knotMs ks := by rw [sortI_marks, hds]; rfl
      rw [← e1]
      exact hr.view (hsl.sub (fun d hd => (sortBy_perm _ _).mem_iff.1 hd)) L
    have HNE : Hid (∀ g c w2, MView w2 (some ⟨g, 0, none⟩) (knotMs ks) → Below w.heap.size w w2 → Calls Tryz.prog 22 #[.slice (some ⟨g, 0, none⟩) ks.length c, .slice qa q.length qc, .int .i64 k] w2 fun e w' => ∃ g c, e = .returned (.slice (some ⟨g, 0, none⟩) (foundV ks q k).length c) ∧ HRow w.heap.size w' g c (foundV ks q k) ∧ Below w.heap.size w w') := fun g c w2 h L => by
      have e : foundV ks q k = nearL (knotMs ks) q k := by simp [foundV, hk]
      have := sNear (some ⟨g, 0, none⟩) qa c qc (knotMs ks) q k w2 h (hq.next L) hms hqn
      rw [hml] at this
      rw [e]
      refine this.mono fun e w' ⟨g, c, he, hr, L2⟩ => ⟨g, c, he, hr.mono L.size, chain L L2⟩
    clear hv hq hms hml
    generalize foundV ks q k = R at *
    go_enter Tryz.func15, Tryz.ntmps15
    go_wp2_with fail
    refine HC.out.mono ?_
    rintro e w1 ⟨rfl, L1⟩
    have HM1 := hidP (HM.out w1 L1)
    clear L1
    go_wp2_with fail
    refine HM1.out.mono ?_
    rintro e w2 ⟨g, c, rfl, hv2, L2⟩
    have HT2 := hidP (HNE.out g c w2 hv2 L2)
    clear hv2 L2
    go_wp2_with fail
    refine HT2.out.mono ?_
    rintro e w3 ⟨g3, c3, rfl, hr3, L3⟩
    have HE := hidP (And.intro hr3 L3)
    clear hr3 L3
    go_wp2_with fail
    go_ret
    exact ⟨g3, c3, rfl, HE.out.1, HE.out.2⟩

set_option maxRecDepth 100000 in
set_option maxHeartbeats 1000000 in
theorem iFound (ao qa : Option Addr) (cap qc : Nat) (ks : List Kn) (q : List Int) (k : Int) (w : World) (hv : KView w ao ks) (hsm : KSmall ks) (hq : View w qa q) (hqn : q.length ≤ 1048576) :
    Calls Tryz.prog 10 #[.slice ao ks.length cap, .slice qa q.length qc, .int .i64 k] w fun e w' => ∃ v, e = .returned v ∧ HOut w.heap.size w' v (foundV ks q k) ∧ Below w.heap.size w w' := by
  rcases hcb : countB k with _ | _
  · have HV : Hid (foundV ks q k = []) := by show foundV ks q k = []; simp [foundV, nearL, hcb]
    have HC := hidP (iCount k w)
    rw [hcb] at HC
    rw [HV.out]
    clear hv hq
    go_enter Tryz.func10, Tryz.ntmps10
    go_wp2_with fail
    refine HC.out.mono ?_
    rintro e w1 ⟨rfl, hw1⟩
    subst hw1
    go_wp2_with fail
    go_ret
    exact ⟨_, rfl, Or.inl ⟨rfl, rfl⟩, Below.refl _ _⟩
  · have hk1 : 1 ≤ k ∧ k ≤ 60 := by simp [countB] at hcb; exact hcb
    obtain ⟨n, rfl⟩ := Int.eq_ofNat_of_zero_le (show 0 ≤ k by omega)
    have HC0 := hidP (iCount n w)
    rw [hcb] at HC0
    have HC := hidP (iLeadK ao qa cap qc ks q w hv hsm hq hqn)
    by_cases hkt : (knotsB ks && toldB (knotMs ks) q) = true
    · have hk : knotsB ks = true := by revert hkt; cases knotsB ks <;> simp
      have hto : toldB (knotMs ks) q = true := by revert hkt; rw [hk]; simp
      have hfv : (seekT q n (treeF 60 (knotMs ks) 0) ([], 0)).1 = foundV ks q n := by
        rw [seek_found hto n (by omega) 0]
        simp [foundV, nearL, hk, hto, hcb]
      have HS : Hid (∀ w1, Below w.heap.size w w1 → Calls Tryz.prog 59 #[.slice ao ks.length cap, .slice qa q.length qc, .int .i64 n] w1 fun e w' => ∃ v, e = .returned (.pointer (some ⟨w1.heap.size, 0, none⟩)) ∧ w'.cell? ⟨w1.heap.size, 3, none⟩ = some v ∧ HOut w.heap.size w' v (foundV ks q n) ∧ Below w.heap.size w w') := fun w1 L1 => by
        refine (iSearched ao qa cap qc n ks q w1 (hv.next L1) hsm (hq.next L1) hk hto (by omega) (by omega) _ rfl).mono ?_
        rintro e w' ⟨a, c, he, T, hrow, B⟩
        rw [hfv] at T hrow
        refine ⟨_, he, T.cells.2.2.2.1, ?_, chain L1 B⟩
        have hr2 := hrow
        rcases hrow.2 with ⟨e1, e2⟩ | ⟨g, cc, cur, e1, hg, hh⟩
        · left
          exact ⟨by rw [e1], List.length_eq_zero_iff.1 e2⟩
        · right
          refine ⟨g, cc, e1, ?_⟩
          rw [e1] at hr2
          have hz := L1.size
          exact HRow.mono (base := w1.heap.size + 1) hr2 (by omega)
      rw [hkt] at HC
      clear hv hq hfv hcb
      generalize foundV ks q n = R at *
      go_enter Tryz.func10, Tryz.ntmps10
      go_wp2_with fail
      refine HC0.out.mono ?_
      rintro e w0 ⟨rfl, hw0⟩
      subst hw0
      go_wp2_with fail
      refine HC.out.mono ?_
      rintro e w1 ⟨rfl, L1⟩
      have HS1 := hidP (HS.out w1 L1)
      clear L1
      go_wp2_with fail
      refine HS1.out.mono ?_
      rintro e w2 ⟨v, rfl, c3, ho, L2⟩
      have HE := hidP (And.intro ho L2)
      clear ho L2
      go_wp2_with fail
      go_ret
      exact ⟨v, rfl, HE.out.1, HE.out.2⟩
    · rw [Bool.not_eq_true] at hkt
      have HV : Hid (foundV ks q n = []) := by
        show foundV ks q n = []
        revert hkt
        unfold foundV nearL
        cases knotsB ks <;> simp <;> intro h <;> simp [h]
      rw [hkt] at HC
      rw [HV.out]
      clear hv hq
      go_enter Tryz.func10, Tryz.ntmps10
      go_wp2_with fail
      refine HC0.out.mono ?_
      rintro e w0 ⟨rfl, hw0⟩
      subst hw0
      go_wp2_with fail
      refine HC.out.mono ?_
      rintro e w1 ⟨rfl, L1⟩
      have HL1 := hidP L1
      clear L1
      go_wp2_with fail
      go_ret
      exact ⟨_, rfl, Or.inl ⟨rfl, rfl⟩, HL1.out⟩

end Go.Proofs.YtodielfilhodeaaGreat
