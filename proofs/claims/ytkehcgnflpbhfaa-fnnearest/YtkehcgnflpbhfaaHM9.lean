/-
  The program's own countOk, suits, Nearest and Within.
-/
import Derived.Test.YtkehcgnflpbhfaaHM8
namespace Go.Proofs.Ytkehcgnflpbhfaa
open Go Go.RowKit

set_option maxHeartbeats 400000 in
theorem iCount (k : Int) (w : World) :
    Calls Try.prog 42 #[.int .i64 k] w fun e w' => e = .returned (.bool (countB k)) ∧ w' = w := by
  by_cases h1 : k ≥ 1
  · by_cases h2 : k ≤ 60
    · have HV : Hid (countB k = true) := by show countB k = true; simp [countB]; omega
      go_enter Try.func42, Try.ntmps42
      go_wp2
      go_ret
      exact ⟨ret_bool HV.out.symm, rfl⟩
    · have HV : Hid (countB k = false) := by show countB k = false; simp [countB]; omega
      go_enter Try.func42, Try.ntmps42
      go_wp2
      go_ret
      exact ⟨ret_bool HV.out.symm, rfl⟩
  · have HV : Hid (countB k = false) := by show countB k = false; simp [countB]; omega
    go_enter Try.func42, Try.ntmps42
    go_wp2
    go_ret
    exact ⟨ret_bool HV.out.symm, rfl⟩

set_option maxRecDepth 100000 in
set_option maxHeartbeats 2000000 in
theorem iSuits (ao ao' : Option Addr) (cap cap' : Nat) (ms : List Mk) (q : List Int) (w : World) (hv : MView w ao ms) (hv' : View w ao' q) (hsm : MSmall ms) (hq : q.length ≤ 1048576) :
    Calls Try.prog 43 #[.slice ao' q.length cap', .slice ao ms.length cap] w fun e w' => e = .returned (.bool (toldB ms q)) ∧ Below w.heap.size w w' := by
  have HP := hidP (iOk ao' cap' q w hv' hq)
  rcases hok : okB q with _ | _
  · have HV := hidP (toldB_no (ms := ms) hok)
    rw [hok] at HP
    go_enter Try.func43, Try.ntmps43
    go_wp2_with fail
    refine HP.out.mono ?_
    rintro e w1 ⟨rfl, rfl⟩
    go_wp2_with fail
    go_ret
    exact ⟨ret_bool HV.out.symm, Below.refl _ _⟩
  · rw [hok] at HP
    have HC := hidP (iMarks ao cap ms w hv hsm)
    rcases hm : marksB ms with _ | _
    · have HV := hidP (toldB_bad (q := q) hm)
      rw [hm] at HC
      go_enter Try.func43, Try.ntmps43
      go_wp2_with fail
      refine HP.out.mono ?_
      rintro e w1 ⟨rfl, rfl⟩
      go_wp2_with fail
      refine HC.out.mono ?_
      rintro e w2 ⟨rfl, L2⟩
      go_wp2_with fail
      go_ret
      exact ⟨ret_bool HV.out.symm, L2⟩
    · rw [hm] at HC
      by_cases h0 : ms.length = 0
      · have HV := hidP (toldB_nil hm hok h0)
        have hb0 : ((ms.length : Int) == 0) = true := by simp; simpa using h0
        clear h0
        go_enter Try.func43, Try.ntmps43
        go_wp2_with fail
        refine HP.out.mono ?_
        rintro e w1 ⟨rfl, rfl⟩
        go_wp2_with fail
        refine HC.out.mono ?_
        rintro e w2 ⟨rfl, L2⟩
        go_wp2_with fail
        go_ret
        exact ⟨ret_bool HV.out.symm, L2⟩
      · have hb0 : ((ms.length : Int) == 0) = false := by simp; simpa using h0
        have hne : ms ≠ [] := by intro h; subst h; simp at h0
        obtain ⟨b, off, rfl, hb, hs⟩ := MSeg.seg hv (by omega)
        obtain ⟨-, ae, ce, hc1, -⟩ := hs.at (i := 0) (by omega)
        rw [Nat.zero_mul, Nat.add_zero] at hc1
        have hpos : (0 : Int) < (ms.length : Int) := by omega
        have hpos2 : 0 < ms.length := by omega
        by_cases hl : (mat ms 0).length = q.length
        · have HV := hidP (toldB_yes hm hok hl)
          have hlb : (((mat ms 0).length : Int) == (q.length : Int)) = true := by simp [hl]
          clear hl h0
          go_enter Try.func43, Try.ntmps43
          go_wp2_with fail
          refine HP.out.mono ?_
          rintro e w1 ⟨rfl, rfl⟩
          go_wp2_with fail
          refine HC.out.mono ?_
          rintro e w2 ⟨rfl, L2⟩
          have hc2 := (L2.cell (p := ⟨b, off + 1, none⟩) hb).trans hc1
          go_wp2_with fail
          go_ret
          exact ⟨ret_bool HV.out.symm, L2⟩
        · have HV := hidP (toldB_len h0 hl)
          have hlb : (((mat ms 0).length : Int) == (q.length : Int)) = false := by simp; omega
          clear hl h0
          go_enter Try.func43, Try.ntmps43
          go_wp2_with fail
          refine HP.out.mono ?_
          rintro e w1 ⟨rfl, rfl⟩
          go_wp2_with fail
          refine HC.out.mono ?_
          rintro e w2 ⟨rfl, L2⟩
          have hc2 := (L2.cell (p := ⟨b, off + 1, none⟩) hb).trans hc1
          go_wp2_with fail
          go_ret
          exact ⟨ret_bool HV.out.symm, L2⟩

/-- What is handed out: nothing, or a row of the call's own. -/
def HOut (base : Nat) (w : World) (v : Value) (hs : List Ht) : Prop := (v = .slice none 0 0 ∧ hs = []) ∨ ∃ g c, v = .slice (some ⟨g, 0, none⟩) hs.length c ∧ HRow base w g c hs
theorem HOut.view {base : Nat} {w : World} {v : Value} {hs : List Ht} (h : HOut base w v hs) : ∃ ao c, v = .slice ao hs.length c ∧ HView w ao hs := by
  rcases h with ⟨rfl, rfl⟩ | ⟨g, c, rfl, hr⟩
  · exact ⟨none, 0, rfl, Or.inl rfl⟩
  · exact ⟨_, c, rfl, hr.view⟩
theorem onceG_all (ids : List Int) (l : List Ht) (hd : l.Pairwise (fun a b => a.1 ≠ b.1)) (hn : ∀ x ∈ l, x.1 ∉ ids) : onceG ids l = l := by
  induction l generalizing ids with
  | nil => rfl
  | cons x xs ih =>
    rw [List.pairwise_cons] at hd
    have h1 : hasB ids x.1 = false := by
      rcases hb : hasB ids x.1 with _ | _
      · rfl
      · unfold hasB at hb
        rw [List.contains_iff_mem] at hb
        exact absurd hb (hn x (List.mem_cons_self ..))
    simp only [onceG, h1]
    rw [ih (ids ++ [x.1]) hd.2 (fun y hy hm => by
      rcases List.mem_append.1 hm with h | h
      · exact hn y (List.mem_cons_of_mem _ hy) h
      · simp at h; exact hd.1 y hy h.symm)]
    rfl
theorem once_near {ms : List Mk} {q : List Int} (hm : marksB ms = true) : onceL (sortL (hitsL ms q)) = sortL (hitsL ms q) :=
  onceG_all [] _ (perm_distinct (sortL_perm _).symm (marks_distinct hm q)) (fun _ _ h => by cases h)
theorem below_chg {B p g : Nat} {w w1 w2 : World} (h : Below B w w1) (k : Chg p g w1 w2) (hB : B ≤ w1.heap.size) (hp : B ≤ p) (hg : B ≤ g) : Below B w w2 :=
  ⟨k.1.trans h.os, k.2.1.trans h.tape, k.2.2.1.trans h.output, Nat.le_trans h.size k.2.2.2.1, fun i hi => (k.2.2.2.2 i (Nat.lt_of_lt_of_le hi hB) (by omega) (by omega)).trans (h.block i hi)⟩

set_option maxHeartbeats 1000000 in
theorem iNear (ao ao' : Option Addr) (cap cap' : Nat) (ms : List Mk) (q : List Int) (k : Int) (w : World) (hv : MView w ao ms) (hv' : View w ao' q) (hsm : MSmall ms) (hq : q.length ≤ 1048576) :
    Calls Try.prog 11 #[.slice ao ms.length cap, .slice ao' q.length cap', .int .i64 k] w fun e w' => ∃ v, e = .returned v ∧ HOut w.heap.size w' v (nearL ms q k) ∧ Below w.heap.size w w' := by
  have HK := hidP (iCount k w)
  rcases hk : countB k with _ | _
  · have HV : Hid (nearL ms q k = []) := by show nearL ms q k = []; simp [nearL, hk]
    rw [hk] at HK
    go_enter Try.func11, Try.ntmps11
    go_wp2_with fail
    refine HK.out.mono ?_
    rintro e w1 ⟨rfl, rfl⟩
    go_wp2_with fail
    go_ret
    exact ⟨_, rfl, Or.inl ⟨rfl, HV.out⟩, Below.refl _ _⟩
  · rw [hk] at HK
    have HS := hidP (iSuits ao ao' cap cap' ms q w hv hv' hsm hq)
    rcases ht : toldB ms q with _ | _
    · have HV : Hid (nearL ms q k = []) := by show nearL ms q k = []; simp [nearL, ht]
      rw [ht] at HS
      go_enter Try.func11, Try.ntmps11
      go_wp2_with fail
      refine HK.out.mono ?_
      rintro e w1 ⟨rfl, rfl⟩
      go_wp2_with fail
      refine HS.out.mono ?_
      rintro e w2 ⟨rfl, L2⟩
      go_wp2_with fail
      go_ret
      exact ⟨_, rfl, Or.inl ⟨rfl, HV.out⟩, L2⟩
    · rw [ht] at HS
      have HV : Hid (nearL ms q k = (onceL (sortL (hitsL ms q))).take k.toNat) := by
        show nearL ms q k = _
        rw [once_near (told_marks ht)]; simp [nearL, ht, hk]
      have hk0 : 0 ≤ k := by simp [countB] at hk; omega
      have HM := hidP (And.intro hv hv')
      clear hv hv' hk ht
      go_enter Try.func11, Try.ntmps11
      go_wp2_with fail
      refine HK.out.mono ?_
      rintro e w1 ⟨rfl, rfl⟩
      go_wp2_with fail
      refine HS.out.mono ?_
      rintro e w2 ⟨rfl, L2⟩
      have HH := hidP (iHitsOf ao ao' cap cap' ms q w2 (MView.next HM.out.1 L2) (View.next HM.out.2 L2) hsm hq)
      have HL2 := hidP L2
      clear L2 HS HK
      go_wp2_with fail
      refine HH.out.mono ?_
      rintro e w3 ⟨p, g, l', rfl, hp, hA, L3, hpm, hh⟩
      have hl' : l'.length = ms.length := by rw [hpm.length_eq, hitsL_length]
      have HF := hidP (iFirst w2.heap.size p g ms.length k l' w3 hA (by rw [hl']; exact hsm.1) hh hk0)
      rw [sortL_congr hpm, ← HV.out] at HF
      have hz := HL2.out.size
      have HX := hidP (And.intro (HL2.out.trans (L3.mono hz)) (And.intro hp hA.2.2.lt.1))
      clear hpm hh hA L3 hl' hp
      go_wp2_with fail
      refine HF.out.mono ?_
      rintro e w4 ⟨t, ct, rfl, hr4, hc4⟩
      go_wp2_with fail
      go_ret
      obtain ⟨h1, h2, h3⟩ := HX.out
      exact ⟨_, rfl, Or.inr ⟨t, ct, rfl, hr4.mono h1.size⟩, below_chg h1 hc4 h1.size (by omega) (by omega)⟩

set_option maxHeartbeats 1000000 in
theorem iWithin (ao ao' : Option Addr) (cap cap' : Nat) (ms : List Mk) (q : List Int) (most : Int) (w : World) (hv : MView w ao ms) (hv' : View w ao' q) (hsm : MSmall ms) (hq : q.length ≤ 1048576) :
    Calls Try.prog 13 #[.slice ao ms.length cap, .slice ao' q.length cap', .int .i64 most] w fun e w' => ∃ v, e = .returned v ∧ HOut w.heap.size w' v (withinL ms q most) ∧ Below w.heap.size w w' := by
  by_cases hk : most < 0
  · have HV : Hid (withinL ms q most = []) := by show withinL ms q most = []; simp [withinL]; omega
    go_enter Try.func13, Try.ntmps13
    go_wp2_with fail
    go_ret
    exact ⟨_, rfl, Or.inl ⟨rfl, HV.out⟩, Below.refl _ _⟩
  · have HS := hidP (iSuits ao ao' cap cap' ms q w hv hv' hsm hq)
    rcases ht : toldB ms q with _ | _
    · have HV : Hid (withinL ms q most = []) := by show withinL ms q most = []; simp [withinL, ht]
      rw [ht] at HS
      go_enter Try.func13, Try.ntmps13
      go_wp2_with fail
      refine HS.out.mono ?_
      rintro e w2 ⟨rfl, L2⟩
      go_wp2_with fail
      go_ret
      exact ⟨_, rfl, Or.inl ⟨rfl, HV.out⟩, L2⟩
    · rw [ht] at HS
      have HV : Hid (withinL ms q most = (sortL (hitsL ms q)).filter (fun h => decide (h.2 ≤ most))) := by
        show withinL ms q most = _
        unfold withinL
        rw [if_pos ⟨ht, by omega⟩]
      have HM := hidP (And.intro hv hv')
      clear hv hv' ht
      go_enter Try.func13, Try.ntmps13
      go_wp2_with fail
      refine HS.out.mono ?_
      rintro e w2 ⟨rfl, L2⟩
      have HH := hidP (iHitsOf ao ao' cap cap' ms q w2 (MView.next HM.out.1 L2) (View.next HM.out.2 L2) hsm hq)
      have HL2 := hidP L2
      clear L2 HS
      go_wp2_with fail
      refine HH.out.mono ?_
      rintro e w3 ⟨p, g, l', rfl, hp, hA, L3, hpm, hh⟩
      have hl' : l'.length = ms.length := by rw [hpm.length_eq, hitsL_length]
      have HF := hidP (iUpTo w2.heap.size p g ms.length most l' w3 hA (by rw [hl']; exact hsm.1) hh)
      rw [sortL_congr hpm, ← HV.out] at HF
      have hz := HL2.out.size
      have HX := hidP (And.intro (HL2.out.trans (L3.mono hz)) (And.intro hp hA.2.2.lt.1))
      clear hpm hh hA L3 hl' hp
      go_wp2_with fail
      refine HF.out.mono ?_
      rintro e w4 ⟨t, ct, rfl, hr4, hc4⟩
      go_wp2_with fail
      go_ret
      obtain ⟨h1, h2, h3⟩ := HX.out
      exact ⟨_, rfl, Or.inr ⟨t, ct, rfl, hr4.mono h1.size⟩, below_chg h1 hc4 h1.size (by omega) (by omega)⟩

end Go.Proofs.Ytkehcgnflpbhfaa
