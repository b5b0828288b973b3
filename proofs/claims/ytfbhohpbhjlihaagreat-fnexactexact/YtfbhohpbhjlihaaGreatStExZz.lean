/-
  Exact: both, and what is told of a state and a place.
-/
import Derived.Test.YtfbhohpbhjlihaaGreatStImpZz
import Derived.Test.YtfbhohpbhjlihaaGreatTwAskZz
import Derived.Test.YtfbhohpbhjlihaaGreatNearZz
import Derived.Test.YtfbhohpbhjlihaaGreatHM9Zz
namespace Go.Proofs.YtfbhohpbhjlihaaGreat
open Go Go.RowKit

def stTold (wd : Int) (ms : List Mk) (d : Int) (ts : List Wb) (nx : Int) (q : List Int) (k : Int) : Bool := stB wd ms d ts nx && (okB q && (decide ((q.length : Int) = wd) && countB k))
def exL (wd : Int) (ms : List Mk) (d : Int) (ts : List Wb) (nx : Int) (q : List Int) (k : Int) : List Ht := if stTold wd ms d ts nx q k = true then nearL ms q k else []
theorem stB_parts {wd : Int} {ms : List Mk} {d : Int} {ts : List Wb} {nx : Int} (h : stB wd ms d ts nx = true) : marksB ms = true ∧ towB d ts = true ∧ grsB wd nx (wnth ts 0).1 = true ∧ bearB (wnth ts 0).1 ms = true := by
  simp only [stB, Bool.and_eq_true] at h
  exact ⟨h.2.1, h.2.2.1, h.2.2.2.2.1, h.2.2.2.2.2⟩
theorem grs_at {wd nx : Int} {l : List Mk} {k : Nat} (h : grsB wd nx l = true) (hk : k < l.length) : ((mat l k).length : Int) = wd ∧ mid l k < nx := by
  rcases e : grB wd nx (mnth l k) with _ | _
  · rw [grsB_no hk e] at h; cases h
  · simp only [grB, Bool.and_eq_true, decide_eq_true_eq] at e; exact e
theorem st_wide {wd : Int} {ms : List Mk} {d : Int} {ts : List Wb} {nx : Int} (h : stB wd ms d ts nx = true) {k : Nat} (hk : k < ms.length) : ((mat ms k).length : Int) = wd := by
  obtain ⟨_, _, h3, h4⟩ := stB_parts h
  obtain ⟨f1, f2⟩ := bear_like h4 hk
  obtain ⟨za, _, _⟩ := zIdx_lt f1
  rw [← f2]
  exact (grs_at h3 za).1
theorem told_no {ms : List Mk} {q : List Int} {k : Int} (h : toldB ms q = false) : nearL ms q k = [] := by unfold nearL; rw [if_neg (by rw [h]; simp)]
theorem count_no {ms : List Mk} {q : List Int} {k : Int} (h : countB k = false) : nearL ms q k = [] := by unfold nearL; rw [if_neg (by rw [h]; simp)]
theorem near_nil {q : List Int} {k : Int} : nearL [] q k = [] := by unfold nearL; split <;> simp [hitsL, sortL]
/-- What the program tells is what its model tells. -/
theorem exL_eq {wd : Int} {ms : List Mk} {d : Int} {ts : List Wb} {nx : Int} {q : List Int} {k : Int} : exL wd ms d ts nx q k = if stB wd ms d ts nx = true then nearL ms q k else [] := by
  unfold exL
  rcases hs : stB wd ms d ts nx with _ | _
  · simp [stTold, hs]
  · rw [if_pos rfl]
    rcases ht : stTold wd ms d ts nx q k with _ | _
    · rw [if_neg (by simp)]
      simp only [stTold, hs, Bool.true_and, Bool.and_eq_false_iff, decide_eq_false_iff_not] at ht
      rcases ht with h | h | h
      · exact (told_no (by simp [toldB, h])).symm
      · rcases hm : ms with _ | ⟨m, l⟩
        · exact near_nil.symm
        · rw [← hm]
          have hw := st_wide hs (k := 0) (by rw [hm]; simp)
          refine (told_no ?_).symm
          have h0 : decide (ms.length = 0) = false := decide_eq_false (by rw [hm]; simp)
          have h1 : decide ((mat ms 0).length = q.length) = false := decide_eq_false (by omega)
          rw [toldB, h0, h1]
          simp
      · exact (count_no h).symm
    · rfl
theorem exL_len {wd : Int} {ms : List Mk} {d : Int} {ts : List Wb} {nx : Int} {q : List Int} {k : Int} : (exL wd ms d ts nx q k).length ≤ 61 := by
  unfold exL
  split
  · unfold nearL
    split
    · rename_i h
      have := h.2
      simp only [countB, Bool.and_eq_true, decide_eq_true_eq] at this
      rw [List.length_take]
      omega
    · simp
  · simp
theorem HOut.mono16 {base base' : Nat} {w : World} {v : Value} {hs : List Ht} (h : HOut base w v hs) (hb : base' ≤ base) : HOut base' w v hs := by
  rcases h with h | ⟨g, c, e, hr⟩
  · exact Or.inl h
  · exact Or.inr ⟨g, c, e, hr.mono hb⟩

set_option maxRecDepth 100000 in
set_option maxHeartbeats 2000000 in
theorem sTold16 (v : Bool) (am aw : Option Addr) (cm cw : Nat) (wd : Int) (ms : List Mk) (d : Int) (ts : List Wb) (nx : Int) (aq : Option Addr) (cq : Nat) (q : List Int) (k : Int) (w : World) (hm : MView w am ms) (hw : WbView v w aw ts) (hsm : StSmall ms ts) (hq : View w aq q) (hql : q.length ≤ 1048576) :
    Calls Tryz.prog 140 #[.agg #[.int .i64 wd, .slice am ms.length cm, .int .i64 d, .slice aw ts.length cw, .int .i64 nx], .slice aq q.length cq, .int .i64 k] w fun e w' => e = .returned (.bool (stTold wd ms d ts nx q k)) ∧ Below w.heap.size w w' := by
  obtain ⟨W, hW⟩ : ∃ W, w.alloc (.cells #[.int .i64 wd, .slice am ms.length cm, .int .i64 d, .slice aw ts.length cw, .int .i64 nx] 64) = W := ⟨_, rfl⟩
  have hB : Below w.heap.size w W := by rw [← hW]; exact (Below.refl _ _).alloc (Nat.le_refl _) _
  have hI : StIn v W w.heap.size am aw cm cw wd ms d ts nx := by rw [← hW]; exact StIn.box hm hw
  have HB := hidP hB
  have HI := hidP hI
  have k0 := hI.c0
  have k1 := hI.c1
  have k2 := hI.c2
  have k3 := hI.c3
  have k4 := hI.c4
  have HST := hidP (sStateOk v am aw cm cw wd ms d ts nx W hI.mv hI.wv hsm)
  have HPT := hidP (fun (W' : World) (L : Below W.heap.size W W') => sOk aq cq q W' (View.next (View.next hq hB) L) hql)
  have HIN := hidP (sIn k 1 60)
  rw [countB_in] at HIN
  obtain ⟨b1, hb1⟩ : ∃ b, stB wd ms d ts nx = b := ⟨_, rfl⟩
  obtain ⟨b2, hb2⟩ : ∃ b, okB q = b := ⟨_, rfl⟩
  obtain ⟨b4, hb4⟩ : ∃ b, countB k = b := ⟨_, rfl⟩
  have HV : Hid (stTold wd ms d ts nx q k = (b1 && (b2 && (decide ((q.length : Int) = wd) && b4)))) := by show _ = _; rw [stTold, hb1, hb2, hb4]
  rw [hb1] at HST
  rw [hb2] at HPT
  rw [hb4] at HIN
  clear hm hw hsm hB hI hq hb1 hb2 hb4
  go_enter Tryz.func140, Tryz.ntmps140
  go_wp2_with fail
  refine HST.out.mono ?_
  rintro e w1 ⟨rfl, L1⟩
  have HL1 := hidP L1
  clear L1 hW k0 k1 k2 k3 k4
  cases b1 with
  | false =>
    go_wp2_with fail
    go_ret
    exact ⟨ret_bool (by rw [HV.out]; rfl), chain HB.out HL1.out⟩
  | true =>
  go_wp2_with fail
  refine (HPT.out _ HL1.out).mono ?_
  rintro e w2 ⟨rfl, hw2⟩
  subst hw2
  cases b2 with
  | false =>
    go_wp2_with fail
    go_ret
    exact ⟨ret_bool (by rw [HV.out]; rfl), chain HB.out HL1.out⟩
  | true =>
  have c0 := (HI.out.below HL1.out).c0
  by_cases hwd : (q.length : Int) = wd
  · have hwb : ((q.length : Int) == wd) = true := by simp [hwd]
    rw [decide_eq_true hwd] at HV
    go_wp2_with fail
    refine (HIN.out _).mono ?_
    rintro e w3 ⟨rfl, hw3⟩
    subst hw3
    go_wp2_with fail
    go_ret
    exact ⟨ret_bool (by rw [HV.out]; rfl), chain HB.out HL1.out⟩
  · have hwb : ((q.length : Int) == wd) = false := by simp [hwd]
    rw [decide_eq_false hwd] at HV
    go_wp2_with fail
    go_ret
    exact ⟨ret_bool (by rw [HV.out]; rfl), chain HB.out HL1.out⟩

set_option maxRecDepth 100000 in
set_option maxHeartbeats 2000000 in
theorem sExact (v : Bool) (am aw : Option Addr) (cm cw : Nat) (wd : Int) (ms : List Mk) (d : Int) (ts : List Wb) (nx : Int) (aq : Option Addr) (cq : Nat) (q : List Int) (k : Int) (w : World) (hm : MView w am ms) (hw : WbView v w aw ts) (hsm : StSmall ms ts) (hq : View w aq q) (hql : q.length ≤ 1048576) :
    Calls Tryz.prog 57 #[.agg #[.int .i64 wd, .slice am ms.length cm, .int .i64 d, .slice aw ts.length cw, .int .i64 nx], .slice aq q.length cq, .int .i64 k] w fun e w' => ∃ g c, e = .returned (.slice (some ⟨g, 0, none⟩) (exL wd ms d ts nx q k).length c) ∧ HRow w.heap.size w' g c (exL wd ms d ts nx q k) ∧ Below w.heap.size w w' := by
  obtain ⟨W, hW⟩ : ∃ W, w.alloc (.cells #[.int .i64 wd, .slice am ms.length cm, .int .i64 d, .slice aw ts.length cw, .int .i64 nx] 64) = W := ⟨_, rfl⟩
  have hB : Below w.heap.size w W := by rw [← hW]; exact (Below.refl _ _).alloc (Nat.le_refl _) _
  have hI : StIn v W w.heap.size am aw cm cw wd ms d ts nx := by rw [← hW]; exact StIn.box hm hw
  have HB := hidP hB
  have HI := hidP hI
  have k0 := hI.c0
  have k1 := hI.c1
  have k2 := hI.c2
  have k3 := hI.c3
  have k4 := hI.c4
  have HST := hidP (sTold16 v am aw cm cw wd ms d ts nx aq cq q k W hI.mv hI.wv hsm (View.next hq hB) hql)
  have HNE := hidP (fun (W' : World) (L : Below W.heap.size W W') => sNear am aq cm cq ms q k W' (hI.below L).mv (View.next (View.next hq hB) L) hsm.1 hql)
  obtain ⟨b1, hb1⟩ : ∃ b, stTold wd ms d ts nx q k = b := ⟨_, rfl⟩
  have HV : Hid (exL wd ms d ts nx q k = if b1 = true then nearL ms q k else []) := by show _ = _; rw [← hb1]; rfl
  rw [hb1] at HST
  clear hm hw hsm hB hI hq hb1
  go_enter Tryz.func57, Tryz.ntmps57
  go_wp2_with fail
  refine HST.out.mono ?_
  rintro e w1 ⟨rfl, L1⟩
  have HL1 := hidP L1
  clear L1 hW k0 k1 k2 k3 k4
  cases b1 with
  | false =>
    have HE : Hid (exL wd ms d ts nx q k = []) := HV.out
    have R1 := hidP (HRow.start w1 w.heap.size (by have := HL1.out.size; have := HB.out.size; omega))
    have HF := hidP ((chain HB.out HL1.out).alloc (by have := HL1.out.size; have := HB.out.size; omega) (.cells #[] 44))
    go_wp2_with fail
    go_ret
    rw [HE.out]
    exact ⟨_, 0, rfl, R1.out, HF.out⟩
  | true =>
    have HE : Hid (exL wd ms d ts nx q k = nearL ms q k) := HV.out
    have c1 := (HI.out.below HL1.out).c1
    go_wp2_with fail
    refine (HNE.out _ HL1.out).mono ?_
    rintro e w2 ⟨g, c, rfl, row, L2⟩
    have HF := hidP (And.intro (row.mono (by have := HL1.out.size; have := HB.out.size; omega : w.heap.size ≤ w1.heap.size)) (chain (chain HB.out HL1.out) L2))
    clear row L2
    go_wp2_with fail
    go_ret
    rw [HE.out]
    exact ⟨g, c, rfl, HF.out.1, HF.out.2⟩

set_option maxRecDepth 100000 in
set_option maxHeartbeats 2000000 in
theorem iExact (am aw : Option Addr) (cm cw : Nat) (wd : Int) (ms : List Mk) (d : Int) (ts : List Wb) (nx : Int) (aq : Option Addr) (cq : Nat) (q : List Int) (k : Int) (w : World) (hm : MView w am ms) (hw : WbView true w aw ts) (hsm : StSmall ms ts) (hq : View w aq q) (hql : q.length ≤ 1048576) (_hqc : q.length ≤ cq) :
    Calls Tryz.prog 53 #[.agg #[.int .i64 wd, .slice am ms.length cm, .int .i64 d, .slice aw ts.length cw, .int .i64 nx], .slice aq q.length cq, .int .i64 k] w fun e w' => ∃ a c, e = .returned (.slice a (exL wd ms d ts nx q k).length c) ∧ HOut w.heap.size w' (.slice a (exL wd ms d ts nx q k).length c) (exL wd ms d ts nx q k) ∧ Below w.heap.size w w' := by
  obtain ⟨W, hW⟩ : ∃ W, w.alloc (.cells #[.int .i64 wd, .slice am ms.length cm, .int .i64 d, .slice aw ts.length cw, .int .i64 nx] 64) = W := ⟨_, rfl⟩
  have hB : Below w.heap.size w W := by rw [← hW]; exact (Below.refl _ _).alloc (Nat.le_refl _) _
  have hI : StIn true W w.heap.size am aw cm cw wd ms d ts nx := by rw [← hW]; exact StIn.box hm hw
  have HB := hidP hB
  have HI := hidP hI
  have k0 := hI.c0
  have k1 := hI.c1
  have k2 := hI.c2
  have k3 := hI.c3
  have k4 := hI.c4
  have HST := hidP (iStateOk am aw cm cw wd ms d ts nx W hI.mv hI.wv hsm)
  have HNE := hidP (fun (W' : World) (L : Below W.heap.size W W') => iNear am aq cm cq ms q k W' (hI.below L).mv (View.next (View.next hq hB) L) hsm.1 hql)
  obtain ⟨b1, hb1⟩ : ∃ b, stB wd ms d ts nx = b := ⟨_, rfl⟩
  have HV : Hid (exL wd ms d ts nx q k = if b1 = true then nearL ms q k else []) := by show _ = _; rw [exL_eq, ← hb1]
  rw [hb1] at HST
  clear hm hw hsm hB hI hq hb1
  go_enter Tryz.func53, Tryz.ntmps53
  go_wp2_with fail
  refine HST.out.mono ?_
  rintro e w1 ⟨rfl, L1⟩
  have HL1 := hidP L1
  clear L1 hW k0 k1 k2 k3 k4
  cases b1 with
  | false =>
    have HE : Hid (exL wd ms d ts nx q k = []) := HV.out
    go_wp2_with fail
    go_ret
    rw [HE.out]
    exact ⟨none, 0, rfl, Or.inl ⟨rfl, rfl⟩, chain HB.out HL1.out⟩
  | true =>
    have HE : Hid (exL wd ms d ts nx q k = nearL ms q k) := HV.out
    have c1 := (HI.out.below HL1.out).c1
    go_wp2_with fail
    refine (HNE.out _ HL1.out).mono ?_
    rintro e w2 ⟨vv, rfl, row, L2⟩
    obtain ⟨a, c, hvv, -⟩ := row.view
    subst hvv
    have HF := hidP (And.intro (row.mono16 (by have := HL1.out.size; have := HB.out.size; omega : w.heap.size ≤ w1.heap.size)) (chain (chain HB.out HL1.out) L2))
    clear row L2
    go_wp2_with fail
    go_ret
    rw [HE.out]
    exact ⟨a, c, rfl, HF.out.1, HF.out.2⟩
end Go.Proofs.YtfbhohpbhjlihaaGreat
