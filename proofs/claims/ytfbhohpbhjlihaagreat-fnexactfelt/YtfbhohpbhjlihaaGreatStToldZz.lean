/-
  What is told of a state and a place.
-/
import Derived.Test.YtfbhohpbhjlihaaGreatTwImpZz
import Derived.Test.YtfbhohpbhjlihaaGreatTwAskZz
import Derived.Test.YtfbhohpbhjlihaaGreatNearZz
namespace Go.Proofs.YtfbhohpbhjlihaaGreat
open Go Go.RowKit

def stTold (wd : Int) (ms : List Mk) (d : Int) (ts : List Wb) (nx : Int) (q : List Int) (k : Int) : Bool := stB wd ms d ts nx && (okB q && (decide ((q.length : Int) = wd) && countB k))
theorem stB_parts {wd : Int} {ms : List Mk} {d : Int} {ts : List Wb} {nx : Int} (h : stB wd ms d ts nx = true) : marksB ms = true ∧ towB d ts = true ∧ grsB wd nx (wnth ts 0).1 = true ∧ bearB (wnth ts 0).1 ms = true := by
  simp only [stB, Bool.and_eq_true] at h
  exact ⟨h.2.1, h.2.2.1, h.2.2.2.2.1, h.2.2.2.2.2⟩
theorem grs_at {wd nx : Int} {l : List Mk} {k : Nat} (h : grsB wd nx l = true) (hk : k < l.length) : ((mat l k).length : Int) = wd ∧ mid l k < nx := by
  rcases e : grB wd nx (mnth l k) with _ | _
  · rw [grsB_no hk e] at h; cases h
  · simp only [grB, Bool.and_eq_true, decide_eq_true_eq] at e; exact e
theorem st_wide {wd : Int} {ms : List Mk} {d : Int} {ts : List Wb} {nx : Int} (h : stB wd ms d ts nx = true) {k : Nat} (hk : k < ms.length) : ((mat ms k).length : Int) = wd := by
  obtain ⟨_, _, h3, h4⟩ := stB_parts h
  obtain ⟨f1, f2⟩ := bear_like h4 hk
  obtain ⟨za, _, _⟩ := zIdx_lt f1
  rw [← f2]
  exact (grs_at h3 za).1
set_option maxRecDepth 100000 in
set_option maxHeartbeats 2000000 in
theorem sTold16 (v : Bool) (am aw : Option Addr) (cm cw : Nat) (wd : Int) (ms : List Mk) (d : Int) (ts : List Wb) (nx : Int) (aq : Option Addr) (cq : Nat) (q : List Int) (k : Int) (w : World) (hm : MView w am ms) (hw : WbView v w aw ts) (hsm : StSmall ms ts) (hq : View w aq q) (hql : q.length ≤ 1048576) :
    Calls Tryz.prog 140 #[.agg #[.int .i64 wd, .slice am ms.length cm, .int .i64 d, .slice aw ts.length cw, .int .i64 nx], .slice aq q.length cq, .int .i64 k] w fun e w' => e = .returned (.bool (stTold wd ms d ts nx q k)) ∧ Below w.heap.size w w' := by
  obtain ⟨W, hW⟩ : ∃ W, w.alloc (.cells #[.int .i64 wd, .slice am ms.length cm, .int .i64 d, .slice aw ts.length cw, .int .i64 nx] 64) = W := ⟨_, rfl⟩
  have hB : Below w.heap.size w W := by rw [← hW]; exact (Below.refl _ _).alloc (Nat.le_refl _) _
  have hI : StIn v W w.heap.size am aw cm cw wd ms d ts nx := by rw [← hW]; exact StIn.box hm hw
  have HB := hidP hB
  have HI := hidP hI
  have k0 := hI.c0
  have k1 := hI.c1
  have k2 := hI.c2
  have k3 := hI.c3
  have k4 := hI.c4
  have HST := hidP (sStateOk v am aw cm cw wd ms d ts nx W hI.mv hI.wv hsm)
  have HPT := hidP (fun (W' : World) (L : Below W.heap.size W W') => sOk aq cq q W' (View.next (View.next hq hB) L) hql)
  have HIN := hidP (sIn k 1 60)
  rw [countB_in] at HIN
  obtain ⟨b1, hb1⟩ : ∃ b, stB wd ms d ts nx = b := ⟨_, rfl⟩
  obtain ⟨b2, hb2⟩ : ∃ b, okB q = b := ⟨_, rfl⟩
  obtain ⟨b4, hb4⟩ : ∃ b, countB k = b := ⟨_, rfl⟩
  have HV : Hid (stTold wd ms d ts nx q k = (b1 && (b2 && (decide ((q.length : Int) = wd) && b4)))) := by show _ = _; rw [stTold, hb1, hb2, hb4]
  rw [hb1] at HST
  rw [hb2] at HPT
  rw [hb4] at HIN
  clear hm hw hsm hB hI hq hb1 hb2 hb4
  go_enter Tryz.func140, Tryz.ntmps140
  go_wp2_with fail
  refine HST.out.mono ?_
  rintro e w1 ⟨rfl, L1⟩
  have HL1 := hidP L1
  clear L1 hW k0 k1 k2 k3 k4
  cases b1 with
  | false =>
    go_wp2_with fail
    go_ret
    exact ⟨ret_bool (by rw [HV.out]; rfl), chain HB.out HL1.out⟩
  | true =>
  go_wp2_with fail
  refine (HPT.out _ HL1.out).mono ?_
  rintro e w2 ⟨rfl, hw2⟩
  subst hw2
  cases b2 with
  | false =>
    go_wp2_with fail
    go_ret
    exact ⟨ret_bool (by rw [HV.out]; rfl), chain HB.out HL1.out⟩
  | true =>
  have c0 := (HI.out.below HL1.out).c0
  by_cases hwd : (q.length : Int) = wd
  · have hwb : ((q.length : Int) == wd) = true := by simp [hwd]
    rw [decide_eq_true hwd] at HV
    go_wp2_with fail
    refine (HIN.out _).mono ?_
    rintro e w3 ⟨rfl, hw3⟩
    subst hw3
    go_wp2_with fail
    go_ret
    exact ⟨ret_bool (by rw [HV.out]; rfl), chain HB.out HL1.out⟩
  · have hwb : ((q.length : Int) == wd) = false := by simp [hwd]
    rw [decide_eq_false hwd] at HV
    go_wp2_with fail
    go_ret
    exact ⟨ret_bool (by rw [HV.out]; rfl), chain HB.out HL1.out⟩

end Go.Proofs.YtfbhohpbhjlihaaGreat
