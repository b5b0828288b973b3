/-
  The walks of the exact laws of chapter 12 whose answer is a word (Total, Tied, Gap), over what the program's own function answers.
  The walk of FnExactThreads, over what the program's own function answers.
-/
import Derived.Test.YtfbindjacmaeoaaETMarkZz
import Derived.Test.YtfbindjacmaeoaaESpAZz
import Derived.Test.YtfbindjacmaeoaaESpPZz
import Derived.Test.YtfbindjacmaeoaaJRwZz
import Derived.Test.YtfbindjacmaeoaaMMarkZz
namespace Go.Proofs.Ytfbindjacmaeoaa
open Go Go.RowKit

def ITotal : Prop := ∀ (ao : Option Addr) (cap : Nat) (ts : List Th) (w : World), TView w ao ts → ts.length ≤ 1048576 → Calls Try.prog 19 #[.slice ao ts.length cap] w fun e w' => e = .returned (.int .i64 (totV ts)) ∧ Below w.heap.size w w'
def ITied : Prop := ∀ (ao at_ : Option Addr) (cap ct : Nat) (ms : List Mk) (ts : List Th) (kd : Int) (w : World), MView w ao ms → TView w at_ ts → MSmall ms → ts.length ≤ 1048576 → ms.length ≤ cap → Calls Try.prog 17 #[.slice ao ms.length cap, .slice at_ ts.length ct, .int .i64 kd] w fun e w' => e = .returned (.bool (tiedB ms ts kd)) ∧ Below w.heap.size w w'
def IGap : Prop := ∀ (ao ag : Option Addr) (cap cg : Nat) (ms : List Mk) (kd : Int) (gs : List (List Int)) (w : World), MView w ao ms → CView w ag gs → MSmall ms → CSmall gs → ms.length ≤ cap → Calls Try.prog 28 #[.slice ao ms.length cap, .int .i64 kd, .slice ag gs.length cg] w fun e w' => e = .returned (.int .i64 (gapI ms kd gs)) ∧ Below w.heap.size w w'

set_option maxRecDepth 100000 in
set_option maxHeartbeats 4000000 in
theorem walkTotal (HI : ITotal) (ao0 : Option Addr) (cap0 : Nat) (ts0 : List Th) (w : World) (hv0 : TView w ao0 ts0) (hn0 : ts0.length ≤ maxLen) :
    Calls Try.prog 7 #[.slice ao0 ts0.length cap0] w fun e w' => e = .returned (.bool true) ∧ Below w.heap.size w w' := by
  have HII := hidP HI
  clear HI
  have HS := hidP (szTS ao0 ts0.length cap0 1048576 w hn0 (by omega) (by omega))
  by_cases hl : ts0.length ≤ 1048576
  · have hc : ¬ cutV 1048576 ts0.length < 0 := by unfold cutV; rw [if_neg (by omega)]; omega
    generalize cutV 1048576 ts0.length = r at *
    have HV0 := hidP hv0
    clear hv0
    go_enter Try.func7, Try.ntmps7
    go_wp2_with fail
    refine HS.out.mono ?_
    rintro e w1 ⟨rfl, hw1⟩
    subst w1
    go_wp2_with fail
    refine (toTS ao0 cap0 ts0 _ HV0.out hl).mono ?_
    rintro e w2 ⟨b2, rfl, p2, L2⟩
    go_wp2_with fail
    refine (sTotal _ _ ts0 _ p2.view hl).mono ?_
    rintro e w3 ⟨rfl, hw3⟩
    subst w3
    go_wp2_with fail
    refine (toTS ao0 cap0 ts0 _ (HV0.out.next L2) hl).mono ?_
    rintro e w4 ⟨b4, rfl, p4, M4⟩
    have L4 := chain L2 M4
    clear p2 M4
    have HC := hidP (HII.out (some ⟨b4, 0, none⟩) ts0.length ts0 w4 p4.view hl)
    go_wp2_with fail
    refine HC.out.mono ?_
    rintro e w5 ⟨rfl, M5⟩
    have L5 := chain L4 M5
    have v4 := p4.view.next M5
    have ht : (totV ts0 != totV ts0) = false := by simp
    clear M5 p4 HC
    go_wp2_with fail
    refine (toTS ao0 cap0 ts0 _ (HV0.out.next L5) hl).mono ?_
    rintro e w6 ⟨b6, rfl, p6, M6⟩
    have L6 := chain L5 M6
    have u4 := v4.next M6
    clear v4 M6
    go_wp2_with fail
    refine (eqTS _ _ _ _ ts0 ts0 _ u4 p6.view (by omega)).mono ?_
    rintro e w7 ⟨rfl, M7⟩
    have L7 := chain L6 M7
    have ht2 : decide (ts0 = ts0) = true := by simp
    clear M7
    go_wp2_with fail
    go_ret
    exact ⟨rfl, L7⟩
  · have hc : cutV 1048576 ts0.length < 0 := by unfold cutV; rw [if_pos (by omega)]; omega
    generalize cutV 1048576 ts0.length = r at *
    go_enter Try.func7, Try.ntmps7
    go_wp2_with fail
    refine HS.out.mono ?_
    rintro e w1 ⟨rfl, hw1⟩
    subst w1
    go_wp2_with fail
    go_ret
    exact ⟨rfl, Below.refl _ _⟩

theorem cut_or {left : Int} {n : Nat} (h : left ≤ 1048576) : cutV left n < 0 ∨ n ≤ 1048576 := by
  unfold cutV
  split <;> omega

set_option maxRecDepth 100000 in
set_option maxHeartbeats 4000000 in
theorem walkTied (HI : ITied) (ao0 : Option Addr) (cap0 : Nat) (ms0 : List Mk) (ao1 : Option Addr) (cap1 : Nat) (ts1 : List Th) (x2 : Int) (w : World) (hv0 : MView w ao0 ms0) (hn0 : ms0.length ≤ maxLen) (hat0 : ∀ i, (mat ms0 i).length ≤ maxLen) (hv1 : TView w ao1 ts1) (hn1 : ts1.length ≤ maxLen) :
    Calls Try.prog 6 #[.slice ao0 ms0.length cap0, .slice ao1 ts1.length cap1, .int .i64 x2] w fun e w' => e = .returned (.bool true) ∧ Below w.heap.size w w' := by
  have HII := hidP HI
  clear HI
  go_enter Try.func6, Try.ntmps6
  go_wp2_with fail
  refine (szMS2 ao0 cap0 ms0 _ hv0 hn0 hat0).mono ?_
  rintro e w1 ⟨r, rfl, hr1, hr, L1⟩
  by_cases hneg : r < 0
  · go_wp2_with fail
    go_ret
    exact ⟨rfl, L1⟩
  have hsm : MSmall ms0 := by rcases hr with h | h; exact absurd h hneg; exact h
  clear hr
  have HCT := hidP (cut_or (n := ts1.length) hr1)
  go_wp2_with fail
  refine (szTS ao1 ts1.length cap1 r _ hn1 (by omega) hr1).mono ?_
  rintro e w2 ⟨rfl, hw2⟩
  subst w2
  generalize cutV r ts1.length = r2 at *
  by_cases hneg2 : r2 < 0
  · go_wp2_with fail
    go_ret
    exact ⟨rfl, L1⟩
  have hl : ts1.length ≤ 1048576 := by rcases HCT.out with h | h; exact absurd h hneg2; exact h
  clear HCT
  have HV0 := hidP hv0
  have HV1 := hidP hv1
  clear hv0 hv1
  go_wp2_with fail
  refine (toMS ao0 cap0 ms0 _ (HV0.out.next L1) hsm).mono ?_
  rintro e w3 ⟨b3, rfl, p3, hb3, M3⟩
  have L3 := chain L1 M3
  go_wp2_with fail
  refine (toTS ao1 cap1 ts1 _ (HV1.out.next L3) hl).mono ?_
  rintro e w4 ⟨b4, rfl, p4, M4⟩
  have L4 := chain L3 M4
  have HC := hidP (sTied (some ⟨b3, 0, none⟩) (some ⟨b4, 0, none⟩) ms0.length ts1.length ms0 ts1 x2 w4 (p3.view.next M4) p4.view hsm hl)
  obtain ⟨R, hR⟩ : ∃ R, tiedB ms0 ts1 x2 = R := ⟨_, rfl⟩
  rw [hR] at HC
  have HR := hidP hR
  clear hR p3 p4 M3 M4 hb3
  go_wp2_with fail
  refine HC.out.mono ?_
  rintro e w5 ⟨rfl, M5⟩
  have L5 := chain L4 M5
  clear M5 HC
  go_wp2_with fail
  refine (toMS ao0 cap0 ms0 _ (HV0.out.next L5) hsm).mono ?_
  rintro e w6 ⟨b6, rfl, p6, hb6, M6⟩
  have L6 := chain L5 M6
  go_wp2_with fail
  refine (toTS ao1 cap1 ts1 _ (HV1.out.next L6) hl).mono ?_
  rintro e w7 ⟨b7, rfl, p7, M7⟩
  have L7 := chain L6 M7
  have HC := hidP (HII.out (some ⟨b6, 0, none⟩) (some ⟨b7, 0, none⟩) ms0.length ts1.length ms0 ts1 x2 w7 (p6.view.next M7) p7.view hsm hl (Nat.le_refl _))
  rw [HR.out] at HC
  have v6 := p6.view.next M7
  have v7 := p7.view
  clear p6 p7 M6 M7 hb6
  go_wp2_with fail
  refine HC.out.mono ?_
  rintro e w8 ⟨rfl, M8⟩
  have L8 := chain L7 M8
  have v6' := v6.next M8
  have v7' := v7.next M8
  have ht : (R != R) = false := by simp
  clear HC M8 v6 v7
  go_wp2_with fail
  refine (toMS ao0 cap0 ms0 _ (HV0.out.next L8) hsm).mono ?_
  rintro e w9 ⟨b9, rfl, p9, hb9, M9⟩
  have L9 := chain L8 M9
  have u6 := v6'.next M9
  have u7 := v7'.next M9
  clear v6' v7' M9 hb9
  go_wp2_with fail
  refine (eqMS _ _ _ _ ms0 ms0 _ u6 p9.view hsm).mono ?_
  rintro e wa ⟨rfl, Ma⟩
  have La := chain L9 Ma
  have t7 := u7.next Ma
  have ht2 : decide (ms0 = ms0) = true := by simp
  clear u6 u7 p9 Ma
  go_wp2_with fail
  refine (toTS ao1 cap1 ts1 _ (HV1.out.next La) hl).mono ?_
  rintro e wb ⟨bb, rfl, pb, Mb⟩
  have Lb := chain La Mb
  have s7 := t7.next Mb
  clear t7 Mb
  go_wp2_with fail
  refine (eqTS _ _ _ _ ts1 ts1 _ s7 pb.view (by omega)).mono ?_
  rintro e wc ⟨rfl, Mc⟩
  have Lc := chain Lb Mc
  have ht3 : decide (ts1 = ts1) = true := by simp
  clear Mc
  go_wp2_with fail
  go_ret
  exact ⟨rfl, Lc⟩

set_option maxRecDepth 100000 in
set_option maxHeartbeats 4000000 in
theorem walkGap (HI : IGap) (ao0 : Option Addr) (cap0 : Nat) (ms0 : List Mk) (x1 : Int) (ao2 : Option Addr) (cap2 : Nat) (ls2 : List (List Int)) (w : World) (hv0 : MView w ao0 ms0) (hn0 : ms0.length ≤ maxLen) (hat0 : ∀ i, (mat ms0 i).length ≤ maxLen) (hv2 : CView w ao2 ls2) (hn2 : ls2.length ≤ maxLen) (hat2 : ∀ i, (cn ls2 i).length ≤ maxLen) :
    Calls Try.prog 9 #[.slice ao0 ms0.length cap0, .int .i64 x1, .slice ao2 ls2.length cap2] w fun e w' => e = .returned (.bool true) ∧ Below w.heap.size w w' := by
  have HII := hidP HI
  clear HI
  go_enter Try.func9, Try.ntmps9
  go_wp2_with fail
  refine (szMS2 ao0 cap0 ms0 _ hv0 hn0 hat0).mono ?_
  rintro e w1 ⟨r, rfl, hr1, hr, L1⟩
  by_cases hneg : r < 0
  · go_wp2_with fail
    go_ret
    exact ⟨rfl, L1⟩
  have hsm : MSmall ms0 := by rcases hr with h | h; exact absurd h hneg; exact h
  clear hr
  go_wp2_with fail
  refine (szCS ao2 cap2 ls2 r _ (hv2.next L1) (by omega) hr1 hn2 hat2).mono ?_
  rintro e w2 ⟨r2, rfl, hr2, hw2⟩
  subst w2
  by_cases hneg2 : r2 < 0
  · go_wp2_with fail
    go_ret
    exact ⟨rfl, L1⟩
  have hcm : CSmall ls2 := by rcases hr2 with h | h; exact absurd h hneg2; exact h
  clear hr2
  have HV0 := hidP hv0
  have HV1 := hidP hv2
  clear hv0 hv2
  go_wp2_with fail
  refine (toMS ao0 cap0 ms0 _ (HV0.out.next L1) hsm).mono ?_
  rintro e w3 ⟨b3, rfl, p3, hb3, M3⟩
  have L3 := chain L1 M3
  go_wp2_with fail
  refine (toCS ao2 cap2 ls2 _ (HV1.out.next L3) hcm).mono ?_
  rintro e w4 ⟨b4, rfl, p4, hb4, M4⟩
  have L4 := chain L3 M4
  have HC := hidP (sGap (some ⟨b3, 0, none⟩) (some ⟨b4, 0, none⟩) ms0.length ls2.length ms0 x1 ls2 w4 (p3.view.next M4) p4.view hsm hcm)
  obtain ⟨R, hR⟩ : ∃ R, gapI ms0 x1 ls2 = R := ⟨_, rfl⟩
  rw [hR] at HC
  have HR := hidP hR
  clear hR p3 p4 M3 M4 hb3 hb4
  go_wp2_with fail
  refine HC.out.mono ?_
  rintro e w5 ⟨rfl, M5⟩
  have L5 := chain L4 M5
  clear M5 HC
  go_wp2_with fail
  refine (toMS ao0 cap0 ms0 _ (HV0.out.next L5) hsm).mono ?_
  rintro e w6 ⟨b6, rfl, p6, hb6, M6⟩
  have L6 := chain L5 M6
  go_wp2_with fail
  refine (toCS ao2 cap2 ls2 _ (HV1.out.next L6) hcm).mono ?_
  rintro e w7 ⟨b7, rfl, p7, hb7, M7⟩
  have L7 := chain L6 M7
  have HC := hidP (HII.out (some ⟨b6, 0, none⟩) (some ⟨b7, 0, none⟩) ms0.length ls2.length ms0 x1 ls2 w7 (p6.view.next M7) p7.view hsm hcm (Nat.le_refl _))
  rw [HR.out] at HC
  have v6 := p6.view.next M7
  have v7 := p7.view
  clear p6 p7 M6 M7 hb6 hb7
  go_wp2_with fail
  refine HC.out.mono ?_
  rintro e w8 ⟨rfl, M8⟩
  have L8 := chain L7 M8
  have v6' := v6.next M8
  have v7' := v7.next M8
  have ht : ((R : Int) != R) = false := by simp
  clear HC M8 v6 v7
  go_wp2_with fail
  refine (toMS ao0 cap0 ms0 _ (HV0.out.next L8) hsm).mono ?_
  rintro e w9 ⟨b9, rfl, p9, hb9, M9⟩
  have L9 := chain L8 M9
  have u6 := v6'.next M9
  have u7 := v7'.next M9
  clear v6' v7' M9 hb9
  go_wp2_with fail
  refine (eqMS _ _ _ _ ms0 ms0 _ u6 p9.view hsm).mono ?_
  rintro e wa ⟨rfl, Ma⟩
  have La := chain L9 Ma
  have t7 := u7.next Ma
  have ht2 : decide (ms0 = ms0) = true := by simp
  clear u6 u7 p9 Ma
  go_wp2_with fail
  refine (toCS ao2 cap2 ls2 _ (HV1.out.next La) hcm).mono ?_
  rintro e wb ⟨bb, rfl, pb, hbb, Mb⟩
  have Lb := chain La Mb
  have s7 := t7.next Mb
  clear t7 Mb hbb
  go_wp2_with fail
  refine (eqCS _ _ _ _ ls2 _ s7 pb.view hcm).mono ?_
  rintro e wc ⟨rfl, nc, rfl⟩
  go_wp2_with fail
  go_ret
  exact ⟨rfl, below_drewN Lb nc⟩

end Go.Proofs.Ytfbindjacmaeoaa
namespace Go.Proofs.Ytfbindjacmaeoaa
open Go Go.RowKit

/-- Nothing, or a row of threads of the call's own. -/
def TOut (base : Nat) (w : World) (a : Option Addr) (c : Nat) (ts : List Th) : Prop := (a = none ∧ c = 0 ∧ ts = []) ∨ ∃ g, a = some ⟨g, 0, none⟩ ∧ TRow base w g c ts
theorem TOut.view {base : Nat} {w : World} {a : Option Addr} {c : Nat} {ts : List Th} (h : TOut base w a c ts) : TView w a ts := by
  rcases h with ⟨_, _, rfl⟩ | ⟨g, rfl, h⟩
  · exact Or.inl rfl
  · exact h.view
theorem TOut.below {base : Nat} {w w' : World} {a : Option Addr} {c : Nat} {ts : List Th} (h : TOut base w a c ts) (L : Below w.heap.size w w') : TOut base w' a c ts := h.imp id fun ⟨g, e, hr⟩ => ⟨g, e, hr.below (Nat.le_refl _) L⟩
theorem TOut.same {base : Nat} {w w' : World} {a : Option Addr} {c : Nat} {ts : List Th} (h : TOut base w a c ts) (e : ∀ i, base ≤ i → i < w.heap.size → w'.heap[i]? = w.heap[i]?) : TOut base w' a c ts := h.imp id fun ⟨g, e', hr⟩ => ⟨g, e', by
  have hl := hr.lt
  obtain ⟨k1, k2 | ⟨g', c', cur, e1, h3, h4, h5⟩⟩ := hr
  · exact ⟨k1, Or.inl k2⟩
  · refine ⟨k1, Or.inr ⟨g', c', cur, e1, h3, ?_, h5⟩⟩
    rw [e g' h3 (Array.getElem?_eq_some_iff.1 h4).1]; exact h4⟩

set_option maxHeartbeats 400000 in
theorem markT_nil (ao : Option Addr) (cap : Nat) (k0 : Int) (w : World) :
    Calls Try.prog 36 #[.slice ao 0 cap, .int .i64 k0] w fun e w' => e = .returned (.int .i64 k0) ∧ w' = w := by
  go_enter Try.func36, Try.ntmps36
  go_wp2
  refine wp_loop_rounds 1 ?_
  rw [rounds_succ]
  go_wp2
  go_ret
  exact ⟨rfl, rfl⟩
/-- What is handed out is marked: its own block alone turns. -/
theorem markTO (base c : Nat) (a : Option Addr) (ts : List Th) (w : World) (h : TOut base w a c ts) (hn : ts.length ≤ 4194304) :
    Calls Try.prog 36 #[.slice a ts.length c, .int .i64 1] w fun e w' => e = .returned (.int .i64 (1 + 3 * (ts.length : Int))) ∧ TView w' a (seqT 1 ts.length) ∧ w'.os = w.os ∧ w'.tape = w.tape ∧ w'.output = w.output ∧ w.heap.size ≤ w'.heap.size ∧ ∀ i, i < w.heap.size → i < base → w'.heap[i]? = w.heap[i]? := by
  rcases h with ⟨rfl, rfl, rfl⟩ | ⟨g, rfl, hr⟩
  · refine (markT_nil none 0 1 w).mono ?_
    rintro e w' ⟨rfl, rfl⟩
    exact ⟨rfl, Or.inl rfl, rfl, rfl, rfl, Nat.le_refl _, fun _ _ _ => rfl⟩
  · refine (markTS base g c 1 ts w hr hn (by omega) (by omega)).mono ?_
    rintro e w' ⟨rfl, hr', hg⟩
    exact ⟨rfl, hr'.view, hg.os, hg.tape, hg.output, hg.size, fun i hi hb => hg.block i hi (fun e => by injection e with e; have := hr.lt.1; omega)⟩
theorem heldTO (ao : Option Addr) (cap n : Nat) (w : World) (hv : TView w ao (seqT 1 n)) (hn : n ≤ 4194304) :
    Calls Try.prog 37 #[.slice ao n cap, .int .i64 1] w fun e w' => e = .returned (.int .i64 (1 + 3 * (n : Int))) ∧ w' = w := heldTS ao cap n 1 w hv hn (by omega) (by omega)

def IThreads : Prop := ∀ (ao : Option Addr) (cap : Nat) (ms : List Mk) (kd : Int) (w : World), MView w ao ms → MSmall ms → ms.length ≤ cap → Calls Try.prog 12 #[.slice ao ms.length cap, .int .i64 kd] w fun e w' => ∃ a c, e = .returned (.slice a (thrL ms kd).length c) ∧ TOut w.heap.size w' a c (thrL ms kd) ∧ Below w.heap.size w w'
theorem thrL_short (ms : List Mk) (kd : Int) : (thrL ms kd).length ≤ 3660 := by
  rcases hb : thrB ms kd with _ | _
  · rw [thrL_no hb]; simp
  · obtain ⟨hm, hk⟩ := (thrB_iff ms kd).1 hb
    rw [← kt_all hb]
    exact Nat.le_trans (kt_len _ _ _) (ktS_len hm hk (marksB_len hm))

set_option maxRecDepth 100000 in
set_option maxHeartbeats 4000000 in
theorem walkThreads (HI : IThreads) (ao0 : Option Addr) (cap0 : Nat) (ms0 : List Mk) (x1 : Int) (w : World) (hv0 : MView w ao0 ms0) (hn0 : ms0.length ≤ maxLen) (hat0 : ∀ i, (mat ms0 i).length ≤ maxLen) :
    Calls Try.prog 5 #[.slice ao0 ms0.length cap0, .int .i64 x1] w fun e w' => e = .returned (.bool true) ∧ Below w.heap.size w w' := by
  have HII := hidP HI
  clear HI
  go_enter Try.func5, Try.ntmps5
  go_wp2_with fail
  refine (szMS ao0 cap0 ms0 _ hv0 hn0 hat0).mono ?_
  rintro e w1 ⟨r, rfl, hr, L1⟩
  by_cases hneg : r < 0
  · go_wp2_with fail
    go_ret
    exact ⟨rfl, L1⟩
  have hsm : MSmall ms0 := by rcases hr with h | h; exact absurd h hneg; exact h
  clear hr
  obtain ⟨R, hR⟩ : ∃ R, thrL ms0 x1 = R := ⟨_, rfl⟩
  have nR : R.length ≤ 3660 := by rw [← hR]; exact thrL_short ms0 x1
  have HR := hidP hR
  clear hR
  go_wp2_with fail
  refine (toMS ao0 cap0 ms0 _ (hv0.next L1) hsm).mono ?_
  rintro e w2 ⟨b2, rfl, p2, hb2, L2⟩
  replace L2 := chain L1 L2
  clear L1 hb2
  have HC := hidP (sThreads (some ⟨b2, 0, none⟩) ms0.length ms0 x1 w2 p2.view hsm)
  rw [HR.out] at HC
  go_wp2_with fail
  refine HC.out.mono ?_
  rintro e w3 ⟨gw, cw, rfl, row3, L3⟩
  replace L3 := chain L2 L3
  have s3 := row3.seg
  have hgw := row3.lt.2
  clear L2 HC p2 row3
  go_wp2_with fail
  refine (toMS ao0 cap0 ms0 _ (hv0.next L3) hsm).mono ?_
  rintro e w5 ⟨bx, rfl, px, hbx, L5⟩
  have hwx : w.heap.size ≤ bx := Nat.le_trans L3.size hbx
  have hgx : gw < bx := by omega
  have s5 := s3.below hgw L5
  have LW5 := chain L3 L5
  have ov := px.over
  have hbl := px.1
  clear L3 L5 s3
  have HC := hidP (HII.out (some ⟨bx, 0, none⟩) ms0.length ms0 x1 w5 px.view hsm (Nat.le_refl _))
  rw [HR.out] at HC
  go_wp2_with fail
  refine HC.out.mono ?_
  rintro e w6 ⟨ag, cg, rfl, g6, L6⟩
  have hz6 := L6.size
  have s6 := s5.below (by omega : gw < w5.heap.size) L6
  have p6 := px.below (Nat.le_refl _) L6
  have ov6 := ov.below (Nat.le_refl _) L6
  have LW6 := chain LW5 L6
  clear HC L6 s5 px ov LW5
  go_wp2_with fail
  refine (eqTS _ _ _ _ R R _ g6.view (Or.inr ⟨gw, 0, rfl, by omega, s6⟩) (by omega)).mono ?_
  rintro e w7 ⟨rfl, L7⟩
  have ht : decide (R = R) = true := by simp
  have s7 := s6.below (by omega : gw < w6.heap.size) L7
  have g7 := g6.below L7
  have p7 := p6.below (Nat.le_refl _) L7
  have ov7 := ov6.below hz6 L7
  have LW7 := chain LW6 L7
  have hz7 := Nat.le_trans hz6 L7.size
  clear L7 s6 g6 p6 ov6 LW6 hz6
  go_wp2_with fail
  refine (toMS ao0 cap0 ms0 _ (hv0.next LW7) hsm).mono ?_
  rintro e w8 ⟨b8, rfl, p8, hb8, L8⟩
  have s8' := s7.below (by omega : gw < w7.heap.size) L8
  have g8 := g7.below L8
  have p8x := p7.below (Nat.le_refl _) L8
  have ov8 := ov7.below hz7 L8
  have LW8 := chain LW7 L8
  have hz8 := Nat.le_trans hz7 L8.size
  clear L8 s7 g7 p7 ov7 LW7 hz7 hb8
  go_wp2_with fail
  refine (eqMS _ _ _ _ ms0 ms0 _ p8x.view p8.view hsm).mono ?_
  rintro e w9 ⟨rfl, L9⟩
  have ht2 : decide (ms0 = ms0) = true := by simp
  have s9 := s8'.below (by omega : gw < w8.heap.size) L9
  have g9 := g8.below L9
  have ov9 := ov8.below hz8 L9
  have LW9 := chain LW8 L9
  have hz9 := Nat.le_trans hz8 L9.size
  clear L9 s8' g8 p8x ov8 LW8 hz8 p8
  go_wp2_with fail
  refine (markMS bx w5.heap.size ms0.length 1 ms0 _ ov9 hsm (by omega) (by omega)).mono ?_
  rintro e w10 ⟨⟨k1, hk1, hk2, rfl⟩, gi⟩
  have hk0 : ¬ k1 < 0 := by omega
  have gsame : ∀ i, (i < bx ∨ w5.heap.size ≤ i) → i < w9.heap.size → w10.heap[i]? = w9.heap[i]? := fun i h1 h2 => gi.2.2.2.2 i h2 (by omega)
  have hcell : ∀ j, w10.cell? ⟨gw, j, none⟩ = w9.cell? ⟨gw, j, none⟩ := fun j => World.cell?_of_block (w := w9) (a := ⟨gw, j, none⟩) (gsame gw (Or.inl hgx) (by omega))
  have s10 : TSeg w10 gw 0 R := fun i hi => ⟨(hcell _).trans (s9 i hi).1, (hcell _).trans (s9 i hi).2.1, (hcell _).trans (s9 i hi).2.2⟩
  have g10 := g9.same (fun i h1 h2 => gsame i (Or.inr h1) h2)
  have LW10 : Below w.heap.size w w10 := ⟨gi.1.trans LW9.os, gi.2.1.trans LW9.tape, gi.2.2.1.trans LW9.output, Nat.le_trans LW9.size gi.2.2.2.1, fun i hi => (gsame i (Or.inl (by omega)) (by have := LW9.size; omega)).trans (LW9.block i hi)⟩
  have hz10 := Nat.le_trans hz9 gi.2.2.2.1
  clear gi gsame s9 g9 ov9 LW9 hz9 hcell
  go_wp2_with fail
  refine (eqTS _ _ _ _ R R _ g10.view (Or.inr ⟨gw, 0, rfl, by omega, s10⟩) (by omega)).mono ?_
  rintro e w11 ⟨rfl, L11⟩
  have s11 := s10.below (by omega : gw < w10.heap.size) L11
  have g11 := g10.below L11
  have LW11 := chain LW10 L11
  have hz11 := Nat.le_trans hz10 L11.size
  clear L11 s10 g10 LW10 hz10
  go_wp2_with fail
  refine (markTO w5.heap.size cg ag R _ g11 (by omega)).mono ?_
  rintro e w12 ⟨rfl, v12, o1, o2, o3, o4, hah⟩
  have hcell : ∀ j, w12.cell? ⟨gw, j, none⟩ = w11.cell? ⟨gw, j, none⟩ := fun j => World.cell?_of_block (w := w11) (a := ⟨gw, j, none⟩) (hah gw (by omega) (by omega))
  have s12 : TSeg w12 gw 0 R := fun i hi => ⟨(hcell _).trans (s11 i hi).1, (hcell _).trans (s11 i hi).2.1, (hcell _).trans (s11 i hi).2.2⟩
  have LW12 : Below w.heap.size w w12 := ⟨o1.trans LW11.os, o2.trans LW11.tape, o3.trans LW11.output, Nat.le_trans LW11.size o4, fun i hi => (hah i (by have := LW11.size; omega) (by omega)).trans (LW11.block i hi)⟩
  have hz12 := Nat.le_trans hz11 o4
  clear o1 o2 o3 o4 hah s11 g11 LW11 hz11 hcell
  have hq0 : ¬ ((1 : Int) + 3 * R.length < 0) := by omega
  have hq1 : (((1 : Int) + 3 * R.length) != (1 + 3 * R.length)) = false := by simp
  go_wp2_with fail
  refine (heldTO ag cg R.length _ v12 (by omega)).mono ?_
  rintro e w13 ⟨rfl, hw13⟩
  subst w13
  go_wp2_with fail
  refine (toMS ao0 cap0 ms0 _ (hv0.next LW12) hsm).mono ?_
  rintro e w14 ⟨b14, rfl, p14, hb14, L14⟩
  have s14 := s12.below (by omega : gw < w12.heap.size) L14
  have v14 := v12.next L14
  have LW14 := chain LW12 L14
  have hz14 := Nat.le_trans hz12 L14.size
  clear L14 s12 v12 LW12 hz12 hb14
  have HC := hidP (HII.out (some ⟨b14, 0, none⟩) ms0.length ms0 x1 w14 p14.view hsm (Nat.le_refl _))
  rw [HR.out] at HC
  go_wp2_with fail
  refine HC.out.mono ?_
  rintro e w15 ⟨ah, chh, rfl, h15, L15⟩
  have s15 := s14.below (by omega : gw < w14.heap.size) L15
  have v15 := v14.next L15
  have LW15 := chain LW14 L15
  have hz15 := Nat.le_trans hz14 L15.size
  clear L15 s14 v14 LW14 hz14 HC p14
  go_wp2_with fail
  refine (eqTS _ _ _ _ R R _ h15.view (Or.inr ⟨gw, 0, rfl, by omega, s15⟩) (by omega)).mono ?_
  rintro e w16 ⟨rfl, L16⟩
  have v16 := v15.next L16
  have LW16 := chain LW15 L16
  clear L16 s15 v15 LW15 hz15 h15
  go_wp2_with fail
  refine (heldTO ag cg R.length _ v16 (by omega)).mono ?_
  rintro e w17 ⟨rfl, hw17⟩
  subst w17
  go_wp2_with fail
  go_ret
  exact ⟨rfl, LW16⟩

end Go.Proofs.Ytfbindjacmaeoaa
