/-
  The program's withBalls: the balls of some marks behind others.
  The program's withBalls, walked.
  The given Balls and the program's.
  The laws' own helper eqBallS: of two rows that read as the same balls it says so.
  The program's marksIn over balls.
  The program's sameBall, and the library's slices.EqualFunc over it.
  The laws' own markBallS and heldBallS.
  Balls that are handed out: seen, written over, held.
  The program's BallsOk.
-/
import Derived.Test.YthddhblmnfjciaaVCmpZz
import Derived.Test.YthddhblmnfjciaaVHalvZz
import Derived.Test.YthddhblmnfjciaaKOkZz
import Derived.Test.YthddhblmnfjciaaKTopZz
import Derived.Test.YthddhblmnfjciaaKMInZz
import Derived.Test.YthddhblmnfjciaaKKeepZz
namespace Go.Proofs.Ythddhblmnfjciaa
open Go Go.RowKit

theorem swo_st {ds : List Sm} (p : List Int) : Go.Sort.SWO (Go.Proofs.ltOf fun x y : InL ds => cfSt p x.1 y.1) where
  irrefl x := by simp only [Go.Proofs.ltOf, cfSt_lt]; rw [sslt_not]; omega
  trans x y z h1 h2 := by simp only [Go.Proofs.ltOf, cfSt_lt] at *; rw [sslt_iff] at *; omega
  ntrans x y z h1 h2 := by simp only [Go.Proofs.ltOf, cfSt_lt] at *; rw [sslt_not] at *; omega
theorem sorted_st {p : List Int} {ds : List Sm} (h : SortedBy (fun a b => decide (cfSt p a b < 0)) ds) : SortedBy (sslt p) ds := by
  have e : (fun a b => decide (cfSt p a b < 0)) = sslt p := by funext a b; exact cfSt_lt p a b
  rwa [e] at h
/-- By the steps from the mark that lies in block B. -/
theorem iBySteps (B : Nat) (m : Sm) (ao : Option Addr) (cap : Nat) (ds : List Sm) (w : World) (h0 : 0 < ds.length) (hn : ds.length ≤ 1048576) (hv : SView w ao ds) (hl : SLies w ds) (hso : SoleS ds) (hB : Two w B (.int .i64 m.1) (.slice m.2.1 m.2.2.2.length m.2.2.1) 93) (hm : View w m.2.1 m.2.2.2) (ht : ∀ d ∈ ds, twoB m.2.2.2 d.2.2.2 = true) :
    Calls Try.prog 126 #[.slice ao ds.length cap, .func (.func 160) #[] #[.pointer (some ⟨B, 0, none⟩)]] w fun e w' => ∃ b, e = .returned (.slice (some ⟨b, 0, none⟩) ds.length ds.length) ∧ SSeg w' b 0 (sortBy (sslt m.2.2.2) ds) ∧ w.heap.size ≤ b ∧ b < w'.heap.size ∧ Below w.heap.size w w' := by
  have eg : ∀ args w, (callFunc 160 args).run Try.prog w = .ok (.enter 160 args) w := enters_of Try.func160 (by kernel_rfl) rfl
  refine (iInOrder 160 #[.pointer (some ⟨B, 0, none⟩)] (cfSt m.2.2.2) ao cap ds w h0 hn hv eg (swo_st m.2.2.2) (fun W L x hx y hy => ?_)).mono ?_
  · exact pBySteps B m x y W (hB.below L) (hm.next L) ((hl x hx).next L) ((hl y hy).next L) (ht x hx) (ht y hy)
  · rintro e w' ⟨b, ds', he, hp, hs, hsg, h1, h2, L⟩
    have hparts : Parts (sslt m.2.2.2) (· ∈ ds) := by
      have hp := parts_stlt m.2.2.2 hso.marks
      have hin : ∀ d ∈ ds, smMark d ∈ smMarks ds := fun d hd => List.mem_map_of_mem hd
      exact ⟨fun a b c ha hb hc h1 h2 => hp.trans _ _ _ (hin a ha) (hin b hb) (hin c hc) h1 h2, fun a b ha hb h1 h2 => hso.one a ha b hb (hp.one _ _ (hin a ha) (hin b hb) h1 h2), fun a b ha hb h1 => hp.asym _ _ (hin a ha) (hin b hb) h1⟩
    obtain rfl : ds' = sortBy (sslt m.2.2.2) ds := sortBy_one hparts ds ds' (fun y hy => hy) hp (sorted_st hs)
    exact ⟨b, he, hsg, h1, h2, L⟩

set_option maxHeartbeats 400000 in
theorem iByF (m : Sm) (n : Nat) (w : World) :
    Calls Try.prog 132 #[.agg #[.int .i64 m.1, .slice m.2.1 n m.2.2.1]] w fun e w' => e = .returned (.func (.func 160) #[] #[.pointer (some ⟨w.heap.size, 0, none⟩)]) ∧ w' = w.alloc (.cells #[.int .i64 m.1, .slice m.2.1 n m.2.2.1] 93) := by
  go_enter Try.func132, Try.ntmps132
  go_wp2
  go_ret
  exact ⟨rfl, rfl⟩

set_option maxHeartbeats 400000 in
theorem iPlaceV (ao bo : Option Addr) (n c m d : Nat) (w : World) :
    Calls Try.prog 135 #[.slice ao n c, .slice bo m d] w fun e w' => e = .returned (.int .i64 (if n = 0 then -1 else (m : Int))) ∧ w' = w := by
  by_cases h : n = 0
  · subst h
    go_enter Try.func135, Try.ntmps135
    go_wp2
    go_ret
    exact ⟨rfl, rfl⟩
  · have hb : ((n : Int) == 0) = false := by simp; exact h
    have HV : Hid ((if n = 0 then (-1 : Int) else (m : Int)) = m) := by show (if n = 0 then (-1 : Int) else (m : Int)) = m; rw [if_neg h]
    rw [HV.out]
    clear HV h
    go_enter Try.func135, Try.ntmps135
    go_wp2
    go_ret
    exact ⟨rfl, rfl⟩

set_option maxHeartbeats 400000 in
theorem iRad0 (m : Sm) (k : Nat) (ao : Option Addr) (cap : Nat) (w : World) :
    Calls Try.prog 134 #[.agg #[.int .i64 m.1, .slice m.2.1 k m.2.2.1], .slice ao 0 cap] w fun e w' => e = .returned (.int .i64 0) ∧ Below w.heap.size w w' := by
  have HL := hidP (alloc_below w (.cells #[.int .i64 m.1, .slice m.2.1 k m.2.2.1] 93))
  go_enter Try.func134, Try.ntmps134
  go_wp2
  go_ret
  exact ⟨rfl, HL.out⟩

set_option maxRecDepth 100000 in
set_option maxHeartbeats 1000000 in
theorem iRad (m : Sm) (b off cap : Nat) (ds : List Sm) (w : World) (h0 : 0 < ds.length) (hn : ds.length ≤ 1048576) (hb : b < w.heap.size) (hs : SSeg w b off ds) (hm : View w m.2.1 m.2.2.2) (hl : SLies w ds) (ht : ∀ d ∈ ds, twoB m.2.2.2 d.2.2.2 = true) :
    Calls Try.prog 134 #[.agg #[.int .i64 m.1, .slice m.2.1 m.2.2.2.length m.2.2.1], .slice (some ⟨b, off, none⟩) ds.length cap] w fun e w' => e = .returned (.int .i64 (stepsV m.2.2.2 (snth ds (ds.length - 1)).2.2.2)) ∧ Below w.heap.size w w' := by
  obtain ⟨j, hj⟩ : ∃ j, ds.length = j + 1 := ⟨ds.length - 1, by omega⟩
  have hjl : j < ds.length := by omega
  rw [show ds.length - 1 = j by omega, hj]
  rw [hj] at hn
  obtain ⟨W, hW⟩ : ∃ W, W = w.alloc (.cells #[.int .i64 m.1, .slice m.2.1 m.2.2.2.length m.2.2.1] 93) := ⟨_, rfl⟩
  have hL : Below w.heap.size w W := by rw [hW]; exact alloc_below w _
  have T : Two W w.heap.size (.int .i64 m.1) (.slice m.2.1 m.2.2.2.length m.2.2.1) 93 := by rw [hW]; exact Two.new w _ _ _
  obtain ⟨q0, q1⟩ := hs j hjl
  have r0 := (hL.cell (p := ⟨b, off + j * 2, none⟩) hb).trans q0
  have r1 := (hL.cell (p := ⟨b, off + j * 2 + 1, none⟩) hb).trans q1
  have hmem := snth_mem hjl
  have HC := hidP (pStepsTo m.2.1 m.2.2.1 m.2.2.2 (snth ds j) W.drew (hm.next hL).drew ((hl _ hmem).next hL).drew (ht _ hmem))
  have x1 := T.c1
  have hlb : (((j + 1 : Nat) : Int) == 0) = false := by simp; omega
  have hwr : IntKind.i64.wrap (((j + 1 : Nat) : Int) - 1) = (j : Int) := by rw [IntWalk.i64_in _ ⟨by omega, by omega⟩]; omega
  have hwr2 : IntKind.i64.wrap ((j : Int) + 1 - 1) = (j : Int) := by rw [IntWalk.i64_in _ ⟨by omega, by omega⟩]; omega
  have hj0 : (0 : Int) ≤ (j : Int) := Int.natCast_nonneg _
  have hwr3 : IntKind.i64.wrap (j : Int) = (j : Int) := IntWalk.i64_in _ ⟨by omega, by omega⟩
  have hj1 : (j : Int) < (j : Int) + 1 := by omega
  have hj2 : (j : Int) < ((j + 1 : Nat) : Int) := by omega
  have hsz : W.heap.size = w.heap.size + 1 := by rw [hW]; simp
  have HL := hidP hL
  have HR : Hid (∀ w', Below W.heap.size W w' → w'.cell? ⟨w.heap.size, 1, none⟩ = some (.slice m.2.1 m.2.2.2.length m.2.2.1) ∧ w'.cell? ⟨b, off + j * 2, none⟩ = some (.int .i64 (snth ds j).1) ∧ w'.cell? ⟨b, off + j * 2 + 1, none⟩ = some (.slice (snth ds j).2.1 (snth ds j).2.2.2.length (snth ds j).2.2.1)) := fun w' L => ⟨(L.cell (p := ⟨w.heap.size, 1, none⟩) (by show w.heap.size < W.heap.size; omega)).trans x1, (L.cell (p := ⟨b, off + j * 2, none⟩) (by show b < W.heap.size; omega)).trans r0, (L.cell (p := ⟨b, off + j * 2 + 1, none⟩) (by show b < W.heap.size; omega)).trans r1⟩
  generalize snth ds j = x at *
  clear hL T q0 q1 hs hm hl ht hmem hj hjl h0
  go_enter Try.func134, Try.ntmps134
  go_wp2_with fail
  rw [← hW]
  clear hW
  go_region_held3 (fun w' => w'.cell? ⟨w.heap.size, 1, none⟩ = some (.slice m.2.1 m.2.2.2.length m.2.2.1) ∧ w'.cell? ⟨b, off + j * 2, none⟩ = some (.int .i64 x.1) ∧ w'.cell? ⟨b, off + j * 2 + 1, none⟩ = some (.slice x.2.1 x.2.2.2.length x.2.2.1))
    (first
      | (refine HR.out _ ?_; repeat' (first | (with_reducible exact Below.refl _ _) | (with_reducible exact G1) | (with_reducible refine Below.drew ?_)))
      | go_keep)
    (first | (go_at_call 162; refine HC.out.mono ?_; rintro e w1 ⟨rfl, G1'⟩; have G1 : Below W.heap.size W w1 := (Below.refl _ W).drew.trans G1'.below))
  all_goals
    have HE := hidP (HL.out.trans (G1.mono (by omega)))
    clear G1 G1'
    go_wp2_with fail
    go_ret
    exact ⟨rfl, HE.out⟩

end Go.Proofs.Ythddhblmnfjciaa
namespace Go.Proofs.Ythddhblmnfjciaa
open Go Go.RowKit

set_option maxHeartbeats 400000 in
theorem iBalls0 (ao bo : Option Addr) (cap n c : Nat) (w : World) :
    Calls Try.prog 84 #[.slice bo n c, .slice ao 0 cap] w fun e w' => e = .returned (.slice bo n c) ∧ w' = w := by
  go_enter Try.func84, Try.ntmps84
  go_wp2
  go_ret
  exact ⟨rfl, rfl⟩

set_option maxRecDepth 100000 in
set_option maxHeartbeats 4000000 in
theorem iBallsF (f : Nat) : ∀ (ds : List Sm) (ao : Option Addr) (cap dim base g c : Nat) (es : List Dk) (W0 w : World),
    ds.length ≤ f → ds.length ≤ cap → es.length + ds.length ≤ 60 → SView w ao ds → SLies W0 ds → W0.heap.size ≤ base → Below base W0 w → base ≤ w.heap.size → (∀ d ∈ ds, okB d.2.2.2 = true ∧ d.2.2.2.length = dim) → SoleS ds → BRow base w g c es →
    Calls Try.prog 84 #[.slice (some ⟨g, 0, none⟩) es.length c, .slice ao ds.length cap] w fun e w' => ∃ g' c' ks, e = .returned (.slice (some ⟨g', 0, none⟩) (es.length + ds.length) c') ∧ LaidB base w w' g g' c' es ks (ballF f (smMarks ds)) := by
  have hnone : ∀ (f : Nat) (ao : Option Addr) (cap base g c : Nat) (es : List Dk) (w : World), BRow base w g c es → Calls Try.prog 84 #[.slice (some ⟨g, 0, none⟩) es.length c, .slice ao 0 cap] w fun e w' => ∃ g' c' ks, e = .returned (.slice (some ⟨g', 0, none⟩) (es.length + 0) c') ∧ LaidB base w w' g g' c' es ks (ballF f []) := by
    intro f ao cap base g c es w hr
    refine (iBalls0 ao (some ⟨g, 0, none⟩) cap es.length c w).mono ?_
    rintro e w' ⟨rfl, rfl⟩
    rw [ballF_none]
    exact ⟨g, c, [], rfl, by rw [List.append_nil]; exact hr, rfl, KOuts.nil _ _ _, ⟨rfl, rfl, rfl, Nat.le_refl _, fun _ _ _ => rfl⟩, Or.inl rfl⟩
  induction f with
  | zero =>
    intro ds ao cap dim base g c es W0 w hf hcp hn hv hl hW hB hbw hdim hso hr
    obtain rfl : ds = [] := List.length_eq_zero_iff.1 (by omega)
    exact hnone 0 ao cap base g c es w hr
  | succ f ih =>
    intro ds ao cap dim base g c es W0 w hf hcp hn hv hl hW hB hbw hdim hso hr
    rcases ds with _ | ⟨m, tl⟩
    · exact hnone (f + 1) ao cap base g c es w hr
    · have HIH := hidP ih
      have HR := hidP hr
      obtain ⟨b, off, rfl, hb, hs⟩ := hv.seg (by simp)
      have hlw : SLies w (m :: tl) := fun d hd => (hl d hd).below hW hB
      obtain ⟨y0, y1⟩ := hs 0 (by simp)
      have hm0 : snth (m :: tl) 0 = m := rfl
      rw [hm0] at y0 y1
      simp only [Nat.zero_mul, Nat.add_zero] at y0 y1
      obtain ⟨hmo, hmd⟩ := hdim m (List.mem_cons_self ..)
      have h4 := okB_len hmo
      rw [hmd] at y1 h4
      have htd : ∀ d ∈ tl, okB d.2.2.2 = true ∧ d.2.2.2.length = dim := fun d hd => hdim d (List.mem_cons_of_mem _ hd)
      have htw : ∀ d ∈ tl, twoB m.2.2.2 d.2.2.2 = true := fun d hd => twoB_true hmo (htd d hd).1 (by rw [hmd, (htd d hd).2])
      have htv : ∀ W, Below w.heap.size w W → SView W (some ⟨b, off + 2, none⟩) tl := fun W L => Or.inr ⟨b, off + 2, rfl, Nat.lt_of_lt_of_le hb L.size, by
        have := (hs.drop 1).below (B := w.heap.size) hb L
        simpa using this⟩
      have hst : SoleS tl := hso.sub fun a ha => List.mem_cons_of_mem _ ha
      obtain ⟨N, hN⟩ : ∃ N, N = tl.length := ⟨_, rfl⟩
      have hlen1 : (m :: tl).length = N + 1 := by rw [hN]; rfl
      rw [hlen1] at hf hcp hn
      have hlb : (((N + 1 : Nat) : Int) == 0) = false := by simp; omega
      obtain ⟨W1, hW1⟩ : ∃ W1, W1 = w.alloc (.cells #[.int .i64 m.1, .slice m.2.1 dim m.2.2.1] 93) := ⟨_, rfl⟩
      have L1 : Below w.heap.size w W1 := by rw [hW1]; exact alloc_below w _
      have T1 : Two W1 w.heap.size (.int .i64 m.1) (.slice m.2.1 dim m.2.2.1) 93 := by rw [hW1]; exact Two.new w _ _ _
      have x0 := T1.c0
      have x1 := T1.c1
      have hz1 : W1.heap.size = w.heap.size + 1 := by rw [hW1]; simp
      have HBF := hidP (fun w' => iByF m dim w')
      have LB : Below W1.heap.size W1 ((W1.alloc (.cells #[.int .i64 m.1, .slice m.2.1 dim m.2.2.1] 93)).drew) := (alloc_below W1 _).drew
      have TB : Two ((W1.alloc (.cells #[.int .i64 m.1, .slice m.2.1 dim m.2.2.1] 93)).drew) W1.heap.size (.int .i64 m.1) (.slice m.2.1 dim m.2.2.1) 93 := Two.new W1 _ _ _
      have HOR : Hid (∀ ao' cap', SView W1 ao' tl → Calls Try.prog 126 #[.slice ao' N cap', .func (.func 160) #[] #[.pointer (some ⟨W1.heap.size, 0, none⟩)]] ((W1.alloc (.cells #[.int .i64 m.1, .slice m.2.1 dim m.2.2.1] 93)).drew) fun e w' => ∃ gs, e = .returned (.slice (some ⟨gs, 0, none⟩) N N) ∧ SSeg w' gs 0 (sortBy (sslt m.2.2.2) tl) ∧ W1.heap.size ≤ gs ∧ gs < w'.heap.size ∧ Below W1.heap.size W1 w') := fun ao' cap' h => by
        rcases Nat.eq_zero_or_pos N with h0 | h0
        · have e : tl = [] := List.length_eq_zero_iff.1 (by omega)
          subst e h0
          refine (iInOrder0 ao' cap' _ _).mono ?_
          rintro e w' ⟨rfl, rfl⟩
          exact ⟨_, rfl, fun i hi => by simp [sortBy] at hi, by simp, by simp, below_alloc LB _⟩
        · have := iBySteps W1.heap.size m ao' cap' tl _ (by omega) (by omega) (h.next LB) (fun d hd => ((hlw d (List.mem_cons_of_mem _ hd)).next L1).next LB) hst (by rw [hmd]; exact TB) (((hlw m (List.mem_cons_self ..)).next L1).next LB) htw
          rw [← hN] at this
          exact this.mono fun e w' ⟨gs, he, h1, h2, h3, h4⟩ => ⟨gs, he, h1, by simp at h2; omega, h3, LB.trans (h4.mono (by simp))⟩
      have HTV := hidP htv
      have HT1 := hidP T1
      have HL1 := hidP L1
      have HLW := hidP hlw
      have HMD := hidP hmd
      have HTD := hidP htd
      have HTW := hidP htw
      have HST := hidP hst
      have HN := hidP hN
      have HZ1 := hidP hz1
      clear ih hr hv hnone hs hlw htv hdim hmd htd T1 L1 hN hm0 htw hst hso LB TB hmo hz1
      rw [hlen1]
      go_enter Try.func84, Try.ntmps84
      go_upto_region 4 with fail
      rw [← hW1]
      clear hW1 y0 y1
      go_cut [7] from 11 to 63 (fun r wx => ∃ gs, r = .slice (some ⟨gs, 0, none⟩) N N ∧ SSeg wx gs 0 (sortBy (sslt m.2.2.2) tl) ∧ W1.heap.size ≤ gs ∧ gs < wx.heap.size ∧ Below W1.heap.size W1 wx)
      case first =>
        have HK : Hid (∀ w', Below W1.heap.size W1 w' → w'.cell? ⟨w.heap.size, 0, none⟩ = some (.int .i64 m.1) ∧ w'.cell? ⟨w.heap.size, 1, none⟩ = some (.slice m.2.1 dim m.2.2.1)) := fun w' L => ⟨(L.cell (p := ⟨w.heap.size, 0, none⟩) (by show w.heap.size < W1.heap.size; have := HZ1.out; omega)).trans x0, (L.cell (p := ⟨w.heap.size, 1, none⟩) (by show w.heap.size < W1.heap.size; have := HZ1.out; omega)).trans x1⟩
        by_cases hc1 : cap = 1
        · subst hc1
          have hN0 : N = 0 := by omega
          subst hN0
          have HC := hidP (HOR.out (some ⟨b, off, none⟩) 0 (Or.inl (List.length_eq_zero_iff.1 HN.out.symm)))
          clear HOR
          go_region_held3 (fun w' => w'.cell? ⟨w.heap.size, 0, none⟩ = some (.int .i64 m.1) ∧ w'.cell? ⟨w.heap.size, 1, none⟩ = some (.slice m.2.1 dim m.2.2.1))
            (first
              | (refine HK.out _ ?_; repeat' (first | (with_reducible exact Below.refl _ _) | (with_reducible exact Lx) | (with_reducible refine Below.drew ?_) | (with_reducible refine below_alloc ?_ _)))
              | go_keep)
            (first
              | (go_at_call 132; refine (HBF.out _).mono ?_; rintro e wy ⟨rfl, rfl⟩)
              | (go_at_call 126; refine HC.out.mono ?_; rintro e wx ⟨gs, rfl, hsg, hg1, hg2, Lx⟩))
          all_goals
            have HE := hidP (And.intro hsg (And.intro hg1 (And.intro hg2 Lx)))
            clear hsg hg1 hg2 Lx
            go_wp2_with fail
            go_meet
            exact ⟨gs, rfl, HE.out⟩
        · have hc2 : ¬ cap - 1 = 0 := by omega
          have hc3 : (1 : Int) ≤ (cap : Int) := by omega
          have hc4 : (1 : Int) ≤ ((N : Int) + 1) := by omega
          have HC := hidP (HOR.out (some ⟨b, off + 2, none⟩) (cap - 1) (HTV.out W1 HL1.out))
          clear HOR
          go_region_held3 (fun w' => w'.cell? ⟨w.heap.size, 0, none⟩ = some (.int .i64 m.1) ∧ w'.cell? ⟨w.heap.size, 1, none⟩ = some (.slice m.2.1 dim m.2.2.1))
            (first
              | (refine HK.out _ ?_; repeat' (first | (with_reducible exact Below.refl _ _) | (with_reducible exact Lx) | (with_reducible refine Below.drew ?_) | (with_reducible refine below_alloc ?_ _)))
              | go_keep)
            (first
              | (go_at_call 132; refine (HBF.out _).mono ?_; rintro e wy ⟨rfl, rfl⟩)
              | (go_at_call 126; refine HC.out.mono ?_; rintro e wx ⟨gs, rfl, hsg, hg1, hg2, Lx⟩))
          all_goals
            have HE := hidP (And.intro hsg (And.intro hg1 (And.intro hg2 Lx)))
            clear hsg hg1 hg2 Lx
            go_wp2_with fail
            go_meet
            exact ⟨gs, rfl, HE.out⟩
      case rest =>
        obtain ⟨gs, rfl, hsg, hg1, hg2, Lc⟩ := hcut
        obtain ⟨W2, hW2⟩ : ∃ W2, W2 = wc := ⟨wc, rfl⟩
        subst hW2
        have hz1 := HZ1.out
        have hzc := Lc.size
        have hsl : (sortBy (sslt m.2.2.2) tl).length = N := by rw [sortBy_length]; exact HN.out.symm
        have hsm : ∀ d ∈ sortBy (sslt m.2.2.2) tl, d ∈ tl := fun d hd => (sortBy_perm _ _).mem_iff.1 hd
        have hsorted : SortedBy (stlt m.2.2.2) (smMarks (sortBy (sslt m.2.2.2) tl)) := by
          rw [sort6_marks]; exact sortBy_sorted (parts_stlt m.2.2.2 HST.out.marks) _ (fun y hy => hy)
        obtain ⟨M, hM⟩ : ∃ M, M = (N + 1) / 2 := ⟨_, rfl⟩
        have hdiv : (((N : Int) + 1) / 2) = (M : Int) := by omega
        have htr : ballF (f + 1) (smMarks (m :: tl)) = .node (smMark m) (radV m.2.2.2 (smMarks ((sortBy (sslt m.2.2.2) tl).take M))).toNat (ballF f (smMarks ((sortBy (sslt m.2.2.2) tl).take M))) (ballF f (smMarks ((sortBy (sslt m.2.2.2) tl).drop M))) := by
          have e1 : smMarks (m :: tl) = smMark m :: smMarks tl := rfl
          rw [e1, ballF, smMarks_length, ← HN.out, ← hM]
          show Tr.node (smMark m) _ _ _ = _
          have e2 : sortBy (stlt (smMark m).2) (smMarks tl) = smMarks (sortBy (sslt m.2.2.2) tl) := (sort6_marks m.2.2.2 tl).symm
          rw [e2]
          simp [smMarks, List.map_take, List.map_drop, smMark]
        have HTR := hidP htr
        have HSO := hidP (HST.out.sub hsm)
        clear htr
        generalize sortBy (sslt m.2.2.2) tl = s at *
        have hML : M ≤ N := by omega
        have htl : (s.take M).length = M := by simp; omega
        have hdl : (s.drop M).length = N - M := by simp; omega
        have hL2 : Below w.heap.size w W2 := chain HL1.out Lc
        have T2 : Two W2 w.heap.size (.int .i64 m.1) (.slice m.2.1 dim m.2.2.1) 93 := HT1.out.below Lc
        have hv1 : SView W2 (some ⟨gs, 0, none⟩) (s.take M) := Or.inr ⟨gs, 0, rfl, hg2, hsg.take M⟩
        obtain ⟨aa, haa⟩ : ∃ aa, aa = (if N = M then some (⟨gs, 0, none⟩ : Addr) else some ⟨gs, M * 2, none⟩) := ⟨_, rfl⟩
        have hv2 : SView W2 aa (s.drop M) := by
          by_cases h : N = M
          · exact Or.inl (List.eq_nil_of_length_eq_zero (by rw [hdl]; omega))
          · rw [haa, if_neg h]
            exact Or.inr ⟨gs, M * 2, rfl, hg2, by have := hsg.drop M; rwa [Nat.zero_add] at this⟩
        have hab : ∀ a, aa = some a → w.heap.size + 1 ≤ a.block := fun a e => by
          rw [haa] at e
          split at e <;> (cases e; show w.heap.size + 1 ≤ gs; omega)
        have M1 := SMid.of hv1 (lo := w.heap.size + 1) (fun a e => by cases e; show w.heap.size + 1 ≤ gs; omega)
        have M2 := SMid.of hv2 hab
        obtain ⟨R, hR⟩ : ∃ R, R = radV m.2.2.2 (smMarks (s.take M)) := ⟨_, rfl⟩
        have HRAD : Hid (∀ w', Below W2.heap.size W2 w' → Calls Try.prog 134 #[.agg #[.int .i64 m.1, .slice m.2.1 dim m.2.2.1], .slice (some ⟨gs, 0, none⟩) M N] w' fun e w'' => e = .returned (.int .i64 R) ∧ Below w'.heap.size w' w'') := fun w' L => by
          have hlw' : ∀ d ∈ m :: tl, View w' d.2.1 d.2.2.2 := fun d hd => ((HLW.out d hd).next hL2).next L
          rcases Nat.eq_zero_or_pos M with h0 | h0
          · have e0 : R = 0 := by rw [hR, show M = 0 from h0]; rfl
            rw [h0, e0]
            exact iRad0 m dim _ _ w'
          · have htw : ∀ d ∈ s.take M, twoB m.2.2.2 d.2.2.2 = true := fun d hd => HTW.out d (hsm d (List.mem_of_mem_take hd))
            have h := iRad m gs 0 N (s.take M) w' (by omega) (by omega) (Nat.lt_of_lt_of_le hg2 L.size) ((hsg.take M).below hg2 L) (hlw' m (List.mem_cons_self ..)) (fun d hd => hlw' d (List.mem_cons_of_mem _ (hsm d (List.mem_of_mem_take hd)))) htw
            rw [htl, HMD.out] at h
            refine h.mono fun e w'' ⟨he, h⟩ => ⟨?_, h⟩
            rw [he, hR]
            have hlast : mat (smMarks (s.take M)) (M - 1) = (snth (s.take M) (M - 1)).2.2.2 := congrArg Prod.snd (smMarks_at (s.take M) (M - 1) (by omega))
            have hst2 : SortedBy (stlt m.2.2.2) (smMarks (s.take M)) := by
              have e : smMarks (s.take M) = (smMarks s).take M := by simp [smMarks, List.map_take]
              rw [e]
              exact List.Pairwise.sublist (List.take_sublist _ _) hsorted
            have := radV_last m.2.2.2 (smMarks (s.take M)) hst2 (by rw [smMarks_length]; omega) (by rw [smMarks_length, htl, hlast]; exact steps_nonneg (htw _ (snth_mem (by omega))))
            rw [this, smMarks_length, htl, hlast]
        have hrl := radV_le m.2.2.2 (smMarks (s.take M))
        rw [← hR] at hrl
        have HRN : Hid ((R.toNat : Int) = R) := by show (R.toNat : Int) = R; omega
        have HRV := hidP hR
        rw [← hR] at HTR
        have HM2 := hidP (And.intro M1 M2)
        have HVM := hidP ((HLW.out m (List.mem_cons_self ..)).next hL2)
        have HL2 := hidP hL2
        have hgl := HR.out.lt
        have HR2 := hidP (HR.out.below hL2)
        have HSM := hidP hsm
        have HAA := hidP haa
        have u0 := T2.c0
        have u1 := T2.c1
        have HT2 := hidP T2
        have hN0 : (0 : Int) ≤ (M : Int) := Int.natCast_nonneg _
        have hN1 : (M : Int) ≤ (N : Int) := by omega
        have hw2 : w.heap.size < W2.heap.size := by omega
        have HLN := hidP (And.intro hsl (And.intro htl hdl))
        have HM := hidP hM
        clear hsg hsorted hv1 hv2 hab M1 M2 hL2 T2 hR hsm haa HT1 HLW HR HL1 Lc x0 x1 HOR HTV HBF hsl htl hdl hz1 hlen1 hM
        go_upto_region 6 with fail
        try simp only [hdiv]
        clear hdiv
        go_cut [9, 10] from 11 to 63 (fun nr ap wx => nr = .slice (some ⟨gs, 0, none⟩) M N ∧ ap = .slice aa (N - M) (N - M) ∧ ∃ n, wx = W2.drewN n)
        case first =>
          by_cases hNM : N = M
          · subst hNM
            go_quiet (fail)
            go_wp2_with fail
            all_goals
              go_meet
              exact ⟨rfl, by rw [HAA.out]; simp, nq, rfl⟩
          · have HNM := hidP hNM
            have h1 : ¬ N - M = 0 := by omega
            have h2 : ¬ N = 0 := by omega
            have h3 : M < N := by omega
            go_quiet (fail)
            go_wp2_with fail
            all_goals
              go_meet
              exact ⟨rfl, by rw [HAA.out, if_neg HNM.out], nq, rfl⟩
        case rest =>
          obtain ⟨rfl, rfl, n3, hW3⟩ := hcut
          obtain ⟨W3, hW3'⟩ : ∃ W3, W3 = wc := ⟨wc, rfl⟩
          subst hW3'
          have L23 : Below W2.heap.size W2 W3 := by rw [hW3]; exact below_drewN (Below.refl _ _) n3
          have hz23 : W3.heap.size = W2.heap.size := by rw [hW3]; rfl
          have v0 := (HT2.out.below L23).c0
          have v1 := (HT2.out.below L23).c1
          have HOW := hidP (iOwn m W3.drew (HVM.out.next L23).drew (by rw [HMD.out]; omega) (by rw [HMD.out]; omega))
          rw [HMD.out] at HOW
          have HKB : Hid (∀ Y, Below W3.heap.size W3 Y → Y.ownsRow base 107 5 (.slice (some ⟨g, 0, none⟩) es.length c) es.length (dkCells es)) := fun Y hY => (HR2.out.below L23).below hY
          have HK : Hid (∀ w', Below W3.heap.size W3 w' → w'.cell? ⟨w.heap.size, 0, none⟩ = some (.int .i64 m.1) ∧ w'.cell? ⟨w.heap.size, 1, none⟩ = some (.slice m.2.1 dim m.2.2.1)) := fun w' L => ⟨(L.cell (p := ⟨w.heap.size, 0, none⟩) (by show w.heap.size < W3.heap.size; omega)).trans v0, (L.cell (p := ⟨w.heap.size, 1, none⟩) (by show w.heap.size < W3.heap.size; omega)).trans v1⟩
          have HRAD3 : Hid (∀ w', Below W3.heap.size W3 w' → Calls Try.prog 134 #[.agg #[.int .i64 m.1, .slice m.2.1 dim m.2.2.1], .slice (some ⟨gs, 0, none⟩) M N] w' fun e w'' => e = .returned (.int .i64 R) ∧ Below w'.heap.size w' w'') := fun w' L => HRAD.out w' (chain L23 L)
          have HM3 := hidP (And.intro (HM2.out.1.below L23) (HM2.out.2.below L23))
          have HL3 := hidP (chain HL2.out L23)
          have HZ3 := hidP hz23
          have hw3 : w.heap.size < W3.heap.size := by omega
          have hgw3 : g < W3.heap.size := by omega
          clear hW3 L23 hz23 u0 u1 HT2 HRAD HM2 HR2 HVM
          go_upto_region 7 with fail
          go_cut [0] from 11 to 63 (fun o wx => ∃ g2 c2 h1 c1, o = .slice (some ⟨g2, 0, none⟩) (es.length + 1) c2 ∧ BRow base wx g2 c2 (es ++ [((m.1, some (⟨h1, 0, none⟩ : Addr), c1, m.2.2.2), (R, (0 : Int), (0 : Int)))]) ∧ IRow W3.heap.size wx h1 c1 m.2.2.2 ∧ h1 ≠ g2 ∧ W3.grownBy wx (some g) ∧ (g2 = g ∨ W3.heap.size ≤ g2))
          case first =>
            obtain ⟨j0, hj0, hy0, hy1, hy2⟩ := info_parts Try.info107
            go_region_held3 (fun w' => w'.cell? ⟨w.heap.size, 0, none⟩ = some (.int .i64 m.1) ∧ w'.cell? ⟨w.heap.size, 1, none⟩ = some (.slice m.2.1 dim m.2.2.1))
              (first
                | exact hS6
                | (refine HK.out _ ?_; repeat' (first | (with_reducible exact Below.refl _ _) | (with_reducible exact L45) | (with_reducible exact L4) | (with_reducible refine Below.drew ?_) | (with_reducible refine below_alloc ?_ _)))
                | go_keep)
              (first
                | (go_at_call 133; refine HOW.out.mono ?_; rintro e w4 ⟨h1, c1, rfl, hi4, L4'⟩; have L4 : Below W3.heap.size W3 w4 := (Below.refl _ W3).drew.trans L4')
                | (go_at_call 134; refine (HRAD3.out w4 L4).mono ?_; rintro e w5 ⟨rfl, L5⟩; have L45 : Below W3.heap.size W3 w5 := chain L4 L5; have hi5 := hi4.below L5; have hz5 := L45.size; have hi5l := hi5.lt)
                | (refine step_append_at _ (by rfl) (.tmp 35) (.tmp 42) 32 (by rfl) base 107 j0 _ 5 56 Try.underlying32 hj0 hy0 hy1 hy2 rfl (by omega) g es.length c (dkCells es) (by rfl) (HKB.out _ (by repeat' (first | (with_reducible exact Below.refl _ _) | (with_reducible exact L45) | (with_reducible exact L4) | (with_reducible refine Below.drew ?_) | (with_reducible refine below_alloc ?_ _)))) (some ⟨_, 0, none⟩) 1 1 (dkCells [((m.1, some (⟨h1, 0, none⟩ : Addr), c1, m.2.2.2), (R, (0 : Int), (0 : Int)))]) (by rfl) (one_srcV (d := ((m.1, some (⟨h1, 0, none⟩ : Addr), c1, m.2.2.2), (R, (0 : Int), (0 : Int)))) (by rw [HMD.out]; first | exact heap_at_drew (heap_at_new (by simp)) | exact heap_at_new (by simp))) (by unfold maxLen; omega) (by omega) (by simp; omega) (w5.heap.size + 1) (by simp) ?_; intro g2 c2 w6 hown2 hgrow2 hat2 hlt2; have hg6 : W3.grownBy w6 (some g) := grown_after (below_alloc L45 _) hgrow2; have hS6 := And.intro ((cell_grown (by omega) hg6 (fun e => by injection e with e; omega)).trans v0) ((cell_grown (by omega) hg6 (fun e => by injection e with e; omega)).trans v1)))
            all_goals
              have HF : Hid (BRow base w6 g2 c2 (es ++ [((m.1, some (⟨h1, 0, none⟩ : Addr), c1, m.2.2.2), (R, (0 : Int), (0 : Int)))]) ∧ IRow W3.heap.size w6 h1 c1 m.2.2.2 ∧ h1 ≠ g2 ∧ W3.grownBy w6 (some g) ∧ (g2 = g ∨ W3.heap.size ≤ g2)) :=
                ⟨BRow.of hown2 (by simp) (by rw [dkCells_append]), (hi5.below (alloc_below w5 _)).kept hgrow2 (fun e => by injection e with e; have : W3.heap.size ≤ h1 := hi5l.1; omega), by have : W3.heap.size ≤ h1 := hi5l.1; omega, hg6, by omega⟩
              clear hown2 hgrow2 hS6 hg6 hi4 hi5 L4 L4' L5 L45 hi5l
              go_wp2_with fail
              go_meet
              exact ⟨g2, c2, h1, c1, rfl, HF.out⟩
          case rest =>
            obtain ⟨g5, c5, h1, c1, rfl, k5, hi5, hh1, g35, hm5⟩ := hcut
            obtain ⟨w5, hw5⟩ : ∃ w5, w5 = wc := ⟨wc, rfl⟩
            subst hw5
            obtain ⟨hsl, htl, hdl⟩ := HLN.out
            have hz23 := HZ3.out
            have hz35 := g35.size
            obtain ⟨p1, hp1⟩ : ∃ p1, p1 = (ballF f (smMarks (s.take M))).place (es.length + 1) := ⟨_, rfl⟩
            obtain ⟨p2, hp2⟩ : ∃ p2, p2 = (ballF f (smMarks (s.drop M))).place (es.length + 1 + M) := ⟨_, rfl⟩
            have HPL1 : Hid (∀ (bo : Option Addr) (d : Nat) (w : World), Calls Try.prog 135 #[.slice (some ⟨gs, 0, none⟩) M N, .slice bo (es.length + 1) d] w fun e w' => e = .returned (.int .i64 p1) ∧ w' = w) := fun bo d w => by
              have h := iPlaceV (some ⟨gs, 0, none⟩) bo M N (es.length + 1) d w
              rw [hp1, ballF_place _ _ _ (by rw [smMarks_length, htl]; omega), smMarks_length, htl]; exact h
            have HPL2 : Hid (∀ (bo : Option Addr) (d : Nat) (w : World), Calls Try.prog 135 #[.slice aa (N - M) (N - M), .slice bo (es.length + 1 + M) d] w fun e w' => e = .returned (.int .i64 p2) ∧ w' = w) := fun bo d w => by
              have h := iPlaceV aa bo (N - M) (N - M) (es.length + 1 + M) d w
              rw [hp2, ballF_place _ _ _ (by rw [smMarks_length, hdl]; omega), smMarks_length, hdl]; exact h
            have HP1 := hidP hp1
            have HP2 := hidP hp2
            clear hp1 hp2
            have m15 := HM3.out.1.grown g35 (by omega)
            have m25 := HM3.out.2.grown g35 (by omega)
            have hi5l := hi5.lt
            have hk5l := k5.lt
            obtain ⟨_, _, _, r3, r4⟩ := k5.cell (i := es.length) (by simp)
            have f3 := World.ownsRow.frozenAt k5 (es.length * 5 + 3)
            have g05 : w.grownBy w5 (some g) := grown_after HL3.out g35
            have hl5 : (es.length : Int) < ((es.length : Int) + 1) := by omega
            have he0 : (0 : Int) ≤ (es.length : Int) := by omega
            have k6 := k5.less p1
            have s56 := grown_setCell w5 g5 (es.length * 5 + 3) (.int .i64 p1)
            have m16 := m15.grown s56 (by omega)
            have m26 := m25.grown s56 (by omega)
            have hi6 := hi5.kept s56 (fun x => by injection x with x; omega)
            have g06 : w.grownBy (w5.setCell ⟨g5, es.length * 5 + 3, none⟩ (.int .i64 p1)) (some g) := grownK_trans g05 s56 (by omega)
            have H6 := hidP (And.intro k6 (And.intro m16 (And.intro m26 (And.intro hi6 g06))))
            clear k5 m15 m25 hi5 g05 k6 s56 m16 m26 hi6 g06 g35 HM3 r4 hsl htl hdl HRAD3 HK HKB HOW hz23 v0 v1
            go_upto_region 9 with (go_at_call 135; refine (HPL1.out _ _ _).mono ?_; rintro e wx ⟨rfl, hwx⟩; rw [hwx]; clear hwx)
            obtain ⟨W6, hW6⟩ : ∃ W6, W6 = w5.setCell ⟨g5, es.length * 5 + 3, none⟩ (.int .i64 p1) := ⟨_, rfl⟩
            rw [← hW6]
            rw [← hW6] at H6
            clear hW6 r3 f3
            obtain ⟨hsl, htl, hdl⟩ := HLN.out
            have hz23 := HZ3.out
            obtain ⟨k6, m16, m26, hi6, g06⟩ := H6.out
            have hel : (es ++ [((m.1, some (⟨h1, 0, none⟩ : Addr), c1, m.2.2.2), (R, (p1 : Int), (0 : Int)))]).length = es.length + 1 := by simp
            have hB6 : Below base W0 W6 := below_grown hB g06 hbw hgl.1
            have hz6 := g06.size
            have H1 := HIH.out (s.take M) (some ⟨gs, 0, none⟩) N dim base g5 c5 (es ++ [((m.1, some ⟨h1, 0, none⟩, c1, m.2.2.2), (R, p1, 0))]) W0 W6 (by omega) (by omega) (by rw [htl, hel]; omega) m16.view (hl.sub (fun d hd => List.mem_cons_of_mem _ (HSM.out d (List.mem_of_mem_take hd)))) hW hB6 (by omega) (fun d hd => HTD.out d (HSM.out d (List.mem_of_mem_take hd))) (HSO.out.sub (fun d hd => List.mem_of_mem_take hd)) k6
            rw [htl, hel] at H1
            have HH1 := hidP H1
            clear k6 m16 m26 hi6 g06 H1 hB6 hsl htl hdl hz23
            go_wp2_with fail
            refine HH1.out.mono ?_
            rintro e w7 ⟨g7, c7, ks1, rfl, LD1⟩
            obtain ⟨hsl, htl, hdl⟩ := HLN.out
            have hz23 := HZ3.out
            obtain ⟨k7, hf1, ho1, g67, hgg7⟩ := LD1
            obtain ⟨k6, m16, m26, hi6, g06⟩ := H6.out
            have hg5w : g5 < W6.heap.size := k6.lt.2
            have hz7 := g67.size
            have hsz1 : (ballF f (smMarks (s.take M))).size = M := by rw [ballF_size _ _ (by rw [smMarks_length, htl]; omega), smMarks_length, htl]
            have HSZ1 := hidP hsz1
            have hks1 : ks1.length = M := by
              have := congrArg List.length hf1
              rw [List.length_map, Tr.flat_length, hsz1] at this
              exact this
            have k7' : BRow base w7 g7 c7 (es ++ ((m.1, some (⟨h1, 0, none⟩ : Addr), c1, m.2.2.2), (R, p1, (0 : Int))) :: ks1) := by
              have e : (es ++ [((m.1, some (⟨h1, 0, none⟩ : Addr), c1, m.2.2.2), (R, p1, (0 : Int)))]) ++ ks1 = es ++ ((m.1, some (⟨h1, 0, none⟩ : Addr), c1, m.2.2.2), (R, p1, (0 : Int))) :: ks1 := by simp
              rw [e] at k7; exact k7
            have m27 := m26.grown g67 (by omega)
            have hi6l := hi6.lt
            have o6 : KOuts W3.heap.size W6 g5 [((m.1, some (⟨h1, 0, none⟩ : Addr), c1, m.2.2.2), (R, p1, p2))] := ⟨fun d hd => by simp at hd; subst hd; exact ⟨h1, rfl, hi6, hh1⟩, List.pairwise_singleton _ _⟩
            have o7 := (o6.moved g67 hgg7).append ho1 (by omega) (fun d hd a ha => o6.block d hd a ha)
            have g07 : w.grownBy w7 (some g) := grownK_trans g06 g67 (by omega)
            have hm7 : g7 = g ∨ w.heap.size ≤ g7 := by omega
            have hgh7 : g7 < w.heap.size + 1 ∨ W2.heap.size ≤ g7 := by omega
            obtain ⟨_, _, _, r3, r4⟩ := k7'.cell (i := es.length) (by simp)
            have f4 := World.ownsRow.frozenAt k7' (es.length * 5 + 4)
            have k8 := k7'.more p2
            have s78 := grown_setCell w7 g7 (es.length * 5 + 4) (.int .i64 p2)
            have m28 := m27.grown s78 hgh7
            have o8 := o7.kept s78
            have g08 : w.grownBy (w7.setCell ⟨g7, es.length * 5 + 4, none⟩ (.int .i64 p2)) (some g) := grownK_trans g07 s78 hm7
            have hz8 := g08.size
            have hz78 := s78.size
            have H8 := hidP (And.intro k8 (And.intro m28 (And.intro o8 g08)))
            rw [hel] at hf1
            have HF1 := hidP hf1
            have hl7 : (es.length : Int) < ((es.length : Int) + 1 + (M : Int)) := by omega
            clear k7 hf1 ho1 g67 k6 m16 m26 hi6 g06 k7' m27 o6 o7 g07 k8 s78 m28 o8 g08 H6 HH1 r3 hsl htl hdl hz23 hks1 hsz1
            go_upto_region 11 with (go_at_call 135; refine (HPL2.out _ _ _).mono ?_; rintro e wx ⟨rfl, hwx⟩; rw [hwx]; clear hwx)
            obtain ⟨W8, hW8⟩ : ∃ W8, W8 = w7.setCell ⟨g7, es.length * 5 + 4, none⟩ (.int .i64 p2) := ⟨_, rfl⟩
            rw [← hW8]
            rw [← hW8] at H8
            rw [← hW8] at hz8 hz78
            clear hW8 r4 f4
            obtain ⟨hsl, htl, hdl⟩ := HLN.out
            obtain ⟨k8, m28, o8, g08⟩ := H8.out
            have hks1 : ks1.length = M := by
              have := congrArg List.length HF1.out
              rw [List.length_map, Tr.flat_length, HSZ1.out] at this
              exact this
            have hel8 : (es ++ ((m.1, some (⟨h1, 0, none⟩ : Addr), c1, m.2.2.2), (R, p1, p2)) :: ks1).length = es.length + 1 + M := by simp; omega
            have hB8 : Below base W0 W8 := below_grown hB g08 hbw hgl.1
            have H2 := HIH.out (s.drop M) aa (N - M) dim base g7 c7 (es ++ ((m.1, some ⟨h1, 0, none⟩, c1, m.2.2.2), (R, p1, p2)) :: ks1) W0 W8 (by omega) (by omega) (by rw [hdl, hel8]; omega) m28.view (hl.sub (fun d hd => List.mem_cons_of_mem _ (HSM.out d (List.mem_of_mem_drop hd)))) hW hB8 (by omega) (fun d hd => HTD.out d (HSM.out d (List.mem_of_mem_drop hd))) (HSO.out.sub (fun d hd => List.mem_of_mem_drop hd)) k8
            rw [hdl, hel8, show es.length + 1 + M + (N - M) = es.length + (N + 1) by omega] at H2
            have HH2 := hidP H2
            have hg7w : g7 < W8.heap.size := k8.lt.2
            have HEL8 := hidP hel8
            clear k8 m28 o8 g08 H2 hB8 hsl htl hdl hks1 hel8
            go_wp2_with fail
            refine HH2.out.mono ?_
            rintro e w9 ⟨g9, c9, ks2, rfl, LD2⟩
            have HE : Hid (∃ ks, LaidB base w w9 g g9 c9 es ks (.node (smMark m) R.toNat (ballF f (smMarks (s.take M))) (ballF f (smMarks (s.drop M))))) := by
              obtain ⟨k9, hf2, ho2, g89, hgg9⟩ := LD2
              obtain ⟨k8, m28, o8, g08⟩ := H8.out
              refine ⟨((m.1, some ⟨h1, 0, none⟩, c1, m.2.2.2), (R, p1, p2)) :: (ks1 ++ ks2), ?_, ?_, ?_, ?_, ?_⟩
              · have e : (es ++ ((m.1, some (⟨h1, 0, none⟩ : Addr), c1, m.2.2.2), (R, p1, p2)) :: ks1) ++ ks2 = es ++ ((m.1, some (⟨h1, 0, none⟩ : Addr), c1, m.2.2.2), (R, p1, p2)) :: (ks1 ++ ks2) := by simp
                rw [e] at k9; exact k9
              · rw [HEL8.out] at hf2
                rw [List.map_cons, List.map_append, HF1.out, hf2, Tr.flat, HSZ1.out, ← HP1.out, ← HP2.out, HRN.out]
                rfl
              · have o9 := (o8.moved g89 hgg9).append ho2 (by omega) (fun d hd a ha => o8.block d hd a ha)
                have o10 := o9.mono (show w.heap.size ≤ W3.heap.size by omega)
                simpa using o10
              · exact grownK_trans g08 g89 hm7
              · omega
            clear LD2 HH2 H8
            go_wp2_with fail
            go_ret
            rw [HTR.out]
            obtain ⟨ks, hks⟩ := HE.out
            exact ⟨g9, c9, ks, rfl, hks⟩

end Go.Proofs.Ythddhblmnfjciaa
namespace Go.Proofs.Ythddhblmnfjciaa
open Go Go.RowKit

theorem marks_okB {ms : List Mk} (h : marksB ms = true) : ∀ a ∈ ms, okB a.2 = true := fun a ha => by
  obtain ⟨i, hi, rfl⟩ := List.getElem_of_mem ha
  have := ((mOkAt_iff ms i).1 (marksB_at h hi)).2.2.1
  simpa [mat, List.getD, hi] using this

/-- What is handed out: nothing, or a row of knots of its own, each place a row of its own. -/
def BGot (B : Nat) (w : World) (v : Value) (ks : List Kn) : Prop :=
  (v = .slice none 0 0 ∧ ks = []) ∨ ∃ g c es, v = .slice (some ⟨g, 0, none⟩) ks.length c ∧ es.map dkKn = ks ∧ BRow B w g c es ∧ KOuts B w g es
theorem BGot.below {B : Nat} {w w' : World} {v : Value} {ks : List Kn} (h : BGot B w v ks) (hw : Below w.heap.size w w') : BGot B w' v ks :=
  h.imp id fun ⟨g, c, es, e, e2, r, o⟩ => ⟨g, c, es, e, e2, r.below hw, o.below hw⟩
theorem BGot.mono {B B' : Nat} {w : World} {v : Value} {ks : List Kn} (h : BGot B w v ks) (hb : B' ≤ B) : BGot B' w v ks :=
  h.imp id fun ⟨g, c, es, e, e2, r, o⟩ => ⟨g, c, es, e, e2, r.mono hb, o.mono hb⟩
set_option maxRecDepth 100000 in
set_option maxHeartbeats 1000000 in
theorem sBalls (ao : Option Addr) (cap : Nat) (ms : List Mk) (w : World) (hcp : ms.length ≤ cap) (hv : MView w ao ms) (hsm : MSmall ms) :
    Calls Try.prog 22 #[.slice ao ms.length cap] w fun e w' => ∃ v, e = .returned v ∧ BGot w.heap.size w' v (ballsV ms) ∧ Below w.heap.size w w' := by
  have HC := hidP (sMarks ao cap ms w hv hsm)
  rcases hm : marksB ms with _ | _
  · rw [hm] at HC
    have HV : Hid (ballsV ms = []) := by show ballsV ms = []; simp [ballsV, hm]
    go_enter Try.func22, Try.ntmps22
    go_wp2_with fail
    refine HC.out.mono ?_
    rintro e w1 ⟨rfl, n1, rfl⟩
    go_wp2_with fail
    go_ret
    rw [HV.out]
    exact ⟨_, rfl, Or.inr ⟨_, 0, [], rfl, rfl, BRow.start (w.drewN n1) _ (Nat.le_refl _), KOuts.nil _ _ _⟩, (below_drewN (Below.refl _ _) n1).alloc (Nat.le_refl _) _⟩
  · rw [hm] at HC
    have HV : Hid (ballsV ms = (ballF 60 ms).flat 0) := by show ballsV ms = _; simp [ballsV, hm]
    have h60 := marksB_len hm
    obtain ⟨ds, hds, hsv, hsl⟩ := hv.sview
    have hdl : ds.length = ms.length := by rw [← hds, smMarks_length]
    have H : Hid (∀ n, Calls Try.prog 81 #[.slice ao ms.length cap, .slice (some ⟨w.heap.size, 0, none⟩) 0 0] ((w.drewN n).alloc (.cells #[] 107)) fun e w' => ∃ g' c' ks v2, e = .returned (.tuple #[.slice (some ⟨g', 0, none⟩) ms.length c', .int .i64 v2]) ∧ LaidB w.heap.size ((w.drewN n).alloc (.cells #[] 107)) w' w.heap.size g' c' [] ks (ballF 60 ms)) := fun n => by
      have hB : Below w.heap.size w ((w.drewN n).alloc (.cells #[] 107)) := (below_drewN (Below.refl _ _) n).alloc (Nat.le_refl _) _
      rcases Nat.eq_zero_or_pos ms.length with h0 | h0
      · have e : ms = [] := List.length_eq_zero_iff.1 h0
        subst e
        refine (sBalls0 ao cap w.heap.size 0 0 ((w.drewN n).alloc (.cells #[] 107))).mono ?_
        rintro e w' ⟨rfl, rfl⟩
        exact ⟨w.heap.size, 0, [], -1, rfl, BRow.start (w.drewN n) _ (Nat.le_refl _), rfl, KOuts.nil _ _ _, ⟨rfl, rfl, rfl, Nat.le_refl _, fun _ _ _ => rfl⟩, Or.inl rfl⟩
      · obtain ⟨dim, hd1, hd4, hdim⟩ := marks_dim hm h0
        have h := sBallsF 60 ds ao cap dim w.heap.size w.heap.size 0 [] w ((w.drewN n).alloc (.cells #[] 107)) (by omega) (by omega) (by simp; omega) (hsv.next hB) hsl (Nat.le_refl _) hB (by simp) (fun d hd => hdim (smMark d) (by rw [← hds]; exact List.mem_map_of_mem hd)) hd1 hd4 (BRow.start (w.drewN n) _ (Nat.le_refl _))
        rw [hdl, hds] at h
        refine h.mono ?_
        rintro e w' ⟨g', c', ks, rfl, hL⟩
        exact ⟨g', c', ks, _, by rw [List.length_nil, Nat.zero_add], hL⟩
    have HL := hidP (ballsV_length ms hm)
    clear hv hsv hsl hds hdl
    go_enter Try.func22, Try.ntmps22
    go_wp2_with fail
    refine HC.out.mono ?_
    rintro e w1 ⟨rfl, n1, rfl⟩
    go_wp2_with fail
    refine (H.out n1).mono ?_
    rintro e w2 ⟨g', c', ks, v2, rfl, hL⟩
    obtain ⟨hr, hf, ho, hg, hgg⟩ := hL
    have hB : Below w.heap.size w w2 := below_grown ((below_drewN (Below.refl _ _) n1).alloc (Nat.le_refl _) _) hg (by simp) (Nat.le_refl _)
    have HE : Hid (BGot w.heap.size w2 (.slice (some ⟨g', 0, none⟩) ms.length c') (ballsV ms) ∧ Below w.heap.size w w2) :=
      ⟨Or.inr ⟨g', c', ks, by rw [HL.out], by rw [HV.out]; exact hf, hr, ho.mono (by simp)⟩, hB⟩
    clear hr hf ho hg hgg hB
    go_wp2_with fail
    go_ret
    exact ⟨_, rfl, HE.out.1, HE.out.2⟩
set_option maxRecDepth 100000 in
set_option maxHeartbeats 1000000 in
theorem iBalls (ao : Option Addr) (cap : Nat) (ms : List Mk) (w : World) (hcp : ms.length ≤ cap) (hv : MView w ao ms) (hsm : MSmall ms) :
    Calls Try.prog 24 #[.slice ao ms.length cap] w fun e w' => ∃ v, e = .returned v ∧ BGot w.heap.size w' v (ballsV ms) ∧ Below w.heap.size w w' := by
  have HC := hidP (iMarks ao cap ms w hv hsm)
  rcases hm : marksB ms with _ | _
  · rw [hm] at HC
    have HV : Hid (ballsV ms = []) := by show ballsV ms = []; simp [ballsV, hm]
    go_enter Try.func24, Try.ntmps24
    go_wp2_with fail
    refine HC.out.mono ?_
    rintro e w1 ⟨rfl, L1⟩
    go_wp2_with fail
    go_ret
    rw [HV.out]
    exact ⟨_, rfl, Or.inl ⟨rfl, rfl⟩, L1⟩
  · rw [hm] at HC
    have HV : Hid (ballsV ms = (ballF 60 ms).flat 0) := by show ballsV ms = _; simp [ballsV, hm]
    have h60 := marksB_len hm
    obtain ⟨ds, hds, hsv, hsl⟩ := hv.sview
    have hdl : ds.length = ms.length := by rw [← hds, smMarks_length]
    have hmk := fun w => run_make_room (P := Try.prog) 32 107 (.agg #[.int .i64 0, .slice none 0 0, .int .i64 0, .int .i64 0, .int .i64 0]) 5 56 Try.underlying32 Try.info107 .i64 .i64 ms.length (by omega) (by omega) w
    have H : Hid (∀ w1, Below w.heap.size w w1 → Calls Try.prog 84 #[.slice (some ⟨w1.heap.size, 0, none⟩) 0 ms.length, .slice ao ms.length cap] (w1.alloc (.cells (madeCells #[.int .i64 0, .slice none 0 0, .int .i64 0, .int .i64 0, .int .i64 0] (ms.length * 5)) 107)) fun e w' => ∃ g' c' ks, e = .returned (.slice (some ⟨g', 0, none⟩) ms.length c') ∧ LaidB w.heap.size (w1.alloc (.cells (madeCells #[.int .i64 0, .slice none 0 0, .int .i64 0, .int .i64 0, .int .i64 0] (ms.length * 5)) 107)) w' w1.heap.size g' c' [] ks (ballF 60 ms)) := fun w1 L1 => by
      have hB : Below w.heap.size w (w1.alloc (.cells (madeCells #[.int .i64 0, .slice none 0 0, .int .i64 0, .int .i64 0, .int .i64 0] (ms.length * 5)) 107)) := L1.alloc L1.size _
      have hk : BRow w.heap.size (w1.alloc (.cells (madeCells #[.int .i64 0, .slice none 0 0, .int .i64 0, .int .i64 0, .int .i64 0] (ms.length * 5)) 107)) w1.heap.size ms.length [] :=
        World.ownsRow_made w1 _ ms.length L1.size (by unfold maxLen; omega) (by rw [size_madeCells])
      have hz := L1.size
      rcases Nat.eq_zero_or_pos ms.length with h0 | h0
      · have e : ms = [] := List.length_eq_zero_iff.1 h0
        subst e
        refine (iBalls0 ao (some ⟨w1.heap.size, 0, none⟩) cap 0 0 _).mono ?_
        rintro e w' ⟨rfl, rfl⟩
        exact ⟨w1.heap.size, 0, [], rfl, hk, rfl, KOuts.nil _ _ _, ⟨rfl, rfl, rfl, Nat.le_refl _, fun _ _ _ => rfl⟩, Or.inl rfl⟩
      · obtain ⟨dim, hd1, hd4, hdim⟩ := marks_dim hm h0
        have h := iBallsF 60 ds ao cap dim w.heap.size w1.heap.size ms.length [] w _ (by omega) (by omega) (by simp; omega) (hsv.next hB) hsl (Nat.le_refl _) hB (by simp; omega) (fun d hd => ⟨marks_okB hm (smMark d) (by rw [← hds]; exact List.mem_map_of_mem hd), hdim (smMark d) (by rw [← hds]; exact List.mem_map_of_mem hd)⟩) (SoleS.of (by rw [hds]; exact hm)) hk
        rw [hdl, hds] at h
        refine h.mono ?_
        rintro e w' ⟨g', c', ks, rfl, hL⟩
        exact ⟨g', c', ks, by rw [List.length_nil, Nat.zero_add], hL⟩
    have HL := hidP (ballsV_length ms hm)
    clear hv hsv hsl hds hdl
    go_enter Try.func24, Try.ntmps24
    go_wp2_with fail
    refine HC.out.mono ?_
    rintro e w1 ⟨rfl, L1⟩
    have hz := L1.size
    have HH := hidP (H.out w1 L1)
    have HL1 := hidP L1
    clear L1 H
    go_wp2_with fail
    refine HH.out.mono ?_
    rintro e w2 ⟨g', c', ks, rfl, hL⟩
    obtain ⟨hr, hf, ho, hg, hgg⟩ := hL
    have hB : Below w.heap.size w w2 := below_grown (HL1.out.alloc HL1.out.size _) hg (by simp; omega) hz
    have HE : Hid (BGot w.heap.size w2 (.slice (some ⟨g', 0, none⟩) ms.length c') (ballsV ms) ∧ Below w.heap.size w w2) :=
      ⟨Or.inr ⟨g', c', ks, by rw [HL.out], by rw [HV.out]; exact hf, hr, ho.mono (by simp; omega)⟩, hB⟩
    clear hr hf ho hg hgg hB HH hmk
    go_wp2_with fail
    go_ret
    exact ⟨_, rfl, HE.out.1, HE.out.2⟩

end Go.Proofs.Ythddhblmnfjciaa
namespace Go.Proofs.Ythddhblmnfjciaa
open Go Go.RowKit

theorem BGot.view {B : Nat} {w : World} {v : Value} {ks : List Kn} (h : BGot B w v ks) : ∃ ao c, v = .slice ao ks.length c ∧ KView w ao ks := by
  rcases h with ⟨rfl, rfl⟩ | ⟨g, c, es, rfl, he, hr, ho⟩
  · exact ⟨none, 0, rfl, Or.inl rfl⟩
  · refine ⟨some ⟨g, 0, none⟩, c, rfl, Or.inr ⟨g, 0, rfl, hr.lt.2, fun i hi => ?_⟩⟩
    have hl : i < es.length := by rw [← he] at hi; simpa using hi
    rw [dk_nth he hi, Nat.zero_add]
    obtain ⟨c0, c1, c2, c3, c4⟩ := hr.cell hl
    have hm : dnth es i ∈ es := by simp [dnth, List.getD, hl]
    obtain ⟨h, e, r, _⟩ := ho.1 _ hm
    exact ⟨c0, ⟨_, _, c1, by rw [e]; exact r.view⟩, c2, c3, c4⟩
set_option maxRecDepth 100000 in
set_option maxHeartbeats 1000000 in
theorem eqVb (k : Kn) (ao ao' : Option Addr) (cap cap' : Nat) (w : World) (hv : View w ao k.1.2) (hv' : View w ao' k.1.2) (hn : k.1.2.length ≤ 1048576) :
    Calls Try.prog 85 #[.agg #[.int .i64 k.1.1, .slice ao k.1.2.length cap, .int .i64 k.2.1, .int .i64 k.2.2.1, .int .i64 k.2.2.2], .agg #[.int .i64 k.1.1, .slice ao' k.1.2.length cap', .int .i64 k.2.1, .int .i64 k.2.2.1, .int .i64 k.2.2.2]] w fun e w' => e = .returned (.bool true) ∧ Below w.heap.size w w' := by
  obtain ⟨W, hW⟩ : ∃ W, W = (w.alloc (.cells #[.int .i64 k.1.1, .slice ao k.1.2.length cap, .int .i64 k.2.1, .int .i64 k.2.2.1, .int .i64 k.2.2.2] 107)).alloc (.cells #[.int .i64 k.1.1, .slice ao' k.1.2.length cap', .int .i64 k.2.1, .int .i64 k.2.2.1, .int .i64 k.2.2.2] 107) := ⟨_, rfl⟩
  have hL : Below w.heap.size w W := by rw [hW]; exact ((Below.refl _ _).alloc (Nat.le_refl _) _).alloc (by simp) _
  have hsz : W.heap.size = w.heap.size + 2 := by rw [hW]; simp
  have a2 : W.cell? ⟨w.heap.size, 2, none⟩ = some (.int .i64 k.2.1) := by rw [hW]; go_simp
  have a3 : W.cell? ⟨w.heap.size, 3, none⟩ = some (.int .i64 k.2.2.1) := by rw [hW]; go_simp
  have a4 : W.cell? ⟨w.heap.size, 4, none⟩ = some (.int .i64 k.2.2.2) := by rw [hW]; go_simp
  have b2 : W.cell? ⟨w.heap.size + 1, 2, none⟩ = some (.int .i64 k.2.1) := by rw [hW]; go_simp
  have b3 : W.cell? ⟨w.heap.size + 1, 3, none⟩ = some (.int .i64 k.2.2.1) := by rw [hW]; go_simp
  have b4 : W.cell? ⟨w.heap.size + 1, 4, none⟩ = some (.int .i64 k.2.2.2) := by rw [hW]; go_simp
  have HM := hidP (eqM k.1 k.1 ao ao' cap cap' W (hv.next hL) (hv'.next hL) hn)
  have hd : decide (k.1 = k.1) = true := by simp
  rw [hd] at HM
  have n1 : (k.2.1 != k.2.1) = false := by simp
  have n2 : (k.2.2.1 != k.2.2.1) = false := by simp
  have n3 : (k.2.2.2 != k.2.2.2) = false := by simp
  have HL := hidP hL
  clear hv hv' hd hL
  go_enter Try.func85, Try.ntmps85
  go_wp2_with fail
  rw [← hW]
  clear hW
  refine HM.out.mono ?_
  rintro e w1 ⟨rfl, L1⟩
  replace a2 := (L1.cell (p := ⟨w.heap.size, 2, none⟩) (by simp; omega)).trans a2
  replace a3 := (L1.cell (p := ⟨w.heap.size, 3, none⟩) (by simp; omega)).trans a3
  replace a4 := (L1.cell (p := ⟨w.heap.size, 4, none⟩) (by simp; omega)).trans a4
  replace b2 := (L1.cell (p := ⟨w.heap.size + 1, 2, none⟩) (by simp; omega)).trans b2
  replace b3 := (L1.cell (p := ⟨w.heap.size + 1, 3, none⟩) (by simp; omega)).trans b3
  replace b4 := (L1.cell (p := ⟨w.heap.size + 1, 4, none⟩) (by simp; omega)).trans b4
  have HE := hidP (HL.out.trans (L1.mono (by omega)))
  clear L1 HM HL
  go_wp2_with fail
  go_ret
  exact ⟨rfl, HE.out⟩
set_option maxHeartbeats 400000 in
theorem eqVS_nil (ao ao' : Option Addr) (cap cap' : Nat) (w : World) :
    Calls Try.prog 25 #[.slice ao 0 cap, .slice ao' 0 cap'] w fun e w' => e = .returned (.bool true) ∧ w' = w := by
  go_enter Try.func25, Try.ntmps25
  go_wp2
  refine wp_loop_rounds 1 ?_
  rw [rounds_succ]
  go_wp2
  go_ret
  exact ⟨rfl, rfl⟩
set_option maxRecDepth 100000 in
set_option maxHeartbeats 1000000 in
theorem eqVS (ao ao' : Option Addr) (cap cap' : Nat) (ks : List Kn) (w : World) (hv : KView w ao ks) (hv' : KView w ao' ks) (hsm : KSmall ks) :
    Calls Try.prog 25 #[.slice ao ks.length cap, .slice ao' ks.length cap'] w fun e w' => e = .returned (.bool true) ∧ Below w.heap.size w w' := by
  rcases hv with rfl | ⟨b, off, rfl, hb, hs⟩
  · refine (eqVS_nil ao ao' cap cap' w).mono ?_
    rintro e w' ⟨rfl, rfl⟩
    exact ⟨rfl, Below.refl _ _⟩
  · rcases hv' with rfl | ⟨b', off', rfl, hb', hs'⟩
    · refine (eqVS_nil _ ao' cap cap' w).mono ?_
      rintro e w' ⟨rfl, rfl⟩
      exact ⟨rfl, Below.refl _ _⟩
    · obtain ⟨hn, hat⟩ := hsm
      have hlb : ((ks.length : Int) != (ks.length : Int)) = false := by simp
      have HS := hidP (And.intro hs hs')
      clear hs hs'
      go_enter Try.func25, Try.ntmps25
      go_wp2
      go_loopw [5] (fun i wr => ∃ k : Nat, k ≤ ks.length ∧ i = .int .i64 k ∧ Below w.heap.size w wr) (fun i _ => ks.length - (intOf i).toNat)
      case atStart => exact ⟨0, Nat.zero_le _, rfl, Below.refl _ _⟩
      case round =>
        obtain ⟨k, hk, rfl, L⟩ := hrel
        by_cases hlt : k < ks.length
        · obtain ⟨c0, ⟨ao, ca, c1, hv⟩, c2, c3, c4⟩ := (HS.out.1 k hlt).below hb L
          obtain ⟨d0, ⟨ao', ca', d1, hv'⟩, d2, d3, d4⟩ := (HS.out.2 k hlt).below hb' L
          have hi0 : (0 : Int) ≤ (k : Int) := Int.natCast_nonneg _
          have hi1 : (k : Int) < (ks.length : Int) := by omega
          have hz := L.size
          have hbw : b < wr.heap.size := by omega
          have hbw' : b' < wr.heap.size := by omega
          have HC := hidP (eqVb (knth ks k) ao ao' ca ca' wr.drew hv hv' (hat k))
          have HLL := hidP L
          have HK : Hid (∀ w', Below wr.heap.size wr w' → (w'.cell? ⟨b, off + k * 5, none⟩ = some (.int .i64 (knth ks k).1.1) ∧ w'.cell? ⟨b, off + k * 5 + 1, none⟩ = some (.slice ao (knth ks k).1.2.length ca) ∧ w'.cell? ⟨b, off + k * 5 + 2, none⟩ = some (.int .i64 (knth ks k).2.1) ∧ w'.cell? ⟨b, off + k * 5 + 3, none⟩ = some (.int .i64 (knth ks k).2.2.1) ∧ w'.cell? ⟨b, off + k * 5 + 4, none⟩ = some (.int .i64 (knth ks k).2.2.2)) ∧ w'.cell? ⟨b', off' + k * 5, none⟩ = some (.int .i64 (knth ks k).1.1) ∧ w'.cell? ⟨b', off' + k * 5 + 1, none⟩ = some (.slice ao' (knth ks k).1.2.length ca') ∧ w'.cell? ⟨b', off' + k * 5 + 2, none⟩ = some (.int .i64 (knth ks k).2.1) ∧ w'.cell? ⟨b', off' + k * 5 + 3, none⟩ = some (.int .i64 (knth ks k).2.2.1) ∧ w'.cell? ⟨b', off' + k * 5 + 4, none⟩ = some (.int .i64 (knth ks k).2.2.2)) := fun w' M =>
            ⟨⟨(M.cell (p := ⟨b, off + k * 5, none⟩) hbw).trans c0, (M.cell (p := ⟨b, off + k * 5 + 1, none⟩) hbw).trans c1, (M.cell (p := ⟨b, off + k * 5 + 2, none⟩) hbw).trans c2, (M.cell (p := ⟨b, off + k * 5 + 3, none⟩) hbw).trans c3, (M.cell (p := ⟨b, off + k * 5 + 4, none⟩) hbw).trans c4⟩, (M.cell (p := ⟨b', off' + k * 5, none⟩) hbw').trans d0, (M.cell (p := ⟨b', off' + k * 5 + 1, none⟩) hbw').trans d1, (M.cell (p := ⟨b', off' + k * 5 + 2, none⟩) hbw').trans d2, (M.cell (p := ⟨b', off' + k * 5 + 3, none⟩) hbw').trans d3, (M.cell (p := ⟨b', off' + k * 5 + 4, none⟩) hbw').trans d4⟩
          clear L hv hv'
          generalize knth ks k = kn at *
          go_wp2_with fail
          go_region_held3 (fun w' => (w'.cell? ⟨b, off + k * 5, none⟩ = some (.int .i64 kn.1.1) ∧ w'.cell? ⟨b, off + k * 5 + 1, none⟩ = some (.slice ao kn.1.2.length ca) ∧ w'.cell? ⟨b, off + k * 5 + 2, none⟩ = some (.int .i64 kn.2.1) ∧ w'.cell? ⟨b, off + k * 5 + 3, none⟩ = some (.int .i64 kn.2.2.1) ∧ w'.cell? ⟨b, off + k * 5 + 4, none⟩ = some (.int .i64 kn.2.2.2)) ∧ w'.cell? ⟨b', off' + k * 5, none⟩ = some (.int .i64 kn.1.1) ∧ w'.cell? ⟨b', off' + k * 5 + 1, none⟩ = some (.slice ao' kn.1.2.length ca') ∧ w'.cell? ⟨b', off' + k * 5 + 2, none⟩ = some (.int .i64 kn.2.1) ∧ w'.cell? ⟨b', off' + k * 5 + 3, none⟩ = some (.int .i64 kn.2.2.1) ∧ w'.cell? ⟨b', off' + k * 5 + 4, none⟩ = some (.int .i64 kn.2.2.2))
            (first
              | exact HK.out _ (Below.refl _ _).drew
              | exact HK.out _ ((Below.refl _ _).drew.trans L1)
              | go_keep)
            (first
              | (go_at_call 85; refine HC.out.mono ?_; rintro e w1 ⟨rfl, L1⟩))
          have LF := hidP (HLL.out.drew.trans (L1.mono hz))
          clear L1 HC HK
          go_wp2_with fail
          go_roundw
          case rel => exact ⟨k + 1, by omega, by go_num, LF.out⟩
          case measure => simp [intOf]; omega
        · go_wp2
          go_ret
          exact ⟨rfl, L⟩

end Go.Proofs.Ythddhblmnfjciaa
namespace Go.Proofs.Ythddhblmnfjciaa
open Go Go.RowKit

set_option maxHeartbeats 400000 in
theorem iVMark (d : Sm) (x y z : Int) (w : World) :
    Calls Try.prog 207 #[.agg #[.int .i64 d.1, .slice d.2.1 d.2.2.2.length d.2.2.1, .int .i64 x, .int .i64 y, .int .i64 z]] w fun e w' => e = .returned (.agg #[.int .i64 d.1, .slice d.2.1 d.2.2.2.length d.2.2.1]) ∧ Below w.heap.size w w' := by
  have L0 : Hid (Below w.heap.size w ((w.alloc (.cells #[.int .i64 d.1, .slice d.2.1 d.2.2.2.length d.2.2.1, .int .i64 x, .int .i64 y, .int .i64 z] 107)).alloc (.cells #[.int .i64 d.1, .slice d.2.1 d.2.2.2.length d.2.2.1] 93))) := ((Below.refl _ _).alloc (Nat.le_refl _) _).alloc (by simp) _
  go_enter Try.func207, Try.ntmps207
  go_wp2
  refine bodyPost_ret (v := .agg #[.int .i64 d.1, .slice d.2.1 d.2.2.2.length d.2.2.1]) (by simp [results, Try.results207, go_sem]) rfl ?_
  exact ⟨rfl, L0.out⟩
set_option maxRecDepth 100000 in
set_option maxHeartbeats 1000000 in
theorem iMarksInV (b off cap : Nat) (ks : List Kn) (ds : List Sm) (w : World) (h0 : 0 < ks.length) (hn : ks.length ≤ 1048576) (hb : b < w.heap.size) (hk : KSeg w b off ks) (hs : SSeg5 w b off ds) (hl : ds.length = ks.length) :
    Calls Try.prog 91 #[.slice (some ⟨b, off, none⟩) ks.length cap] w fun e w' => ∃ g ds', e = .returned (.slice (some ⟨g, 0, none⟩) ks.length ks.length) ∧ ds'.Perm ds ∧ SortedBy smid ds' ∧ SSeg w' g 0 ds' ∧ g < w'.heap.size ∧ Below w.heap.size w w' := by
  have hmk := run_make_rows (P := Try.prog) 34 93 (.agg #[.int .i64 0, .slice none 0 0]) 2 32 Try.underlying34 Try.info93 .i64 .i64 ks.length (by omega) (by omega)
  have HK := hidP hk
  have HS := hidP hs
  clear hk hs
  go_enter Try.func91, Try.ntmps91
  go_wp2
  clear hmk
  go_loopw [11] (fun i wr => ∃ k : Nat, k ≤ ks.length ∧ i = .int .i64 k ∧ SFill wr w.heap.size k ks.length ds ∧ Below w.heap.size w wr) (fun i _ => ks.length - (intOf i).toNat)
  case atStart => exact ⟨0, Nat.zero_le _, rfl, ⟨_, heap_alloc_new w _, by rw [size_madeCells], fun i hi => by omega⟩, (Below.refl _ _).alloc (Nat.le_refl _) _⟩
  case round =>
    obtain ⟨k, hk, rfl, hf, L⟩ := hrel
    by_cases hlt : k < ks.length
    · obtain ⟨c0, ⟨ao, ca, c1, hv⟩, c2, c3, c4⟩ := (HK.out k hlt).below hb L
      obtain ⟨d0, d1⟩ := HS.out k (by omega)
      have d1' := (L.cell (p := ⟨b, off + k * 5 + 1, none⟩) hb).trans d1
      have d0' := (L.cell (p := ⟨b, off + k * 5, none⟩) hb).trans d0
      clear c0 c1 hv d0 d1
      generalize knth ks k = kn at *
      have hz := L.size
      have hi0 : (0 : Int) ≤ (k : Int) := Int.natCast_nonneg _
      have hi1 : (k : Int) < (ks.length : Int) := by omega
      obtain ⟨W1, hW1⟩ : ∃ W1, W1 = wr.alloc (.cells #[.int .i64 (snth ds k).1, .slice (snth ds k).2.1 (snth ds k).2.2.2.length (snth ds k).2.2.1, .int .i64 kn.2.1, .int .i64 kn.2.2.1, .int .i64 kn.2.2.2] 107) := ⟨_, rfl⟩
      have L1 : Below wr.heap.size wr W1 := by rw [hW1]; exact alloc_below wr _
      have x0 : W1.cell? ⟨wr.heap.size, 0, none⟩ = some (.int .i64 (snth ds k).1) := by rw [hW1]; go_simp
      have x1 : W1.cell? ⟨wr.heap.size, 1, none⟩ = some (.slice (snth ds k).2.1 (snth ds k).2.2.2.length (snth ds k).2.2.1) := by rw [hW1]; go_simp
      have x2 : W1.cell? ⟨wr.heap.size, 2, none⟩ = some (.int .i64 kn.2.1) := by rw [hW1]; go_simp
      have x3 : W1.cell? ⟨wr.heap.size, 3, none⟩ = some (.int .i64 kn.2.2.1) := by rw [hW1]; go_simp
      have x4 : W1.cell? ⟨wr.heap.size, 4, none⟩ = some (.int .i64 kn.2.2.2) := by rw [hW1]; go_simp
      have HF1 := hidP (And.intro (hf.below L1) (chain L L1))
      have hz1 := L1.size
      generalize hdv : snth ds k = d at *
      have HDV := hidP hdv
      clear hf L L1 hdv
      go_upto_region 5 with fail
      rw [← hW1]
      clear hW1 c2 c3 c4 d0' d1'
      go_wp2_with fail
      refine (iVMark d _ _ _ W1).mono ?_
      rintro e w2 ⟨rfl, L2⟩
      have hf2 := HF1.out.1.below L2
      obtain ⟨⟨v0, e0⟩, f0⟩ := hf2.spare (k * 2) (by omega)
      obtain ⟨⟨v1, e1⟩, f1⟩ := hf2.spare (k * 2 + 1) (by omega)
      have HE : Hid (SFill ((w2.setCell ⟨w.heap.size, k * 2, none⟩ (.int .i64 d.1)).setCell ⟨w.heap.size, k * 2 + 1, none⟩ (.slice d.2.1 d.2.2.2.length d.2.2.1)) w.heap.size (k + 1) ks.length ds ∧ Below w.heap.size w ((w2.setCell ⟨w.heap.size, k * 2, none⟩ (.int .i64 d.1)).setCell ⟨w.heap.size, k * 2 + 1, none⟩ (.slice d.2.1 d.2.2.2.length d.2.2.1))) := by
        rw [← HDV.out]
        exact ⟨hf2.step hlt, set_below (set_below (chain HF1.out.2 L2) (Nat.le_refl _) _) (Nat.le_refl _) _⟩
      clear hf2 L2 HF1 x0 x1 x2 x3 x4
      go_wp2_with fail
      go_roundw
      case rel => exact ⟨k + 1, by omega, by go_num, HE.out.1, HE.out.2⟩
      case measure => simp [intOf]; omega
    · obtain rfl : k = ks.length := by omega
      have hf2 : SFill wr w.heap.size ds.length ds.length ds := by rw [hl]; exact hf
      have HC := hidP (iSortId (some ⟨w.heap.size, 0, none⟩) ks.length ds wr (by omega) (by omega) hf2.view)
      rw [hl] at HC
      have HL := hidP L
      clear hf hf2 L
      go_wp2_with fail
      refine HC.out.mono ?_
      rintro e w2 ⟨g, ds', rfl, hp, hso, hsg, hg1, hg2, L2⟩
      have HE : Hid (ds'.Perm ds ∧ SortedBy smid ds' ∧ SSeg w2 g 0 ds' ∧ g < w2.heap.size ∧ Below w.heap.size w w2) := ⟨hp, hso, hsg, hg2, chain HL.out L2⟩
      clear hp hso hsg hg1 hg2 L2 HC HL
      go_wp2_with fail
      go_ret
      exact ⟨g, ds', rfl, HE.out⟩

end Go.Proofs.Ythddhblmnfjciaa
namespace Go.Proofs.Ythddhblmnfjciaa
open Go Go.RowKit

set_option maxRecDepth 100000 in
set_option maxHeartbeats 2000000 in
theorem iSameV (k q : Kn) (ao ao' : Option Addr) (cap cap' : Nat) (w : World) :
    Calls Try.prog 92 #[.agg #[.int .i64 k.1.1, .slice ao k.1.2.length cap, .int .i64 k.2.1, .int .i64 k.2.2.1, .int .i64 k.2.2.2], .agg #[.int .i64 q.1.1, .slice ao' q.1.2.length cap', .int .i64 q.2.1, .int .i64 q.2.2.1, .int .i64 q.2.2.2]] w fun e w' => e = .returned (.bool (sameB k q)) ∧ Below w.heap.size w w' := by
  obtain ⟨W, hW⟩ : ∃ W, W = (w.alloc (.cells #[.int .i64 k.1.1, .slice ao k.1.2.length cap, .int .i64 k.2.1, .int .i64 k.2.2.1, .int .i64 k.2.2.2] 107)).alloc (.cells #[.int .i64 q.1.1, .slice ao' q.1.2.length cap', .int .i64 q.2.1, .int .i64 q.2.2.1, .int .i64 q.2.2.2] 107) := ⟨_, rfl⟩
  have hL : Below w.heap.size w W := by rw [hW]; exact ((Below.refl _ _).alloc (Nat.le_refl _) _).alloc (by simp) _
  have a0 : W.cell? ⟨w.heap.size, 0, none⟩ = some (.int .i64 k.1.1) := by rw [hW]; go_simp
  have a2 : W.cell? ⟨w.heap.size, 2, none⟩ = some (.int .i64 k.2.1) := by rw [hW]; go_simp
  have a3 : W.cell? ⟨w.heap.size, 3, none⟩ = some (.int .i64 k.2.2.1) := by rw [hW]; go_simp
  have a4 : W.cell? ⟨w.heap.size, 4, none⟩ = some (.int .i64 k.2.2.2) := by rw [hW]; go_simp
  have b0 : W.cell? ⟨w.heap.size + 1, 0, none⟩ = some (.int .i64 q.1.1) := by rw [hW]; go_simp
  have b2 : W.cell? ⟨w.heap.size + 1, 2, none⟩ = some (.int .i64 q.2.1) := by rw [hW]; go_simp
  have b3 : W.cell? ⟨w.heap.size + 1, 3, none⟩ = some (.int .i64 q.2.2.1) := by rw [hW]; go_simp
  have b4 : W.cell? ⟨w.heap.size + 1, 4, none⟩ = some (.int .i64 q.2.2.2) := by rw [hW]; go_simp
  have HL := hidP hL
  clear hL
  by_cases h0 : k.1.1 = q.1.1
  · have e0 : (k.1.1 == q.1.1) = true := by simp [h0]
    by_cases h1 : k.2.1 = q.2.1
    · have e1 : (k.2.1 == q.2.1) = true := by simp [h1]
      by_cases h2 : k.2.2.1 = q.2.2.1
      · have e2 : (k.2.2.1 == q.2.2.1) = true := by simp [h2]
        by_cases h3 : k.2.2.2 = q.2.2.2
        · have e3 : (k.2.2.2 == q.2.2.2) = true := by simp [h3]
          have HV : Hid (sameB k q = true) := by show sameB k q = true; simp [sameB, h0, h1, h2, h3]
          clear h0 h1 h2 h3
          go_enter Try.func92, Try.ntmps92
          go_wp2_with fail
          rw [← hW]
          clear hW
          go_ret
          exact ⟨ret_bool HV.out.symm, HL.out⟩
        · have e3 : (k.2.2.2 == q.2.2.2) = false := by simp [h3]
          have HV : Hid (sameB k q = false) := by show sameB k q = false; simp [sameB, h3]
          clear h0 h1 h2 h3
          go_enter Try.func92, Try.ntmps92
          go_wp2_with fail
          rw [← hW]
          clear hW
          go_ret
          exact ⟨ret_bool HV.out.symm, HL.out⟩
      · have e2 : (k.2.2.1 == q.2.2.1) = false := by simp [h2]
        have HV : Hid (sameB k q = false) := by show sameB k q = false; simp [sameB, h2]
        clear h0 h1 h2
        go_enter Try.func92, Try.ntmps92
        go_wp2_with fail
        rw [← hW]
        clear hW
        go_ret
        exact ⟨ret_bool HV.out.symm, HL.out⟩
    · have e1 : (k.2.1 == q.2.1) = false := by simp [h1]
      have HV : Hid (sameB k q = false) := by show sameB k q = false; simp [sameB, h1]
      clear h0 h1
      go_enter Try.func92, Try.ntmps92
      go_wp2_with fail
      rw [← hW]
      clear hW
      go_ret
      exact ⟨ret_bool HV.out.symm, HL.out⟩
  · have e0 : (k.1.1 == q.1.1) = false := by simp [h0]
    have HV : Hid (sameB k q = false) := by show sameB k q = false; simp [sameB, h0]
    clear h0
    go_enter Try.func92, Try.ntmps92
    go_wp2_with fail
    rw [← hW]
    clear hW
    go_ret
    exact ⟨ret_bool HV.out.symm, HL.out⟩
set_option maxHeartbeats 400000 in
theorem iEqualV_ne (ao ao' : Option Addr) (n n' cap cap' : Nat) (v : Value) (w : World) (h : n ≠ n') :
    Calls Try.prog 90 #[.slice ao n cap, .slice ao' n' cap', v] w fun e w' => e = .returned (.bool false) ∧ w' = w := by
  have hlb : ((n : Int) != (n' : Int)) = true := by simp; omega
  go_enter Try.func90, Try.ntmps90
  go_wp2
  go_ret
  exact ⟨rfl, rfl⟩
set_option maxHeartbeats 400000 in
theorem iEqualV_nil (ao ao' : Option Addr) (cap cap' : Nat) (v : Value) (w : World) :
    Calls Try.prog 90 #[.slice ao 0 cap, .slice ao' 0 cap', v] w fun e w' => e = .returned (.bool true) ∧ w' = w := by
  go_enter Try.func90, Try.ntmps90
  go_wp2
  refine wp_loop_rounds 1 ?_
  rw [rounds_succ]
  go_wp2
  go_ret
  exact ⟨rfl, rfl⟩
set_option maxRecDepth 100000 in
set_option maxHeartbeats 2000000 in
theorem iEqualV (b off cap b' off' cap' : Nat) (ks xs : List Kn) (w : World) (hb : b < w.heap.size) (hb' : b' < w.heap.size) (hs : KSeg w b off ks) (hs' : KSeg w b' off' xs) (hl : ks.length = xs.length) (hn : ks.length ≤ 1048576) :
    Calls Try.prog 90 #[.slice (some ⟨b, off, none⟩) ks.length cap, .slice (some ⟨b', off', none⟩) ks.length cap', .func (.func 92) #[] #[]] w fun e w' => e = .returned (.bool (eqB ks xs)) ∧ Below w.heap.size w w' := by
  have hlb : ((ks.length : Int) != (ks.length : Int)) = false := by simp
  have HS := hidP (And.intro hs hs')
  have HL := hidP hl
  clear hs hs' hl
  go_enter Try.func90, Try.ntmps90
  go_wp2
  go_loopw [17] (fun i wr => ∃ k : Nat, k ≤ ks.length ∧ i = .int .i64 k ∧ (∀ j, j < k → sameB (knth ks j) (knth xs j) = true) ∧ Below w.heap.size w wr) (fun i _ => ks.length - (intOf i).toNat)
  case atStart => exact ⟨0, Nat.zero_le _, rfl, fun j hj => by omega, Below.refl _ _⟩
  case round =>
    obtain ⟨k, hk, rfl, hall, L⟩ := hrel
    have HA := hidP hall
    clear hall
    by_cases hlt : k < ks.length
    · obtain ⟨c0, ⟨ao, ca, c1, hv⟩, c2, c3, c4⟩ := (HS.out.1 k hlt).below hb L
      obtain ⟨d0, ⟨ao', ca', d1, hv'⟩, d2, d3, d4⟩ := (HS.out.2 k (by have := HL.out; omega)).below hb' L
      have hi0 : (0 : Int) ≤ (k : Int) := Int.natCast_nonneg _
      have hi1 : (k : Int) < (ks.length : Int) := by omega
      have hz := L.size
      have HN := hidP (fun h => eqB_out (xs := xs) hlt h)
      have HY : Hid (sameB (knth ks k) (knth xs k) = true → ∀ j, j < k + 1 → sameB (knth ks j) (knth xs j) = true) := fun h j hj => by
        rcases Nat.lt_or_ge j k with h1 | h1
        · exact HA.out j h1
        · obtain rfl : j = k := by omega
          exact h
      generalize knth ks k = p at *
      generalize knth xs k = q at *
      obtain ⟨W, hW⟩ : ∃ W, W = (wr.alloc (.cells #[.int .i64 p.1.1, .slice ao p.1.2.length ca, .int .i64 p.2.1, .int .i64 p.2.2.1, .int .i64 p.2.2.2] 107)).alloc (.cells #[.int .i64 q.1.1, .slice ao' q.1.2.length ca', .int .i64 q.2.1, .int .i64 q.2.2.1, .int .i64 q.2.2.2] 107) := ⟨_, rfl⟩
      have LW : Below wr.heap.size wr W := by rw [hW]; exact ((Below.refl _ _).alloc (Nat.le_refl _) _).alloc (by simp) _
      have HC := hidP (iSameV p q ao ao' ca ca' W)
      have HLW := hidP (chain L LW)
      have hb1 : b < wr.heap.size := by omega
      have hb2 : b' < wr.heap.size := by omega
      have hb3 : ¬ wr.heap.size = b' := by omega
      clear L LW hv hv' HA
      go_wp2_with fail
      rw [← hW]
      clear hW
      refine HC.out.mono ?_
      rintro e w2 ⟨rfl, L2⟩
      have HE := hidP (chain HLW.out L2)
      clear L2 HC HLW c0 c1 c2 c3 c4 d0 d1 d2 d3 d4
      rcases hsb : sameB p q with _ | _
      · have HO := hidP (HN.out hsb)
        clear HN HY
        go_wp2_with fail
        go_ret
        exact ⟨ret_bool HO.out.symm, HE.out⟩
      · have HO := hidP (HY.out hsb)
        clear HN HY
        go_wp2_with fail
        go_roundw
        case rel => exact ⟨k + 1, by omega, by go_num, HO.out, HE.out⟩
        case measure => simp [intOf]; omega
    · obtain rfl : k = ks.length := by omega
      have HO := hidP (eqB_all HL.out HA.out)
      have HE := hidP L
      clear L HA
      go_wp2_with fail
      go_ret
      exact ⟨ret_bool HO.out.symm, HE.out⟩

end Go.Proofs.Ythddhblmnfjciaa
namespace Go.Proofs.Ythddhblmnfjciaa
open Go Go.RowKit

theorem BRow.ident {base : Nat} {w : World} {g c : Nat} {pre rest : List Dk} {d : Dk} (h : BRow base w g c (pre ++ d :: rest)) (v : Int) : BRow base (w.setCell ⟨g, pre.length * 5, none⟩ (.int .i64 v)) g c (pre ++ ((v, d.1.2), d.2) :: rest) := by
  have h1 := (World.ownsRow.stored h (pre.length * 5) (.int .i64 v)).1
  rw [dkCells_id] at h1
  exact BRow.of h1 (by simp) rfl
theorem BRow.axis {base : Nat} {w : World} {g c : Nat} {pre rest : List Dk} {d : Dk} (h : BRow base w g c (pre ++ d :: rest)) (v : Int) : BRow base (w.setCell ⟨g, pre.length * 5 + 2, none⟩ (.int .i64 v)) g c (pre ++ (d.1, v, d.2.2) :: rest) := by
  have h1 := (World.ownsRow.stored h (pre.length * 5 + 2) (.int .i64 v)).1
  rw [dkCells_axis] at h1
  exact BRow.of h1 (by simp) rfl
theorem BRow.same {base : Nat} {w : World} {g c : Nat} {pre rest : List Dk} {d d' : Dk} (h : BRow base w g c (pre ++ d :: rest)) (e0 : d'.1.1 = d.1.1) (e1 : d'.1.2.1 = d.1.2.1) (e2 : d'.1.2.2.1 = d.1.2.2.1) (e3 : d'.1.2.2.2.length = d.1.2.2.2.length) (e4 : d'.2 = d.2) : BRow base w g c (pre ++ d' :: rest) := by
  refine BRow.of h (by simp) ?_
  rw [dkCells_append, dkCells_append, dkCells, dkCells, e0, e1, e2, e3, e4]
theorem BRow.cellM {base : Nat} {w : World} {g c : Nat} {pre rest : List Dk} {d : Dk} (h : BRow base w g c (pre ++ d :: rest)) : w.cell? ⟨g, pre.length * 5, none⟩ = some (.int .i64 d.1.1) ∧ w.cell? ⟨g, pre.length * 5 + 1, none⟩ = some (.slice d.1.2.1 d.1.2.2.2.length d.1.2.2.1) ∧ w.cell? ⟨g, pre.length * 5 + 2, none⟩ = some (.int .i64 d.2.1) ∧ w.cell? ⟨g, pre.length * 5 + 3, none⟩ = some (.int .i64 d.2.2.1) ∧ w.cell? ⟨g, pre.length * 5 + 4, none⟩ = some (.int .i64 d.2.2.2) := by
  have h1 := h.cell (i := pre.length) (by simp)
  have e : dnth (pre ++ d :: rest) pre.length = d := by simp [dnth, List.getD]
  rw [e] at h1; exact h1
set_option maxRecDepth 100000 in
set_option maxHeartbeats 2000000 in
theorem markVS (B g c : Nat) (k0 : Int) (es : List Dk) (w : World) (hr : BRow B w g c es) (ho : KOuts B w g es) (h4 : ∀ d ∈ es, d.1.2.2.2.length ≤ 4) (hn : es.length ≤ 60) (h0 : 1 ≤ k0) (h1 : k0 ≤ 1000000) :
    Calls Try.prog 28 #[.slice (some ⟨g, 0, none⟩) es.length c, .int .i64 k0] w fun e w' => e = .returned (.int .i64 (mkN k0 es)) ∧ BRow B w' g c (mkL k0 es) ∧ KOuts B w' g (mkL k0 es) ∧ KChg B w w' := by
  have hgl := hr.lt
  have H0 := hidP (And.intro hr ho)
  have H4 := hidP h4
  clear hr ho h4
  go_enter Try.func28, Try.ntmps28
  go_wp2
  go_loopw [1, 5] (fun kk i wr => ∃ k : Nat, k ≤ es.length ∧ i = .int .i64 k ∧ kk = .int .i64 (mkN k0 (es.take k)) ∧ BRow B wr g c (mkL k0 (es.take k) ++ es.drop k) ∧ KOuts B wr g (mkL k0 (es.take k) ++ es.drop k) ∧ KChg B w wr) (fun _ i _ => es.length - (intOf i).toNat)
  case atStart => exact ⟨0, Nat.zero_le _, rfl, rfl, H0.out.1, H0.out.2, ⟨rfl, rfl, rfl, Nat.le_refl _, fun _ _ _ => rfl⟩⟩
  case round =>
    obtain ⟨k, hk, rfl, rfl, hrow, hout, hchg⟩ := hrel
    by_cases hlt : k < es.length
    · have hb := mkN_le k0 (es.take k) (fun d hd => H4.out d (List.mem_of_mem_take hd))
      have htl : (es.take k).length = k := by simp; omega
      have hml : (mkL k0 (es.take k)).length = k := by rw [mkL_length, htl]
      rw [htl] at hb
      have hd4 := H4.out (dnth es k) (by simp [dnth, List.getD, hlt])
      have hE1 : mkL k0 (es.take (k + 1)) = mkL k0 (es.take k) ++ [mkD (mkN k0 (es.take k)) (dnth es k)] := by rw [take_mid hlt, mkL_snoc]
      have hE2 : mkN k0 (es.take (k + 1)) = mkS (mkN k0 (es.take k)) (dnth es k) := by rw [take_mid hlt, mkN_snoc]
      have HE1 := hidP hE1
      have HE2 := hidP hE2
      clear hE1 hE2
      rw [drop_mid hlt] at hrow hout
      have hrl : (es.drop (k + 1)).length = es.length - (k + 1) := by simp
      have HTK : Hid (∀ x : List Dk, mkL k0 (es.take k) ++ [mkD (mkN k0 (es.take k)) (dnth es k)] ++ x = mkL k0 (es.take k) ++ mkD (mkN k0 (es.take k)) (dnth es k) :: x) := fun x => by simp
      generalize mkL k0 (es.take k) = pre at *
      generalize mkN k0 (es.take k) = N at *
      generalize dnth es k = d at *
      generalize hrest : es.drop (k + 1) = rest at *
      have HRST := hidP hrest
      clear hrest
      subst hml
      have hlen : (pre ++ d :: rest).length = es.length := by simp; omega
      obtain ⟨h, hd, hi, hne⟩ := hout.1 d (by simp)
      have hil := hi.lt
      obtain ⟨x0, -⟩ := hrow.cellM
      have f0 : ∀ j, wr.frozen? ⟨g, j, none⟩ = false := fun j => World.ownsRow.frozenAt hrow j
      have r1 := hrow.ident N
      have s1 := grown_setCell wr g (pre.length * 5) (.int .i64 N)
      obtain ⟨-, x1, -⟩ := r1.cellM
      have hi1 := hi.kept s1 (fun e => hne (Option.some.inj e))
      have o1 := hout.kept s1
      have HM := hidP (markI B h d.1.2.2.1 (N + 1) d.1.2.2.2 _ hi1 (by omega) (by omega) (by omega))
      have c1 := hchg.grown s1 hgl.1
      simp only at x1
      rw [hd] at x1
      have H1 := hidP (And.intro r1 (And.intro o1 c1))
      have hlt0 : (0 : Int) ≤ (pre.length : Int) := by omega
      have hlt1 : (pre.length : Int) < (es.length : Int) := by omega
      have hf1 := f0 (pre.length * 5)
      have HD := hidP hd
      clear hrow hout hchg hi r1 s1 hi1 o1 c1 f0 hd
      go_wp2_with fail
      obtain ⟨W1, hW1⟩ : ∃ W1, W1 = wr.setCell ⟨g, pre.length * 5, none⟩ (.int .i64 N) := ⟨_, rfl⟩
      rw [← hW1]
      rw [← hW1] at HM H1
      clear hW1 x0 hf1 x1
      refine HM.out.mono ?_
      rintro e w2 ⟨rfl, hi2, g2⟩
      obtain ⟨r1, o1, c1⟩ := H1.out
      have r2 := r1.kept g2 (fun e => hne (Option.some.inj e).symm)
      have c2 := c1.grown g2 (by omega)
      have o2 : KOuts B w2 g (pre ++ mkD N d :: rest) := KHeld.over o1 HD.out g2 hi2 (mkD N d) rfl rfl rfl
      obtain ⟨-, -, y2, y3, y4⟩ := r2.cellM
      have hf : ∀ j, w2.frozen? ⟨g, j, none⟩ = false := fun j => World.ownsRow.frozenAt r2 j
      have e2 := hf (pre.length * 5 + 2)
      have e3 := hf (pre.length * 5 + 3)
      have e4 := hf (pre.length * 5 + 4)
      have r3 := ((r2.axis (N + 1 + d.1.2.2.2.length)).less (N + 1 + d.1.2.2.2.length + 1)).more (N + 1 + d.1.2.2.2.length + 1 + 1)
      have t1 := grown_setCell w2 g (pre.length * 5 + 2) (.int .i64 (N + 1 + d.1.2.2.2.length))
      have t2 := grown_setCell (w2.setCell ⟨g, pre.length * 5 + 2, none⟩ (.int .i64 (N + 1 + d.1.2.2.2.length))) g (pre.length * 5 + 3) (.int .i64 (N + 1 + d.1.2.2.2.length + 1))
      have t3 := grown_setCell ((w2.setCell ⟨g, pre.length * 5 + 2, none⟩ (.int .i64 (N + 1 + d.1.2.2.2.length))).setCell ⟨g, pre.length * 5 + 3, none⟩ (.int .i64 (N + 1 + d.1.2.2.2.length + 1))) g (pre.length * 5 + 4) (.int .i64 (N + 1 + d.1.2.2.2.length + 1 + 1))
      have r4 := r3.same (d' := mkD N d) rfl rfl rfl (by simp [mkD, tabL_length]) rfl
      have o4 := ((o2.kept t1).kept t2).kept t3
      have c4 := ((c2.grown t1 hgl.1).grown t2 hgl.1).grown t3 hgl.1
      have HF : Hid (∀ W, W = ((w2.setCell ⟨g, pre.length * 5 + 2, none⟩ (.int .i64 (N + 1 + d.1.2.2.2.length))).setCell ⟨g, pre.length * 5 + 3, none⟩ (.int .i64 (N + 1 + d.1.2.2.2.length + 1))).setCell ⟨g, pre.length * 5 + 4, none⟩ (.int .i64 (N + 1 + d.1.2.2.2.length + 1 + 1)) → BRow B W g c (mkL k0 (es.take (pre.length + 1)) ++ es.drop (pre.length + 1)) ∧ KOuts B W g (mkL k0 (es.take (pre.length + 1)) ++ es.drop (pre.length + 1)) ∧ KChg B w W) := fun W e => by
        rw [e, HE1.out, HRST.out, HTK.out]; exact ⟨r4, o4, c4⟩
      have y3' : (w2.setCell ⟨g, pre.length * 5 + 2, none⟩ (.int .i64 (N + 1 + d.1.2.2.2.length))).cell? ⟨g, pre.length * 5 + 3, none⟩ = some (.int .i64 d.2.2.1) := by rw [cell_setOther _ _ _ _ _ (by omega)]; exact y3
      have y4' : ((w2.setCell ⟨g, pre.length * 5 + 2, none⟩ (.int .i64 (N + 1 + d.1.2.2.2.length))).setCell ⟨g, pre.length * 5 + 3, none⟩ (.int .i64 (N + 1 + d.1.2.2.2.length + 1))).cell? ⟨g, pre.length * 5 + 4, none⟩ = some (.int .i64 d.2.2.2) := by rw [cell_setOther _ _ _ _ _ (by omega), cell_setOther _ _ _ _ _ (by omega)]; exact y4
      clear r1 o1 c1 r2 c2 o2 hf r3 t1 t2 t3 r4 o4 c4 H1 HM hi2 g2
      go_wp2_with fail
      go_roundw
      case rel => exact ⟨pre.length + 1, by omega, by go_num, by rw [HE2.out]; rfl, (HF.out _ rfl).1, (HF.out _ rfl).2.1, (HF.out _ rfl).2.2⟩
      case measure => simp [intOf]; omega
    · obtain rfl : k = es.length := by omega
      rw [List.take_length, List.drop_length, List.append_nil] at hrow hout
      have HE : Hid (BRow B wr g c (mkL k0 es) ∧ KOuts B wr g (mkL k0 es) ∧ KChg B w wr) := ⟨hrow, hout, hchg⟩
      have HN : Hid (mkN k0 (es.take es.length) = mkN k0 es) := by show mkN k0 (es.take es.length) = mkN k0 es; rw [List.take_length]
      clear hrow hout hchg
      go_wp2_with fail
      go_ret
      exact ⟨ret_int HN.out, HE.out⟩
theorem BHeld.at {B : Nat} {w : World} {g c : Nat} {es : List Dk} (hr : BRow B w g c es) (ho : KOuts B w g es) {i : Nat} (hi : i < es.length) : w.cell? ⟨g, i * 5, none⟩ = some (.int .i64 (dnth es i).1.1) ∧ (∃ h, w.cell? ⟨g, i * 5 + 1, none⟩ = some (.slice (some ⟨h, 0, none⟩) (dnth es i).1.2.2.2.length (dnth es i).1.2.2.1) ∧ View w (some ⟨h, 0, none⟩) (dnth es i).1.2.2.2) ∧ w.cell? ⟨g, i * 5 + 2, none⟩ = some (.int .i64 (dnth es i).2.1) ∧ w.cell? ⟨g, i * 5 + 3, none⟩ = some (.int .i64 (dnth es i).2.2.1) ∧ w.cell? ⟨g, i * 5 + 4, none⟩ = some (.int .i64 (dnth es i).2.2.2) := by
  obtain ⟨c0, c1, c2, c3, c4⟩ := hr.cell hi
  obtain ⟨h, e, r, n⟩ := ho.1 (dnth es i) (by simp [dnth, List.getD, hi])
  rw [e] at c1
  exact ⟨c0, ⟨h, c1, r.view⟩, c2, c3, c4⟩
set_option maxRecDepth 100000 in
set_option maxHeartbeats 2000000 in
theorem heldVS (B g c : Nat) (k0 : Int) (es : List Dk) (w : World) (hr : BRow B w g c (mkL k0 es)) (ho : KOuts B w g (mkL k0 es)) (h4 : ∀ d ∈ es, d.1.2.2.2.length ≤ 4) (hn : es.length ≤ 60) (h0 : 1 ≤ k0) (h1 : k0 ≤ 1000000) :
    Calls Try.prog 29 #[.slice (some ⟨g, 0, none⟩) es.length c, .int .i64 k0] w fun e w' => e = .returned (.int .i64 (mkN k0 es)) ∧ w' = w := by
  have HH := hidP (And.intro hr ho)
  have H4 := hidP h4
  clear hr ho h4
  go_enter Try.func29, Try.ntmps29
  go_wp2
  go_loop [1, 5] (fun kk i => ∃ k : Nat, k ≤ es.length ∧ i = .int .i64 k ∧ kk = .int .i64 (mkN k0 (es.take k))) (fun _ i => es.length - (intOf i).toNat)
  case atStart => exact ⟨0, Nat.zero_le _, rfl, rfl⟩
  case round =>
    obtain ⟨k, hk, rfl, rfl⟩ := hrel
    by_cases hlt : k < es.length
    · have hb := mkN_le k0 (es.take k) (fun d hd => H4.out d (List.mem_of_mem_take hd))
      have htl : (es.take k).length = k := by simp; omega
      rw [htl] at hb
      have hd4 := H4.out (dnth es k) (by simp [dnth, List.getD, hlt])
      have hE2 : mkN k0 (es.take (k + 1)) = mkS (mkN k0 (es.take k)) (dnth es k) := by rw [take_mid hlt, mkN_snoc]
      have HE2 := hidP hE2
      clear hE2
      obtain ⟨c0, ⟨h, c1, hv⟩, c2, c3, c4⟩ := BHeld.at HH.out.1 HH.out.2 (i := k) (by rw [mkL_length]; exact hlt)
      rw [mkL_nth k0 es k hlt] at c0 c1 c2 c3 c4 hv
      generalize mkN k0 (es.take k) = N at *
      generalize dnth es k = d at *
      simp only [mkD, tabL_length] at c0 c1 c2 c3 c4 hv
      have HI := hidP (heldI (some ⟨h, 0, none⟩) d.1.2.2.1 d.1.2.2.2.length (N + 1) w hv (by omega) (by omega) (by omega))
      have n0 : (N != N) = false := by simp
      have n1 : ((N + 1 + (d.1.2.2.2.length : Int)) != (N + 1 + (d.1.2.2.2.length : Int))) = false := by simp
      have n2 : ((N + 1 + (d.1.2.2.2.length : Int) + 1) != (N + 1 + (d.1.2.2.2.length : Int) + 1)) = false := by simp
      have n3 : ((N + 1 + (d.1.2.2.2.length : Int) + 1 + 1) != (N + 1 + (d.1.2.2.2.length : Int) + 1 + 1)) = false := by simp
      have n4 : ¬ (N + 1 + (d.1.2.2.2.length : Int) < 0) := by omega
      have hlt0 : (0 : Int) ≤ (k : Int) := by omega
      have hlt1 : (k : Int) < (es.length : Int) := by omega
      clear hv HH
      go_wp2_with fail
      refine HI.out.mono ?_
      rintro e w1 ⟨rfl, hw1⟩
      rw [hw1]
      clear hw1 HI
      go_wp2_with fail
      go_round
      case rel => exact ⟨k + 1, by omega, by go_num, by rw [HE2.out]; rfl⟩
      case measure => simp [intOf]; omega
    · obtain rfl : k = es.length := by omega
      have HN : Hid (mkN k0 (es.take es.length) = mkN k0 es) := by show mkN k0 (es.take es.length) = mkN k0 es; rw [List.take_length]
      go_wp2_with fail
      go_ret
      first | exact ⟨rfl, rfl⟩ | exact ⟨ret_int HN.out, rfl⟩

end Go.Proofs.Ythddhblmnfjciaa
namespace Go.Proofs.Ythddhblmnfjciaa
open Go Go.RowKit

theorem BGot.see {B : Nat} {w : World} {v : Value} {ks : List Kn} (h : BGot B w v ks) : KSee w v ks := h.view
theorem eqGV (v v' : Value) (ks : List Kn) (w : World) (h : KSee w v ks) (h' : KSee w v' ks) (hsm : KSmall ks) :
    Calls Try.prog 25 #[v, v'] w fun e w' => e = .returned (.bool true) ∧ Below w.heap.size w w' := by
  obtain ⟨ao, c, rfl, hv⟩ := h
  obtain ⟨ao', c', rfl, hv'⟩ := h'
  exact eqVS ao ao' c c' ks w hv hv' hsm
theorem balls_at (ms : List Mk) : ∀ k ∈ ballsV ms, k.1.2.length ≤ 4 := by
  intro k hk
  unfold ballsV at hk
  split at hk
  · rename_i hm
    have h1 : k.1 ∈ (ballF 60 ms).marks := by rw [← Tr.flat_marks _ 0]; exact List.mem_map_of_mem hk
    have h2 := (ballF_marks 60 ms (marksB_len hm)).mem_iff.1 h1
    obtain ⟨dim, _, hd4, hdim⟩ := marks_dim hm (List.length_pos_of_mem h2)
    rw [hdim _ h2]; exact hd4
  · cases hk
theorem balls_len (ms : List Mk) : (ballsV ms).length ≤ 60 := by
  unfold ballsV
  split
  · rename_i hm
    rw [Tr.flat_length, ballF_size _ _ (marksB_len hm)]; exact marksB_len hm
  · simp
theorem balls_small (ms : List Mk) : KSmall (ballsV ms) := by
  refine ⟨by have := balls_len ms; omega, fun i => ?_⟩
  rcases Nat.lt_or_ge i (ballsV ms).length with h | h
  · have := balls_at ms _ (knth_mem h); omega
  · simp [knth, List.getD, h]
/-- Knots that were written over from 1 on, N behind them. -/
def BMk (B : Nat) (w : World) (v : Value) (N : Int) : Prop := (v = .slice none 0 0 ∧ N = 1) ∨ ∃ g c es, v = .slice (some ⟨g, 0, none⟩) es.length c ∧ N = mkN 1 es ∧ BRow B w g c (mkL 1 es) ∧ KOuts B w g (mkL 1 es) ∧ (∀ d ∈ es, d.1.2.2.2.length ≤ 4) ∧ es.length ≤ 60
theorem BMk.below {B : Nat} {w w' : World} {v : Value} {N : Int} (h : BMk B w v N) (hw : Below w.heap.size w w') : BMk B w' v N :=
  h.imp id fun ⟨g, c, es, e, e2, r, o, h4, hn⟩ => ⟨g, c, es, e, e2, r.below hw, o.below hw, h4, hn⟩
set_option maxHeartbeats 400000 in
theorem markVS_nil (ao : Option Addr) (cap : Nat) (k0 : Int) (w : World) :
    Calls Try.prog 28 #[.slice ao 0 cap, .int .i64 k0] w fun e w' => e = .returned (.int .i64 k0) ∧ w' = w := by
  go_enter Try.func28, Try.ntmps28
  go_wp2
  refine wp_loop_rounds 1 ?_
  rw [rounds_succ]
  go_wp2
  go_ret
  exact ⟨rfl, rfl⟩
set_option maxHeartbeats 400000 in
theorem heldVS_nil (ao : Option Addr) (cap : Nat) (k0 : Int) (w : World) :
    Calls Try.prog 29 #[.slice ao 0 cap, .int .i64 k0] w fun e w' => e = .returned (.int .i64 k0) ∧ w' = w := by
  go_enter Try.func29, Try.ntmps29
  go_wp2
  refine wp_loop_rounds 1 ?_
  rw [rounds_succ]
  go_wp2
  go_ret
  exact ⟨rfl, rfl⟩
theorem markGV (B : Nat) (v : Value) (ks : List Kn) (w : World) (h : BGot B w v ks) (h4 : ∀ k ∈ ks, k.1.2.length ≤ 4) (hn : ks.length ≤ 60) :
    Calls Try.prog 28 #[v, .int .i64 1] w fun e w' => ∃ N : Int, e = .returned (.int .i64 N) ∧ 1 ≤ N ∧ N ≤ 1000000 ∧ BMk B w' v N ∧ KChg B w w' := by
  rcases h with ⟨rfl, rfl⟩ | ⟨g, c, es, rfl, he, hr, ho⟩
  · refine (markVS_nil none 0 1 w).mono ?_
    rintro e w' ⟨rfl, rfl⟩
    exact ⟨1, rfl, by omega, by omega, Or.inl ⟨rfl, rfl⟩, ⟨rfl, rfl, rfl, Nat.le_refl _, fun _ _ _ => rfl⟩⟩
  · have hl : ks.length = es.length := by rw [← he]; simp
    have h4' : ∀ d ∈ es, d.1.2.2.2.length ≤ 4 := fun d hd => h4 (dkKn d) (by rw [← he]; exact List.mem_map_of_mem hd)
    rw [hl]
    refine (markVS B g c 1 es w hr ho h4' (by omega) (by omega) (by omega)).mono ?_
    rintro e w' ⟨rfl, hr', ho', hc⟩
    have hb := mkN_le 1 es h4'
    exact ⟨_, rfl, by omega, by omega, Or.inr ⟨g, c, es, rfl, rfl, hr', ho', h4', by omega⟩, hc⟩
theorem heldGV (B : Nat) (v : Value) (N : Int) (w : World) (h : BMk B w v N) :
    Calls Try.prog 29 #[v, .int .i64 1] w fun e w' => e = .returned (.int .i64 N) ∧ w' = w := by
  rcases h with ⟨rfl, rfl⟩ | ⟨g, c, es, rfl, rfl, hr, ho, h4, hn⟩
  · exact heldVS_nil none 0 1 w
  · exact heldVS B g c 1 es w hr ho h4 hn (by omega) (by omega)
theorem BGot.gin {B lo hi : Nat} {w w' : World} {v : Value} {ks : List Kn} (h : BGot B w v ks) (g : GIn lo hi w w') (hb : hi ≤ B) : BGot B w' v ks := by
  refine h.imp id fun ⟨q, c, es, e, e2, r, o⟩ => ⟨q, c, es, e, e2, ?_, fun d hd => ?_, o.2⟩
  · have hq := g.2.2.2.2 q r.lt.2 (Or.inr (Nat.le_trans hb r.lt.1))
    obtain ⟨k1, k2 | ⟨g', c', cur, e1, h3, h4, h5⟩⟩ := r
    · exact ⟨k1, Or.inl k2⟩
    · refine ⟨k1, Or.inr ⟨g', c', cur, e1, h3, ?_, h5⟩⟩
      injection e1 with e2 e3 e4
      have : g' = q := by simp at e2; omega
      subst this
      rw [hq]; exact h4
  · obtain ⟨x, e, r, n⟩ := o.1 d hd
    refine ⟨x, e, ?_, n⟩
    have hq := g.2.2.2.2 x r.lt.2 (Or.inr (Nat.le_trans hb r.lt.1))
    obtain ⟨k1, k2 | ⟨g', c', cur, e1, h3, h4, h5⟩⟩ := r
    · exact ⟨k1, Or.inl k2⟩
    · refine ⟨k1, Or.inr ⟨g', c', cur, e1, h3, ?_, h5⟩⟩
      injection e1 with e2 e3 e4
      have : g' = x := by simp at e2; omega
      subst this
      rw [hq]; exact h4

end Go.Proofs.Ythddhblmnfjciaa
namespace Go.Proofs.Ythddhblmnfjciaa
open Go Go.RowKit

theorem ballsB_out {ks : List Kn} {ms : List Mk} (hp : ms.Perm (ks.map (·.1))) (hs : SortedBy idlt ms) (h : marksB ms = false) : ballsB ks = false := by
  rcases hm : marksB (knotMs ks) with _ | _
  · simp [ballsB, hm]
  · have h1 : Sole ms := (marks_sole hm).perm (hp.trans (sortBy_perm idlt _).symm)
    rw [← knot_ms hp hs h1] at hm
    rw [hm] at h; cases h
theorem balls_mem {ms : List Mk} (hm : marksB ms = true) {k : Kn} (hk : k ∈ ballsV ms) : k.1 ∈ ms := by
  unfold ballsV at hk
  rw [if_pos hm] at hk
  have h1 : k.1 ∈ (ballF 60 ms).marks := by rw [← Tr.flat_marks _ 0]; exact List.mem_map_of_mem hk
  exact (ballF_marks 60 ms (marksB_len hm)).mem_iff.1 h1
theorem ballsB_some {ks : List Kn} {ms : List Mk} (hp : ms.Perm (ks.map (·.1))) (hs : SortedBy idlt ms) (h : marksB ms = true) : ballsB ks = eqB ks (ballsV ms) := by
  have hS := marks_sole h
  have e := knot_ms hp hs hS
  have hk : ballsB ks = decide (ballsV ms = ks) := by unfold ballsB; rw [← e, h, Bool.true_and]
  rw [hk]
  have hlen : (ballsV ms).length = ks.length := by rw [ballsV_length ms h, hp.length_eq, List.length_map]
  rcases hb : eqB ks (ballsV ms) with _ | _
  · refine decide_eq_false (fun hq => ?_)
    rw [hq] at hb
    rw [eqB_all rfl (fun i _ => (sameB_iff _ _).2 ⟨rfl, rfl⟩)] at hb
    cases hb
  · refine decide_eq_true (kn_eq hlen fun i hi => ?_)
    simp only [eqB, Bool.and_eq_true, List.all_eq_true] at hb
    have h1 := (sameB_iff _ _).1 (hb.2 i (List.mem_range.2 (by omega)))
    have m1 : (knth (ballsV ms) i).1 ∈ ms := balls_mem h (knth_mem hi)
    have m2 : (knth ks i).1 ∈ ms := hp.mem_iff.2 (List.mem_map_of_mem (knth_mem (by omega)))
    exact Prod.ext (hS _ m1 _ m2 h1.1.symm) h1.2.symm
set_option maxRecDepth 100000 in
set_option maxHeartbeats 1000000 in
theorem iMarksInV0 (ao : Option Addr) (cap : Nat) (w : World) :
    Calls Try.prog 91 #[.slice ao 0 cap] w fun e w' => ∃ g, e = .returned (.slice (some ⟨g, 0, none⟩) 0 0) ∧ Below w.heap.size w w' := by
  have hmk : ∀ w, (Instr.makeSlice 34 (.int .i64 0) (.int .i64 0)).run Try.prog w = .ok (.slice (some ⟨w.heap.size, 0, none⟩) 0 0) (w.alloc (.cells #[] 93)) := fun _ => by kernel_rfl
  go_enter Try.func91, Try.ntmps91
  go_wp2
  clear hmk
  refine wp_loop_rounds 1 ?_
  rw [rounds_succ]
  go_wp2_with fail
  refine (iInOrder0 _ _ _ _).mono ?_
  rintro e w1 ⟨rfl, rfl⟩
  go_wp2_with fail
  go_ret
  exact ⟨_, rfl, ((Below.refl _ _).alloc (Nat.le_refl _) _).alloc (by simp) _⟩
set_option maxRecDepth 100000 in
set_option maxHeartbeats 1000000 in
theorem iBallsOk (ao : Option Addr) (cap : Nat) (ks : List Kn) (w : World) (hv : KView w ao ks) (hsm : KSmall ks) :
    Calls Try.prog 33 #[.slice ao ks.length cap] w fun e w' => e = .returned (.bool (ballsB ks)) ∧ Below w.heap.size w w' := by
  rcases Nat.eq_zero_or_pos ks.length with h0 | h0
  · have e : ks = [] := List.length_eq_zero_iff.1 h0
    subst e
    have HV : Hid (ballsB [] = true) := rfl
    have HM := hidP (iMarksInV0 ao cap w)
    clear hv hsm h0
    go_enter Try.func33, Try.ntmps33
    go_wp2_with fail
    refine HM.out.mono ?_
    rintro e w1 ⟨g, rfl, L1⟩
    have HH := hidP (iBalls (some ⟨g, 0, none⟩) 0 [] w1 (Nat.le_refl _) (Or.inl rfl) ⟨by simp, fun i => by simp [mat]⟩)
    have HL1 := hidP L1
    clear L1 HM
    go_wp2_with fail
    refine HH.out.mono ?_
    rintro e w2 ⟨v, rfl, hg, L2⟩
    obtain ⟨ao2, c2, rfl, _⟩ := hg.view
    have HL2 := hidP (chain HL1.out L2)
    have hz : (ballsV []).length = 0 := rfl
    clear hg L2 HL1 HH
    go_wp2_with fail
    refine (iEqualV_nil _ _ _ _ _ _).mono ?_
    rintro e w3 ⟨rfl, rfl⟩
    go_wp2_with fail
    go_ret
    exact ⟨ret_bool HV.out.symm, HL2.out⟩
  · obtain ⟨ds, hds, hs5, hsl⟩ := hv.sview
    have hdl : ds.length = ks.length := by rw [← smMarks_length, hds, List.length_map]
    obtain ⟨b, off, e, hb, hseg⟩ : ∃ b off, ao = some ⟨b, off, none⟩ ∧ b < w.heap.size ∧ KSeg w b off ks := by
      rcases hv with h | h
      · rw [h] at h0; simp at h0
      · exact h
    subst e
    have hs5' : SSeg5 w b off ds := by
      obtain ⟨b', off', e, _, h⟩ := hs5.seg (by omega)
      injection e with e
      injection e with e1 e2
      subst e1 e2
      exact h
    have HM := hidP (iMarksInV b off cap ks ds w h0 hsm.1 hb hseg hs5' hdl)
    have HSEG := hidP hseg
    have HSL := hidP hsl
    have HDS := hidP hds
    have hn0 : ks.length ≠ 0 := by omega
    have hn1 := hsm.1
    have HSM := hidP hsm
    clear hv hs5 hs5' hseg hsl hds hsm
    go_enter Try.func33, Try.ntmps33
    go_wp2_with fail
    refine HM.out.mono ?_
    rintro e w1 ⟨g, ds', rfl, hp, hso, hsg, hg, L1⟩
    have hl' : ds'.length = ks.length := by rw [hp.length_eq, hdl]
    have hml : (smMarks ds').length = ks.length := by rw [smMarks_length, hl']
    have hpm : (smMarks ds').Perm (ks.map (·.1)) := by rw [← HDS.out]; exact hp.map smMark
    have hmv : MView w1 (some ⟨g, 0, none⟩) (smMarks ds') := SView.mview (Or.inr ⟨g, 0, rfl, hg, hsg⟩) ((HSL.out.sub (fun d hd => hp.mem_iff.1 hd)).below L1)
    have hms : MSmall (smMarks ds') := by
      refine ⟨by rw [hml]; exact HSM.out.1, fun i => ?_⟩
      rcases Nat.lt_or_ge i (smMarks ds').length with h | h
      · have h1 : (smMarks ds')[i] ∈ ks.map (·.1) := hpm.mem_iff.1 (List.getElem_mem h)
        obtain ⟨k, hk, e⟩ := List.mem_map.1 h1
        obtain ⟨j, hj, e2⟩ := List.getElem_of_mem hk
        have h2 := HSM.out.2 j
        have e3 : knth ks j = k := by rw [← e2]; simp [knth, List.getD, hj]
        rw [e3] at h2
        have e4 : mat (smMarks ds') i = k.1.2 := by simp only [mat, List.getD, List.getElem?_eq_getElem h, Option.getD_some]; rw [← e]
        rw [e4]; exact h2
      · simp [mat, List.getD, h]
    have HH := hidP (iBalls (some ⟨g, 0, none⟩) ks.length (smMarks ds') w1 (by rw [hml]; exact Nat.le_refl _) hmv hms)
    rw [hml] at HH
    have HL1 := hidP L1
    have HOUT := hidP (ballsB_out hpm (sortedI_marks hso))
    have HSOME := hidP (ballsB_some hpm (sortedI_marks hso))
    have HLEN := hidP (ballsV_length (smMarks ds'))
    rw [hml] at HLEN
    have HNONE : Hid (marksB (smMarks ds') = false → ballsV (smMarks ds') = []) := fun h => by simp [ballsV, h]
    clear hp hso hsg hg L1 hl' hml hpm hmv hms HM HDS HSL
    generalize smMarks ds' = ms at *
    go_wp2_with fail
    refine HH.out.mono ?_
    rintro e w2 ⟨v, rfl, hgot, L2⟩
    obtain ⟨ao2, c2, rfl, hkv⟩ := hgot.view
    have HL2 := hidP (chain HL1.out L2)
    have HBK : Hid (KSeg w2 b off ks) := fun i hi => (HSEG.out i hi).below hb (chain HL1.out L2)
    have hb2 : b < w2.heap.size := Nat.lt_of_lt_of_le hb (chain HL1.out L2).size
    clear hgot L2 HL1 HSEG HH
    rcases hm : marksB ms with _ | _
    · have HV := hidP (HOUT.out hm)
      rw [HNONE.out hm]
      clear HOUT HSOME HLEN HNONE hkv
      go_wp2_with fail
      refine (iEqualV_ne _ _ _ 0 _ _ _ _ hn0).mono ?_
      rintro e w3 ⟨rfl, hw3⟩
      rw [hw3]
      clear hw3
      go_wp2_with fail
      go_ret
      exact ⟨ret_bool HV.out.symm, HL2.out⟩
    · have HV := hidP (HSOME.out hm)
      have hl2 := HLEN.out hm
      obtain ⟨b2, o2, e2, hb3, hs2⟩ : ∃ b off, ao2 = some ⟨b, off, none⟩ ∧ b < w2.heap.size ∧ KSeg w2 b off (ballsV ms) := by
        rcases hkv with h | h
        · rw [h] at hl2; simp at hl2; omega
        · exact h
      subst e2
      have HE := hidP (iEqualV b off cap b2 o2 c2 ks (ballsV ms) w2 hb2 hb3 HBK.out hs2 hl2.symm hn1)
      rw [hl2]
      clear HOUT HSOME HLEN HNONE hkv hs2 hl2
      go_wp2_with fail
      refine HE.out.mono ?_
      rintro e w3 ⟨rfl, L3⟩
      have HF := hidP (chain HL2.out L3)
      clear L3 HE HL2
      go_wp2_with fail
      go_ret
      exact ⟨ret_bool HV.out.symm, HF.out⟩

end Go.Proofs.Ythddhblmnfjciaa
