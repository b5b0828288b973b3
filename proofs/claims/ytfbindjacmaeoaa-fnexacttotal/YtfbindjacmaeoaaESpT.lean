/-
  The given Total and Threads answer totV and thrL.
-/
import Derived.Test.YtfbindjacmaeoaaESpA
import Derived.Test.YtfbindjacmaeoaaMOk2
namespace Go.Proofs.Ytfbindjacmaeoaa
open Go Go.RowKit

theorem inR_iff12 (x lo hi : Int) : inR x lo hi = true ↔ lo ≤ x ∧ x ≤ hi := by simp [inR]
theorem lngB_in (t : Th) : lngB t = inR t.2.2 0 1099511627776 := rfl
theorem totS_take {ts : List Th} {k : Nat} (h : k < ts.length) : totS (ts.take (k + 1)) = totS (ts.take k) + (tnth ts k).2.2 := by
  rw [List.take_succ_eq_append_getElem h, totS, List.map_append, List.sum_append, tnth_get h]
  simp [totS]
theorem totS_bd {ts : List Th} {k : Nat} (hk : k ≤ ts.length) (h : (ts.take k).all lngB = true) : 0 ≤ totS (ts.take k) ∧ totS (ts.take k) ≤ k * 1099511627776 := by
  induction k with
  | zero => simp [totS]
  | succ k ih =>
    have hl : k < ts.length := by omega
    rw [List.take_succ_eq_append_getElem hl, List.all_append, Bool.and_eq_true] at h
    obtain ⟨h1, h2⟩ := ih (by omega) h.1
    have h3 := h.2
    simp only [List.all_cons, List.all_nil, Bool.and_true, lngB_in, inR_iff12] at h3
    rw [totS_take hl, tnth_get hl]
    omega
theorem all_take_succ {ts : List Th} {k : Nat} (p : Th → Bool) (hl : k < ts.length) (h : (ts.take k).all p = true) (h2 : p (tnth ts k) = true) : (ts.take (k + 1)).all p = true := by
  rw [List.take_succ_eq_append_getElem hl, List.all_append, h, ← tnth_get hl]
  simp [h2]
theorem totV_bad {ts : List Th} {k : Nat} (hl : k < ts.length) (h : lngB (tnth ts k) = false) : totV ts = -1 := by
  rw [totV, if_neg]
  intro h2
  have := List.all_eq_true.1 h2 _ (tnth_mem hl)
  rw [h] at this
  cases this

set_option maxHeartbeats 1000000 in
theorem sTotal (ao : Option Addr) (cap : Nat) (ts : List Th) (w : World) (hv : TView w ao ts) (hn : ts.length ≤ 1048576) :
    Calls Try.prog 20 #[.slice ao ts.length cap] w fun e w' => e = .returned (.int .i64 (totV ts)) ∧ w' = w := by
  go_enter Try.func20, Try.ntmps20
  go_wp2_with fail
  go_loop [3, 4] (fun s i => ∃ k : Nat, k ≤ ts.length ∧ i = .int .i64 k ∧ s = .int .i64 (totS (ts.take k)) ∧ (ts.take k).all lngB = true) (fun _ i => ts.length - (intOf i).toNat)
  case atStart => exact ⟨0, Nat.zero_le _, rfl, rfl, rfl⟩
  case round =>
    obtain ⟨k, hk, rfl, rfl, hall⟩ := hrel
    by_cases hlt : k < ts.length
    · obtain ⟨b, off, rfl, hb, hs⟩ := hv.seg (by omega)
      have hc := (hs k hlt).2.2
      have hi0 : (0 : Int) ≤ (k : Int) := Int.natCast_nonneg _
      have hi1 : (k : Int) < (ts.length : Int) := by omega
      have HI : ∀ w, Hid _ := fun w => hidP (sIn (tnth ts k).2.2 0 1099511627776 w)
      rw [← lngB_in] at HI
      have hbd := totS_bd hk hall
      clear hs
      rcases hl : lngB (tnth ts k) with _ | _
      · have HV := hidP (totV_bad hlt hl)
        rw [hl] at HI
        clear hl hall
        generalize totS (ts.take k) = s at *
        generalize tnth ts k = t at *
        go_wp2_with fail
        refine (HI _).out.mono ?_
        rintro e w2 ⟨rfl, hw2⟩
        subst w2
        go_wp2_with fail
        go_ret
        exact ⟨ret_int HV.out.symm, rfl⟩
      · have HA := hidP (all_take_succ lngB hlt hall hl)
        have HS := hidP (totS_take hlt)
        rw [hl] at HI
        rw [lngB_in, inR_iff12] at hl
        generalize totS (ts.take k) = s at *
        generalize tnth ts k = t at *
        have hw : IntKind.i64.wrap (s + t.2.2) = s + t.2.2 := IntWalk.i64_in _ ⟨by omega, by omega⟩
        clear hall
        go_wp2_with fail
        refine (HI _).out.mono ?_
        rintro e w2 ⟨rfl, hw2⟩
        subst w2
        go_wp2_with fail
        go_round
        case rel => exact ⟨k + 1, by omega, by go_num, by rw [HS.out], HA.out⟩
        case measure => simp [intOf]; omega
    · obtain rfl : k = ts.length := by omega
      rw [List.take_length] at hall ⊢
      have HV : Hid (totV ts = totS ts) := by show _ = _; rw [totV, if_pos hall]
      clear hall
      go_wp2_with fail
      go_ret
      exact ⟨ret_int HV.out.symm, rfl⟩

/-- The threads taken of the first k of all. -/
def ktS (ms : List Mk) (kd : Int) : List Eg := srtE (zD ms kd) ms.length
def kt (ms : List Mk) (kd : Int) (k : Nat) : List Th := (kruF ((ktS ms kd).take k)).map (thOf ms kd)
theorem ktS_lt {ms : List Mk} (hm : marksB ms = true) {kd : Int} (hk : kindB kd = true) : ∀ e ∈ ktS ms kd, e.1 < ms.length ∧ e.2 < ms.length :=
  (allT_srt hm hk (pairsTo ms.length ms.length) (fun e he => by have := (mem_pairs _ _ e).1 he; omega)).2
theorem kt_lt {ms : List Mk} (hm : marksB ms = true) {kd : Int} (hk : kindB kd = true) (k : Nat) : ∀ e ∈ kruF ((ktS ms kd).take k), e.1 < ms.length ∧ e.2 < ms.length := fun e he =>
  ktS_lt hm hk e (List.mem_of_mem_take ((kru_sub _).subset he))
theorem found_of {ms : List Mk} (hm : marksB ms = true) {kd : Int} {E : List Eg} (hE : ∀ e ∈ E, e.1 < ms.length ∧ e.2 < ms.length) : ∀ t ∈ E.map (thOf ms kd), 0 ≤ zFind ms t.1 ∧ 0 ≤ zFind ms t.2.1 := fun t ht => by
  obtain ⟨e, he, rfl⟩ := List.mem_map.1 ht
  have hb := hE e he
  show 0 ≤ zFind ms (mid ms e.1) ∧ 0 ≤ zFind ms (mid ms e.2)
  rw [(zFind_mid hm hb.1).1, (zFind_mid hm hb.2).1]
  omega
theorem kt_found {ms : List Mk} (hm : marksB ms = true) {kd : Int} (hk : kindB kd = true) (k : Nat) : ∀ t ∈ kt ms kd k, 0 ≤ zFind ms t.1 ∧ 0 ≤ zFind ms t.2.1 := found_of hm (kt_lt hm hk k)
theorem ktS_len {ms : List Mk} (hm : marksB ms = true) {kd : Int} (hk : kindB kd = true) (hn : ms.length ≤ 60) : (ktS ms kd).length ≤ 3660 := by
  have h := allT_all hm hk
  have h2 := congrArg List.length h
  rw [allT_len, List.length_map] at h2
  have := prs_len (n := ms.length) (i := ms.length) (k := ms.length) hn (Nat.le_refl _) (Nat.le_refl _)
  unfold prs at this
  rw [List.length_append] at this
  unfold ktS
  omega
theorem kt_len (ms : List Mk) (kd : Int) (k : Nat) : (kt ms kd k).length ≤ (ktS ms kd).length := by
  rw [kt, List.length_map]
  exact Nat.le_trans (kru_sub _).length_le (by simp; omega)
/-- What two labels say of the next. -/
theorem kt_next {ms : List Mk} (hm : marksB ms = true) {kd : Int} (hk : kindB kd = true) {k : Nat} (h : k < (ktS ms kd).length) :
    (zIdx ms (thOf ms kd (ktS ms kd)[k]).1 < ms.length ∧ zIdx ms (thOf ms kd (ktS ms kd)[k]).2.1 < ms.length) ∧ (0 ≤ zFind ms (thOf ms kd (ktS ms kd)[k]).1 ∧ 0 ≤ zFind ms (thOf ms kd (ktS ms kd)[k]).2.1) ∧
    kt ms kd (k + 1) = if nth (labL ms (kt ms kd k)) (zIdx ms (thOf ms kd (ktS ms kd)[k]).1) = nth (labL ms (kt ms kd k)) (zIdx ms (thOf ms kd (ktS ms kd)[k]).2.1) then kt ms kd k else kt ms kd k ++ [thOf ms kd (ktS ms kd)[k]] := by
  have hb := ktS_lt hm hk _ (List.getElem_mem h)
  have e1 : zIdx ms (thOf ms kd (ktS ms kd)[k]).1 = (ktS ms kd)[k].1 := (zFind_mid hm hb.1).2
  have e2 : zIdx ms (thOf ms kd (ktS ms kd)[k]).2.1 = (ktS ms kd)[k].2 := (zFind_mid hm hb.2).2
  refine ⟨by rw [e1, e2]; exact hb, ?_, ?_⟩
  · show 0 ≤ zFind ms (mid ms _) ∧ 0 ≤ zFind ms (mid ms _)
    rw [(zFind_mid hm hb.1).1, (zFind_mid hm hb.2).1]
    omega
  · rw [e1, e2, labL_at hb.1, labL_at hb.2]
    have e3 : (kt ms kd k).map (eOf ms) = kruF ((ktS ms kd).take k) := eOf_map hm kd (kt_lt hm hk k)
    rw [e3]
    have e4 : kt ms kd (k + 1) = (kruF ((ktS ms kd).take k ++ [(ktS ms kd)[k]])).map (thOf ms kd) := by rw [kt, List.take_succ_eq_append_getElem h]
    rw [e4, kru_snoc]
    by_cases hl : lab (kruF ((ktS ms kd).take k)) (ktS ms kd)[k].1 = lab (kruF ((ktS ms kd).take k)) (ktS ms kd)[k].2
    · rw [if_pos hl, if_pos (by rw [hl])]; rfl
    · rw [if_neg hl, if_neg (by omega), List.map_append]; rfl
theorem thrL_no {ms : List Mk} {kd : Int} (h : thrB ms kd = false) : thrL ms kd = [] := by rw [thrL, if_neg (by rw [h]; simp)]
theorem kt_all {ms : List Mk} {kd : Int} (h : thrB ms kd = true) : kt ms kd (ktS ms kd).length = thrL ms kd := by
  rw [kt, List.take_length, thrL, if_pos h]; rfl

/-- The tests that the given Threads, Tied, Groups and Gap make first, decided. -/
inductive CaseT (ms : List Mk) (kd : Int) : Prop
  | marks (h : marksB ms = false) (h3 : thrB ms kd = false)
  | kind (h : marksB ms = true) (h2 : kindB kd = false) (h3 : thrB ms kd = false)
  | good (h : marksB ms = true) (h2 : kindB kd = true) (h3 : thrB ms kd = true)
theorem caseT (ms : List Mk) (kd : Int) : CaseT ms kd := by
  rcases h : marksB ms with _ | _
  · exact .marks h (by simp [thrB, h])
  · rcases h2 : kindB kd with _ | _
    · exact .kind h h2 (by simp [thrB, h2])
    · exact .good h h2 (by simp [thrB, h, h2])

set_option maxRecDepth 100000 in
set_option maxHeartbeats 4000000 in
theorem sThreads (ao : Option Addr) (cap : Nat) (ms : List Mk) (kd : Int) (w : World) (hv : MView w ao ms) (hsm : MSmall ms) :
    Calls Try.prog 16 #[.slice ao ms.length cap, .int .i64 kd] w fun e w' => ∃ g c, e = .returned (.slice (some ⟨g, 0, none⟩) (thrL ms kd).length c) ∧ TRow w.heap.size w' g c (thrL ms kd) ∧ Below w.heap.size w w' := by
  have LA : Below w.heap.size w (w.alloc (.cells #[] 41)) := (Below.refl _ _).alloc (Nat.le_refl _) _
  have HC := hidP (sMarks ao cap ms (w.alloc (.cells #[] 41)) (hv.next LA) hsm)
  have HK : ∀ w, Hid _ := fun w => hidP (sKind kd w)
  have HR0 : Hid (TRow w.heap.size (w.alloc (.cells #[] 41)) w.heap.size 0 []) := TRow.start w _ (Nat.le_refl _)
  rcases caseT ms kd with ⟨h, h3⟩ | ⟨h, h2, h3⟩ | ⟨h, h2, h3⟩
  · have HV := hidP (thrL_no h3)
    rw [h] at HC
    clear hv hsm h h3
    go_enter Try.func16, Try.ntmps16
    go_wp2_with fail
    refine HC.out.mono ?_
    rintro e w1 ⟨rfl, n1, hw1⟩
    have HX : Hid (TRow w.heap.size w1 w.heap.size 0 [] ∧ Below w.heap.size w w1) := by rw [hw1]; exact ⟨HR0.out, below_drewN LA n1⟩
    clear hw1
    go_wp2_with fail
    go_ret
    rw [HV.out]
    exact ⟨w.heap.size, 0, rfl, HX.out⟩
  · have HV := hidP (thrL_no h3)
    rw [h] at HC
    rw [h2] at HK
    clear hv hsm h h3 h2
    go_enter Try.func16, Try.ntmps16
    go_wp2_with fail
    refine HC.out.mono ?_
    rintro e w1 ⟨rfl, n1, hw1⟩
    have HX : Hid (TRow w.heap.size w1 w.heap.size 0 [] ∧ Below w.heap.size w w1) := by rw [hw1]; exact ⟨HR0.out, below_drewN LA n1⟩
    clear hw1
    go_wp2_with fail
    refine (HK _).out.mono ?_
    rintro e w2 ⟨rfl, hw2⟩
    subst w2
    go_wp2_with fail
    go_ret
    rw [HV.out]
    exact ⟨w.heap.size, 0, rfl, HX.out⟩
  · have hn := marksB_len h
    obtain ⟨j0, hj0, hy0, hy1, hy2⟩ := info_parts Try.info41
    have HM := hidP h
    have HKD := hidP h2
    have HALL := hidP (kt_all h3)
    have HSM := hidP hsm
    have HVW := hidP hv
    have hsl := ktS_len h h2 hn
    rw [h] at HC
    rw [h2] at HK
    clear hv hsm h h3 h2
    go_enter Try.func16, Try.ntmps16
    go_wp2_with fail
    refine HC.out.mono ?_
    rintro e w1 ⟨rfl, n1, hw1⟩
    have HX : Hid (TRow w.heap.size w1 w.heap.size 0 [] ∧ Below w.heap.size w w1) := by rw [hw1]; exact ⟨HR0.out, below_drewN LA n1⟩
    have hz1 : w1.heap.size = w.heap.size + 1 := by rw [hw1]; simp
    clear hw1 LA HC HR0
    go_wp2_with fail
    refine (HK _).out.mono ?_
    rintro e w2 ⟨rfl, hw2⟩
    subst w2
    have HAT := hidP (sAllT ao cap ms kd w1 (HVW.out.next HX.out.2) HSM.out hn)
    rw [allT_all HM.out HKD.out] at HAT
    have eS : srtE (zD ms kd) ms.length = ktS ms kd := rfl
    rw [eS] at HAT
    clear eS HK
    go_wp2_with fail
    refine HAT.out.mono ?_
    rintro e w2 ⟨ga, ca, rfl, hra, L2⟩
    clear HAT
    have HRA : Hid (TRow w.heap.size w2 ga ca ((ktS ms kd).map (thOf ms kd))) := hra.mono (by omega)
    have hga := hra.lt
    have HX2 : Hid (TRow w.heap.size w2 w.heap.size 0 [] ∧ Below w.heap.size w w2) := ⟨HX.out.1.below (Nat.le_refl _) L2, HX.out.2.trans (L2.mono (by omega))⟩
    have hal : ((ktS ms kd).map (thOf ms kd)).length = (ktS ms kd).length := List.length_map _
    rw [hal]
    clear hra L2 HX
    go_wp2_with fail
    go_loopw [5, 7, 8] (fun o i _ wr => ∃ (k m g c : Nat), k ≤ (ktS ms kd).length ∧ i = .int .i64 k ∧ o = .slice (some ⟨g, 0, none⟩) m c ∧ m = (kt ms kd k).length ∧ TRow w.heap.size wr g c (kt ms kd k) ∧ TRow w.heap.size wr ga ca ((ktS ms kd).map (thOf ms kd)) ∧ ga ≠ g ∧ Below w.heap.size w wr) (fun _ i _ _ => (ktS ms kd).length - (intOf i).toNat)
    case atStart => exact ⟨0, 0, w.heap.size, 0, Nat.zero_le _, rfl, rfl, rfl, HX2.out.1, HRA.out, by omega, HX2.out.2⟩
    case round =>
      obtain ⟨k, m, g, c, hk, rfl, rfl, hm, hrow, hall, hne, L⟩ := hrel
      clear HX2 HRA
      have hml : m ≤ 3660 := by rw [hm]; exact Nat.le_trans (kt_len _ _ _) hsl
      by_cases hlt : k < (ktS ms kd).length
      · have hnx := kt_next HM.out HKD.out hlt
        have hkt : tnth ((ktS ms kd).map (thOf ms kd)) k = thOf ms kd (ktS ms kd)[k] := by rw [tnth_get (by rw [hal]; exact hlt), List.getElem_map]
        obtain ⟨c0, c1, c2⟩ := hall.seg k (by rw [hal]; exact hlt)
        rw [hkt, Nat.zero_add] at c0 c1 c2
        have HP := hidP (sParts ao (some ⟨g, 0, none⟩) cap c ms (kt ms kd k) wr (HVW.out.next L) hrow.view hn (by omega) (kt_found HM.out HKD.out k))
        rw [← hm] at HP
        obtain ⟨⟨hi1, hi2⟩, ⟨f1, f2⟩, hnext⟩ := hnx
        have HNX := hidP hnext
        clear hnext hkt
        generalize thOf ms kd (ktS ms kd)[k] = d at *
        have hbg := hrow.lt
        have hbga := hall.lt
        have HROW := hidP hrow
        have HALLR := hidP hall
        have HL := hidP L
        have HLEN := hidP hm
        obtain ⟨-, e1, -⟩ := zIdx_lt f1
        obtain ⟨-, e2, -⟩ := zIdx_lt f2
        have hx1 : zFind ms d.1 < (ms.length : Int) := by omega
        have hx2 : zFind ms d.2.1 < (ms.length : Int) := by omega
        have y1 : zIdx ms d.1 = (zFind ms d.1).toNat := by omega
        have y2 : zIdx ms d.2.1 = (zFind ms d.2.1).toNat := by omega
        have HFF : Hid (∀ W, Below w.heap.size w W → ∀ id : Int, Calls Try.prog 61 #[.slice ao ms.length cap, .int .i64 id] W fun e w' => e = .returned (.int .i64 (zFind ms id)) ∧ w' = W) := fun W LW id => sFind ao cap ms id W (HVW.out.next LW) (by omega)
        clear e1 e2 hrow hall L hm
        have hk0 : (0 : Int) ≤ (k : Int) := Int.natCast_nonneg _
        have hk1 : (k : Int) < ((ktS ms kd).length : Int) := by omega
        go_wp2_with fail
        refine HP.out.mono ?_
        rintro e w3 ⟨gp, cp, rfl, hrp, L3⟩
        have hz3 := L3.size
        have hLL := labL_len ms (kt ms kd k)
        have q1 := hrp.seg (zIdx ms d.1) (by rw [hLL]; exact hi1)
        have q2 := hrp.seg (zIdx ms d.2.1) (by rw [hLL]; exact hi2)
        rw [Nat.zero_add] at q1 q2
        have d0 := (L3.cell (p := ⟨ga, k * 3, none⟩) hbga.2).trans c0
        have d1 := (L3.cell (p := ⟨ga, k * 3 + 1, none⟩) hbga.2).trans c1
        have d2 := (L3.cell (p := ⟨ga, k * 3 + 2, none⟩) hbga.2).trans c2
        have HL3 : Hid (Below w.heap.size w w3) := HL.out.trans (L3.mono HL.out.size)
        have HROW3 : Hid (TRow w.heap.size w3 g c (kt ms kd k)) := HROW.out.below (Nat.le_refl _) L3
        have HALL3 : Hid (TRow w.heap.size w3 ga ca ((ktS ms kd).map (thOf ms kd))) := HALLR.out.below (Nat.le_refl _) L3
        have HFF3 : Hid (∀ n, ∀ id : Int, Calls Try.prog 61 #[.slice ao ms.length cap, .int .i64 id] (w3.drewN n) fun e w' => e = .returned (.int .i64 (zFind ms id)) ∧ w' = w3.drewN n) := fun n id => HFF.out _ (below_drewN HL3.out n) id
        clear hrp L3 c0 c1 c2 HROW HALLR HL HFF HP hLL
        generalize nth (labL ms (kt ms kd k)) (zIdx ms d.1) = la at *
        generalize nth (labL ms (kt ms kd k)) (zIdx ms d.2.1) = lb at *
        rw [y1] at q1
        rw [y2] at q2
        clear y1 y2 hi1 hi2
        generalize hza : zFind ms d.1 = za at *
        generalize hzb : zFind ms d.2.1 = zb at *
        by_cases he : la = lb
        · have heb : (la != lb) = false := by simp [he]
          have HN := HNX.out
          rw [if_pos he] at HN
          have HN' := hidP HN
          clear HN he HNX
          go_wp2_with fail
          go_quiet (first | (go_at_call 61; exact Calls.quiet_of_same (HFF3.out _ _)))
          go_wp2_with fail
          go_roundw
          case rel => exact ⟨k + 1, m, g, c, by omega, by go_num, rfl, by rw [HN'.out]; exact HLEN.out, by rw [HN'.out]; exact HROW3.out, HALL3.out, hne, below_drewN HL3.out nq⟩
          case measure => simp [intOf]; omega
        · have heb : (la != lb) = true := by simp [he]
          have HN := HNX.out
          rw [if_neg he] at HN
          have HN' := hidP HN
          clear HN he HNX
          have HOW : Hid (∀ n, (w3.drewN n).ownsRow w.heap.size 41 3 (.slice (some ⟨g, 0, none⟩) m c) m (tCells (kt ms kd k))) := fun n => by
            have h := HROW3.out
            unfold TRow at h
            rw [← HLEN.out] at h
            exact h
          have hg3 : g < w3.heap.size := by omega
          have hga3 : ga < w3.heap.size := by omega
          go_wp2_with fail
          go_quiet (first | (go_at_call 61; exact Calls.quiet_of_same (HFF3.out _ _)))
          obtain ⟨w4, hw4⟩ : ∃ w4, w4 = w3.drewN nq := ⟨_, rfl⟩
          have hg4 : w.heap.size ≤ w4.heap.size := by rw [hw4]; show _ ≤ w3.heap.size; omega
          have hga4 : ga < w4.heap.size := by rw [hw4]; exact hga3
          have HOW4 : Hid (w4.ownsRow w.heap.size 41 3 (.slice (some ⟨g, 0, none⟩) m c) m (tCells (kt ms kd k))) := by rw [hw4]; exact HOW.out nq
          have HALL4 : Hid (TRow w.heap.size w4 ga ca ((ktS ms kd).map (thOf ms kd))) := by rw [hw4]; exact HALL3.out
          have HL4 : Hid (Below w.heap.size w w4) := by rw [hw4]; exact below_drewN HL3.out nq
          have x0 : w4.cell? ⟨ga, k * 3, none⟩ = some (.int .i64 d.1) := by rw [hw4]; exact d0
          have x1 : w4.cell? ⟨ga, k * 3 + 1, none⟩ = some (.int .i64 d.2.1) := by rw [hw4]; exact d1
          have x2 : w4.cell? ⟨ga, k * 3 + 2, none⟩ = some (.int .i64 d.2.2) := by rw [hw4]; exact d2
          rw [← hw4]
          clear hw4 HOW HALL3 HL3 HROW3 HFF3 d0 d1 d2 q1 q2
          go_wp2_with (at_builtin; refine wpList_append_at _ rfl (.tmp 52) (.tmp 57) 27 rfl w.heap.size 41 j0 _ 3 24 Try.underlying27 hj0 hy0 hy1 hy2 rfl (by omega) g m c (tCells (kt ms kd k)) rfl (World.ownsRow.alloc HOW4.out _) (some ⟨w4.heap.size, 0, none⟩) 1 1 (tCells [d]) rfl (one_srcT (heap_alloc_new w4 _)) (by unfold maxLen; omega) (by omega) (by simp; omega) (w4.heap.size + 1) (by simp) ?_; intro gr cr w5 hownr hgrowr hatr hltr)
          have HF : Hid (TRow w.heap.size w5 gr cr (kt ms kd (k + 1)) ∧ TRow w.heap.size w5 ga ca ((ktS ms kd).map (thOf ms kd)) ∧ ga ≠ gr ∧ Below w.heap.size w w5) := by
            refine ⟨?_, ?_, ?_, ?_⟩
            · rw [HN'.out]
              refine TRow.snoc ?_
              rw [← HLEN.out]
              exact hownr
            · exact TRow.kept (World.ownsRow.alloc HALL4.out _) hgrowr (by simpa [Value.ownBlock] using hne)
            · rcases hatr with h | h <;> omega
            · exact (HL4.out.alloc HL4.out.size _).grown hgrowr (by simp; omega) (by intro q hq; cases hq; omega)
          have HML : Hid (m + 1 = (kt ms kd (k + 1)).length) := by show _ = _; rw [HN'.out, List.length_append, ← HLEN.out]; rfl
          clear hownr hgrowr hatr hltr
          go_wp2_with fail
          go_roundw
          case rel => exact ⟨k + 1, m + 1, gr, cr, by omega, by go_num, rfl, HML.out, HF.out⟩
          case measure => simp [intOf]; omega
      · obtain rfl : k = (ktS ms kd).length := by omega
        rw [HALL.out] at hrow hm
        have HE := hidP (And.intro hm (And.intro hrow L))
        clear hm hrow L hall
        go_wp2_with fail
        go_ret
        exact ⟨g, c, by rw [← HE.out.1]; rfl, HE.out.2⟩

end Go.Proofs.Ytfbindjacmaeoaa
