/-
  The given Gap answers gapI.
-/
import Derived.Test.YtfbindjacmaeoaaESpAZz
import Derived.Test.YtfbindjacmaeoaaJRwZz
namespace Go.Proofs.Ytfbindjacmaeoaa
open Go Go.RowKit

theorem Try.info3 : (Try.prog.info? 3).map (fun i => (i.zero, i.size, i.bytes)) = some (some (.int .i64 0), 1, 8) := by kernel_rfl
/-- A row of ints of the call's own, whole. -/
def N3 (w : World) (b : Nat) (xs : List Int) : Prop := w.heap[b]? = some (.cells (rowC xs) 3)
theorem N3.lt {w : World} {b : Nat} {xs : List Int} (h : N3 w b xs) : b < w.heap.size := by
  rcases Nat.lt_or_ge b w.heap.size with h1 | h1
  · exact h1
  · unfold N3 at h; rw [Array.getElem?_eq_none h1] at h; cases h
theorem N3.cell {w : World} {b : Nat} {xs : List Int} (h : N3 w b xs) (i : Nat) (hi : i < xs.length) : w.cell? ⟨b, i, none⟩ = some (.int .i64 (nth xs i)) := by
  unfold N3 at h; simp only [World.cell?, h]; exact rowC_at xs i hi
theorem N3.below {w w' : World} {B b : Nat} {xs : List Int} (h : N3 w b xs) (hb : b < B) (hw : Below B w w') : N3 w' b xs := (hw.block b hb).trans h
theorem N3.set {w : World} {b : Nat} {xs : List Int} (h : N3 w b xs) (k : Nat) (v : Int) : N3 (w.setCell ⟨b, k, none⟩ (.int .i64 v)) b (xs.set k v) := by
  unfold N3 at h ⊢
  simp only [World.setCell, Array.getElem?_modify, h]
  simp [rowC, List.map_set]
theorem N3.frozen {w : World} {b : Nat} {xs : List Int} (h : N3 w b xs) (i : Nat) : w.frozen? ⟨b, i, none⟩ = false := by
  unfold N3 at h; simp [World.frozen?, h]
theorem N3.start (w : World) (n : Nat) : N3 (w.alloc (.cells (madeCells #[.int .i64 0] n) 3)) w.heap.size (natL (fun _ => 0) n) := by
  have e : madeCells #[.int .i64 0] n = rowC (natL (fun _ => 0) n) := by
    rw [← filled_zero (fun _ => 0)]
    unfold filled natL
    congr 1
    apply List.ext_getElem
    · simp [tabL]
    · intro i h1 h2; simp [tabL]
  rw [e]
  show (w.heap.push _)[w.heap.size]? = _
  simp

theorem inIds_append (ms : List Mk) (g : Nat) (b : List Int) : ∀ (a : List Int) (h : Nat → Nat), inIds ms g (a ++ b) h = match inIds ms g a h with
    | none => none
    | some h' => inIds ms g b h'
  | [], h => rfl
  | x :: a, h => by
    simp only [List.cons_append, inIds]
    split
    · rfl
    · exact inIds_append ms g b a _
theorem inGrp_append (ms : List Mk) (b : List (List Int)) : ∀ (a : List (List Int)) (g : Nat) (h : Nat → Nat), inGrp ms (a ++ b) g h = match inGrp ms a g h with
    | none => none
    | some h' => inGrp ms b (g + a.length) h'
  | [], g, h => by simp only [List.nil_append, inGrp, List.length_nil, Nat.add_zero]
  | x :: a, g, h => by
    simp only [List.cons_append, inGrp]
    split
    · rfl
    · cases inIds ms g x h with
      | none => rfl
      | some h' => simp only [inGrp_append ms b a]; rw [List.length_cons, show g + 1 + a.length = g + (a.length + 1) by omega]
theorem cn_split {gs : List (List Int)} {j : Nat} (h : j < gs.length) : gs = gs.take j ++ cn gs j :: gs.drop (j + 1) := by
  rw [cn_at h]
  simp
theorem gap_no {ms : List Mk} {kd : Int} {gs : List (List Int)} (h : gapB ms kd gs = false) : gapI ms kd gs = -1 := by rw [gapI, if_neg (by rw [h]; simp)]
theorem gap_none {ms : List Mk} {kd : Int} {gs : List (List Int)} (h : inGrp ms gs 0 (fun _ => 0) = none) : gapI ms kd gs = -1 := by
  unfold gapI
  rw [h]
  split <;> rfl
theorem gap_empty {ms : List Mk} {kd : Int} {gs : List (List Int)} {j : Nat} {h : Nat → Nat} (hj : j < gs.length) (hh : inGrp ms (gs.take j) 0 (fun _ => 0) = some h) (he : cn gs j = []) : gapI ms kd gs = -1 := by
  apply gap_none
  rw [cn_split hj, inGrp_append, hh]
  simp [inGrp, he]
theorem gap_id {ms : List Mk} {kd : Int} {gs : List (List Int)} {j m : Nat} {h h' : Nat → Nat} (hj : j < gs.length) (hh : inGrp ms (gs.take j) 0 (fun _ => 0) = some h) (hm : m < (cn gs j).length) (hi : inIds ms j ((cn gs j).take m) h = some h')
    (hb : zFind ms (nth (cn gs j) m) < 0 ∨ h' (zIdx ms (nth (cn gs j) m)) ≠ 0) : gapI ms kd gs = -1 := by
  apply gap_none
  have e1 : inIds ms j (cn gs j) h = none := by
    have e2 : cn gs j = (cn gs j).take m ++ nth (cn gs j) m :: (cn gs j).drop (m + 1) := by simp [nth, List.getD, hm]
    rw [e2, inIds_append, hi]
    simp only [inIds]
    rw [if_pos hb]
  have hl : (gs.take j).length = j := by simp; omega
  rw [cn_split hj, inGrp_append, hh]
  simp only [inGrp, hl, Nat.zero_add]
  rw [e1]
  split <;> rfl
theorem inIds_next {ms : List Mk} {g : Nat} {ids : List Int} {m : Nat} {h h' : Nat → Nat} (hm : m < ids.length) (hi : inIds ms g (ids.take m) h = some h') (h1 : ¬ zFind ms (nth ids m) < 0) (h2 : h' (zIdx ms (nth ids m)) = 0) :
    inIds ms g (ids.take (m + 1)) h = some (fun i => if i = zIdx ms (nth ids m) then g + 1 else h' i) := by
  have e : ids.take (m + 1) = ids.take m ++ [nth ids m] := by rw [List.take_succ_eq_append_getElem hm]; simp [nth, List.getD, hm]
  rw [e, inIds_snoc, hi]
  simp only
  rw [if_neg (by omega)]
theorem inGrp_next {ms : List Mk} {gs : List (List Int)} {j : Nat} {h h' : Nat → Nat} (hj : j < gs.length) (hh : inGrp ms (gs.take j) 0 (fun _ => 0) = some h) (hne : ¬ cn gs j = []) (hi : inIds ms j (cn gs j) h = some h') :
    inGrp ms (gs.take (j + 1)) 0 (fun _ => 0) = some h' := by
  have e : gs.take (j + 1) = gs.take j ++ [cn gs j] := by rw [List.take_succ_eq_append_getElem hj, cn_at hj]
  have hl : (gs.take j).length = j := by simp; omega
  rw [e, inGrp_snoc, hh]
  simp only [hl, Nat.zero_add]
  rw [if_neg hne, hi]
theorem lenS_next {gs : List (List Int)} {j : Nat} (hj : j < gs.length) : lenS (gs.take (j + 1)) = lenS (gs.take j) + (cn gs j).length := by
  unfold lenS
  rw [List.take_succ_eq_append_getElem hj, cn_at hj, List.map_append, List.sum_append]
  simp only [List.map_cons, List.map_nil, List.sum_cons, List.sum_nil, Nat.add_zero]
theorem lenS_bd {gs : List (List Int)} (hs : ∀ i, (cn gs i).length ≤ 1048576) {j : Nat} (hj : j ≤ gs.length) : lenS (gs.take j) ≤ j * 1048576 := by
  induction j with
  | zero => simp [lenS]
  | succ j ih =>
    have := ih (by omega)
    have := hs j
    rw [lenS_next (by omega)]
    omega
theorem gap_len {ms : List Mk} {kd : Int} {gs : List (List Int)} (h : ¬ lenS gs = ms.length) : gapI ms kd gs = -1 := by
  unfold gapI
  split
  · cases inGrp ms gs 0 (fun _ => 0) with
    | none => rfl
    | some h' => rfl
  · rfl
theorem gap_good {ms : List Mk} {kd : Int} {gs : List (List Int)} {h : Nat → Nat} (hb : gapB ms kd gs = true) (hh : inGrp ms gs 0 (fun _ => 0) = some h) (hl : lenS gs = ms.length) : gapI ms kd gs = gapAll h (zD ms kd) ms.length := by
  unfold gapI
  rw [if_pos hb, hh]
  simp only
  rw [if_pos hl]
theorem gap_bd {h : Nat → Nat} {D : Nat → Nat → Int} (h1 : ∀ i j, 0 ≤ D i j ∧ D i j ≤ 16000000) (i k : Nat) : (-1 ≤ gapAll h D i ∧ gapAll h D i ≤ 16000000) ∧ ∀ b, -1 ≤ b → b ≤ 16000000 → -1 ≤ gapRow h D i k b ∧ gapRow h D i k b ≤ 16000000 := by
  have hs : ∀ i k b, -1 ≤ b → b ≤ 16000000 → -1 ≤ gStep h D i k b ∧ gStep h D i k b ≤ 16000000 := fun i k b b1 b2 => by
    have := h1 i k
    unfold gStep
    split <;> omega
  have hr : ∀ i k b, -1 ≤ b → b ≤ 16000000 → -1 ≤ gapRow h D i k b ∧ gapRow h D i k b ≤ 16000000 := fun i k => by
    induction k with
    | zero => intro b b1 b2; exact ⟨b1, b2⟩
    | succ k ih => intro b b1 b2; exact hs i k _ (ih b b1 b2).1 (ih b b1 b2).2
  refine ⟨?_, hr i k⟩
  induction i with
  | zero => exact ⟨by simp [gapAll], by simp [gapAll]⟩
  | succ i ih => exact hr i i _ ih.1 ih.2

set_option maxRecDepth 100000 in
set_option maxHeartbeats 4000000 in
theorem sGap_no (ao ag : Option Addr) (cap cg : Nat) (ms : List Mk) (kd : Int) (gs : List (List Int)) (w : World) (hv : MView w ao ms) (hsm : MSmall ms) (hgl : gs.length ≤ 1048576) (hno : gapB ms kd gs = false) :
    Calls Try.prog 29 #[.slice ao ms.length cap, .int .i64 kd, .slice ag gs.length cg] w fun e w' => e = .returned (.int .i64 (gapI ms kd gs)) ∧ Below w.heap.size w w' := by
  have HC := hidP (sMarks ao cap ms w hv hsm)
  have HK : ∀ w, Hid _ := fun w => hidP (sKind kd w)
  have HV := hidP (gap_no hno)
  rcases caseT ms kd with ⟨h, h3⟩ | ⟨h, h2, h3⟩ | ⟨h, h2, h3⟩
  · rw [h] at HC
    clear hv hsm hno h h3
    go_enter Try.func29, Try.ntmps29
    go_wp2_with fail
    refine HC.out.mono ?_
    rintro e w1 ⟨rfl, n1, hw1⟩
    have HX : Hid (Below w.heap.size w w1) := by rw [hw1]; exact below_drewN (Below.refl _ _) n1
    clear hw1
    go_wp2_with fail
    go_ret
    exact ⟨ret_int HV.out.symm, HX.out⟩
  · rw [h] at HC
    rw [h2] at HK
    clear hv hsm hno h h2 h3
    go_enter Try.func29, Try.ntmps29
    go_wp2_with fail
    refine HC.out.mono ?_
    rintro e w1 ⟨rfl, n1, hw1⟩
    have HX : Hid (Below w.heap.size w w1) := by rw [hw1]; exact below_drewN (Below.refl _ _) n1
    clear hw1
    go_wp2_with fail
    refine (HK _).out.mono ?_
    rintro e w2 ⟨rfl, hw2⟩
    subst w2
    go_wp2_with fail
    go_ret
    exact ⟨ret_int HV.out.symm, HX.out⟩
  · have h4 : ¬ 2 ≤ gs.length := by rw [gapB, h3] at hno; simpa using hno
    have h5 : (gs.length : Int) < 2 := by omega
    rw [h] at HC
    rw [h2] at HK
    clear hv hsm hno h h2 h3 h4
    go_enter Try.func29, Try.ntmps29
    go_wp2_with fail
    refine HC.out.mono ?_
    rintro e w1 ⟨rfl, n1, hw1⟩
    have HX : Hid (Below w.heap.size w w1) := by rw [hw1]; exact below_drewN (Below.refl _ _) n1
    clear hw1
    go_wp2_with fail
    refine (HK _).out.mono ?_
    rintro e w2 ⟨rfl, hw2⟩
    subst w2
    go_wp2_with fail
    go_ret
    exact ⟨ret_int HV.out.symm, HX.out⟩

set_option maxRecDepth 100000 in
set_option maxHeartbeats 4000000 in
theorem sGap_in (ao ag : Option Addr) (cap cg : Nat) (ms : List Mk) (kd : Int) (gs : List (List Int)) (w : World) (hv : MView w ao ms) (hg : CView w ag gs) (hsm : MSmall ms) (hgs : CSmall gs) (hyes : gapB ms kd gs = true) :
    Calls Try.prog 29 #[.slice ao ms.length cap, .int .i64 kd, .slice ag gs.length cg] w fun e w' => e = .returned (.int .i64 (gapI ms kd gs)) ∧ Below w.heap.size w w' := by
  have HC := hidP (sMarks ao cap ms w hv hsm)
  have HK : ∀ w, Hid _ := fun w => hidP (sKind kd w)
  have h2g : thrB ms kd = true ∧ 2 ≤ gs.length := by simpa [gapB] using hyes
  obtain ⟨hm, hkd⟩ := (thrB_iff ms kd).1 h2g.1
  have hn := marksB_len hm
  rw [hm] at HC
  rw [hkd] at HK
  have HM := hidP hm
  have HKD := hidP hkd
  have HY := hidP hyes
  have HVM := hidP hv
  obtain ⟨bg, og, rfl, hbg, hsg⟩ := hg.seg (by omega)
  have HG : Hid (∀ j, j < gs.length → ∃ ai ci, ∀ W, Below w.heap.size w W → W.cell? ⟨bg, og + j, none⟩ = some (.slice ai (cn gs j).length ci) ∧ View W ai (cn gs j)) := fun j hj => by
    obtain ⟨ai, ci, g0, hvi⟩ := hsg j hj
    exact ⟨ai, ci, fun W LW => ⟨(LW.cell (p := ⟨bg, og + j, none⟩) hbg).trans g0, hvi.below (Nat.le_refl _) LW⟩⟩
  have HSM := hidP hsm
  have h5 : ¬ (gs.length : Int) < 2 := by omega
  have hgl := hgs.1
  have HGS := hidP hgs.2
  clear hv hg hsm hgs hyes hm hkd h2g hsg
  have hmk := run_make_row' (P := Try.prog) 98 3 (.int .i64 0) 8 Try.underlying98 Try.info3 rfl .i64 .i64 ms.length (by omega) (by omega)
  go_enter Try.func29, Try.ntmps29
  go_wp2_with fail
  refine HC.out.mono ?_
  rintro e w1 ⟨rfl, n1, hw1⟩
  have HX : Hid (Below w.heap.size w w1) := by rw [hw1]; exact below_drewN (Below.refl _ _) n1
  have hz1 : w.heap.size ≤ w1.heap.size := HX.out.size
  clear hw1 HC
  go_wp2_with fail
  refine (HK _).out.mono ?_
  rintro e w2 ⟨rfl, hw2⟩
  subst w2
  clear HK
  have HN0 := hidP (N3.start w1 ms.length)
  have HL0 : Hid (Below w.heap.size w (w1.alloc (.cells (madeCells #[.int .i64 0] ms.length) 3))) := HX.out.alloc hz1 _
  go_wp2_with fail
  clear hmk
  obtain ⟨gi, hgi⟩ : ∃ gi, gi = w1.heap.size := ⟨_, rfl⟩
  rw [← hgi]
  rw [← hgi] at HN0 hz1
  clear hgi
  go_loopw [8, 9] (fun n i wr => ∃ (j : Nat) (h : Nat → Nat), j ≤ gs.length ∧ i = .int .i64 j ∧ n = .int .i64 (lenS (gs.take j) : Nat) ∧ inGrp ms (gs.take j) 0 (fun _ => 0) = some h ∧ N3 wr gi (natL h ms.length) ∧ Below w.heap.size w wr) (fun _ i _ => gs.length - (intOf i).toNat)
  case atStart => exact ⟨0, fun _ => 0, Nat.zero_le _, rfl, rfl, rfl, HN0.out, HL0.out⟩
  case round =>
    obtain ⟨j, h, hj, rfl, rfl, hh, hrow, L⟩ := hrel
    clear HN0 HL0 HX
    have hlb := lenS_bd HGS.out hj
    have HH := hidP hh
    clear hh
    by_cases hlt : j < gs.length
    · obtain ⟨ai, ci, hgg⟩ := HG.out j hlt
      have HGG := hidP hgg
      have g0 := (hgg wr L).1
      have hil := HGS.out j
      have hjz : (0 : Int) ≤ (j : Int) := Int.natCast_nonneg _
      have hjl : (j : Int) < (gs.length : Int) := by omega
      have HROW := hidP hrow
      have HL := hidP L
      clear hrow L hgg
      by_cases he : cn gs j = []
      · have hle : (cn gs j).length = 0 := by rw [he]; rfl
        have HV := hidP (gap_empty (kd := kd) hlt HH.out he)
        rw [hle] at g0
        clear he hle hil
        go_wp2_with fail
        go_ret
        exact ⟨ret_int HV.out.symm, HL.out⟩
      · have hle : ¬ (cn gs j).length = 0 := fun e => he (List.length_eq_zero_iff.1 e)
        have hleb : (((cn gs j).length : Int) == 0) = false := by simp; exact he
        have HNX := hidP (fun h' => inGrp_next (h' := h') hlt HH.out he)
        have HLN := hidP (lenS_next hlt)
        have HID := hidP (fun m h' => gap_id (kd := kd) (m := m) (h' := h') hlt HH.out)
        have HI0 : Hid (inIds ms j ((cn gs j).take 0) h = some h) := rfl
        clear he
        go_wp2_with fail
        clear g0 hle hleb
        go_loopw [8, 10] (fun n i wr => ∃ (m : Nat) (h' : Nat → Nat), m ≤ (cn gs j).length ∧ i = .int .i64 m ∧ n = .int .i64 ((lenS (gs.take j) + m : Nat) : Int) ∧ inIds ms j ((cn gs j).take m) h = some h' ∧ N3 wr gi (natL h' ms.length) ∧ Below w.heap.size w wr) (fun _ i _ => (cn gs j).length - (intOf i).toNat)
        case atStart => exact ⟨0, h, Nat.zero_le _, rfl, rfl, HI0.out, HROW.out, HL.out⟩
        case round =>
          obtain ⟨m, h', hm, rfl, rfl, hi, hro, LR⟩ := hrel
          clear HI0 HROW HL
          obtain ⟨g1, hvi⟩ := HGG.out _ LR
          have HI := hidP hi
          have HRO := hidP hro
          have HLR := hidP LR
          clear hi
          generalize hN : lenS (gs.take j) = N at *
          by_cases hml : m < (cn gs j).length
          · obtain ⟨bi, oi, rfl, hbi, hsi⟩ : ∃ b off, ai = some ⟨b, off, none⟩ ∧ b < wr.heap.size ∧ Seg wr b off (cn gs j) := by
              rcases hvi with h | h
              · rw [h] at hml; simp at hml
              · exact h
            have i0 := hsi m hml
            have hmz : (0 : Int) ≤ (m : Int) := Int.natCast_nonneg _
            have hmll : (m : Int) < ((cn gs j).length : Int) := by omega
            have HF := hidP (sFind ao cap ms (nth (cn gs j) m) wr (HVM.out.next LR) (by omega))
            have HBAD := hidP (HID.out m h' hml HI.out)
            have HGO := hidP (inIds_next hml HI.out)
            generalize hid : nth (cn gs j) m = id at *
            clear hvi hsi LR hid
            by_cases hz : zFind ms id < 0
            · have HV := hidP (HBAD.out (Or.inl hz))
              have hzb : decide (zFind ms id < 0) = true := by simp [hz]
              clear HBAD HGO hro
              generalize zFind ms id = z at *
              go_wp2_with fail
              refine HF.out.mono ?_
              rintro e w2 ⟨rfl, hw2⟩
              subst w2
              go_wp2_with fail
              go_ret
              exact ⟨ret_int HV.out.symm, HLR.out⟩
            · have hzb : decide (zFind ms id < 0) = false := by simp [hz]
              obtain ⟨a1, a2, -⟩ := zIdx_lt (ms := ms) (id := id) (by omega)
              have c1 := hro.cell (zIdx ms id) (by rw [natL_len]; exact a1)
              rw [natL_at _ a1] at c1
              have y1 : zIdx ms id = (zFind ms id).toNat := rfl
              have hz0 : 0 ≤ zFind ms id := by omega
              have hz2 : zFind ms id < (ms.length : Int) := by omega
              have hfz := hro.frozen (zFind ms id).toNat
              have hgi' := hro.lt
              by_cases hx : h' (zIdx ms id) = 0
              · have HNEW := hidP (HGO.out hz hx)
                have HSET : Hid ((natL h' ms.length).set (zFind ms id).toNat ((j + 1 : Nat) : Int) = natL (fun i => if i = zIdx ms id then j + 1 else h' i) ms.length) := by
                  have e := natL_set h' (fun i => if i = zIdx ms id then j + 1 else h' i) (n := ms.length) (k := zIdx ms id) (fun i hi => by simp [hi])
                  simp only [if_true] at e
                  exact e
                rw [hx] at c1
                rw [y1] at c1
                generalize (fun i => if i = zIdx ms id then j + 1 else h' i) = hnew at *
                clear HBAD HGO hro y1 a1 a2 hx hz
                generalize zFind ms id = z at *
                go_wp2_with fail
                refine HF.out.mono ?_
                rintro e w2 ⟨rfl, hw2⟩
                subst w2
                go_wp2_with fail
                go_roundw
                case rel => exact ⟨m + 1, hnew, by omega, by go_num, by go_num, HNEW.out, by rw [← HSET.out]; exact HRO.out.set _ _, HLR.out.setCell (p := ⟨gi, z.toNat, none⟩) hz1 _⟩
                case measure => simp [intOf]; omega
              · have HV := hidP (HBAD.out (Or.inr hx))
                have hxb : (((h' (zIdx ms id) : Nat) : Int) != 0) = true := by simp [hx]
                rw [y1] at c1 hxb
                clear HBAD HGO hro y1 a1 a2 hx hz
                generalize zFind ms id = z at *
                go_wp2_with fail
                refine HF.out.mono ?_
                rintro e w2 ⟨rfl, hw2⟩
                subst w2
                go_wp2_with fail
                go_ret
                exact ⟨ret_int HV.out.symm, HLR.out⟩
          · obtain rfl : m = (cn gs j).length := by omega
            have hi2 := HI.out
            rw [List.take_length] at hi2
            have HN2 := hidP (HNX.out h' hi2)
            have HSL : Hid (lenS (gs.take (j + 1)) = N + (cn gs j).length) := HLN.out
            clear hvi hro LR hi2 HNX HLN HID
            go_wp2_with fail
            go_roundw
            case rel => exact ⟨j + 1, h', by omega, by go_num, by rw [HSL.out], HN2.out, HRO.out, HLR.out⟩
            case measure => simp [intOf]; omega
    · obtain rfl : j = gs.length := by omega
      rw [List.take_length] at HH hlb ⊢
      by_cases hl : lenS gs = ms.length
      · have hlb2 : (((lenS gs : Nat) : Int) != (ms.length : Int)) = false := by simp [hl]
        have HV := hidP (gap_good HY.out HH.out hl)
        have HD : Hid (∀ i k, i < ms.length → k < ms.length → zD ms kd i k = betV (mat ms i) (mat ms k) kd) := fun i k hi hk => zD_in HM.out kd HKD.out hi hk
        have HBD := hidP (gap_bd (h := h) (D := zD ms kd) (fun i j => ⟨zD_nn ms kd i j, zD_le ms kd i j⟩))
        have HRO := hidP hrow
        have HL := hidP L
        clear hrow L hl HH
        go_wp2_with fail
        obtain ⟨Wr, hWr⟩ : ∃ Wr, Wr = wr := ⟨_, rfl⟩
        subst hWr
        go_loopw [12, 13] (fun b i wr => ∃ i' : Nat, i' ≤ ms.length ∧ i = .int .i64 i' ∧ b = .int .i64 (gapAll h (zD ms kd) i') ∧ ∃ n, wr = Wr.drewN n) (fun _ i _ => ms.length - (intOf i).toNat)
        case atStart => exact ⟨0, Nat.zero_le _, rfl, rfl, 0, rfl⟩
        case round =>
          obtain ⟨i, hi, rfl, rfl, hw⟩ := hrel
          have HW := hidP hw
          clear hw
          by_cases hil : i < ms.length
          · have HSUC : Hid (gapAll h (zD ms kd) (i + 1) = gapRow h (zD ms kd) i i (gapAll h (zD ms kd) i)) := rfl
            have hbd := (HBD.out i 0).1
            have hbr := fun k => (HBD.out i k).2 _ hbd.1 hbd.2
            have HR0 : Hid (gapRow h (zD ms kd) i 0 (gapAll h (zD ms kd) i) = gapAll h (zD ms kd) i) := rfl
            have hiz : (0 : Int) ≤ (i : Int) := Int.natCast_nonneg _
            have hil2 : (i : Int) < (ms.length : Int) := by omega
            go_wp2_with fail
            go_loopw [12, 14] (fun b k wr => ∃ k' : Nat, k' ≤ i ∧ k = .int .i64 k' ∧ b = .int .i64 (gapRow h (zD ms kd) i k' (gapAll h (zD ms kd) i)) ∧ ∃ n, wr = Wr.drewN n) (fun _ k _ => i - (intOf k).toNat)
            case atStart => exact ⟨0, Nat.zero_le _, rfl, by rw [HR0.out], HW.out⟩
            case round =>
              obtain ⟨k, hk, rfl, rfl, hw⟩ := hrel
              clear HW HR0
              have HW := hidP hw
              clear hw
              by_cases hkl : k < i
              · have hN3 : N3 wr gi (natL h ms.length) := by obtain ⟨n, e⟩ := HW.out; rw [e]; exact HRO.out
                have LW : Below w.heap.size w wr := by obtain ⟨n, e⟩ := HW.out; rw [e]; exact below_drewN HL.out n
                have c1 := hN3.cell i (by rw [natL_len]; exact hil)
                have c2 := hN3.cell k (by rw [natL_len]; omega)
                rw [natL_at _ hil] at c1
                rw [natL_at _ (by omega)] at c2
                obtain ⟨b, off, rfl, hb, hs⟩ := MSeg.seg (HVM.out.next LW) (by omega)
                obtain ⟨-, ae, ce, p1, vae⟩ := hs.at hil
                obtain ⟨-, af, cf, q1, vaf⟩ := hs.at (i := k) (by omega)
                have hD := HD.out i k hil (by omega)
                have HBT : Hid (∀ n, Calls Try.prog 65 #[.slice ae (mat ms i).length ce, .slice af (mat ms k).length cf, .int .i64 kd] (wr.drewN n) fun e w' => e = .returned (.int .i64 (zD ms kd i k)) ∧ ∃ m, w' = (wr.drewN n).drewN m) := fun n => by
                  rw [hD]
                  exact sBet ae af ce cf _ _ kd (wr.drewN n) (View.drewN vae n) (View.drewN vaf n) (HSM.out.2 _) (HSM.out.2 _)
                have HST : Hid (gapRow h (zD ms kd) i (k + 1) (gapAll h (zD ms kd) i) = gStep h (zD ms kd) i k (gapRow h (zD ms kd) i k (gapAll h (zD ms kd) i))) := rfl
                have hbk := hbr k
                have hdn := zD_nn ms kd i k
                have hST : ∀ v, gStep h (zD ms kd) i k v = if h i ≠ h k ∧ (v < 0 ∨ zD ms kd i k < v) then zD ms kd i k else v := fun v => rfl
                rw [hST] at HST
                have hkz : (0 : Int) ≤ (k : Int) := Int.natCast_nonneg _
                have hkl2 : (k : Int) < (ms.length : Int) := by omega
                clear hN3 LW hs vae vaf hD hST hbr
                generalize zD ms kd i k = d at *
                generalize gapRow h (zD ms kd) i k (gapAll h (zD ms kd) i) = bb at *
                obtain ⟨X, hX⟩ : ∃ X, X = gapRow h (zD ms kd) i (k + 1) (gapAll h (zD ms kd) i) := ⟨_, rfl⟩
                rw [← hX] at HST
                have HXX := hidP hX
                clear hX
                by_cases hq : h i = h k
                · have hqb : (((h i : Nat) : Int) != ((h k : Nat) : Int)) = false := by simp [hq]
                  have HXV : Hid (X = bb) := by show _ = _; rw [HST.out, if_neg (fun c => c.1 hq)]
                  clear HST
                  go_wp2_with fail
                  go_quiet (first | (go_at_call 65; exact Calls.quiet_of (HBT.out _)))
                  go_wp2_with fail
                  go_quiet (fail)
                  go_wp2_with fail
                  go_roundw
                  case rel => exact ⟨k + 1, by omega, by go_num, by rw [← HXX.out, HXV.out], by obtain ⟨n, e⟩ := HW.out; rw [e]; simp only [World.drewN_drewN]; exact ⟨_, rfl⟩⟩
                  case measure => simp [intOf]; omega
                · have hqb : (((h i : Nat) : Int) != ((h k : Nat) : Int)) = true := by simp; omega
                  by_cases hn : bb < 0
                  · have hnb : decide (bb < 0) = true := by simp [hn]
                    have HXV : Hid (X = d) := by show _ = _; rw [HST.out, if_pos ⟨hq, Or.inl hn⟩]
                    clear HST
                    go_wp2_with fail
                    go_quiet (first | (go_at_call 65; exact Calls.quiet_of (HBT.out _)))
                    go_wp2_with fail
                    go_quiet (fail)
                    go_wp2_with fail
                    go_roundw
                    case rel => exact ⟨k + 1, by omega, by go_num, by rw [← HXX.out, HXV.out], by obtain ⟨n, e⟩ := HW.out; rw [e]; simp only [World.drewN_drewN]; exact ⟨_, rfl⟩⟩
                    case measure => simp [intOf]; omega
                  · have hnb : decide (bb < 0) = false := by simp [hn]
                    by_cases hl : d < bb
                    · have hlb3 : decide (d < bb) = true := by simp [hl]
                      have HXV : Hid (X = d) := by show _ = _; rw [HST.out, if_pos ⟨hq, Or.inr hl⟩]
                      clear HST
                      go_wp2_with fail
                      go_quiet (first | (go_at_call 65; exact Calls.quiet_of (HBT.out _)))
                      go_wp2_with fail
                      go_quiet (fail)
                      go_wp2_with fail
                      go_roundw
                      case rel => exact ⟨k + 1, by omega, by go_num, by rw [← HXX.out, HXV.out], by obtain ⟨n, e⟩ := HW.out; rw [e]; simp only [World.drewN_drewN]; exact ⟨_, rfl⟩⟩
                      case measure => simp [intOf]; omega
                    · have hlb3 : decide (d < bb) = false := by simp [hl]
                      have HXV : Hid (X = bb) := by show _ = _; rw [HST.out, if_neg (fun c => c.2.elim hn hl)]
                      clear HST
                      go_wp2_with fail
                      go_quiet (first | (go_at_call 65; exact Calls.quiet_of (HBT.out _)))
                      go_wp2_with fail
                      go_quiet (fail)
                      go_wp2_with fail
                      go_roundw
                      case rel => exact ⟨k + 1, by omega, by go_num, by rw [← HXX.out, HXV.out], by obtain ⟨n, e⟩ := HW.out; rw [e]; simp only [World.drewN_drewN]; exact ⟨_, rfl⟩⟩
                      case measure => simp [intOf]; omega
              · obtain rfl : k = i := by omega
                go_wp2_with fail
                go_roundw
                case rel => exact ⟨k + 1, by omega, by go_num, by rw [HSUC.out], HW.out⟩
                case measure => simp [intOf]; omega
          · obtain rfl : i = ms.length := by omega
            go_wp2_with fail
            go_ret
            exact ⟨ret_int HV.out.symm, by obtain ⟨n, e⟩ := HW.out; rw [e]; exact below_drewN HL.out n⟩
      · have hlb2 : (((lenS gs : Nat) : Int) != (ms.length : Int)) = true := by simp; omega
        have HV := hidP (gap_len (kd := kd) hl)
        have HL := hidP L
        clear hrow L hl HH
        go_wp2_with fail
        go_ret
        exact ⟨ret_int HV.out.symm, HL.out⟩
theorem sGap (ao ag : Option Addr) (cap cg : Nat) (ms : List Mk) (kd : Int) (gs : List (List Int)) (w : World) (hv : MView w ao ms) (hg : CView w ag gs) (hsm : MSmall ms) (hgs : CSmall gs) :
    Calls Try.prog 29 #[.slice ao ms.length cap, .int .i64 kd, .slice ag gs.length cg] w fun e w' => e = .returned (.int .i64 (gapI ms kd gs)) ∧ Below w.heap.size w w' := by
  rcases h : gapB ms kd gs with _ | _
  · exact sGap_no ao ag cap cg ms kd gs w hv hsm hgs.1 h
  · exact sGap_in ao ag cap cg ms kd gs w hv hg hsm hgs h

end Go.Proofs.Ytfbindjacmaeoaa
