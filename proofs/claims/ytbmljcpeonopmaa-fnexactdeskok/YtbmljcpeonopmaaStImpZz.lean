/-
  The program's StateOk.
-/
import Derived.Test.YtbmljcpeonopmaaStMemZz
import Derived.Test.YtbmljcpeonopmaaTwImpZz
namespace Go.Proofs.Ytbmljcpeonopmaa
open Go Go.RowKit

set_option maxRecDepth 100000 in
set_option maxHeartbeats 1000000 in
theorem iAsWide (n1 n2 : Nat) (am aw ao : Option Addr) (cm cw cap n : Nat) (wd d nx : Int) (w : World) :
    Calls Try.prog 98 #[.agg #[.int .i64 wd, .slice am n1 cm, .int .i64 d, .slice aw n2 cw, .int .i64 nx], .slice ao n cap] w fun e w' => e = .returned (.bool (decide ((n : Int) = wd))) ∧ Below w.heap.size w w' := by
  obtain ⟨W, hW⟩ : ∃ W, w.alloc (.cells #[.int .i64 wd, .slice am n1 cm, .int .i64 d, .slice aw n2 cw, .int .i64 nx] 34) = W := ⟨_, rfl⟩
  have hB : Below w.heap.size w W := by rw [← hW]; exact (Below.refl _ _).alloc (Nat.le_refl _) _
  have k0 : W.cell? ⟨w.heap.size, 0, none⟩ = some (.int .i64 wd) := by rw [← hW]; simp
  have HB := hidP hB
  clear hB
  have hbe : ((n : Int) == wd) = decide ((n : Int) = wd) := by rw [Bool.eq_iff_iff]; simp
  go_enter Try.func98, Try.ntmps98
  go_wp2_with fail
  go_ret
  exact ⟨ret_bool (by simp), HB.out⟩

set_option maxRecDepth 100000 in
set_option maxHeartbeats 2000000 in
theorem iBars (n1 n2 : Nat) (am aw ao : Option Addr) (cm cw cap : Nat) (wd d nx : Int) (m : Mk) (w : World) :
    Calls Try.prog 73 #[.agg #[.int .i64 wd, .slice am n1 cm, .int .i64 d, .slice aw n2 cw, .int .i64 nx], .agg #[.int .i64 m.1, .slice ao m.2.length cap]] w fun e w' => e = .returned (.bool (!grB wd nx m)) ∧ Below w.heap.size w w' := by
  obtain ⟨W1, hW1⟩ : ∃ W, w.alloc (.cells #[.int .i64 wd, .slice am n1 cm, .int .i64 d, .slice aw n2 cw, .int .i64 nx] 34) = W := ⟨_, rfl⟩
  have hB1 : Below w.heap.size w W1 := by rw [← hW1]; exact (Below.refl _ _).alloc (Nat.le_refl _) _
  have s1 : W1.heap.size = w.heap.size + 1 := by rw [← hW1]; simp
  obtain ⟨W, hW⟩ : ∃ W, W1.alloc (.cells #[.int .i64 m.1, .slice ao m.2.length cap] 76) = W := ⟨_, rfl⟩
  have hB2 : Below W1.heap.size W1 W := by rw [← hW]; exact (Below.refl _ _).alloc (Nat.le_refl _) _
  have hl1 : w.heap.size < W1.heap.size := by omega
  have hsz : W.heap.size = w.heap.size + 1 + 1 := by rw [← hW]; simp [s1]
  have a0 : W.cell? ⟨w.heap.size, 0, none⟩ = some (.int .i64 wd) := (hB2.cell (p := ⟨w.heap.size, 0, none⟩) hl1).trans (by rw [← hW1]; simp)
  have a1 : W.cell? ⟨w.heap.size, 1, none⟩ = some (.slice am n1 cm) := (hB2.cell (p := ⟨w.heap.size, 1, none⟩) hl1).trans (by rw [← hW1]; simp)
  have a2 : W.cell? ⟨w.heap.size, 2, none⟩ = some (.int .i64 d) := (hB2.cell (p := ⟨w.heap.size, 2, none⟩) hl1).trans (by rw [← hW1]; simp)
  have a3 : W.cell? ⟨w.heap.size, 3, none⟩ = some (.slice aw n2 cw) := (hB2.cell (p := ⟨w.heap.size, 3, none⟩) hl1).trans (by rw [← hW1]; simp)
  have a4 : W.cell? ⟨w.heap.size, 4, none⟩ = some (.int .i64 nx) := (hB2.cell (p := ⟨w.heap.size, 4, none⟩) hl1).trans (by rw [← hW1]; simp)
  have b0 : W.cell? ⟨w.heap.size + 1, 0, none⟩ = some (.int .i64 m.1) := by rw [← hW, ← s1]; simp
  have b1 : W.cell? ⟨w.heap.size + 1, 1, none⟩ = some (.slice ao m.2.length cap) := by rw [← hW, ← s1]; simp
  have HWW : Hid ((w.alloc (.cells #[.int .i64 wd, .slice am n1 cm, .int .i64 d, .slice aw n2 cw, .int .i64 nx] 34)).alloc (.cells #[.int .i64 m.1, .slice ao m.2.length cap] 76) = W) := by show _ = _; rw [hW1, hW]
  have HB := hidP (chain hB1 hB2)
  have HK := hidP (fun (W' : World) (L : Below W.heap.size W W') => And.intro ((L.cell (p := ⟨w.heap.size, 4, none⟩) (by show w.heap.size < _; omega)).trans a4) ((L.cell (p := ⟨w.heap.size + 1, 0, none⟩) (by show w.heap.size + 1 < _; omega)).trans b0))
  have HC := hidP (iAsWide n1 n2 am aw ao cm cw cap m.2.length wd d nx W)
  have HG : Hid (grB wd nx m = (decide ((m.2.length : Int) = wd) && decide (m.1 < nx))) := rfl
  rw [HG.out]
  clear hB1 hB2 hW1 hW s1 hsz hl1 HG
  generalize decide ((m.2.length : Int) = wd) = r at *
  have hge : decide (m.1 ≥ nx) = !decide (m.1 < nx) := by rw [Bool.eq_iff_iff]; simp
  go_enter Try.func73, Try.ntmps73
  go_wp2_with fail
  rw [HWW.out]
  refine HC.out.mono ?_
  rintro e w2 ⟨rfl, L2⟩
  obtain ⟨x4, y0⟩ := HK.out _ L2
  have HL := hidP (chain HB.out L2)
  clear L2 HK a0 a1 a2 a3 a4 b0 b1 HWW
  cases r with
  | false =>
    go_wp2_with fail
    go_ret
    exact ⟨rfl, HL.out⟩
  | true =>
    go_wp2_with fail
    go_ret
    exact ⟨ret_bool (by simp), HL.out⟩

set_option maxRecDepth 100000 in
set_option maxHeartbeats 1000000 in
theorem pAnyBar (n1 n2 : Nat) (am aw ao : Option Addr) (cm cw cap : Nat) (wd d nx : Int) (hi : List Mk) (w : World) (hv : MView w ao hi) (hsh : MSmall hi) :
    Calls Try.prog 97 #[.slice ao hi.length cap, .func (.func 73) #[.agg #[.int .i64 wd, .slice am n1 cm, .int .i64 d, .slice aw n2 cw, .int .i64 nx]] #[]] w fun e w' => (∃ r : Int, e = .returned (.int .i64 r) ∧ decide (0 ≤ r) = !grsB wd nx hi) ∧ Below w.heap.size w w' := by
  have HF : Hid (∀ W k a c, Below w.heap.size w W → View W a (mat hi k) → Calls Try.prog 73 #[.agg #[.int .i64 wd, .slice am n1 cm, .int .i64 d, .slice aw n2 cw, .int .i64 nx], .agg #[.int .i64 (mid hi k), .slice a (mat hi k).length c]] W fun e w' => e = .returned (.bool (!grB wd nx (mnth hi k))) ∧ Below W.heap.size W w') := fun W k a c _ _ =>
    iBars n1 n2 am aw a cm cw c wd d nx (mnth hi k) W
  have HV := hidP hv
  have hn := hsh.1
  clear hv hsh
  go_enter Try.func97, Try.ntmps97
  go_wp2_with fail
  go_loopw [8] (fun i wr => ∃ k : Nat, k ≤ hi.length ∧ i = .int .i64 k ∧ (∀ j, j < k → grB wd nx (mnth hi j) = true) ∧ Below w.heap.size w wr) (fun i _ => hi.length - (intOf i).toNat)
  case atStart => exact ⟨0, Nat.zero_le _, rfl, fun j hj => by omega, Below.refl _ _⟩
  case round =>
    obtain ⟨k, hk, rfl, hall, L⟩ := hrel
    have HA := hidP hall
    have HL := hidP L
    have hvr := HV.out.next L
    clear hall L
    by_cases hlt : k < hi.length
    · obtain ⟨b, off, rfl, hb, hs⟩ := MSeg.seg hvr (by omega)
      obtain ⟨c0, pa, pc, c1, hpv⟩ := hs.at (i := k) hlt
      have HN := hidP (HF.out wr k pa pc HL.out hpv)
      clear hs hvr hpv
      rcases he : grB wd nx (mnth hi k) with _ | _
      · have HX := hidP (grsB_no hlt he)
        rw [he] at HN
        clear he
        generalize mid hi k = x at *
        generalize (mat hi k).length = xl at *
        go_wp2_with fail
        refine HN.out.mono ?_
        rintro e w2 ⟨rfl, L2⟩
        have HL2 := hidP (chain HL.out L2)
        clear L2
        go_wp2_with fail
        go_ret
        exact ⟨⟨(k : Int), rfl, by rw [HX.out]; simp⟩, HL2.out⟩
      · rw [he] at HN
        have HE := hidP he
        clear he
        generalize mid hi k = x at *
        generalize (mat hi k).length = xl at *
        go_wp2_with fail
        refine HN.out.mono ?_
        rintro e w2 ⟨rfl, L2⟩
        have HL2 := hidP (chain HL.out L2)
        clear L2
        go_wp2_with fail
        go_roundw
        case rel => exact ⟨k + 1, by omega, by go_num, fun j hj => by
          rcases Nat.lt_or_ge j k with h | h
          · exact HA.out j h
          · rw [show j = k by omega]; exact HE.out, HL2.out⟩
        case measure => simp [intOf]; omega
    · go_wp2_with fail
      go_ret
      obtain rfl : k = hi.length := by omega
      exact ⟨⟨-1, rfl, by rw [grsB_yes HA.out]; rfl⟩, HL.out⟩

set_option maxHeartbeats 400000 in
theorem pAnyBar2 (n1 n2 : Nat) (am aw ao : Option Addr) (cm cw cap : Nat) (wd d nx : Int) (hi : List Mk) (w : World) (hv : MView w ao hi) (hsh : MSmall hi) :
    Calls Try.prog 72 #[.slice ao hi.length cap, .func (.func 73) #[.agg #[.int .i64 wd, .slice am n1 cm, .int .i64 d, .slice aw n2 cw, .int .i64 nx]] #[]] w fun e w' => e = .returned (.bool (!grsB wd nx hi)) ∧ Below w.heap.size w w' := by
  have HI := hidP (pAnyBar n1 n2 am aw ao cm cw cap wd d nx hi w hv hsh)
  clear hv
  go_enter Try.func72, Try.ntmps72
  go_wp2_with fail
  refine HI.out.mono ?_
  rintro e w2 ⟨⟨r, rfl, hr⟩, L2⟩
  have HL2 := hidP L2
  clear L2
  go_wp2_with fail
  go_ret
  exact ⟨ret_bool (by rw [← hr]), HL2.out⟩

theorem inR_no {x lo hi : Int} (h : x < lo ∨ hi < x) : inR x lo hi = false := by
  rw [inR, Bool.and_eq_false_iff]
  rcases h with h | h
  · left; exact decide_eq_false (by omega)
  · right; exact decide_eq_false (by omega)
theorem inR_yes {x lo hi : Int} (h1 : ¬ x < lo) (h2 : ¬ hi < x) : inR x lo hi = true := by
  rw [inR, Bool.and_eq_true]
  exact ⟨decide_eq_true (by omega), decide_eq_true (by omega)⟩
theorem stB_wd {wd : Int} {ms : List Mk} {d : Int} {ts : List Wb} {nx : Int} (h : inR wd 1 4 = false) : stB wd ms d ts nx = false := by rw [stB, h]; rfl
theorem stB_nx {wd : Int} {ms : List Mk} {d : Int} {ts : List Wb} {nx : Int} (h : inR nx 1 1000000 = false) : stB wd ms d ts nx = false := by
  rw [stB, h]
  rcases inR wd 1 4 with _ | _ <;> rcases marksB ms with _ | _ <;> rcases towB d ts with _ | _ <;> rfl

set_option maxRecDepth 100000 in
set_option maxHeartbeats 4000000 in
theorem iStateOk_in (am aw : Option Addr) (cm cw : Nat) (wd : Int) (ms : List Mk) (d : Int) (ts : List Wb) (nx : Int) (w : World) (hm : MView w am ms) (hw : WbView true w aw ts) (hsm : StSmall ms ts) (h1 : ¬ wd < 1) (h2 : ¬ 4 < wd) (h3 : ¬ nx < 1) (h4 : ¬ 1000000 < nx) :
    Calls Try.prog 35 #[.agg #[.int .i64 wd, .slice am ms.length cm, .int .i64 d, .slice aw ts.length cw, .int .i64 nx]] w fun e w' => e = .returned (.bool (stB wd ms d ts nx)) ∧ Below w.heap.size w w' := by
  obtain ⟨W, hW⟩ : ∃ W, w.alloc (.cells #[.int .i64 wd, .slice am ms.length cm, .int .i64 d, .slice aw ts.length cw, .int .i64 nx] 34) = W := ⟨_, rfl⟩
  have hB : Below w.heap.size w W := by rw [← hW]; exact (Below.refl _ _).alloc (Nat.le_refl _) _
  have hI : StIn true W w.heap.size am aw cm cw wd ms d ts nx := by rw [← hW]; exact StIn.box hm hw
  have HB := hidP hB
  have HI := hidP hI
  have k0 := hI.c0
  have k1 := hI.c1
  have k4 := hI.c4
  have g2 : ¬ wd > 4 := h2
  have g4 : ¬ nx > 1000000 := h4
  have HMK := hidP (iMarks am cm ms W hI.mv hsm.1)
  have HTW := hidP (fun (W' : World) (L : Below W.heap.size W W') => iTowerOk aw cw d ts W' (hI.below L).wv hsm.2.1)
  have HSM := hidP hsm
  have HTT : Hid (towB d ts = true → ts.length = 4 ∧ webB (wnth ts 0).1 (wnth ts 0).2 = true) := fun h => by
    rw [towB, Bool.and_eq_true, Bool.and_eq_true, decide_eq_true_eq, List.all_eq_true] at h
    exact ⟨h.2.1, towAt_web' (h.2.2 0 (by simp))⟩
  obtain ⟨b2, hb2⟩ : ∃ b, marksB ms = b := ⟨_, rfl⟩
  obtain ⟨b3, hb3⟩ : ∃ b, towB d ts = b := ⟨_, rfl⟩
  have HV : Hid (stB wd ms d ts nx = (b2 && (b3 && (grsB wd nx (wnth ts 0).1 && bearB (wnth ts 0).1 ms)))) := by show _ = _; rw [stB, inR_yes h1 h2, inR_yes h3 h4, ← hb2, ← hb3]; rfl
  rw [hb2] at HMK
  rw [hb3] at HTW HTT
  clear hm hw hsm hB hI hb2 hb3
  go_enter Try.func35, Try.ntmps35
  go_wp2_with fail
  refine HMK.out.mono ?_
  rintro e w1 ⟨rfl, L1⟩
  have HL1 := hidP L1
  clear L1 hW k0 k1 k4
  cases b2 with
  | false =>
    go_wp2_with fail
    go_ret
    exact ⟨ret_bool (by rw [HV.out]; rfl), chain HB.out HL1.out⟩
  | true =>
  have c2 := (HI.out.below HL1.out).c2
  have c3 := (HI.out.below HL1.out).c3
  go_wp2_with fail
  refine (HTW.out _ HL1.out).mono ?_
  rintro e w2 ⟨rfl, L2⟩
  have HL2 := hidP (chain HL1.out L2)
  clear L2 HL1 c2 c3
  cases b3 with
  | false =>
    go_wp2_with fail
    go_ret
    exact ⟨ret_bool (by rw [HV.out]; rfl), chain HB.out HL2.out⟩
  | true =>
  have hI2 := HI.out.below HL2.out
  have HLEN := hidP (HTT.out (by trivial)).1
  have HWB := hidP (web_marks (HTT.out (by trivial)).2)
  obtain ⟨b, off, gm, gc, al, cl, rfl, hb, q0, q1, hgm, hgl, -⟩ := hI2.wv.web (n := 0) (by rw [HLEN.out]; omega)
  rw [Nat.zero_mul, Nat.add_zero] at q0 q1
  have c0 := hI2.c0
  have c1 := hI2.c1
  have c2 := hI2.c2
  have c3 := hI2.c3
  have c4 := hI2.c4
  rw [HLEN.out] at c3
  obtain ⟨X, hX⟩ : ∃ X, w2.heap.size = X := ⟨_, rfl⟩
  obtain ⟨V, hV⟩ : ∃ V, w2.alloc (.cells #[.slice gm (wnth ts 0).1.length gc, .slice al (wnth ts 0).2.length cl] 105) = V := ⟨_, rfl⟩
  have LV : Below w2.heap.size w2 V := by rw [← hV]; exact (Below.refl _ _).alloc (Nat.le_refl _) _
  have y0 : V.cell? ⟨X, 0, none⟩ = some (.slice gm (wnth ts 0).1.length gc) := by rw [← hV, ← hX]; simp
  have y1 : V.cell? ⟨X, 1, none⟩ = some (.slice al (wnth ts 0).2.length cl) := by rw [← hV, ← hX]; simp
  have hIV := hI2.below LV
  replace c0 := hIV.c0
  replace c1 := hIV.c1
  replace c2 := hIV.c2
  replace c3' := hIV.c3
  replace c4 := hIV.c4
  rw [HLEN.out] at c3'
  have hXV : X < V.heap.size := by rw [← hV, ← hX]; simp
  have HC := hidP (pAnyBar2 ms.length 4 am (some ⟨b, off, none⟩) gm cm cw gc wd d nx (wnth ts 0).1 V (hgm.next LV) (HSM.out.2.1.2 0).1)
  have HC2 := hidP (fun (W' : World) (L : Below V.heap.size V W') => iBears gm al am none gc cl cm 0 0 (wnth ts 0).1 (wnth ts 0).2 ms W' (hgm.next (chain LV L)) (hgl.next (chain LV L)) HWB.out (HSM.out.2.1.2 0).1 ((hIV.below L).mv) HSM.out.1)
  have HLV := hidP (chain HB.out (chain HL2.out LV))
  have HIV := hidP hIV
  have HK := hidP (fun (W' : World) (L : Below V.heap.size V W') => And.intro ((L.cell (p := ⟨X, 0, none⟩) hXV).trans y0) ((L.cell (p := ⟨X, 1, none⟩) hXV).trans y1))
  obtain ⟨r, hr⟩ : ∃ r, grsB wd nx (wnth ts 0).1 = r := ⟨_, rfl⟩
  obtain ⟨r2, hr2⟩ : ∃ r, bearB (wnth ts 0).1 ms = r := ⟨_, rfl⟩
  rw [hr] at HC HV
  rw [hr2] at HC2 HV
  clear hI2 hIV hgm hgl LV HTW HI HWB hr hr2
  generalize (wnth ts 0).1.length = l1 at *
  generalize (wnth ts 0).2.length = l2 at *
  rw [HLEN.out] at *
  go_wp2_with fail
  refine HC.out.mono ?_
  rintro e w4 ⟨rfl, L4⟩
  obtain ⟨u0, u1⟩ := HK.out _ L4
  have d1 := (HIV.out.below L4).c1
  have HL4 := hidP L4
  have HD := hidP (HC2.out _ L4)
  clear L4 hV y0 y1 c0 c1 c2 c3 c3' c4 q0 q1 HK HIV HC2 HC
  cases r with
  | false =>
    go_wp2_with fail
    go_ret
    exact ⟨ret_bool (by rw [HV.out]; rfl), chain HLV.out HL4.out⟩
  | true =>
  go_wp2_with fail
  refine HD.out.mono ?_
  rintro e w5 ⟨rfl, L5⟩
  have HL5 := hidP (chain HL4.out L5)
  clear L5 u0 u1 d1
  go_wp2_with fail
  go_ret
  exact ⟨ret_bool (by rw [HV.out]; rfl), chain HLV.out HL5.out⟩

set_option maxRecDepth 100000 in
set_option maxHeartbeats 4000000 in
theorem iStateOk (am aw : Option Addr) (cm cw : Nat) (wd : Int) (ms : List Mk) (d : Int) (ts : List Wb) (nx : Int) (w : World) (hm : MView w am ms) (hw : WbView true w aw ts) (hsm : StSmall ms ts) :
    Calls Try.prog 35 #[.agg #[.int .i64 wd, .slice am ms.length cm, .int .i64 d, .slice aw ts.length cw, .int .i64 nx]] w fun e w' => e = .returned (.bool (stB wd ms d ts nx)) ∧ Below w.heap.size w w' := by
  by_cases hbad : wd < 1 ∨ 4 < wd ∨ nx < 1 ∨ 1000000 < nx
  · obtain ⟨W, hW⟩ : ∃ W, w.alloc (.cells #[.int .i64 wd, .slice am ms.length cm, .int .i64 d, .slice aw ts.length cw, .int .i64 nx] 34) = W := ⟨_, rfl⟩
    have hB : Below w.heap.size w W := by rw [← hW]; exact (Below.refl _ _).alloc (Nat.le_refl _) _
    have hI : StIn true W w.heap.size am aw cm cw wd ms d ts nx := by rw [← hW]; exact StIn.box hm hw
    have HB := hidP hB
    have k0 := hI.c0
    have k4 := hI.c4
    have HV : Hid (stB wd ms d ts nx = false) := by
      show _ = _
      rcases hbad with h | h | h | h
      · exact stB_wd (inR_no (Or.inl h))
      · exact stB_wd (inR_no (Or.inr h))
      · exact stB_nx (inR_no (Or.inl h))
      · exact stB_nx (inR_no (Or.inr h))
    rw [HV.out]
    clear hm hw hsm hB hI HV
    by_cases h1 : wd < 1
    · clear hbad
      go_enter Try.func35, Try.ntmps35
      go_wp2_with fail
      go_ret
      exact ⟨rfl, HB.out⟩
    by_cases h2 : wd > 4
    · clear hbad
      go_enter Try.func35, Try.ntmps35
      go_wp2_with fail
      go_ret
      exact ⟨rfl, HB.out⟩
    by_cases h3 : nx < 1
    · clear hbad
      go_enter Try.func35, Try.ntmps35
      go_wp2_with fail
      go_ret
      exact ⟨rfl, HB.out⟩
    have h4 : nx > 1000000 := by omega
    clear hbad
    go_enter Try.func35, Try.ntmps35
    go_wp2_with fail
    go_ret
    exact ⟨rfl, HB.out⟩
  · exact iStateOk_in am aw cm cw wd ms d ts nx w hm hw hsm (by omega) (by omega) (by omega) (by omega)
end Go.Proofs.Ytbmljcpeonopmaa
