/-
  FnWalks over the program's Walk: each step goes over a link and comes nearer, and at the end no neighbour is nearer.
-/
import Derived.Test.YtlggpfgamjoeaaaFeDrZz
import Derived.Test.YtlggpfgamjoeaaaFeWkZz
import Derived.Test.YtlggpfgamjoeaaaMathZz
import Derived.Test.YtlggpfgamjoeaaaMovedSZz
import Derived.Test.YtlggpfgamjoeaaaBytesZz
import Derived.Deep.CutRange
import Derived.Deep.CutBlock
namespace Go.Proofs.Ytlggpfgamjoeaaa
open Go Go.RowKit

set_option maxHeartbeats 400000 in
theorem lHas14 (ao : Option Addr) (cap : Nat) (xs : List Int) (x : Int) (w : World) (hv : View w ao xs) (hn : xs.length ≤ 4194304) :
    Calls Try.prog 15 #[.slice ao xs.length cap, .int .i64 x] w fun e w' => e = .returned (.bool (hasB xs x)) ∧ w' = w := by
  go_enter Try.func15, Try.ntmps15
  go_wp2
  go_loop [5] (fun i => ∃ k : Nat, k ≤ xs.length ∧ i = .int .i64 k ∧ ∀ j, j < k → nth xs j ≠ x) (fun i => xs.length - (intOf i).toNat)
  case atStart => exact ⟨0, Nat.zero_le _, rfl, fun j hj => by omega⟩
  case round =>
    obtain ⟨k, hk, rfl, hall⟩ := hrel
    have HA := hidP hall
    clear hall
    by_cases hlt : k < xs.length
    · obtain ⟨b, off, rfl, hb, hs⟩ : ∃ b off, ao = some ⟨b, off, none⟩ ∧ b < w.heap.size ∧ Seg w b off xs := by
        rcases hv with h | h
        · subst h; simp at hlt
        · exact h
      have hc := hs k hlt
      by_cases he : nth xs k = x
      · have HV := hidP (contains_nth hlt he)
        have heb : (nth xs k == x) = true := by simp [he]
        clear he
        go_wp2
        go_ret
        exact ⟨ret_bool HV.out.symm, rfl⟩
      · have heb : (nth xs k == x) = false := by simp [he]
        have HE := hidP he
        clear he
        go_wp2
        go_round
        case rel => exact ⟨k + 1, by omega, by go_num, fun j hj => by
          rcases Nat.lt_or_ge j k with h | h
          · exact HA.out j h
          · rw [show j = k by omega]; exact HE.out⟩
        case measure => simp [intOf]; omega
    · go_wp2
      go_ret
      obtain rfl : k = xs.length := by omega
      exact ⟨ret_bool (Eq.symm (contains_none HA.out)), rfl⟩
theorem likeI14 (ao ao' : Option Addr) (cap cap' : Nat) (xs : List Int) (w : World) (hv : View w ao xs) (hv' : View w ao' xs) (hn : xs.length ≤ 1048576) :
    Calls Try.prog 12 #[.slice ao xs.length cap, .slice ao' xs.length cap'] w fun e w' => e = .returned (.bool true) ∧ Below w.heap.size w w' := by
  refine (likeS ao ao' cap cap' xs xs w hv hv' hn).mono ?_
  rintro e w' ⟨rfl, n, rfl⟩
  exact ⟨by simp, below_drewN (Below.refl _ _) n⟩
/-- What the loop reads stays where nothing below is written. -/
structure WsIn (w : World) (A : Nat) (am : Option Addr) (cm : Nat) (ms : List Mk) (al : Option Addr) (cl : Nat) (ls : List (List Int)) (aq : Option Addr) (q : List Int) (a : Option Addr) (l : List Int) : Prop where
  web : WebIn w A am cm ms al cl ls
  qv : View w aq q
  lv : View w a l
theorem WsIn.next {w w' : World} {A cm cl : Nat} {am al aq a : Option Addr} {ms : List Mk} {ls : List (List Int)} {q l : List Int} (h : WsIn w A am cm ms al cl ls aq q a l) (L : Below w.heap.size w w') : WsIn w' A am cm ms al cl ls aq q a l := ⟨h.web.below L, h.qv.next L, h.lv.next L⟩

set_option maxRecDepth 100000 in
set_option maxHeartbeats 40000000 in
theorem walkWalks (HI0 : IWalk) (ao0 : Option Addr) (len0 cap0 : Nat) (w : World) (hv0 : CodeV w ao0 len0) :
    Calls Try.prog 3 #[.slice ao0 len0 cap0] w fun e w' => e = .returned (.bool true) ∧ Below w.heap.size w w' := by
  have HI := hidP HI0
  clear HI0
  by_cases hbig : 4096 < len0
  · have hbb : decide (4096 < (len0 : Int)) = true := by simp; omega
    go_enter Try.func3, Try.ntmps3
    go_wp2_with fail
    refine (bigC ao0 len0 cap0 _).mono ?_
    rintro e w1 ⟨rfl, hw1⟩
    subst hw1
    go_wp2_with fail
    go_ret
    exact ⟨rfl, Below.refl _ _⟩
  have hbb : decide (4096 < (len0 : Int)) = false := by simp; omega
  have hn : len0 ≤ 4096 := by omega
  have HV0 := hidP hv0
  clear hbig hv0
  go_enter Try.func3, Try.ntmps3
  go_wp2_with fail
  refine (bigC ao0 len0 cap0 _).mono ?_
  rintro e w0 ⟨rfl, hw0⟩
  subst hw0
  rw [hbb]
  clear hbb
  go_wp2_with fail
  refine (cDrawWalk ao0 len0 cap0 _ HV0.out hn).mono ?_
  rintro e w1 ⟨am, cm, al, cl, ms, ls, fr, aq, cq, q, rfl, hd, L1⟩
  obtain ⟨A, hA⟩ : ∃ A, A = w1.heap.size := ⟨_, rfl⟩
  obtain ⟨W2, hW2⟩ : ∃ W, w1.alloc (.cells #[.slice am ms.length cm, .slice al ls.length cl] 27) = W := ⟨_, rfl⟩
  have L2 : Below w1.heap.size w1 W2 := by rw [← hW2]; exact (Below.refl _ _).alloc (Nat.le_refl _) _
  have hI2 : WebIn W2 A am cm ms al cl ls := by rw [← hW2, hA]; exact WebIn.box hd.mv hd.cv
  have HW2 := hidP hW2
  have HB2 := hidP (chain L1 L2)
  have HD := hidP hd
  have HQ2 := hidP (hd.qv.next L2)
  have HI2 := hidP hI2
  clear hW2 L1 L2 hd HV0
  have HWK := hidP (HI.out am cm ms al cl ls fr aq cq q W2 hI2.mv hI2.cv HQ2.out HD.out.msm HD.out.csm (by have := HD.out.q6; omega) HD.out.mc HD.out.lc HD.out.qc)
  have k0 := hI2.c0
  have k1 := hI2.c1
  clear hI2
  go_wp2_with fail
  rw [HW2.out, ← hA]
  clear HW2 hA
  refine HWK.out.mono ?_
  rintro e w3 ⟨a, c, rfl, hout, L3⟩
  have hI3 := HI2.out.below L3
  have HQ3 := hidP (HQ2.out.next L3)
  have hlv3 : View w3 a (walkL ms ls fr q) := hout.slice
  have HLV3 := hidP hlv3
  have HB3 := hidP (chain HB2.out L3)
  have HSW := hidP (sWalk am al aq cm cl cq ms ls q fr w3 hI3.mv hI3.cv HQ3.out HD.out.msm HD.out.csm (by have := HD.out.q6; omega))
  have HI3 := hidP hI3
  clear hout L3 hlv3 HWK k0 k1
  have k0 := hI3.c0
  have k1 := hI3.c1
  clear hI3
  have hl61 := Walk_len14 ms ls fr q
  go_wp2_with fail
  refine HSW.out.mono ?_
  rintro e w4 ⟨g4, c4, rfl, hrow4, L4⟩
  have HLK := hidP (likeI14 a (some ⟨g4, 0, none⟩) c c4 (walkL ms ls fr q) w4 (HLV3.out.next L4) hrow4.view (by omega))
  have HX4 : Hid (WsIn w4 A am cm ms al cl ls aq q a (walkL ms ls fr q)) := ⟨HI3.out.below L4, HQ3.out.next L4, HLV3.out.next L4⟩
  have HB4 := hidP (chain HB3.out L4)
  clear hrow4 L4 HSW HLV3 HQ3 HI3 HB3 k0 k1
  go_wp2_with fail
  refine HLK.out.mono ?_
  rintro e w5 ⟨rfl, L5⟩
  have HX5 := hidP (HX4.out.next L5)
  have HB5 := hidP (chain HB4.out L5)
  clear L5 HX4 HB4 HLK
  rcases ht : toldW ms ls fr q with _ | _
  · have hl0 : walkL ms ls fr q = [] := by simp [walkL, ht]
    rw [hl0]
    clear ht
    go_wp2_with fail
    go_ret
    exact ⟨rfl, HB5.out⟩
  obtain ⟨p0, p1, p2⟩ := walkL_at ht
  have hweb := ((toldW_iff _ _ _ _).1 ht).1
  generalize hll : walkL ms ls fr q = l at *
  clear hll
  obtain ⟨lb, lo, rfl, hlbl, hlseg⟩ : ∃ b off, a = some ⟨b, off, none⟩ ∧ b < w5.heap.size ∧ Seg w5 b off l := by
    rcases HX5.out.lv with h | h
    · rw [h] at p1; simp at p1
    · exact h
  have c00 := hlseg 0 p1
  rw [p0, Nat.add_zero] at c00
  have hne0 : ((l.length : Int) == 0) = false := by rw [beq_eq_false_iff_ne]; omega
  have hp1i : (0 : Int) < (l.length : Int) := by omega
  have HP2 := hidP p2
  have HWB := hidP hweb
  have HSG := hidP hlseg
  clear ht p0 p2 hweb hlseg
  obtain ⟨W6, hW6⟩ : ∃ W, w5.alloc (.cells #[.int .i64 0, .int .i64 0] 34) = W := ⟨_, rfl⟩
  have L6 : Below w5.heap.size w5 W6 := by rw [← hW6]; exact (Below.refl _ _).alloc (Nat.le_refl _) _
  have HT6 : Hid (Two W6 w5.heap.size (.int .i64 0) (.int .i64 0) 34) := by show Two _ _ _ _ _; rw [← hW6]; exact Two.new w5 _ _ _
  have HL6 := hidP L6
  have HW6 := hidP hW6
  clear L6 hW6
  go_wp2_with fail
  rw [HW6.out]
  clear HW6 c00 hne0
  obtain ⟨Lb, hLb⟩ : ∃ Lb, Lb = w5.heap.size := ⟨_, rfl⟩
  rw [← hLb] at HT6 ⊢
  have HLB := hidP hLb
  clear hLb
  go_loopg [8] l.length (fun gk iv wr => ∃ (i : Nat) (last : Ht), i ≤ l.length ∧ l.length - i ≤ gk ∧ iv = .int .i64 i ∧ Below w5.heap.size w5 wr ∧ Two wr Lb (.int .i64 last.1) (.int .i64 last.2) 34 ∧ (0 < i → last = hitOf ms q (nth l (i - 1))))
  case atStart => exact ⟨0, (0, 0), Nat.zero_le _, Nat.sub_le _ _, rfl, HL6.out, HT6.out, fun h => absurd h (Nat.lt_irrefl 0)⟩
  case round =>
    obtain ⟨i, last, hi, hgk, rfl, LO, hlast, hlh⟩ := hrel
    generalize hwo : wr = wo at *
    clear hwo wr
    have HLO := hidP LO
    have HLT := hidP hlast
    have HLH := hidP hlh
    have hszo := LO.size
    have hI := HX5.out.next LO
    have hLl := hlast.lt
    clear LO hlast hlh
    by_cases hlt : i < l.length
    · obtain ⟨f1, f2, f3⟩ := HP2.out i hlt
      obtain ⟨za, -, zc⟩ := zIdx_lt f1
      have ci := (hI.lv.elim (fun h => by rw [h] at hlt; simp at hlt) (fun h => h) : ∃ b off, some (⟨lb, lo, none⟩ : Addr) = some ⟨b, off, none⟩ ∧ b < wo.heap.size ∧ Seg wo b off l)
      obtain ⟨b', off', eb, hbl, hsg⟩ := ci
      injection eb with eb
      injection eb with eb1 eb2
      subst eb1 eb2
      have cx := hsg i hlt
      obtain ⟨mb, mo, rfl, hmb, hms⟩ := MSeg.seg hI.web.mv (by omega)
      have k0 := hI.web.c0
      have k1 := hI.web.c1
      have hAl := hI.web.lt
      have hi0 : (0 : Int) ≤ (i : Int) := Int.natCast_nonneg _
      have hi1 : (i : Int) < (l.length : Int) := by omega
      have h9 := HD.out.n9
      have HIo := hidP hI
      have HMS := hidP hms
      have HF2 := hidP f2
      have HF3 := hidP f3
      generalize hxx : nth l i = x at *
      have HXX := hidP hxx
      clear hxx
      clear hsg hms hI f2 f3
      go_wp2_with fail
      go_loopw [9] (fun jv wi => ∃ (j nn : Nat), j ≤ zIdx ms x ∧ jv = .int .i64 j ∧ wi = wo.drewN nn) (fun jv _ => ms.length - (intOf jv).toNat)
      case atStart => exact ⟨0, 0, Nat.zero_le _, rfl, rfl⟩
      case round =>
        obtain ⟨j, nn, hj, rfl, hwi⟩ := hrel
        subst hwi
        have hjm : j < ms.length := by omega
        have cmj := (HMS.out.at (i := j) hjm).1
        have hj1 : (j : Int) < (ms.length : Int) := by omega
        have hj0 : (0 : Int) ≤ (j : Int) := Int.natCast_nonneg _
        by_cases hjx : mid ms j = x
        · have HJZ : Hid (j = zIdx ms x) := zmid_inj (web_marks HWB.out) hjm za (by omega)
          have hb1 : (mid ms j != x) = false := by simp [hjx]
          clear hjx
          generalize mid ms j = mj at *
          go_wp2_with fail
          refine wp_region_quiet_lit (by kernel_rfl) (by kernel_rfl) ?_
          try simp only [List.append_eq, List.cons_append, List.nil_append]
          repeat (go_big_quiet_step (fail))
          refine wpQuiet_nil ?_
          intro _ hw'
          obtain ⟨nq, hw''⟩ := hw'
          subst hw''
          have hjm2 := hjm
          obtain ⟨pa, pc, cat, hpv⟩ := (HMS.out.at (i := j) hjm).2
          have hjne : ((j : Int) == (ms.length : Int)) = false := by rw [beq_eq_false_iff_ne]; omega
          obtain ⟨wp, hwp⟩ : ∃ wp, (wo.drewN nn).drewN nq = wp := ⟨_, rfl⟩
          have LP : Below wo.heap.size wo wp := by rw [← hwp]; exact below_drewN (below_drewN (Below.refl _ _) _) _
          obtain ⟨d, hdd⟩ : ∃ d, farV (mat ms j) q = d := ⟨_, rfl⟩
          have HDD := hidP hdd
          have HFAR : Hid (∀ W', Below wo.heap.size wo W' → Calls Try.prog 14 #[.slice pa (mat ms j).length pc, .slice aq q.length cq] W' fun e w' => e = .returned (.int .i64 d) ∧ Below W'.heap.size W' w') := fun W' L' => by
            have h := iFar pa aq pc cq (mat ms j) q W' (hpv.next L') ((HIo.out.next L').qv) (by have := HD.out.msm.2 j; omega) (by have := HD.out.q6; omega)
            rw [hdd] at h
            exact h
          have HSP : Hid (∀ W', Below wo.heap.size wo W' → W'.cell? ⟨A, 0, none⟩ = some (.slice (some ⟨mb, mo, none⟩) ms.length cm) ∧ W'.cell? ⟨lb, lo + i, none⟩ = some (.int .i64 x) ∧ W'.cell? ⟨mb, mo + j * 2 + 1, none⟩ = some (.slice pa (mat ms j).length pc)) := fun W' L' => ⟨(L'.cell (p := ⟨A, 0, none⟩) hAl).trans k0, (L'.cell (p := ⟨lb, lo + i, none⟩) hbl).trans cx, (L'.cell (p := ⟨mb, mo + j * 2 + 1, none⟩) hmb).trans cat⟩
          have HLP := hidP LP
          obtain ⟨s1, s2, s3⟩ := HSP.out wp LP
          rw [hwp]
          clear hdd LP hpv
          generalize (mat ms j).length = pl at *
          go_upto_region 20 with fail
          clear hwp
          go_cut [10] from 41 to 174 (fun v wx => ∃ X, v = .pointer (some ⟨X, 0, none⟩) ∧ Two wx X (.int .i64 x) (.int .i64 d) 34 ∧ Below wo.heap.size wo wx ∧ Lb ≠ X)
          case first =>
            refine wp_region_takes (S := fun W' => W'.cell? ⟨A, 0, none⟩ = some (.slice (some ⟨mb, mo, none⟩) ms.length cm) ∧ W'.cell? ⟨lb, lo + i, none⟩ = some (.int .i64 x) ∧ W'.cell? ⟨mb, mo + j * 2 + 1, none⟩ = some (.slice pa pl pc)) (fuel := 4) [0, 1, 2, 3, 4, 5, 6, 7, 8, 9, 10] (by kernel_rfl) (by kernel_rfl) (by kernel_rfl) (by kernel_rfl) ⟨s1, s2, s3⟩ (fun _ => ?_)
            iterate 11
              refine ⟨_, rfl, ?_⟩
              apply Exists.intro
              refine ⟨Or.inl ⟨by rfl, fun w' hw' => ?_⟩, ?_⟩
              · obtain ⟨e1, e2, e3⟩ := hw'
                first
                | (go_simp; done)
                | (go_simp; with_reducible rfl)
              simp only [Act.put, List.getElem_toArray, List.getElem_cons_succ, List.getElem_cons_zero, List.setIfInBounds_toArray, List.set_cons_zero, List.set_cons_succ]
            refine calm_two14 11 13 (by kernel_rfl) rfl rfl (fun K hK => ?_) (fun K hK => ?_)
            · go_simp
              refine (HFAR.out _ (Below.drew HLP.out)).mono ?_
              rintro e w7 ⟨rfl, L7⟩
              have L07 : Below wo.heap.size wo w7 := chain (Below.drew HLP.out) L7
              refine hK.out _ _ (HSP.out _ L07) (fun hS7 => ?_)
              clear hK K
              refine calm_more14 2 [12] (by kernel_rfl) (by kernel_rfl) (by kernel_rfl) hS7 ?_
              iterate 1
                refine ⟨_, rfl, ?_⟩
                apply Exists.intro
                refine ⟨Or.inl ⟨by rfl, fun w' hw' => ?_⟩, ?_⟩
                · first
                  | (go_simp; done)
                  | (go_simp; with_reducible rfl)
                simp only [Act.put, List.getElem_toArray, List.getElem_cons_succ, List.getElem_cons_zero, List.setIfInBounds_toArray, List.set_cons_zero, List.set_cons_succ]
              refine calm_one 13 (by kernel_rfl) rfl (fun K hK => ?_)
              go_simp
              refine hK.out _ _ (HSP.out _ (L07.alloc L07.size _)) (fun hS8 => ?_)
              clear hK K
              refine calm_one 14 (by kernel_rfl) rfl (fun K hK => ?_)
              go_simp
              obtain ⟨wz, hwz⟩ : ∃ wz, w7.alloc (.cells #[.int .i64 x, .int .i64 d] 34) = wz := ⟨_, rfl⟩
              have HLZ : Hid (Below wo.heap.size wo wz) := by show Below _ _ _; rw [← hwz]; exact L07.alloc L07.size _
              have hTX : Two wz w7.heap.size (.int .i64 x) (.int .i64 d) 34 := by rw [← hwz]; exact Two.new w7 _ _ _
              have hXL : Lb ≠ w7.heap.size := by have := L07.size; omega
              rw [hwz]
              refine hK.out _ _ (HSP.out _ HLZ.out) (fun hS9 => ?_)
              clear hK K hwz L7 L07 hS7 hS8
              refine wpAnyH_done (by kernel_rfl) ?_ _
              refine NoPanic.normal ?_
              try simp only [Exit.then]
              go_wp2_with fail
              go_meet
              exact ⟨w7.heap.size, rfl, hTX, HLZ.out, hXL⟩
            · go_simp
              obtain ⟨W1, hW1⟩ : ∃ W, (wp.alloc (.cells #[.int .i64 0, .int .i64 0] 34)).drew = W := ⟨_, rfl⟩
              have LW1 : Below wo.heap.size wo W1 := by rw [← hW1]; exact (HLP.out.alloc HLP.out.size _).drew
              have hTX1 : Two W1 wp.heap.size (.int .i64 0) (.int .i64 0) 34 := by rw [← hW1]; exact Two.new wp _ _ _
              rw [hW1]
              clear hW1
              refine hK.out _ _ (HSP.out _ LW1) (fun _ => ?_)
              clear hK K
              refine calm_one 11 (by kernel_rfl) rfl (fun K hK => ?_)
              go_simp
              refine (HFAR.out _ LW1).mono ?_
              rintro e w7 ⟨rfl, L7⟩
              have L07 : Below wo.heap.size wo w7 := chain LW1 L7
              have hT7 : Two w7 wp.heap.size (.int .i64 0) (.int .i64 0) 34 := hTX1.below L7
              refine hK.out _ _ (HSP.out _ L07) (fun hS7 => ?_)
              clear hK K
              refine calm_more14 1 [12] (by kernel_rfl) (by kernel_rfl) (by kernel_rfl) hS7 ?_
              iterate 1
                refine ⟨_, rfl, ?_⟩
                apply Exists.intro
                refine ⟨Or.inl ⟨by rfl, fun w' hw' => ?_⟩, ?_⟩
                · first
                  | (go_simp; done)
                  | (go_simp; with_reducible rfl)
                simp only [Act.put, List.getElem_toArray, List.getElem_cons_succ, List.getElem_cons_zero, List.setIfInBounds_toArray, List.set_cons_zero, List.set_cons_succ]
              have x0 := hT7.c0
              have x1 := hT7.c1
              have xf0 := hT7.frozen 0
              have xf1 := hT7.frozen 1
              refine calm_one 14 (by kernel_rfl) rfl (fun K hK => ?_)
              go_simp
              obtain ⟨wz, hwz⟩ : ∃ wz, (w7.setCell ⟨wp.heap.size, 0, none⟩ (.int .i64 x)).setCell ⟨wp.heap.size, 1, none⟩ (.int .i64 d) = wz := ⟨_, rfl⟩
              have hwps := HLP.out.size
              have HLZ : Hid (Below wo.heap.size wo wz) := by show Below _ _ _; rw [← hwz]; exact (L07.setCell (by show wo.heap.size ≤ wp.heap.size; omega) _).setCell (by show wo.heap.size ≤ wp.heap.size; omega) _
              have hTX : Two wz wp.heap.size (.int .i64 x) (.int .i64 d) 34 := by rw [← hwz]; exact (hT7.set0 _).set1 _
              have hXL : Lb ≠ wp.heap.size := by omega
              rw [hwz]
              refine hK.out _ _ (HSP.out _ HLZ.out) (fun hS9 => ?_)
              clear hK K hwz L7 L07 hS7 x0 x1 xf0 xf1 hT7 hTX1 LW1
              refine wpAnyH_done (by kernel_rfl) ?_ _
              refine NoPanic.normal ?_
              try simp only [Exit.then]
              go_wp2_with fail
              go_meet
              exact ⟨wp.heap.size, rfl, hTX, HLZ.out, hXL⟩
          case rest =>
            obtain ⟨X, rfl, hTX, hLZ, hXL⟩ := hcut
            generalize hwcz : wc = wz at *
            clear hwcz wc
            have HLZ := hidP hLZ
            clear hLZ s1 s2 s3
            have z0 := hTX.c0
            have z1 := hTX.c1
            have hTL : Two wz Lb (.int .i64 last.1) (.int .i64 last.2) 34 := HLT.out.below HLZ.out
            have y0 := hTL.c0
            have y1 := hTL.c1
            have fy0 := hTL.frozen 0
            have fy1 := hTL.frozen 1
            have hIz := HIo.out.next HLZ.out
            have m0 := hIz.web.c0
            have m1 := hIz.web.c1
            obtain ⟨gb, go2, rfl, hgbl, hcs⟩ := hIz.web.cv.seg (by have := web_len HWB.out; omega)
            obtain ⟨ra, rc, lk, hlkv⟩ := hcs j (by have := web_len HWB.out; omega)
            have hjl : (j : Int) < (ls.length : Int) := by have := web_len HWB.out; omega
            have hc61 := HD.out.csm.2 j
            go_upto_region 21 with fail
            go_cut [118] from 41 to 174 (fun v wx => v = .bool false ∧ ∃ nq, wx = wz.drewN nq)
            case first =>
              by_cases hi00 : i = 0
              · have hgid : decide ((i : Int) > 0) = false := decide_eq_false (by omega)
                have hgie : decide (0 < (i : Int)) = false := decide_eq_false (by omega)
                have hgif : decide (0 < i) = false := decide_eq_false (by omega)
                clear hi00
                go_wp2_with fail
                refine wp_region_quiet_lit (by kernel_rfl) (by kernel_rfl) ?_
                try simp only [List.append_eq, List.cons_append, List.nil_append]
                repeat (go_big_quiet_step (fail))
                refine wpQuiet_nil ?_
                intro _ hw'
                obtain ⟨nq, hw''⟩ := hw'
                subst hw''
                go_wp2_with fail
                go_meet
                exact ⟨rfl, nq, rfl⟩
              · have hgi : (i : Int) > 0 := by omega
                have hgid : decide ((i : Int) > 0) = true := decide_eq_true hgi
                have hgie : decide (0 < (i : Int)) = true := decide_eq_true hgi
                have hgin : 0 < i := by omega
                have hgif : decide (0 < i) = true := decide_eq_true hgin
                have hlst := HLH.out (by omega)
                obtain ⟨-, q2, -⟩ := HP2.out (i - 1) (by omega)
                obtain ⟨q3, q4⟩ := q2 (by omega)
                rw [show i - 1 + 1 = i by omega, HXX.out, ← hlst] at q3
                rw [show i - 1 + 1 = i by omega, HXX.out, ← HJZ.out] at q4
                have hl1 : nth l (i - 1) = last.1 := by rw [hlst]; rfl
                rw [hl1] at q4
                have hdx : hitOf ms q x = (x, d) := by unfold hitOf; rw [← HJZ.out, HDD.out]
                rw [hdx, aheadB_iff] at q3
                have hhb : hasB (cn ls j) last.1 = true := (hasB_iff _ _).2 q4
                have HH : Hid (∀ n, Calls Try.prog 15 #[.slice ra (cn ls j).length rc, .int .i64 last.1] (wz.drewN n) fun e w'' => e = .returned (.bool true) ∧ ∃ m, w'' = wz.drewN m) := fun n => by
                  rw [← hhb]
                  refine (lHas14 ra rc (cn ls j) last.1 (wz.drewN n) hlkv (by omega)).mono ?_
                  rintro e w'' ⟨he, hm⟩
                  exact ⟨he, n, hm⟩
                clear q2 q4 hl1 hdx hhb hlst
                simp only at q3
                rcases q3 with h1 | ⟨h1, h2⟩
                · have g1 : ¬ (d > last.2) := by omega
                  have g1d : decide (d > last.2) = false := decide_eq_false g1
                  have g1e : decide (last.2 < d) = false := decide_eq_false g1
                  have g2 : (d == last.2) = false := by rw [beq_eq_false_iff_ne]; omega
                  clear h1
                  go_wp2_with fail
                  refine wp_region_quiet_lit (by kernel_rfl) (by kernel_rfl) ?_
                  try simp only [List.append_eq, List.cons_append, List.nil_append]
                  repeat (go_big_quiet_step ((go_at_call 15; exact HH.out _)))
                  refine wpQuiet_nil ?_
                  intro _ hw'
                  obtain ⟨nq, hw''⟩ := hw'
                  subst hw''
                  go_wp2_with fail
                  go_meet
                  exact ⟨rfl, nq, rfl⟩
                · have g1 : ¬ (d > last.2) := by omega
                  have g1d : decide (d > last.2) = false := decide_eq_false g1
                  have g1e : decide (last.2 < d) = false := decide_eq_false g1
                  have g2 : (d == last.2) = true := by rw [beq_iff_eq]; omega
                  have g3 : ¬ (x ≥ last.1) := by omega
                  have g3d : decide (x ≥ last.1) = false := decide_eq_false g3
                  have g3e : decide (last.1 ≤ x) = false := decide_eq_false g3
                  clear h1 h2
                  go_wp2_with fail
                  refine wp_region_quiet_lit (by kernel_rfl) (by kernel_rfl) ?_
                  try simp only [List.append_eq, List.cons_append, List.nil_append]
                  repeat (go_big_quiet_step ((go_at_call 15; exact HH.out _)))
                  refine wpQuiet_nil ?_
                  intro _ hw'
                  obtain ⟨nq, hw''⟩ := hw'
                  subst hw''
                  go_wp2_with fail
                  go_meet
                  exact ⟨rfl, nq, rfl⟩
            case rest =>
              obtain ⟨rfl, nq, hwq⟩ := hcut
              subst hwq
              obtain ⟨wy, hwy⟩ : ∃ wy, ((wz.drewN nq).setCell ⟨Lb, 0, none⟩ (.int .i64 x)).setCell ⟨Lb, 1, none⟩ (.int .i64 d) = wy := ⟨_, rfl⟩
              have HYB : Hid (Below w5.heap.size w5 wy ∧ Two wy Lb (.int .i64 x) (.int .i64 d) 34 ∧ Two wy X (.int .i64 x) (.int .i64 d) 34 ∧ WsIn wy A (some ⟨mb, mo, none⟩) cm ms (some ⟨gb, go2, none⟩) cl ls aq q (some ⟨lb, lo, none⟩) l) := by
                have hLZ5 : Below w5.heap.size w5 (wz.drewN nq) := below_drewN (chain HLO.out HLZ.out) _
                have hLY : Below w5.heap.size w5 wy := by rw [← hwy]; exact (hLZ5.setCell (by show w5.heap.size ≤ Lb; exact Nat.le_of_eq HLB.out.symm) _).setCell (by show w5.heap.size ≤ Lb; exact Nat.le_of_eq HLB.out.symm) _
                have hTL2 : Two (wz.drewN nq) Lb (.int .i64 last.1) (.int .i64 last.2) 34 := hTL
                have hTX2 : Two (wz.drewN nq) X (.int .i64 x) (.int .i64 d) 34 := hTX
                refine ⟨hLY, by rw [← hwy]; exact (hTL2.set0 _).set1 _, by rw [← hwy]; exact (hTX2.far hXL _).far hXL _, HX5.out.next hLY⟩
              have HHX : Hid (hitOf ms q x = (x, d)) := by show _ = _; unfold hitOf; rw [← HJZ.out, HDD.out]
              have HWY := hidP hwy
              clear hwy
              by_cases hnx : i + 1 < l.length
              · have hnx1 : (i : Int) + 1 < (l.length : Int) := by omega
                clear hTL hTX hIz hcs hlkv
                go_wp2_with fail
                rw [HWY.out]
                go_roundg (l.length - (i + 1))
                case rel => exact ⟨i + 1, (x, d), by omega, Nat.le_refl _, by go_num, HYB.out.1, HYB.out.2.1, fun _ => by rw [show i + 1 - 1 = i by omega, HXX.out, HHX.out]⟩
                case measure => omega
              · have hnx1 : ¬ ((i : Int) + 1 < (l.length : Int)) := by omega
                have HF4 := hidP (HF3.out (by omega))
                clear hTL hTX hIz hcs hlkv
                go_wp2_with fail
                rw [HWY.out]
                clear z0 z1 y0 y1 fy0 fy1 m0 m1 lk HWY
                go_loopw [11] (fun kv wk => ∃ (kk : Nat), kk ≤ ms.length ∧ kv = .int .i64 kk ∧ Below wy.heap.size wy wk) (fun kv _ => ms.length - (intOf kv).toNat)
                case atStart => exact ⟨0, Nat.zero_le _, rfl, Below.refl _ _⟩
                case round =>
                  obtain ⟨kk, hkk, rfl, LK⟩ := hrel
                  generalize hwk : wr = wk at *
                  clear hwk wr
                  have hYk := HYB.out.2.2.2.next LK
                  by_cases hkl : kk < ms.length
                  · obtain ⟨mb2, mo2, em, hmb2, hms2⟩ := MSeg.seg hYk.web.mv (by omega)
                    injection em with em
                    injection em with em1 em2
                    subst em1 em2
                    obtain ⟨cid, pa2, pc2, cat2, hpv2⟩ := hms2.at (i := kk) hkl
                    have n0 := hYk.web.c0
                    have hkk0 : (0 : Int) ≤ (kk : Int) := Int.natCast_nonneg _
                    have hkk1 : (kk : Int) < (ms.length : Int) := by omega
                    obtain ⟨d2, hd2⟩ : ∃ d2, farV (mat ms kk) q = d2 := ⟨_, rfl⟩
                    have HD2 := hidP hd2
                    have HFK := hidP (iFar pa2 aq pc2 cq (mat ms kk) q wk hpv2 hYk.qv (by have := HD.out.msm.2 kk; omega) (by have := HD.out.q6; omega))
                    rw [hd2] at HFK
                    have HLKK := hidP LK
                    clear hd2 hpv2 hms2 hYk LK
                    generalize (mat ms kk).length = pl2 at *
                    go_wp2_with fail
                    refine HFK.out.mono ?_
                    rintro e w8 ⟨rfl, L8⟩
                    have HW8 := hidP (chain HLKK.out L8)
                    have hY8 := HYB.out.2.2.2.next HW8.out
                    have hX8 := HYB.out.2.2.1.below HW8.out
                    obtain ⟨mb3, mo3, em, hmb3, hms3⟩ := MSeg.seg hY8.web.mv (by omega)
                    injection em with em
                    injection em with em1 em2
                    subst em1 em2
                    have cid3 := (hms3.at (i := kk) hkl).1
                    obtain ⟨gb3, go3, eg, hgb3, hcs3⟩ := hY8.web.cv.seg (by have := web_len HWB.out; omega)
                    injection eg with eg
                    injection eg with eg1 eg2
                    subst eg1 eg2
                    obtain ⟨ra3, rc3, lk3, hlkv3⟩ := hcs3 j (by have := web_len HWB.out; omega)
                    have v0 := hY8.web.c0
                    have v1 := hY8.web.c1
                    have x0 := hX8.c0
                    have x1 := hX8.c1
                    have HH2 : Hid (∀ n, Calls Try.prog 15 #[.slice ra3 (cn ls j).length rc3, .int .i64 (mid ms kk)] (w8.drewN n) fun e w'' => e = .returned (.bool (hasB (cn ls j) (mid ms kk))) ∧ ∃ m, w'' = w8.drewN m) := fun n => by
                      refine (lHas14 ra3 rc3 (cn ls j) (mid ms kk) (w8.drewN n) hlkv3 (by omega)).mono ?_
                      rintro e w'' ⟨he, hm⟩
                      exact ⟨he, n, hm⟩
                    rcases hhb : hasB (cn ls j) (mid ms kk) with _ | _
                    · rw [hhb] at HH2
                      clear hms3 hcs3 hY8 hX8 hlkv3 L8 n0 cid cat2 hhb
                      generalize mid ms kk = yk at *
                      go_wp2_with fail
                      refine wp_region_quiet_lit (by kernel_rfl) (by kernel_rfl) ?_
                      try simp only [List.append_eq, List.cons_append, List.nil_append]
                      repeat (go_big_quiet_step ((go_at_call 15; exact HH2.out _)))
                      refine wpQuiet_nil ?_
                      intro _ hw'
                      obtain ⟨nk, hw''⟩ := hw'
                      subst hw''
                      go_wp2_with fail
                      go_roundw
                      case rel => exact ⟨kk + 1, by omega, by go_num, below_drewN HW8.out _⟩
                      case measure => simp [intOf]; omega
                    · rw [hhb] at HH2
                      have hle := HF4.out (mid ms kk) (by rw [← HJZ.out]; exact (hasB_iff _ _).1 hhb)
                      rw [HHX.out, show hitOf ms q (mid ms kk) = (mid ms kk, d2) by unfold hitOf; rw [(zFind_mid (web_marks HWB.out) hkl).2, HD2.out]] at hle
                      unfold leH at hle
                      simp only at hle
                      clear hms3 hcs3 hY8 hX8 hlkv3 L8 n0 cid cat2 hhb
                      generalize mid ms kk = yk at *
                      rcases hle with h1 | ⟨h1, h2⟩
                      · have g1 : ¬ (d2 < d) := by omega
                        have g1d : decide (d2 < d) = false := decide_eq_false g1
                        have g2 : (d2 == d) = false := by rw [beq_eq_false_iff_ne]; omega
                        clear h1
                        go_wp2_with fail
                        refine wp_region_quiet_lit (by kernel_rfl) (by kernel_rfl) ?_
                        try simp only [List.append_eq, List.cons_append, List.nil_append]
                        repeat (go_big_quiet_step ((go_at_call 15; exact HH2.out _)))
                        refine wpQuiet_nil ?_
                        intro _ hw'
                        obtain ⟨nk, hw''⟩ := hw'
                        subst hw''
                        go_wp2_with fail
                        go_roundw
                        case rel => exact ⟨kk + 1, by omega, by go_num, below_drewN HW8.out _⟩
                        case measure => simp [intOf]; omega
                      · have g1 : ¬ (d2 < d) := by omega
                        have g1d : decide (d2 < d) = false := decide_eq_false g1
                        have g2 : (d2 == d) = true := by rw [beq_iff_eq]; omega
                        have g3 : ¬ (yk < x) := by omega
                        have g3d : decide (yk < x) = false := decide_eq_false g3
                        clear h1 h2
                        go_wp2_with fail
                        refine wp_region_quiet_lit (by kernel_rfl) (by kernel_rfl) ?_
                        try simp only [List.append_eq, List.cons_append, List.nil_append]
                        repeat (go_big_quiet_step ((go_at_call 15; exact HH2.out _)))
                        refine wpQuiet_nil ?_
                        intro _ hw'
                        obtain ⟨nk, hw''⟩ := hw'
                        subst hw''
                        go_wp2_with fail
                        go_roundw
                        case rel => exact ⟨kk + 1, by omega, by go_num, below_drewN HW8.out _⟩
                        case measure => simp [intOf]; omega
                  · have hkn : ¬ ((kk : Int) < (ms.length : Int)) := by omega
                    have n0 := hYk.web.c0
                    have HKF := hidP (And.intro (HYB.out.1.trans (LK.mono HYB.out.1.size)) (HYB.out.2.1.below LK))
                    clear hYk LK
                    go_wp2_with fail
                    go_roundg (l.length - (i + 1))
                    case rel => exact ⟨i + 1, (x, d), by omega, Nat.le_refl _, by go_num, HKF.out.1, HKF.out.2, fun _ => by rw [show i + 1 - 1 = i by omega, HXX.out, HHX.out]⟩
                    case measure => omega
        · have hb1 : (mid ms j != x) = true := by simp [hjx]
          have hjz : j < zIdx ms x := by
            rcases Nat.lt_or_ge j (zIdx ms x) with h | h
            · exact h
            · exact absurd (by rw [show j = zIdx ms x by omega]; exact zc) hjx
          clear hjx
          generalize mid ms j = mj at *
          go_wp2_with fail
          refine wp_region_quiet_lit (by kernel_rfl) (by kernel_rfl) ?_
          try simp only [List.append_eq, List.cons_append, List.nil_append]
          repeat (go_big_quiet_step (fail))
          refine wpQuiet_nil ?_
          intro _ hw'
          obtain ⟨nq, hw''⟩ := hw'
          subst hw''
          go_wp2_with fail
          go_roundw
          case rel => exact ⟨j + 1, _, by omega, by go_num, rfl⟩
          case measure => simp [intOf]; omega
    · have hnl : ¬ ((i : Int) < (l.length : Int)) := by omega
      go_wp2_with fail
      go_ret
      exact ⟨rfl, chain HB5.out HLO.out⟩
end Go.Proofs.Ytlggpfgamjoeaaa
