/-
  The program's ownState.
  The program's Kept (written by gen_ki.py).
  The walk of FnExactKept (written by gen_kw.py).
-/
import Derived.Test.YtaaagmgglolibaaGreatOwDZz
import Derived.Test.YtaaagmgglolibaaGreatTwArgsZz
import Derived.Test.YtaaagmgglolibaaGreatLastZz
import Derived.Test.YtaaagmgglolibaaGreatCopyZz
import Derived.Test.YtaaagmgglolibaaGreatMMarkZz
namespace Go.Proofs.YtaaagmgglolibaaGreat
open Go Go.RowKit

theorem five_all {w : World} {q : Nat} {a b c d e a' b' c' d' e' : Value} {t : TypeId} (h : w.heap[q]? = some (.cells #[a, b, c, d, e] t)) : (((((w.setCell ⟨q, 0, none⟩ a').setCell ⟨q, 1, none⟩ b').setCell ⟨q, 2, none⟩ c').setCell ⟨q, 3, none⟩ d').setCell ⟨q, 4, none⟩ e').heap[q]? = some (.cells #[a', b', c', d', e'] t) := by
  simp [World.setCell, Array.getElem?_modify, h]
theorem five_far {w : World} {q b : Nat} {a' b' c' d' e' : Value} (h : b ≠ q) : (((((w.setCell ⟨q, 0, none⟩ a').setCell ⟨q, 1, none⟩ b').setCell ⟨q, 2, none⟩ c').setCell ⟨q, 3, none⟩ d').setCell ⟨q, 4, none⟩ e').heap[b]? = w.heap[b]? := by
  rw [Below.heap_setCell _ ⟨q, 4, none⟩ _ b h, Below.heap_setCell _ ⟨q, 3, none⟩ _ b h, Below.heap_setCell _ ⟨q, 2, none⟩ _ b h, Below.heap_setCell _ ⟨q, 1, none⟩ _ b h, Below.heap_setCell _ ⟨q, 0, none⟩ _ b h]

/-- Marks as ownMark copies them, in hand. -/
theorem opart_ow {base : Nat} {w : World} {g : Nat} {ms : List Mk} {G cc : Nat → Nat} {lo hi : Nat} (ho : OPart base w g ms.length ms G cc lo hi) (hm : marksB ms = true) :
    Ow 170 171 (FtM g (dsOf ms G cc)) w (.slice (some ⟨g, 0, none⟩) ms.length ms.length) (totM ms) ∧ totM ms ≤ 300 ∧ (∀ b, FtM g (dsOf ms G cc) b → b = g ∨ lo ≤ b) ∧ (∀ b, FtM g (dsOf ms G cc) b → b < w.heap.size) ∧ ∀ w', Sta (FtM g (dsOf ms G cc)) w w' → MView w' (some ⟨g, 0, none⟩) ms := by
  have h60 := marksB_len hm
  have hmo := ho.own (by unfold maxLen; omega)
  have hdl := dsOf_len ms G cc
  have hdm := dsOf_marks ms G cc
  have hat : ∀ x ∈ ms, x.2.length ≤ 4 := fun x hx' => by
    obtain ⟨i, hi', rfl⟩ := List.getElem_of_mem hx'
    have := ((mOkAt_iff _ _).1 (marksB_at hm hi')).2.2.1
    have h4 := (okB_len this).2
    simpa [mat, List.getD, hi'] using h4
  have o1 := ow_marks hmo (by omega) (by rw [hdm]; exact hat)
  rw [hdl, hdm] at o1
  refine ⟨o1, totM_le ms 60 4 h60 hat, fun b hb => ?_, fun b hb => (mown_bnd hmo b hb).2, fun w' hs => ?_⟩
  · rcases hb with rfl | ⟨i, hi', rfl⟩
    · exact Or.inl rfl
    · rw [hdl] at hi'
      rw [dsOf_at hi']
      exact Or.inr (ho.within i hi').1
  · have := (mown_sm hmo hs).view
    rw [hdm] at this
    exact this

/-- Marks and a tower as ownState hands them out. -/
def OwnSt (base : Nat) (w : World) (g : Nat) (vt : Value) (ms : List Mk) (ts : List Wb) : Prop :=
  ∃ G cc lo F, OPart base w g ms.length ms G cc lo w.heap.size ∧ TsO true F w vt ts ∧ (∀ b, F b → base ≤ b ∧ b < lo) ∧ ¬ F g

set_option maxRecDepth 100000 in
set_option maxHeartbeats 20000000 in
theorem iOwnState (v : Bool) (am aw : Option Addr) (cm cw : Nat) (wd : Int) (ms : List Mk) (d : Int) (ts : List Wb) (nx : Int) (w : World) (hm : MView w am ms) (hv : WbView v w aw ts) (hmb : marksB ms = true) (hok : towB d ts = true) (hsm : StSmall ms ts) :
    Calls Tryz.prog 128 #[.agg #[.int .i64 wd, .slice am ms.length cm, .int .i64 d, .slice aw ts.length cw, .int .i64 nx]] w fun e w' => ∃ g vt, e = .returned (.agg #[.int .i64 wd, .slice (some ⟨g, 0, none⟩) ms.length ms.length, .int .i64 d, vt, .int .i64 nx]) ∧ OwnSt w.heap.size w' g vt ms ts ∧ Below w.heap.size w w' := by
  obtain ⟨W1, hW1⟩ : ∃ W, w.alloc (.cells #[.int .i64 wd, .slice am ms.length cm, .int .i64 d, .slice aw ts.length cw, .int .i64 nx] 52) = W := ⟨_, rfl⟩
  have hB1 : Below w.heap.size w W1 := by rw [← hW1]; exact (Below.refl _ _).alloc (Nat.le_refl _) _
  have hI1 : StIn v W1 w.heap.size am aw cm cw wd ms d ts nx := by rw [← hW1]; exact StIn.box hm hv
  obtain ⟨W, hW⟩ : ∃ W, W1.alloc (.cells #[.int .i64 0, .slice none 0 0, .int .i64 0, .slice none 0 0, .int .i64 0] 52) = W := ⟨_, rfl⟩
  have hB2 : Below W1.heap.size W1 W := by rw [← hW]; exact (Below.refl _ _).alloc (Nat.le_refl _) _
  have s1 : W1.heap.size = w.heap.size + 1 := by rw [← hW1]; simp
  have s2 : W.heap.size = w.heap.size + 2 := by rw [← hW]; simp [s1]
  have TR : W.heap[w.heap.size + 1]? = some (.cells #[.int .i64 0, .slice none 0 0, .int .i64 0, .slice none 0 0, .int .i64 0] 52) := by rw [← hW, ← s1]; exact heap_alloc_new W1 _
  have hI := hI1.below hB2
  have h60 := marksB_len hmb
  have hmk : ∀ w0 : World, (Instr.makeSlice 44 (.int .i64 (ms.length : Int)) (.int .i64 (ms.length : Int))).run Tryz.prog w0 = .ok (.slice (some ⟨w0.heap.size, 0, none⟩) ms.length ms.length) (w0.alloc (.cells (madeCells #[.int .i64 0, .slice none 0 0] (ms.length * 2)) 29)) := fun w0 => run_make_rows (P := Tryz.prog) 44 29 (.agg #[.int .i64 0, .slice none 0 0]) 2 32 Tryz.underlying44 Tryz.info29 .i64 .i64 ms.length (by omega) (by omega) w0
  have HB := hidP (chain hB1 hB2)
  have HI := hidP hI
  have HMB := hidP hmb
  have HTR := hidP TR
  have HSZ := hidP (And.intro s1 s2)
  have HTC : Hid (∀ W', Below W.heap.size W W' → Calls Tryz.prog 101 #[.agg #[.int .i64 d, .slice aw ts.length cw]] W' fun e w' => ∃ vt, e = .returned (.agg #[.int .i64 d, vt]) ∧ TsO true (Btw W'.heap.size w'.heap.size) w' vt ts ∧ Below W'.heap.size W' w') := fun W' L' => iOwnTower v aw cw d ts W' ((hI.below L').wv) hok hsm.2.1
  have HS : Hid (∀ W', Below W.heap.size W W' → W'.cell? ⟨w.heap.size, 0, none⟩ = some (.int .i64 wd) ∧ W'.cell? ⟨w.heap.size, 1, none⟩ = some (.slice am ms.length cm) ∧ W'.cell? ⟨w.heap.size, 2, none⟩ = some (.int .i64 d) ∧ W'.cell? ⟨w.heap.size, 3, none⟩ = some (.slice aw ts.length cw) ∧ W'.cell? ⟨w.heap.size, 4, none⟩ = some (.int .i64 nx)) := fun W' L' => ⟨(hI.below L').c0, (hI.below L').c1, (hI.below L').c2, (hI.below L').c3, (hI.below L').c4⟩
  have BL := hidP ((Below.refl W.heap.size W).drew)
  have HWW : Hid ((w.alloc (.cells #[.int .i64 wd, .slice am ms.length cm, .int .i64 d, .slice aw ts.length cw, .int .i64 nx] 52)).alloc (.cells #[.int .i64 0, .slice none 0 0, .int .i64 0, .slice none 0 0, .int .i64 0] 52) = W) := by show _ = _; rw [hW1, hW]
  have HSM := hidP hsm
  clear hm hv hB1 hI1 hB2 TR hI s1 s2 hW hW1 hok hsm h60 hmb
  go_enter Tryz.func128, Tryz.ntmps128
  go_upto_region 1 with fail
  rw [HWW.out]
  clear HWW
  go_cut [3] from 6 to 17 (fun v wx => ∃ o g ta tc F, v = .pointer (some ⟨o, 0, none⟩) ∧ wx.heap[o]? = some (.cells #[.int .i64 wd, .slice (some ⟨g, 0, none⟩) ms.length ms.length, .int .i64 d, .slice ta ts.length tc, .int .i64 nx] 52) ∧ FB wx g (ms.length * 2) zeroM 29 ∧ TsO true F wx (.slice ta ts.length tc) ts ∧ W.heap.size ≤ o ∧ W.heap.size ≤ g ∧ o ≠ g ∧ ¬ F g ∧ ¬ F o ∧ (∀ b, F b → W.heap.size ≤ b) ∧ Below W.heap.size W wx)
  case first =>
    refine wp_region_takes (S := fun W' => Below W.heap.size W W') (fuel := 5) [0, 1, 2, 3, 4, 6, 7, 9, 10] (by kernel_rfl) (by kernel_rfl) (by kernel_rfl) (by kernel_rfl) BL.out (fun _ => ?_)
    iterate 9
      refine ⟨_, rfl, ?_⟩
      apply Exists.intro
      refine ⟨Or.inl ⟨by rfl, fun w' hw' => ?_⟩, ?_⟩
      · obtain ⟨e1, e2, e3, e4, e5⟩ := HS.out w' hw'
        first
        | (go_simp; done)
        | (go_simp; with_reducible rfl)
      simp only [Act.put, List.getElem_toArray, List.getElem_cons_succ, List.getElem_cons_zero, List.setIfInBounds_toArray, List.set_cons_zero, List.set_cons_succ]
    obtain ⟨wv0, hv0⟩ : ∃ w0, W.drew = w0 := ⟨_, rfl⟩
    have Bwv0 : Below W.heap.size W wv0 := by rw [← hv0]; exact BL.out
    have s0 : W.heap.size ≤ wv0.heap.size := Bwv0.size
    rw [hv0]
    clear hv0
    refine calm_three 5 8 12 (by kernel_rfl) rfl rfl rfl (fun K hK => ?_) (fun K hK => ?_) (fun K hK => ?_)
    · go_simp
      obtain ⟨wv1, hX⟩ : ∃ w0, wv0.alloc (.cells (madeCells #[.int .i64 0, .slice none 0 0] (ms.length * 2)) 29) = w0 := ⟨_, rfl⟩
      have LX : Below wv0.heap.size wv0 wv1 := by rw [← hX]; exact (Below.refl _ _).alloc (Nat.le_refl _) _
      have swv1 : wv0.heap.size < wv1.heap.size := by rw [← hX]; simp
      have Fg : FB wv1 wv0.heap.size (ms.length * 2) zeroM 29 := by rw [← hX]; exact FB.madeM wv0 _ _
      have Bwv1 : Below W.heap.size W wv1 := chain Bwv0 LX
      obtain ⟨g, hg⟩ : ∃ q, wv0.heap.size = q := ⟨_, rfl⟩
      have hg1 : wv0.heap.size ≤ g := by omega
      have hg2 : g < wv1.heap.size := by omega
      rw [hX]
      rw [hg] at Fg ⊢
      refine hK.out _ _ Bwv1 (fun _ => ?_)
      clear hK K hX LX hg
      refine calm_two14 8 12 (by kernel_rfl) rfl rfl (fun K hK => ?_) (fun K hK => ?_)
      · go_simp
        refine (HTC.out wv1 Bwv1).mono ?_
        rintro e wv2 ⟨vt, rfl, Ft, LX⟩
        obtain ⟨ta, tc, rfl, -, -⟩ := Ft.view
        have swv2 : wv1.heap.size ≤ wv2.heap.size := LX.size
        replace Fg := Fg.next LX
        have Bwv2 : Below W.heap.size W wv2 := chain Bwv1 LX
        obtain ⟨F, hF⟩ : ∃ F, Btw wv1.heap.size wv2.heap.size = F := ⟨_, rfl⟩
        have hF1 : ∀ b, F b → wv1.heap.size ≤ b ∧ b < wv2.heap.size := fun b hb => by rw [← hF] at hb; exact hb
        rw [hF] at Ft
        refine hK.out _ _ Bwv2 (fun _ => ?_)
        clear hK K LX hF
        refine calm_more14 2 [11] (by kernel_rfl) (by kernel_rfl) (by kernel_rfl) Bwv2 ?_
        iterate 1
          refine ⟨_, rfl, ?_⟩
          apply Exists.intro
          refine ⟨Or.inl ⟨by rfl, fun w' hw' => ?_⟩, ?_⟩
          · first
            | (go_simp; done)
            | (go_simp; with_reducible rfl)
          simp only [Act.put, List.getElem_toArray, List.getElem_cons_succ, List.getElem_cons_zero, List.setIfInBounds_toArray, List.set_cons_zero, List.set_cons_succ]
        refine calm_one 12 (by kernel_rfl) rfl (fun K hK => ?_)
        go_simp
        refine hK.out _ _ (Bwv2.alloc Bwv2.size _) (fun _ => ?_)
        clear hK K
        refine calm_one 13 (by kernel_rfl) rfl (fun K hK => ?_)
        go_simp
        obtain ⟨wz, hwz⟩ : ∃ wz, wv2.alloc (.cells #[.int .i64 wd, .slice (some ⟨g, 0, none⟩) ms.length ms.length, .int .i64 d, .slice ta ts.length tc, .int .i64 nx] 52) = wz := ⟨_, rfl⟩
        have LZ : Below wv2.heap.size wv2 wz := by rw [← hwz]; exact (Below.refl _ _).alloc (Nat.le_refl _) _
        have TZ : wz.heap[wv2.heap.size]? = some (.cells #[.int .i64 wd, .slice (some ⟨g, 0, none⟩) ms.length ms.length, .int .i64 d, .slice ta ts.length tc, .int .i64 nx] 52) := by rw [← hwz]; exact heap_alloc_new wv2 _
        have hgl := Fg.lt
        rw [hwz]
        refine hK.out _ _ (chain Bwv2 LZ) (fun _ => ?_)
        clear hK K hwz
        refine wpAnyH_done (by kernel_rfl) ?_ _
        refine NoPanic.normal ?_
        try simp only [Exit.then]
        go_wp2_with fail
        go_meet
        exact ⟨wv2.heap.size, g, ta, tc, F, rfl, TZ, Fg.next LZ, Ft.next LZ, by have := Bwv2.size; omega, by omega, by omega, fun hb => by have := hF1 _ hb; omega, fun hb => by have := Ft.bnd _ hb; omega, fun b hb => by have := hF1 b hb; omega, chain Bwv2 LZ⟩
      · go_simp
        obtain ⟨wv4, hX⟩ : ∃ w0, wv1.alloc (.cells #[.int .i64 0, .slice none 0 0, .int .i64 0, .slice none 0 0, .int .i64 0] 52) = w0 := ⟨_, rfl⟩
        have LX : Below wv1.heap.size wv1 wv4 := by rw [← hX]; exact (Below.refl _ _).alloc (Nat.le_refl _) _
        have swv4 : wv1.heap.size < wv4.heap.size := by rw [← hX]; simp
        have Fo : wv4.heap[wv1.heap.size]? = some (.cells #[.int .i64 0, .slice none 0 0, .int .i64 0, .slice none 0 0, .int .i64 0] 52) := by rw [← hX]; exact heap_alloc_new wv1 _
        replace Fg := Fg.next LX
        have Bwv4 : Below W.heap.size W wv4 := chain Bwv1 LX
        obtain ⟨o, ho⟩ : ∃ q, wv1.heap.size = q := ⟨_, rfl⟩
        have ho1 : wv1.heap.size ≤ o := by omega
        have ho2 : o < wv4.heap.size := by omega
        have hol : o < wv4.heap.size := ho2
        rw [hX]
        rw [ho] at Fo ⊢
        refine hK.out _ _ Bwv4 (fun _ => ?_)
        clear hK K hX LX ho
        refine calm_one 8 (by kernel_rfl) rfl (fun K hK => ?_)
        go_simp
        refine (HTC.out wv4 Bwv4).mono ?_
        rintro e wv5 ⟨vt, rfl, Ft, LX⟩
        obtain ⟨ta, tc, rfl, -, -⟩ := Ft.view
        have swv5 : wv4.heap.size ≤ wv5.heap.size := LX.size
        replace Fg := Fg.next LX
        replace Fo := (LX.block _ hol).trans Fo
        replace hol := Nat.lt_of_lt_of_le hol LX.size
        have Bwv5 : Below W.heap.size W wv5 := chain Bwv4 LX
        obtain ⟨F, hF⟩ : ∃ F, Btw wv4.heap.size wv5.heap.size = F := ⟨_, rfl⟩
        have hF1 : ∀ b, F b → wv4.heap.size ≤ b ∧ b < wv5.heap.size := fun b hb => by rw [← hF] at hb; exact hb
        rw [hF] at Ft
        refine hK.out _ _ Bwv5 (fun _ => ?_)
        clear hK K LX hF
        refine calm_more14 1 [11] (by kernel_rfl) (by kernel_rfl) (by kernel_rfl) Bwv5 ?_
        iterate 1
          refine ⟨_, rfl, ?_⟩
          apply Exists.intro
          refine ⟨Or.inl ⟨by rfl, fun w' hw' => ?_⟩, ?_⟩
          · first
            | (go_simp; done)
            | (go_simp; with_reducible rfl)
          simp only [Act.put, List.getElem_toArray, List.getElem_cons_succ, List.getElem_cons_zero, List.setIfInBounds_toArray, List.set_cons_zero, List.set_cons_succ]
        obtain ⟨x0, x1, x2, x3, x4, xf, -⟩ := five_cells Fo
        have xf0 := xf 0
        have xf1 := xf 1
        have xf2 := xf 2
        have xf3 := xf 3
        have xf4 := xf 4
        have hgl1 := Fg.lt
        refine calm_one 13 (by kernel_rfl) rfl (fun K hK => ?_)
        go_simp
        obtain ⟨wz, hwz⟩ : ∃ wz, ((((wv5.setCell ⟨o, 0, none⟩ (.int .i64 wd)).setCell ⟨o, 1, none⟩ (.slice (some ⟨g, 0, none⟩) ms.length ms.length)).setCell ⟨o, 2, none⟩ (.int .i64 d)).setCell ⟨o, 3, none⟩ (.slice ta ts.length tc)).setCell ⟨o, 4, none⟩ (.int .i64 nx) = wz := ⟨_, rfl⟩
        have TZ : wz.heap[o]? = some (.cells #[.int .i64 wd, .slice (some ⟨g, 0, none⟩) ms.length ms.length, .int .i64 d, .slice ta ts.length tc, .int .i64 nx] 52) := by rw [← hwz]; exact five_all Fo
        have far : ∀ b, b ≠ o → wz.heap[b]? = wv5.heap[b]? := fun b hb => by rw [← hwz]; exact five_far hb
        have hsz : wz.heap.size = wv5.heap.size := by rw [← hwz]; simp [World.setCell]
        have hog : g ≠ o := by omega
        have hof : ¬ F o := fun hb => by have := hF1 _ hb; omega
        have Fg2 : FB wz g (ms.length * 2) zeroM 29 := Fg.same (far g hog)
        have Ft2 := Ft.sm (w' := wz) ⟨by omega, fun b hb => far b (fun e => hof (e ▸ hb))⟩
        have BZ : Below W.heap.size W wz := by
          have ho : W.heap.size ≤ o := by omega
          rw [← hwz]; exact ((((Bwv5.setCell (p := ⟨o, 0, none⟩) ho _).setCell (p := ⟨o, 1, none⟩) ho _).setCell (p := ⟨o, 2, none⟩) ho _).setCell (p := ⟨o, 3, none⟩) ho _).setCell (p := ⟨o, 4, none⟩) ho _
        rw [hwz]
        refine hK.out _ _ BZ (fun _ => ?_)
        clear hK K hwz x0 x1 x2 x3 x4 xf xf0 xf1 xf2 xf3 xf4
        refine wpAnyH_done (by kernel_rfl) ?_ _
        refine NoPanic.normal ?_
        try simp only [Exit.then]
        go_wp2_with fail
        go_meet
        exact ⟨o, g, ta, tc, F, rfl, TZ, Fg2, Ft2, by omega, by omega, hog.symm, fun hb => by have := hF1 _ hb; omega, hof, fun b hb => by have := hF1 b hb; omega, BZ⟩
    · go_simp
      refine (HTC.out wv0 Bwv0).mono ?_
      rintro e wv6 ⟨vt, rfl, Ft, LX⟩
      obtain ⟨ta, tc, rfl, -, -⟩ := Ft.view
      have swv6 : wv0.heap.size ≤ wv6.heap.size := LX.size
      have Bwv6 : Below W.heap.size W wv6 := chain Bwv0 LX
      obtain ⟨F, hF⟩ : ∃ F, Btw wv0.heap.size wv6.heap.size = F := ⟨_, rfl⟩
      have hF1 : ∀ b, F b → wv0.heap.size ≤ b ∧ b < wv6.heap.size := fun b hb => by rw [← hF] at hb; exact hb
      rw [hF] at Ft
      refine hK.out _ _ Bwv6 (fun _ => ?_)
      clear hK K LX hF
      refine calm_two14 5 12 (by kernel_rfl) rfl rfl (fun K hK => ?_) (fun K hK => ?_)
      · go_simp
        obtain ⟨wv7, hX⟩ : ∃ w0, wv6.alloc (.cells (madeCells #[.int .i64 0, .slice none 0 0] (ms.length * 2)) 29) = w0 := ⟨_, rfl⟩
        have LX : Below wv6.heap.size wv6 wv7 := by rw [← hX]; exact (Below.refl _ _).alloc (Nat.le_refl _) _
        have swv7 : wv6.heap.size < wv7.heap.size := by rw [← hX]; simp
        have Fg : FB wv7 wv6.heap.size (ms.length * 2) zeroM 29 := by rw [← hX]; exact FB.madeM wv6 _ _
        replace Ft := Ft.next LX
        have Bwv7 : Below W.heap.size W wv7 := chain Bwv6 LX
        obtain ⟨g, hg⟩ : ∃ q, wv6.heap.size = q := ⟨_, rfl⟩
        have hg1 : wv6.heap.size ≤ g := by omega
        have hg2 : g < wv7.heap.size := by omega
        rw [hX]
        rw [hg] at Fg ⊢
        refine hK.out _ _ Bwv7 (fun _ => ?_)
        clear hK K hX LX hg
        refine calm_more14 2 [11] (by kernel_rfl) (by kernel_rfl) (by kernel_rfl) Bwv7 ?_
        iterate 1
          refine ⟨_, rfl, ?_⟩
          apply Exists.intro
          refine ⟨Or.inl ⟨by rfl, fun w' hw' => ?_⟩, ?_⟩
          · first
            | (go_simp; done)
            | (go_simp; with_reducible rfl)
          simp only [Act.put, List.getElem_toArray, List.getElem_cons_succ, List.getElem_cons_zero, List.setIfInBounds_toArray, List.set_cons_zero, List.set_cons_succ]
        refine calm_one 12 (by kernel_rfl) rfl (fun K hK => ?_)
        go_simp
        refine hK.out _ _ (Bwv7.alloc Bwv7.size _) (fun _ => ?_)
        clear hK K
        refine calm_one 13 (by kernel_rfl) rfl (fun K hK => ?_)
        go_simp
        obtain ⟨wz, hwz⟩ : ∃ wz, wv7.alloc (.cells #[.int .i64 wd, .slice (some ⟨g, 0, none⟩) ms.length ms.length, .int .i64 d, .slice ta ts.length tc, .int .i64 nx] 52) = wz := ⟨_, rfl⟩
        have LZ : Below wv7.heap.size wv7 wz := by rw [← hwz]; exact (Below.refl _ _).alloc (Nat.le_refl _) _
        have TZ : wz.heap[wv7.heap.size]? = some (.cells #[.int .i64 wd, .slice (some ⟨g, 0, none⟩) ms.length ms.length, .int .i64 d, .slice ta ts.length tc, .int .i64 nx] 52) := by rw [← hwz]; exact heap_alloc_new wv7 _
        have hgl := Fg.lt
        rw [hwz]
        refine hK.out _ _ (chain Bwv7 LZ) (fun _ => ?_)
        clear hK K hwz
        refine wpAnyH_done (by kernel_rfl) ?_ _
        refine NoPanic.normal ?_
        try simp only [Exit.then]
        go_wp2_with fail
        go_meet
        exact ⟨wv7.heap.size, g, ta, tc, F, rfl, TZ, Fg.next LZ, Ft.next LZ, by have := Bwv7.size; omega, by omega, by omega, fun hb => by have := hF1 _ hb; omega, fun hb => by have := Ft.bnd _ hb; omega, fun b hb => by have := hF1 b hb; omega, chain Bwv7 LZ⟩
      · go_simp
        obtain ⟨wv9, hX⟩ : ∃ w0, wv6.alloc (.cells #[.int .i64 0, .slice none 0 0, .int .i64 0, .slice none 0 0, .int .i64 0] 52) = w0 := ⟨_, rfl⟩
        have LX : Below wv6.heap.size wv6 wv9 := by rw [← hX]; exact (Below.refl _ _).alloc (Nat.le_refl _) _
        have swv9 : wv6.heap.size < wv9.heap.size := by rw [← hX]; simp
        have Fo : wv9.heap[wv6.heap.size]? = some (.cells #[.int .i64 0, .slice none 0 0, .int .i64 0, .slice none 0 0, .int .i64 0] 52) := by rw [← hX]; exact heap_alloc_new wv6 _
        replace Ft := Ft.next LX
        have Bwv9 : Below W.heap.size W wv9 := chain Bwv6 LX
        obtain ⟨o, ho⟩ : ∃ q, wv6.heap.size = q := ⟨_, rfl⟩
        have ho1 : wv6.heap.size ≤ o := by omega
        have ho2 : o < wv9.heap.size := by omega
        have hol : o < wv9.heap.size := ho2
        rw [hX]
        rw [ho] at Fo ⊢
        refine hK.out _ _ Bwv9 (fun _ => ?_)
        clear hK K hX LX ho
        refine calm_one 5 (by kernel_rfl) rfl (fun K hK => ?_)
        go_simp
        obtain ⟨wv10, hX⟩ : ∃ w0, wv9.alloc (.cells (madeCells #[.int .i64 0, .slice none 0 0] (ms.length * 2)) 29) = w0 := ⟨_, rfl⟩
        have LX : Below wv9.heap.size wv9 wv10 := by rw [← hX]; exact (Below.refl _ _).alloc (Nat.le_refl _) _
        have swv10 : wv9.heap.size < wv10.heap.size := by rw [← hX]; simp
        have Fg : FB wv10 wv9.heap.size (ms.length * 2) zeroM 29 := by rw [← hX]; exact FB.madeM wv9 _ _
        replace Fo := (LX.block _ hol).trans Fo
        replace hol := Nat.lt_of_lt_of_le hol LX.size
        replace Ft := Ft.next LX
        have Bwv10 : Below W.heap.size W wv10 := chain Bwv9 LX
        obtain ⟨g, hg⟩ : ∃ q, wv9.heap.size = q := ⟨_, rfl⟩
        have hg1 : wv9.heap.size ≤ g := by omega
        have hg2 : g < wv10.heap.size := by omega
        rw [hX]
        rw [hg] at Fg ⊢
        refine hK.out _ _ Bwv10 (fun _ => ?_)
        clear hK K hX LX hg
        refine calm_more14 1 [11] (by kernel_rfl) (by kernel_rfl) (by kernel_rfl) Bwv10 ?_
        iterate 1
          refine ⟨_, rfl, ?_⟩
          apply Exists.intro
          refine ⟨Or.inl ⟨by rfl, fun w' hw' => ?_⟩, ?_⟩
          · first
            | (go_simp; done)
            | (go_simp; with_reducible rfl)
          simp only [Act.put, List.getElem_toArray, List.getElem_cons_succ, List.getElem_cons_zero, List.setIfInBounds_toArray, List.set_cons_zero, List.set_cons_succ]
        obtain ⟨x0, x1, x2, x3, x4, xf, -⟩ := five_cells Fo
        have xf0 := xf 0
        have xf1 := xf 1
        have xf2 := xf 2
        have xf3 := xf 3
        have xf4 := xf 4
        have hgl1 := Fg.lt
        refine calm_one 13 (by kernel_rfl) rfl (fun K hK => ?_)
        go_simp
        obtain ⟨wz, hwz⟩ : ∃ wz, ((((wv10.setCell ⟨o, 0, none⟩ (.int .i64 wd)).setCell ⟨o, 1, none⟩ (.slice (some ⟨g, 0, none⟩) ms.length ms.length)).setCell ⟨o, 2, none⟩ (.int .i64 d)).setCell ⟨o, 3, none⟩ (.slice ta ts.length tc)).setCell ⟨o, 4, none⟩ (.int .i64 nx) = wz := ⟨_, rfl⟩
        have TZ : wz.heap[o]? = some (.cells #[.int .i64 wd, .slice (some ⟨g, 0, none⟩) ms.length ms.length, .int .i64 d, .slice ta ts.length tc, .int .i64 nx] 52) := by rw [← hwz]; exact five_all Fo
        have far : ∀ b, b ≠ o → wz.heap[b]? = wv10.heap[b]? := fun b hb => by rw [← hwz]; exact five_far hb
        have hsz : wz.heap.size = wv10.heap.size := by rw [← hwz]; simp [World.setCell]
        have hog : g ≠ o := by omega
        have hof : ¬ F o := fun hb => by have := hF1 _ hb; omega
        have Fg2 : FB wz g (ms.length * 2) zeroM 29 := Fg.same (far g hog)
        have Ft2 := Ft.sm (w' := wz) ⟨by omega, fun b hb => far b (fun e => hof (e ▸ hb))⟩
        have BZ : Below W.heap.size W wz := by
          have ho : W.heap.size ≤ o := by omega
          rw [← hwz]; exact ((((Bwv10.setCell (p := ⟨o, 0, none⟩) ho _).setCell (p := ⟨o, 1, none⟩) ho _).setCell (p := ⟨o, 2, none⟩) ho _).setCell (p := ⟨o, 3, none⟩) ho _).setCell (p := ⟨o, 4, none⟩) ho _
        rw [hwz]
        refine hK.out _ _ BZ (fun _ => ?_)
        clear hK K hwz x0 x1 x2 x3 x4 xf xf0 xf1 xf2 xf3 xf4
        refine wpAnyH_done (by kernel_rfl) ?_ _
        refine NoPanic.normal ?_
        try simp only [Exit.then]
        go_wp2_with fail
        go_meet
        exact ⟨o, g, ta, tc, F, rfl, TZ, Fg2, Ft2, by omega, by omega, hog.symm, fun hb => by have := hF1 _ hb; omega, hof, fun b hb => by have := hF1 b hb; omega, BZ⟩
    · go_simp
      obtain ⟨wv11, hX⟩ : ∃ w0, wv0.alloc (.cells #[.int .i64 0, .slice none 0 0, .int .i64 0, .slice none 0 0, .int .i64 0] 52) = w0 := ⟨_, rfl⟩
      have LX : Below wv0.heap.size wv0 wv11 := by rw [← hX]; exact (Below.refl _ _).alloc (Nat.le_refl _) _
      have swv11 : wv0.heap.size < wv11.heap.size := by rw [← hX]; simp
      have Fo : wv11.heap[wv0.heap.size]? = some (.cells #[.int .i64 0, .slice none 0 0, .int .i64 0, .slice none 0 0, .int .i64 0] 52) := by rw [← hX]; exact heap_alloc_new wv0 _
      have Bwv11 : Below W.heap.size W wv11 := chain Bwv0 LX
      obtain ⟨o, ho⟩ : ∃ q, wv0.heap.size = q := ⟨_, rfl⟩
      have ho1 : wv0.heap.size ≤ o := by omega
      have ho2 : o < wv11.heap.size := by omega
      have hol : o < wv11.heap.size := ho2
      rw [hX]
      rw [ho] at Fo ⊢
      refine hK.out _ _ Bwv11 (fun _ => ?_)
      clear hK K hX LX ho
      refine calm_two14 5 8 (by kernel_rfl) rfl rfl (fun K hK => ?_) (fun K hK => ?_)
      · go_simp
        obtain ⟨wv12, hX⟩ : ∃ w0, wv11.alloc (.cells (madeCells #[.int .i64 0, .slice none 0 0] (ms.length * 2)) 29) = w0 := ⟨_, rfl⟩
        have LX : Below wv11.heap.size wv11 wv12 := by rw [← hX]; exact (Below.refl _ _).alloc (Nat.le_refl _) _
        have swv12 : wv11.heap.size < wv12.heap.size := by rw [← hX]; simp
        have Fg : FB wv12 wv11.heap.size (ms.length * 2) zeroM 29 := by rw [← hX]; exact FB.madeM wv11 _ _
        replace Fo := (LX.block _ hol).trans Fo
        replace hol := Nat.lt_of_lt_of_le hol LX.size
        have Bwv12 : Below W.heap.size W wv12 := chain Bwv11 LX
        obtain ⟨g, hg⟩ : ∃ q, wv11.heap.size = q := ⟨_, rfl⟩
        have hg1 : wv11.heap.size ≤ g := by omega
        have hg2 : g < wv12.heap.size := by omega
        rw [hX]
        rw [hg] at Fg ⊢
        refine hK.out _ _ Bwv12 (fun _ => ?_)
        clear hK K hX LX hg
        refine calm_one 8 (by kernel_rfl) rfl (fun K hK => ?_)
        go_simp
        refine (HTC.out wv12 Bwv12).mono ?_
        rintro e wv13 ⟨vt, rfl, Ft, LX⟩
        obtain ⟨ta, tc, rfl, -, -⟩ := Ft.view
        have swv13 : wv12.heap.size ≤ wv13.heap.size := LX.size
        replace Fg := Fg.next LX
        replace Fo := (LX.block _ hol).trans Fo
        replace hol := Nat.lt_of_lt_of_le hol LX.size
        have Bwv13 : Below W.heap.size W wv13 := chain Bwv12 LX
        obtain ⟨F, hF⟩ : ∃ F, Btw wv12.heap.size wv13.heap.size = F := ⟨_, rfl⟩
        have hF1 : ∀ b, F b → wv12.heap.size ≤ b ∧ b < wv13.heap.size := fun b hb => by rw [← hF] at hb; exact hb
        rw [hF] at Ft
        refine hK.out _ _ Bwv13 (fun _ => ?_)
        clear hK K LX hF
        refine calm_more14 1 [11] (by kernel_rfl) (by kernel_rfl) (by kernel_rfl) Bwv13 ?_
        iterate 1
          refine ⟨_, rfl, ?_⟩
          apply Exists.intro
          refine ⟨Or.inl ⟨by rfl, fun w' hw' => ?_⟩, ?_⟩
          · first
            | (go_simp; done)
            | (go_simp; with_reducible rfl)
          simp only [Act.put, List.getElem_toArray, List.getElem_cons_succ, List.getElem_cons_zero, List.setIfInBounds_toArray, List.set_cons_zero, List.set_cons_succ]
        obtain ⟨x0, x1, x2, x3, x4, xf, -⟩ := five_cells Fo
        have xf0 := xf 0
        have xf1 := xf 1
        have xf2 := xf 2
        have xf3 := xf 3
        have xf4 := xf 4
        have hgl1 := Fg.lt
        refine calm_one 13 (by kernel_rfl) rfl (fun K hK => ?_)
        go_simp
        obtain ⟨wz, hwz⟩ : ∃ wz, ((((wv13.setCell ⟨o, 0, none⟩ (.int .i64 wd)).setCell ⟨o, 1, none⟩ (.slice (some ⟨g, 0, none⟩) ms.length ms.length)).setCell ⟨o, 2, none⟩ (.int .i64 d)).setCell ⟨o, 3, none⟩ (.slice ta ts.length tc)).setCell ⟨o, 4, none⟩ (.int .i64 nx) = wz := ⟨_, rfl⟩
        have TZ : wz.heap[o]? = some (.cells #[.int .i64 wd, .slice (some ⟨g, 0, none⟩) ms.length ms.length, .int .i64 d, .slice ta ts.length tc, .int .i64 nx] 52) := by rw [← hwz]; exact five_all Fo
        have far : ∀ b, b ≠ o → wz.heap[b]? = wv13.heap[b]? := fun b hb => by rw [← hwz]; exact five_far hb
        have hsz : wz.heap.size = wv13.heap.size := by rw [← hwz]; simp [World.setCell]
        have hog : g ≠ o := by omega
        have hof : ¬ F o := fun hb => by have := hF1 _ hb; omega
        have Fg2 : FB wz g (ms.length * 2) zeroM 29 := Fg.same (far g hog)
        have Ft2 := Ft.sm (w' := wz) ⟨by omega, fun b hb => far b (fun e => hof (e ▸ hb))⟩
        have BZ : Below W.heap.size W wz := by
          have ho : W.heap.size ≤ o := by omega
          rw [← hwz]; exact ((((Bwv13.setCell (p := ⟨o, 0, none⟩) ho _).setCell (p := ⟨o, 1, none⟩) ho _).setCell (p := ⟨o, 2, none⟩) ho _).setCell (p := ⟨o, 3, none⟩) ho _).setCell (p := ⟨o, 4, none⟩) ho _
        rw [hwz]
        refine hK.out _ _ BZ (fun _ => ?_)
        clear hK K hwz x0 x1 x2 x3 x4 xf xf0 xf1 xf2 xf3 xf4
        refine wpAnyH_done (by kernel_rfl) ?_ _
        refine NoPanic.normal ?_
        try simp only [Exit.then]
        go_wp2_with fail
        go_meet
        exact ⟨o, g, ta, tc, F, rfl, TZ, Fg2, Ft2, by omega, by omega, hog.symm, fun hb => by have := hF1 _ hb; omega, hof, fun b hb => by have := hF1 b hb; omega, BZ⟩
      · go_simp
        refine (HTC.out wv11 Bwv11).mono ?_
        rintro e wv14 ⟨vt, rfl, Ft, LX⟩
        obtain ⟨ta, tc, rfl, -, -⟩ := Ft.view
        have swv14 : wv11.heap.size ≤ wv14.heap.size := LX.size
        replace Fo := (LX.block _ hol).trans Fo
        replace hol := Nat.lt_of_lt_of_le hol LX.size
        have Bwv14 : Below W.heap.size W wv14 := chain Bwv11 LX
        obtain ⟨F, hF⟩ : ∃ F, Btw wv11.heap.size wv14.heap.size = F := ⟨_, rfl⟩
        have hF1 : ∀ b, F b → wv11.heap.size ≤ b ∧ b < wv14.heap.size := fun b hb => by rw [← hF] at hb; exact hb
        rw [hF] at Ft
        refine hK.out _ _ Bwv14 (fun _ => ?_)
        clear hK K LX hF
        refine calm_one 5 (by kernel_rfl) rfl (fun K hK => ?_)
        go_simp
        obtain ⟨wv15, hX⟩ : ∃ w0, wv14.alloc (.cells (madeCells #[.int .i64 0, .slice none 0 0] (ms.length * 2)) 29) = w0 := ⟨_, rfl⟩
        have LX : Below wv14.heap.size wv14 wv15 := by rw [← hX]; exact (Below.refl _ _).alloc (Nat.le_refl _) _
        have swv15 : wv14.heap.size < wv15.heap.size := by rw [← hX]; simp
        have Fg : FB wv15 wv14.heap.size (ms.length * 2) zeroM 29 := by rw [← hX]; exact FB.madeM wv14 _ _
        replace Fo := (LX.block _ hol).trans Fo
        replace hol := Nat.lt_of_lt_of_le hol LX.size
        replace Ft := Ft.next LX
        have Bwv15 : Below W.heap.size W wv15 := chain Bwv14 LX
        obtain ⟨g, hg⟩ : ∃ q, wv14.heap.size = q := ⟨_, rfl⟩
        have hg1 : wv14.heap.size ≤ g := by omega
        have hg2 : g < wv15.heap.size := by omega
        rw [hX]
        rw [hg] at Fg ⊢
        refine hK.out _ _ Bwv15 (fun _ => ?_)
        clear hK K hX LX hg
        refine calm_more14 1 [11] (by kernel_rfl) (by kernel_rfl) (by kernel_rfl) Bwv15 ?_
        iterate 1
          refine ⟨_, rfl, ?_⟩
          apply Exists.intro
          refine ⟨Or.inl ⟨by rfl, fun w' hw' => ?_⟩, ?_⟩
          · first
            | (go_simp; done)
            | (go_simp; with_reducible rfl)
          simp only [Act.put, List.getElem_toArray, List.getElem_cons_succ, List.getElem_cons_zero, List.setIfInBounds_toArray, List.set_cons_zero, List.set_cons_succ]
        obtain ⟨x0, x1, x2, x3, x4, xf, -⟩ := five_cells Fo
        have xf0 := xf 0
        have xf1 := xf 1
        have xf2 := xf 2
        have xf3 := xf 3
        have xf4 := xf 4
        have hgl1 := Fg.lt
        refine calm_one 13 (by kernel_rfl) rfl (fun K hK => ?_)
        go_simp
        obtain ⟨wz, hwz⟩ : ∃ wz, ((((wv15.setCell ⟨o, 0, none⟩ (.int .i64 wd)).setCell ⟨o, 1, none⟩ (.slice (some ⟨g, 0, none⟩) ms.length ms.length)).setCell ⟨o, 2, none⟩ (.int .i64 d)).setCell ⟨o, 3, none⟩ (.slice ta ts.length tc)).setCell ⟨o, 4, none⟩ (.int .i64 nx) = wz := ⟨_, rfl⟩
        have TZ : wz.heap[o]? = some (.cells #[.int .i64 wd, .slice (some ⟨g, 0, none⟩) ms.length ms.length, .int .i64 d, .slice ta ts.length tc, .int .i64 nx] 52) := by rw [← hwz]; exact five_all Fo
        have far : ∀ b, b ≠ o → wz.heap[b]? = wv15.heap[b]? := fun b hb => by rw [← hwz]; exact five_far hb
        have hsz : wz.heap.size = wv15.heap.size := by rw [← hwz]; simp [World.setCell]
        have hog : g ≠ o := by omega
        have hof : ¬ F o := fun hb => by have := hF1 _ hb; omega
        have Fg2 : FB wz g (ms.length * 2) zeroM 29 := Fg.same (far g hog)
        have Ft2 := Ft.sm (w' := wz) ⟨by omega, fun b hb => far b (fun e => hof (e ▸ hb))⟩
        have BZ : Below W.heap.size W wz := by
          have ho : W.heap.size ≤ o := by omega
          rw [← hwz]; exact ((((Bwv15.setCell (p := ⟨o, 0, none⟩) ho _).setCell (p := ⟨o, 1, none⟩) ho _).setCell (p := ⟨o, 2, none⟩) ho _).setCell (p := ⟨o, 3, none⟩) ho _).setCell (p := ⟨o, 4, none⟩) ho _
        rw [hwz]
        refine hK.out _ _ BZ (fun _ => ?_)
        clear hK K hwz x0 x1 x2 x3 x4 xf xf0 xf1 xf2 xf3 xf4
        refine wpAnyH_done (by kernel_rfl) ?_ _
        refine NoPanic.normal ?_
        try simp only [Exit.then]
        go_wp2_with fail
        go_meet
        exact ⟨o, g, ta, tc, F, rfl, TZ, Fg2, Ft2, by omega, by omega, hog.symm, fun hb => by have := hF1 _ hb; omega, hof, fun b hb => by have := hF1 b hb; omega, BZ⟩
  case rest =>
    obtain ⟨o, g, ta, tc, F, rfl, hTo, hFg, hFt, ho, hg, hog, hFng, hFno, hFW, LW⟩ := hcut
    generalize hwc : wc = w1 at *
    clear hwc wc hmk BL HS
    have HLW := hidP LW
    have hI1 := HI.out.below LW
    have k0 := hI1.c1
    have HLO := hidP (OPart.start (base := w.heap.size) (ms := ms) hFg (by have := HSZ.out; omega))
    have HTO := hidP hTo
    have HFT := hidP hFt
    have HF1 : Hid (∀ b, F b → W.heap.size ≤ b ∧ b < w1.heap.size) := fun b hb => ⟨hFW b hb, hFt.bnd b hb⟩
    have hWs := HSZ.out.2
    have hol := (five_cells hTo).2.2.2.2.2.2
    have HNF := hidP (And.intro hFng hFno)
    clear hI1 hTo hFg LW hFt hFng hFno hFW
    go_wp2_with fail
    clear k0
    go_loopg [21] ms.length (fun gk iv wr => ∃ (k : Nat) (G cc : Nat → Nat) (hi : Nat), k ≤ ms.length ∧ ms.length - k ≤ gk ∧ iv = .int .i64 k ∧ OPart w.heap.size wr g k ms G cc w1.heap.size hi ∧ w1.heap.size ≤ wr.heap.size ∧ TsO true F wr (.slice ta ts.length tc) ts ∧ wr.heap[o]? = some (.cells #[.int .i64 wd, .slice (some ⟨g, 0, none⟩) ms.length ms.length, .int .i64 d, .slice ta ts.length tc, .int .i64 nx] 52) ∧ Below W.heap.size W wr)
    case atStart => exact ⟨0, _, _, _, Nat.zero_le _, Nat.sub_le _ _, rfl, HLO.out, Nat.le_refl _, HFT.out, HTO.out, HLW.out⟩
    case round =>
      obtain ⟨k, G, cc, hi, hk, hgk, rfl, hp, hsz, hft, hto, L⟩ := hrel
      have HP := hidP hp
      have HL := hidP L
      have HF := hidP hft
      have HT := hidP hto
      have hIr := HI.out.below L
      clear hp L hft hto
      by_cases hlt : k < ms.length
      · obtain ⟨mb, mo, rfl, hmb2, hms⟩ := mview_seg hIr.mv (by omega)
        have hms' := hms k hlt
        obtain ⟨c0, pa, pc, c1, hpv⟩ := hms'
        have hi0 : (0 : Int) ≤ (k : Int) := Int.natCast_nonneg _
        have hi1 : (k : Int) < (ms.length : Int) := by omega
        have hk60 : k < 61 := by have := marksB_len HMB.out; omega
        have hok := (mOkAt_iff _ _).1 (marksB_at HMB.out hlt)
        obtain ⟨V1, hV⟩ : ∃ V1, wr.alloc (.cells #[.int .i64 (mid ms k), .slice pa (mat ms k).length pc] 29) = V1 := ⟨_, rfl⟩
        have LV : Below wr.heap.size wr V1 := by rw [← hV]; exact (Below.refl _ _).alloc (Nat.le_refl _) _
        have hYl : wr.heap.size < V1.heap.size := by rw [← hV]; simp
        have y0 : V1.cell? ⟨wr.heap.size, 0, none⟩ = some (.int .i64 (mid ms k)) := by rw [← hV]; simp
        have y1 : V1.cell? ⟨wr.heap.size, 1, none⟩ = some (.slice pa (mat ms k).length pc) := by rw [← hV]; simp
        have LVd : Below wr.heap.size wr V1.drew := LV.drew
        have HTD := hidP ((LVd.block o (five_cells HT.out).2.2.2.2.2.2).trans HT.out)
        have hOV := (five_cells HTD.out).2.1
        have HPD := hidP (HP.out.next LVd)
        have HFD := hidP (HF.out.next LVd)
        have HLD := hidP (chain HL.out LVd)
        have HC := hidP (iOwn15 (mid ms k, pa, pc, mat ms k) V1.drew (hpv.next LVd) (okB_len hok.2.2.1).1 (HSM.out.1.2 k))
        have hol1 := (five_cells HTD.out).2.2.2.2.2.2
        have hgl1 := HPD.out.blk.lt
        have hszd : w1.heap.size ≤ V1.drew.heap.size := Nat.le_trans hsz LVd.size
        have hwb : w.heap.size ≤ V1.drew.heap.size := by have := HLD.out.size; have := HSZ.out; omega
        clear hms hpv hIr LV LVd hok
        have HSS : Hid (∀ W', Below V1.drew.heap.size V1.drew W' → W'.cell? ⟨o, 1, none⟩ = some (.slice (some ⟨g, 0, none⟩) ms.length ms.length) ∧ W'.cell? ⟨wr.heap.size, 0, none⟩ = some (.int .i64 (mid ms k)) ∧ W'.cell? ⟨wr.heap.size, 1, none⟩ = some (.slice pa (mat ms k).length pc)) := fun W' L' => ⟨(L'.cell (p := ⟨o, 1, none⟩) hol1).trans hOV, (L'.cell (p := ⟨wr.heap.size, 0, none⟩) hYl).trans y0, (L'.cell (p := ⟨wr.heap.size, 1, none⟩) hYl).trans y1⟩
        change wr.cell? ⟨mb, mo + k * 2, none⟩ = some (.int .i64 (mid ms k)) at c0
        change wr.cell? ⟨mb, mo + k * 2 + 1, none⟩ = some (.slice pa (mat ms k).length pc) at c1
        obtain ⟨id, hid⟩ : ∃ id, mid ms k = id := ⟨_, rfl⟩
        obtain ⟨xl, hxl⟩ : ∃ xl, (mat ms k).length = xl := ⟨_, rfl⟩
        have HID := hidP (And.intro hid hxl)
        simp only at HC
        rw [hid, hxl] at HC HSS
        rw [hxl] at y1
        rw [hid] at y0 c0
        rw [hxl] at c1
        rw [hid, hxl] at hV
        clear hid hxl hOV
        go_wp2_with fail
        clear hV c0 c1 y0 y1
        refine wp_region_calm (S := fun w' => w'.cell? ⟨o, 1, none⟩ = some (.slice (some ⟨g, 0, none⟩) ms.length ms.length) ∧ w'.cell? ⟨wr.heap.size, 0, none⟩ = some (.int .i64 id) ∧ w'.cell? ⟨wr.heap.size, 1, none⟩ = some (.slice pa xl pc)) (fuel := 2)
          [0, 1, 2, 3] _ rfl (by kernel_rfl) (by kernel_rfl) (by kernel_rfl) (by kernel_rfl) (by kernel_rfl) (by kernel_rfl) (by kernel_rfl) (HSS.out _ (Below.refl _ _)) (fun hS => ?_)
        iterate 4
          refine ⟨_, rfl, ?_⟩
          apply Exists.intro
          refine ⟨Or.inl ⟨by rfl, fun w' hw' => ?_⟩, ?_⟩
          · first
            | (go_simp; done)
            | (go_simp; with_reducible rfl)
          simp only [Act.put, List.setIfInBounds_toArray]
        refine calm_one 4 (by kernel_rfl) rfl (fun K hK => ?_)
        go_simp
        refine HC.out.mono ?_
        rintro e w3 ⟨h3, c3, rfl, hr3, L3⟩
        refine hK.out _ _ (HSS.out _ L3) (fun _ => ?_)
        clear hK K
        refine calm_one 5 (by kernel_rfl) rfl (fun K hK => ?_)
        go_simp
        refine hK.out _ _ (HSS.out _ L3) (fun _ => ?_)
        clear hK K hS
        have HST := hidP (HPD.out.step L3 hr3 hwb hszd)
        have hN := HPD.out.next L3
        have f0 := hN.blk.frozen (k * 2)
        have f1 := hN.blk.frozen (k * 2 + 1)
        have e0 := hN.blk.cell (i := k * 2) (by omega)
        have e1 := hN.blk.cell (i := k * 2 + 1) (by omega)
        have hgN := hN.blk.lt
        obtain ⟨hFng, hFno⟩ := HNF.out
        have far : ∀ b, b ≠ g → ((w3.setCell ⟨g, k * 2, none⟩ (.int .i64 id)).setCell ⟨g, k * 2 + 1, none⟩ (.slice (some ⟨h3, 0, none⟩) xl c3)).heap[b]? = w3.heap[b]? := fun b hb => (Below.heap_setCell _ ⟨g, k * 2 + 1, none⟩ _ b (fun e => hb e)).trans (Below.heap_setCell _ ⟨g, k * 2, none⟩ _ b (fun e => hb e))
        have HE : Hid (TsO true F ((w3.setCell ⟨g, k * 2, none⟩ (.int .i64 id)).setCell ⟨g, k * 2 + 1, none⟩ (.slice (some ⟨h3, 0, none⟩) xl c3)) (.slice ta ts.length tc) ts ∧ ((w3.setCell ⟨g, k * 2, none⟩ (.int .i64 id)).setCell ⟨g, k * 2 + 1, none⟩ (.slice (some ⟨h3, 0, none⟩) xl c3)).heap[o]? = some (.cells #[.int .i64 wd, .slice (some ⟨g, 0, none⟩) ms.length ms.length, .int .i64 d, .slice ta ts.length tc, .int .i64 nx] 52) ∧ Below W.heap.size W ((w3.setCell ⟨g, k * 2, none⟩ (.int .i64 id)).setCell ⟨g, k * 2 + 1, none⟩ (.slice (some ⟨h3, 0, none⟩) xl c3)) ∧ w1.heap.size ≤ ((w3.setCell ⟨g, k * 2, none⟩ (.int .i64 id)).setCell ⟨g, k * 2 + 1, none⟩ (.slice (some ⟨h3, 0, none⟩) xl c3)).heap.size) :=
          ⟨(HFD.out.next L3).sm ⟨by rw [setCell_size, setCell_size]; exact Nat.le_refl _, fun b hb => far b (fun e => hFng (e ▸ hb))⟩, (far o hog).trans ((L3.block o hol1).trans HTD.out), ((chain HLD.out L3).setCell (by show W.heap.size ≤ g; exact hg) _).setCell (by show W.heap.size ≤ g; exact hg) _, by rw [setCell_size, setCell_size]; exact Nat.le_trans hszd L3.size⟩
        rw [HID.out.1, HID.out.2] at HST
        clear hr3 L3 hN HPD HFD HTD HLD HC HSS far hFng hFno
        refine wpAnyH_done (by kernel_rfl) ?_ _
        simp only [Exit.then]
        go_wp2_with fail
        refine NoPanic.normal ?_
        go_wp2_with fail
        go_roundg (ms.length - (k + 1))
        case rel => exact ⟨k + 1, _, _, _, by omega, Nat.le_refl _, by go_num, HST.out, HE.out.2.2.2, HE.out.1, HE.out.2.1, HE.out.2.2.1⟩
        case measure => omega
      · obtain rfl : k = ms.length := by omega
        have hki : ¬ ((ms.length : Int) < (ms.length : Int)) := by omega
        have tR := (HL.out.block _ (five_cells HTR.out).2.2.2.2.2.2).trans HTR.out
        obtain ⟨r0, r1, r2, r3, r4, rf, hrl⟩ := five_cells tR
        have rf0 := rf 0
        have rf1 := rf 1
        have rf2 := rf 2
        have rf3 := rf 3
        have rf4 := rf 4
        obtain ⟨o0, o1, o2, o3, o4, -, -⟩ := five_cells HT.out
        have t3 : _ = some (Obj.cells #[.int .i64 wd, .slice (some ⟨g, 0, none⟩) ms.length ms.length, .int .i64 d, .slice ta ts.length tc, .int .i64 nx] 52) := five_all tR
        obtain ⟨q0, q1, q2, q3, q4, -, -⟩ := five_cells t3
        have hz := HL.out.size
        have hFb := HF1.out
        obtain ⟨hFng, hFno⟩ := HNF.out
        obtain ⟨wz, hwz⟩ : ∃ wz, ((((wr.setCell ⟨w.heap.size + 1, 0, none⟩ (.int .i64 wd)).setCell ⟨w.heap.size + 1, 1, none⟩ (.slice (some ⟨g, 0, none⟩) ms.length ms.length)).setCell ⟨w.heap.size + 1, 2, none⟩ (.int .i64 d)).setCell ⟨w.heap.size + 1, 3, none⟩ (.slice ta ts.length tc)).setCell ⟨w.heap.size + 1, 4, none⟩ (.int .i64 nx) = wz := ⟨_, rfl⟩
        have far : ∀ b, b ≠ w.heap.size + 1 → wz.heap[b]? = wr.heap[b]? := fun b hb => by rw [← hwz]; exact five_far hb
        have hsw : wz.heap.size = wr.heap.size := by rw [← hwz]; simp [World.setCell]
        have BZ : Below w.heap.size w wz := by
          have ho : w.heap.size ≤ w.heap.size + 1 := by omega
          rw [← hwz]; exact ((((((chain HB.out HL.out).setCell (p := ⟨w.heap.size + 1, 0, none⟩) ho _).setCell (p := ⟨w.heap.size + 1, 1, none⟩) ho _).setCell (p := ⟨w.heap.size + 1, 2, none⟩) ho _).setCell (p := ⟨w.heap.size + 1, 3, none⟩) ho _).setCell (p := ⟨w.heap.size + 1, 4, none⟩) ho _)
        have hw1 := HLW.out.size
        have hop : OPart w.heap.size wz g ms.length ms G cc w1.heap.size hi := ⟨HP.out.blk.same (far g (by omega)), fun i hi' => irow_same15 (HP.out.rows i hi') (far _ (by have := HP.out.within i hi'; omega)), HP.out.rise, HP.out.within, by rw [hsw]; exact HP.out.top, HP.out.ge, HP.out.out⟩
        have HE := hidP (And.intro (hop.raise (by rw [hsw]; exact HP.out.top) (Nat.le_refl _)) (And.intro (HF.out.sm (w' := wz) ⟨by omega, fun b hb => far b (fun e => by have := hFb b hb; omega)⟩) BZ))
        have HQ : Hid (∀ b, F b → w.heap.size ≤ b ∧ b < w1.heap.size) := fun b hb => by have := hFb b hb; omega
        have HWZ := hidP hwz
        clear hIr tR t3 HF HP HL HT hz rf far hsw BZ hw1 hop hFb hwz HSM
        go_wp2_with fail
        refine bodyPost_ret (v := .agg #[.int .i64 wd, .slice (some ⟨g, 0, none⟩) ms.length ms.length, .int .i64 d, .slice ta ts.length tc, .int .i64 nx]) (by simp [results, Tryz.results128, go_sem, q0, q1, q2, q3, q4]) rfl ?_
        rw [HWZ.out]
        exact ⟨g, _, rfl, ⟨G, cc, _, F, HE.out.1, HE.out.2.1, HQ.out, hFng⟩, HE.out.2.2⟩
end Go.Proofs.YtaaagmgglolibaaGreat
namespace Go.Proofs.YtaaagmgglolibaaGreat
open Go Go.RowKit

/-- What is raised is right. -/
theorem rai_web0 {m : Mk} {ts : List Wb} {d : Int} (hok : towB d ts = true) (h : raiR m ts d = true) : marksB ((wnth ts 0).1 ++ [m]) = true :=
  rai_at h 0 (by have := (rai_lev (tow_in hok)).2.1; omega)
theorem rai_ok {m : Mk} {ts : List Wb} {d : Int} (hok : towB d ts = true) (h : raiR m ts d = true) : okB m.2 = true := by
  have h2 := ((mOkAt_iff _ _).1 (marksB_at (rai_web0 hok h) (i := (wnth ts 0).1.length) (by simp))).2.2.1
  have e : mat ((wnth ts 0).1 ++ [m]) (wnth ts 0).1.length = m.2 := by simp [mat, List.getD]
  rw [e] at h2
  exact h2
theorem st_short18 {wd : Int} {ms : List Mk} {d : Int} {ts : List Wb} {nx : Int} (h : stB wd ms d ts nx = true) : ms.length ≤ (wnth ts 0).1.length := by
  obtain ⟨h1, _, _, h4⟩ := stB_parts h
  have hl : (ms.map (·.1)).length ≤ (wnth ts 0).1.length := by
    refine ids_short ?_ (fun x hx => ?_)
    · refine List.pairwise_iff_getElem.2 (fun i j hi hj hij e => ?_)
      rw [List.length_map] at hi hj
      have e1 : mid ms i = mid ms j := by simpa [mid, List.getD, hi, hj] using e
      have a := (zFind_mid h1 hi).2
      have b := (zFind_mid h1 hj).2
      rw [e1] at a
      omega
    · obtain ⟨m, hm, rfl⟩ := List.mem_map.1 hx
      rw [bearB, List.all_eq_true] at h4
      exact (likeB_iff.1 (h4 m hm)).1
  rw [List.length_map] at hl
  exact hl

theorem irow_low18 {base base' : Nat} {w : World} {g c : Nat} {xs : List Int} (h : IRow base w g c xs) (hb : base' ≤ base) : IRow base' w g c xs := ⟨h.1, h.2.imp id fun ⟨g, cap, cur, h1, h2, h3⟩ => ⟨g, cap, cur, h1, Nat.le_trans hb h2, h3⟩⟩
/-- A state of the call's own. -/
def OwK (lo hi : Nat) (w : World) (g : Nat) (vt : Value) (ms : List Mk) (ts : List Wb) : Prop := ∃ ds F, dMarks ds = ms ∧ DRow lo w g ms.length ds ∧ TsO true F w vt ts ∧ (∀ b, FtM g ds b → lo ≤ b ∧ b < hi ∧ ¬ F b) ∧ ∀ b, F b → lo ≤ b ∧ b < hi
theorem drow_sm18 {base : Nat} {w w' : World} {g c : Nat} {ds : List Dm} (h : DRow base w g c ds) (e : ∀ b, FtM g ds b → w'.heap[b]? = w.heap[b]?) : DRow base w' g c ds :=
  ⟨owns_same14 h.1 (e g (Or.inl rfl)), fun d hd => ⟨(h.2.1 d hd).1.same (e d.2.1 (by
    obtain ⟨i, hi, rfl⟩ := List.getElem_of_mem hd
    exact Or.inr ⟨i, hi, by simp [mdnth, List.getD, hi]⟩)), (h.2.1 d hd).2⟩, h.2.2⟩
theorem OwK.sm {lo hi : Nat} {w w' : World} {g : Nat} {vt : Value} {ms : List Mk} {ts : List Wb} (h : OwK lo hi w g vt ms ts) (hs : w.heap.size ≤ w'.heap.size) (e : ∀ b, lo ≤ b → b < hi → w'.heap[b]? = w.heap[b]?) : OwK lo hi w' g vt ms ts := by
  obtain ⟨ds, F, h1, h2, h3, h4, h5⟩ := h
  exact ⟨ds, F, h1, drow_sm18 h2 (fun b hb => e b (h4 b hb).1 (h4 b hb).2.1), h3.sm ⟨hs, fun b hb => e b (h5 b hb).1 (h5 b hb).2⟩, h4, h5⟩
theorem drow_mown18 {base : Nat} {w : World} {g c : Nat} {ds : List Dm} (h : DRow base w g c ds) : MOwn base w g c ds := by
  have hm : ∀ i, i < ds.length → mdnth ds i ∈ ds := fun i hi => by
    have e : mdnth ds i = ds[i] := by simp [mdnth, List.getD, hi]
    rw [e]; exact List.getElem_mem hi
  refine ⟨h.1, fun i hi => (h.2.1 _ (hm i hi)).1, fun i hi => (h.2.1 _ (hm i hi)).2, fun i j hi hj hne => ?_⟩
  have hp := List.pairwise_iff_getElem.1 h.2.2
  have ei : mdnth ds i = ds[i] := by simp [mdnth, List.getD, hi]
  have ej : mdnth ds j = ds[j] := by simp [mdnth, List.getD, hj]
  rw [ei, ej]
  rcases Nat.lt_or_ge i j with e | e
  · have := hp i j hi hj e; omega
  · have := hp j i hj hi (by omega); omega
theorem ownst_k {base : Nat} {w : World} {g : Nat} {vt : Value} {ms : List Mk} {ts : List Wb} (h : OwnSt base w g vt ms ts) (hmb : marksB ms = true) : ∃ ta tc, vt = .slice ta ts.length tc ∧ OwK base w.heap.size w g (.slice ta ts.length tc) ms ts := by
  obtain ⟨G, cc, lo, F, hop, htw, hF, hFg⟩ := h
  obtain ⟨ta, tc, rfl, -, -⟩ := htw.view
  have h60 := marksB_len hmb
  have hmo := hop.own (by unfold maxLen; omega)
  obtain ⟨-, -, hft, hfl, -⟩ := opart_ow hop hmb
  refine ⟨ta, tc, rfl, dsOf ms G cc, F, dsOf_marks ms G cc, ⟨hmo.row, fun x hx => ?_, ?_⟩, htw, fun b hb => ?_, fun b hb => ⟨(hF b hb).1, htw.bnd b hb⟩⟩
  · obtain ⟨i, hi, rfl⟩ := List.getElem_of_mem hx
    have e : (dsOf ms G cc)[i] = mdnth (dsOf ms G cc) i := by simp [mdnth, List.getD, hi]
    rw [e]
    exact ⟨hmo.rows i hi, hmo.off i hi⟩
  · refine List.pairwise_iff_getElem.2 (fun i j hi hj hij => ?_)
    have e : (dsOf ms G cc)[i] = mdnth (dsOf ms G cc) i := by simp [mdnth, List.getD, hi]
    have e' : (dsOf ms G cc)[j] = mdnth (dsOf ms G cc) j := by simp [mdnth, List.getD, hj]
    have hl := dsOf_len ms G cc
    rw [e, e', dsOf_at (by omega), dsOf_at (by omega)]
    exact hop.rise i j hij (by omega)
  · have h1 := hft b hb
    have h2 := (mown_bnd hmo b hb).1
    refine ⟨h2, hfl b hb, fun h => ?_⟩
    have h3 := (hF b h).2
    rcases h1 with rfl | h1
    · exact hFg h
    · omega
/-- It is handed out. -/
theorem kp_sto {base Z g c n : Nat} {w : World} {vt : Value} {G : Nat → Prop} {es : List Dm} {ms : List Mk} {ts : List Wb} (wd d nx : Int) (hd : DRow base w g c es) (hes : dMarks es = ms) (hn : n = ms.length) (h60 : ms.length ≤ 60) (hat : ∀ x ∈ ms, x.2.length ≤ 4) (ht : TsO true G w vt ts) (hF : ∀ b, FtM g es b → Z ≤ b ∧ ¬ G b) (hG : ∀ b, G b → Z ≤ b) :
    StO true (Btw Z w.heap.size) w (.agg #[.int .i64 wd, .slice (some ⟨g, 0, none⟩) n c, .int .i64 d, vt, .int .i64 nx]) wd ms d ts nx := by
  subst hn
  have hm := drow_mown18 hd
  have hl : es.length = ms.length := by rw [← hes, dMarks_length]
  have how := ow_marks hm (by omega) (by rw [hes]; exact hat)
  rw [hl, hes] at how
  have hcap : ms.length ≤ c := by
    obtain ⟨-, ⟨x, -⟩ | ⟨g', cap, cur, x, -, -, hcc, -⟩⟩ := hd.1
    · cases x
    · injection x with x1 x2 x3; omega
  refine StO.of wd d nx (fun _ => how) (Nat.le_trans (totM_le _ 60 4 h60 hat) (by omega)) hcap (fun w' hs => ?_) ht (fun b hb => hb.2) (fun b hb => ⟨(hF b hb).1, (mown_bnd hm b hb).2⟩) (fun b hb => ⟨hG b hb, ht.bnd b hb⟩) (fun b hb hb' => (hF b hb).2 hb')
  have := (mown_sm hm hs).view
  rw [hes] at this
  exact this
theorem marks_at18 {ms : List Mk} (h : marksB ms = true) : ∀ x ∈ ms, x.2.length ≤ 4 := fun x hx => by
  obtain ⟨i, hi, rfl⟩ := List.getElem_of_mem hx
  have := (okB_len ((mOkAt_iff _ _).1 (marksB_at h hi)).2.2.1).2
  simpa [mat, List.getD, hi] using this

set_option maxRecDepth 100000 in
set_option maxHeartbeats 16000000 in
theorem iKept18 (am aw : Option Addr) (cm cw : Nat) (wd : Int) (ms : List Mk) (d : Int) (ts : List Wb) (nx : Int) (ap : Option Addr) (cp : Nat) (p : List Int) (w : World) (hm : MView w am ms) (hv : WbView true w aw ts) (hp : View w ap p) (hpl : p.length ≤ 1048576) (hsm : StSmall ms ts) (hst : stB wd ms d ts nx = true) :
    Calls Tryz.prog 32 #[.agg #[.int .i64 wd, .slice am ms.length cm, .int .i64 d, .slice aw ts.length cw, .int .i64 nx], .slice ap p.length cp] w fun e w' => ∃ x, e = .returned (.tuple #[x, .int .i64 (kpRr (kpB wd nx d p ts) nx)]) ∧ StO true (Btw w.heap.size w'.heap.size) w' x wd (kpMs (kpB wd nx d p ts) ms nx p) (kpDd (kpB wd nx d p ts) nx p ts d) (kpTs (kpB wd nx d p ts) nx p ts d) (kpNx (kpB wd nx d p ts) nx) ∧ Below w.heap.size w w' := by
  obtain ⟨hmb, hok, -, -⟩ := stB_parts hst
  obtain ⟨j0, hj0, hy0, hy1, hy2⟩ := info_parts Tryz.info29
  obtain ⟨W1, hW1⟩ : ∃ W, w.alloc (.cells #[.int .i64 wd, .slice am ms.length cm, .int .i64 d, .slice aw ts.length cw, .int .i64 nx] 52) = W := ⟨_, rfl⟩
  have hB1 : Below w.heap.size w W1 := by rw [← hW1]; exact (Below.refl _ _).alloc (Nat.le_refl _) _
  have hI1 : StIn true W1 w.heap.size am aw cm cw wd ms d ts nx := by rw [← hW1]; exact StIn.box hm hv
  obtain ⟨W, hW⟩ : ∃ W, W1.alloc (.cells #[.int .i64 0, .slice none 0 0, .int .i64 0, .slice none 0 0, .int .i64 0] 52) = W := ⟨_, rfl⟩
  have hB2 : Below W1.heap.size W1 W := by rw [← hW]; exact (Below.refl _ _).alloc (Nat.le_refl _) _
  have s1 : W1.heap.size = w.heap.size + 1 := by rw [← hW1]; simp
  have s2 : W.heap.size = w.heap.size + 1 + 1 := by rw [← hW]; simp [s1]
  have TR : W.heap[w.heap.size + 1]? = some (.cells #[.int .i64 0, .slice none 0 0, .int .i64 0, .slice none 0 0, .int .i64 0] 52) := by rw [← hW, ← s1]; exact heap_alloc_new W1 _
  have hI := hI1.below hB2
  have HB := hidP (chain hB1 hB2)
  have HI := hidP hI
  have HTR := hidP TR
  have HSZ := hidP s2
  have HC := hidP (iStateOk am aw cm cw wd ms d ts nx W hI.mv hI.wv hsm)
  rw [hst] at HC
  have HMB := hidP hmb
  have HNB := hidP (stB_nx18 hst)
  have HP := hidP (And.intro hp hpl)
  have HTW := hidP (And.intro hok hsm)
  have HST := hidP (st_short18 hst)
  have k0 := hI.c0
  have k1 := hI.c1
  have k2 := hI.c2
  have k3 := hI.c3
  have k4 := hI.c4
  have HWW : Hid ((w.alloc (.cells #[.int .i64 wd, .slice am ms.length cm, .int .i64 d, .slice aw ts.length cw, .int .i64 nx] 52)).alloc (.cells #[.int .i64 0, .slice none 0 0, .int .i64 0, .slice none 0 0, .int .i64 0] 52) = W) := by show _ = _; rw [hW1, hW]
  clear hp hpl hm hv hB1 hI1 hB2 TR hI s1 s2 hW hW1 hok hmb hsm hst
  go_enter Tryz.func32, Tryz.ntmps32
  go_upto_region 1 with fail
  rw [HWW.out]
  clear HWW
  go_wp2_with fail
  refine HC.out.mono ?_
  rintro e W0 ⟨rfl, L1⟩
  clear k0 k1 k2 k3 k4 HC
  have HI1 := hidP (HI.out.below L1)
  have HL1 := hidP L1
  have W0z := L1.size
  have HOS : Hid (∀ W', Below W0.heap.size W0 W' → Calls Tryz.prog 128 #[.agg #[.int .i64 wd, .slice am ms.length cm, .int .i64 d, .slice aw ts.length cw, .int .i64 nx]] W' fun e w' => ∃ g vt, e = .returned (.agg #[.int .i64 wd, .slice (some ⟨g, 0, none⟩) ms.length ms.length, .int .i64 d, vt, .int .i64 nx]) ∧ OwnSt W'.heap.size w' g vt ms ts ∧ Below W'.heap.size W' w') := fun W' L' => iOwnState true am aw cm cw wd ms d ts nx W' (HI1.out.below L').mv (HI1.out.below L').wv HMB.out HTW.out.1 HTW.out.2
  have HS0 : Hid (∀ W', Below W0.heap.size W0 W' → W'.cell? ⟨w.heap.size, 0, none⟩ = some (.int .i64 wd) ∧ W'.cell? ⟨w.heap.size, 1, none⟩ = some (.slice am ms.length cm) ∧ W'.cell? ⟨w.heap.size, 2, none⟩ = some (.int .i64 d) ∧ W'.cell? ⟨w.heap.size, 3, none⟩ = some (.slice aw ts.length cw) ∧ W'.cell? ⟨w.heap.size, 4, none⟩ = some (.int .i64 nx)) := fun W' L' => ⟨(HI1.out.below L').c0, (HI1.out.below L').c1, (HI1.out.below L').c2, (HI1.out.below L').c3, (HI1.out.below L').c4⟩
  have BL0 := hidP ((Below.refl W0.heap.size W0).drew)
  clear L1
  go_upto_region 3 with fail
  go_cut [6, 7] from 14 to 19 (fun v b wx => ∃ Ob Mb g ta tc lo hi, v = .pointer (some ⟨Ob, 0, none⟩) ∧ b = .pointer (some ⟨Mb, 0, none⟩) ∧ wx.heap[Ob]? = some (.cells #[.int .i64 wd, .slice (some ⟨g, 0, none⟩) ms.length ms.length, .int .i64 d, .slice ta ts.length tc, .int .i64 nx] 52) ∧ Two wx Mb (.int .i64 nx) (.slice ap p.length cp) 29 ∧ OwK lo hi wx g (.slice ta ts.length tc) ms ts ∧ (W0.heap.size ≤ lo ∧ lo ≤ hi ∧ hi ≤ wx.heap.size ∧ W0.heap.size ≤ Ob ∧ W0.heap.size ≤ Mb ∧ Ob ≠ Mb ∧ ¬ (lo ≤ Ob ∧ Ob < hi) ∧ ¬ (lo ≤ Mb ∧ Mb < hi)) ∧ Below W0.heap.size W0 wx)
  case first =>
    refine wp_region_takes (S := fun W' => Below W0.heap.size W0 W') (fuel := 5) [0, 2, 3, 4, 5] (by kernel_rfl) (by kernel_rfl) (by kernel_rfl) (by kernel_rfl) BL0.out (fun _ => ?_)
    iterate 5
      refine ⟨_, rfl, ?_⟩
      apply Exists.intro
      refine ⟨Or.inl ⟨by rfl, fun w' hw' => ?_⟩, ?_⟩
      · obtain ⟨e1, e2, e3, e4, e5⟩ := HS0.out w' hw'
        first
        | (go_simp; done)
        | (go_simp; with_reducible rfl)
      simp only [Act.put, List.getElem_toArray, List.getElem_cons_succ, List.getElem_cons_zero, List.setIfInBounds_toArray, List.set_cons_zero, List.set_cons_succ]
    obtain ⟨u0, hv0⟩ : ∃ w0, W0.drew = w0 := ⟨_, rfl⟩
    have Bu0 : Below W0.heap.size W0 u0 := by rw [← hv0]; exact BL0.out
    have zu0 : W0.heap.size ≤ u0.heap.size := by rw [← hv0]; exact Nat.le_refl _
    rw [hv0]
    clear hv0
    refine calm_three18 1 6 7 (by kernel_rfl) rfl rfl rfl (fun K hK => ?_) (fun K hK => ?_) (fun K hK => ?_)
    · go_simp
      refine (HOS.out u0 Bu0).mono ?_
      rintro e u1 ⟨g, tt, rfl, hown, Lu1⟩
      obtain ⟨ta, tc, rfl, hok0⟩ := ownst_k hown HMB.out
      obtain ⟨lo, hi, hlo, hhi, hok⟩ : ∃ lo hi, (u0.heap.size ≤ lo ∧ lo ≤ hi) ∧ hi ≤ u1.heap.size ∧ OwK lo hi u1 g (.slice ta ts.length tc) ms ts := ⟨_, _, ⟨Nat.le_refl _, Lu1.size⟩, Nat.le_refl _, hok0⟩
      have zu1 := Lu1.size
      have Bu1 := chain Bu0 Lu1
      refine hK.out _ _ Bu1 (fun _ => ?_)
      clear hK K Lu1 hown hok0
      refine calm_two14 6 7 (by kernel_rfl) rfl rfl (fun K hK => ?_) (fun K hK => ?_)
      · go_simp
        obtain ⟨u2, hu2⟩ : ∃ w0, u1.alloc (.cells #[.int .i64 0, .slice none 0 0, .int .i64 0, .slice none 0 0, .int .i64 0] 52) = w0 := ⟨_, rfl⟩
        have Lu2 : Below u1.heap.size u1 u2 := by rw [← hu2]; exact (Below.refl _ _).alloc (Nat.le_refl _) _
        obtain ⟨Ob, hOb⟩ : ∃ q, u1.heap.size = q := ⟨_, rfl⟩
        have hO : u2.heap[Ob]? = some (.cells #[.int .i64 0, .slice none 0 0, .int .i64 0, .slice none 0 0, .int .i64 0] 52) := by rw [← hu2, ← hOb]; exact heap_alloc_new u1 _
        have zu2 : u1.heap.size < u2.heap.size := by rw [← hu2]; simp
        have zOb : u1.heap.size ≤ Ob ∧ Ob < u2.heap.size := by omega
        first | rw [hu2] | skip
        first | rw [hOb] | skip
        have Bu2 := chain Bu1 Lu2
        replace hok := hok.sm (w' := u2) (by omega) (fun b _ h2 => Lu2.block b (by omega))
        refine hK.out _ _ Bu2 (fun _ => ?_)
        clear hK K Lu2 hu2 hOb
        refine calm_one 7 (by kernel_rfl) rfl (fun K hK => ?_)
        go_simp
        obtain ⟨u3, hu3⟩ : ∃ w0, u2.alloc (.cells #[.int .i64 0, .slice none 0 0] 29) = w0 := ⟨_, rfl⟩
        have Lu3 : Below u2.heap.size u2 u3 := by rw [← hu3]; exact (Below.refl _ _).alloc (Nat.le_refl _) _
        obtain ⟨Mb, hMb⟩ : ∃ q, u2.heap.size = q := ⟨_, rfl⟩
        have hM : Two u3 Mb (.int .i64 0) (.slice none 0 0) 29 := by rw [← hu3, ← hMb]; exact Two.new u2 _ _ _
        have zu3 : u2.heap.size < u3.heap.size := by rw [← hu3]; simp
        have zMb : u2.heap.size ≤ Mb ∧ Mb < u3.heap.size := by omega
        first | rw [hu3] | skip
        first | rw [hMb] | skip
        have Bu3 := chain Bu2 Lu3
        replace hO := (Lu3.block Ob (by omega)).trans hO
        replace hok := hok.sm (w' := u3) (by omega) (fun b _ h2 => Lu3.block b (by omega))
        refine hK.out _ _ Bu3 (fun _ => ?_)
        clear hK K Lu3 hu3 hMb
        refine calm_one 8 (by kernel_rfl) rfl (fun K hK => ?_)
        obtain ⟨r0, r1, r2, r3, r4, rf, hrl⟩ := five_cells hO
        have rf0 := rf 0
        have rf1 := rf 1
        have rf2 := rf 2
        have rf3 := rf 3
        have rf4 := rf 4
        have t6 : _ = some (Obj.cells #[.int .i64 wd, .slice (some ⟨g, 0, none⟩) ms.length ms.length, .int .i64 d, .slice ta ts.length tc, .int .i64 nx] 52) := five_all hO
        go_simp
        obtain ⟨u4, hu4⟩ : ∃ u4, ((((u3.setCell ⟨Ob, 0, none⟩ (.int .i64 wd)).setCell ⟨Ob, 1, none⟩ (.slice (some ⟨g, 0, none⟩) ms.length ms.length)).setCell ⟨Ob, 2, none⟩ (.int .i64 d)).setCell ⟨Ob, 3, none⟩ (.slice ta ts.length tc)).setCell ⟨Ob, 4, none⟩ (.int .i64 nx) = u4 := ⟨_, rfl⟩
        have far : ∀ b, b ≠ Ob → u4.heap[b]? = u3.heap[b]? := fun b hb => by rw [← hu4]; exact five_far hb
        have zu4 : u3.heap.size ≤ u4.heap.size ∧ u4.heap.size ≤ u3.heap.size := by rw [← hu4]; simp [World.setCell]
        have ho : W0.heap.size ≤ Ob := by have := W0z; omega
        have Bu4 : Below W0.heap.size W0 u4 := by rw [← hu4]; exact (((((Bu3.setCell (p := ⟨Ob, 0, none⟩) ho _).setCell (p := ⟨Ob, 1, none⟩) ho _).setCell (p := ⟨Ob, 2, none⟩) ho _).setCell (p := ⟨Ob, 3, none⟩) ho _).setCell (p := ⟨Ob, 4, none⟩) ho _)
        rw [hu4] at t6
        replace hO := t6
        replace hok := hok.sm (w' := u4) (by omega) (fun b h1 h2 => far b (by omega))
        replace hM : Two u4 Mb (.int .i64 0) (.slice none 0 0) 29 := (far Mb (by omega)).trans hM
        first | rw [hu4] | skip
        have ho0 := ho
        clear ho
        refine hK.out _ _ Bu4 (fun _ => ?_)
        clear hK K hu4 t6 rf r0 r1 r2 r3 r4 rf0 rf1 rf2 rf3 rf4 far hrl
        refine calm_one 9 (by kernel_rfl) rfl (fun K hK => ?_)
        have x0 := hM.c0
        have x1 := hM.c1
        have xf0 := hM.frozen 0
        have xf1 := hM.frozen 1
        go_simp
        obtain ⟨u5, hu5⟩ : ∃ wz, (u4.setCell ⟨Mb, 0, none⟩ (.int .i64 nx)).setCell ⟨Mb, 1, none⟩ (.slice ap p.length cp) = wz := ⟨_, rfl⟩
        have far : ∀ b, b ≠ Mb → u5.heap[b]? = u4.heap[b]? := fun b hb => by rw [← hu5]; exact (Below.heap_setCell _ ⟨Mb, 1, none⟩ _ b (fun e => hb e)).trans (Below.heap_setCell _ ⟨Mb, 0, none⟩ _ b (fun e => hb e))
        have zu5 : u4.heap.size ≤ u5.heap.size ∧ u5.heap.size ≤ u4.heap.size := by rw [← hu5, setCell_size, setCell_size]; omega
        have ho : W0.heap.size ≤ Mb := by have := W0z; omega
        have Bu5 : Below W0.heap.size W0 u5 := by rw [← hu5]; exact (Bu4.setCell (p := ⟨Mb, 0, none⟩) ho _).setCell (p := ⟨Mb, 1, none⟩) ho _
        replace hO : u5.heap[Ob]? = some (.cells #[.int .i64 wd, .slice (some ⟨g, 0, none⟩) ms.length ms.length, .int .i64 d, .slice ta ts.length tc, .int .i64 nx] 52) := (far Ob (by omega)).trans hO
        replace hok := hok.sm (w' := u5) (by omega) (fun b h1 h2 => far b (by omega))
        replace hM : Two u5 Mb (.int .i64 nx) (.slice ap p.length cp) 29 := by rw [← hu5]; exact (hM.set0 _).set1 _
        first | rw [hu5] | skip
        refine hK.out _ _ Bu5 (fun _ => ?_)
        clear hK K hu5 x0 x1 xf0 xf1
        refine wpAnyH_done (by kernel_rfl) ?_ _
        refine NoPanic.normal ?_
        try simp only [Exit.then]
        go_wp2_with fail
        go_meet
        exact ⟨Ob, Mb, g, ta, tc, lo, hi, rfl, rfl, hO, hM, hok, ⟨by omega, by omega, by omega, ho0, ho, by omega, by omega, by omega⟩, Bu5⟩
      · go_simp
        obtain ⟨u2, hu2⟩ : ∃ w0, u1.alloc (.cells #[.int .i64 0, .slice none 0 0] 29) = w0 := ⟨_, rfl⟩
        have Lu2 : Below u1.heap.size u1 u2 := by rw [← hu2]; exact (Below.refl _ _).alloc (Nat.le_refl _) _
        obtain ⟨Mb, hMb⟩ : ∃ q, u1.heap.size = q := ⟨_, rfl⟩
        have hM : Two u2 Mb (.int .i64 0) (.slice none 0 0) 29 := by rw [← hu2, ← hMb]; exact Two.new u1 _ _ _
        have zu2 : u1.heap.size < u2.heap.size := by rw [← hu2]; simp
        have zMb : u1.heap.size ≤ Mb ∧ Mb < u2.heap.size := by omega
        first | rw [hu2] | skip
        first | rw [hMb] | skip
        have Bu2 := chain Bu1 Lu2
        replace hok := hok.sm (w' := u2) (by omega) (fun b _ h2 => Lu2.block b (by omega))
        refine hK.out _ _ Bu2 (fun _ => ?_)
        clear hK K Lu2 hu2 hMb
        refine calm_one 6 (by kernel_rfl) rfl (fun K hK => ?_)
        go_simp
        obtain ⟨u3, hu3⟩ : ∃ w0, u2.alloc (.cells #[.int .i64 0, .slice none 0 0, .int .i64 0, .slice none 0 0, .int .i64 0] 52) = w0 := ⟨_, rfl⟩
        have Lu3 : Below u2.heap.size u2 u3 := by rw [← hu3]; exact (Below.refl _ _).alloc (Nat.le_refl _) _
        obtain ⟨Ob, hOb⟩ : ∃ q, u2.heap.size = q := ⟨_, rfl⟩
        have hO : u3.heap[Ob]? = some (.cells #[.int .i64 0, .slice none 0 0, .int .i64 0, .slice none 0 0, .int .i64 0] 52) := by rw [← hu3, ← hOb]; exact heap_alloc_new u2 _
        have zu3 : u2.heap.size < u3.heap.size := by rw [← hu3]; simp
        have zOb : u2.heap.size ≤ Ob ∧ Ob < u3.heap.size := by omega
        first | rw [hu3] | skip
        first | rw [hOb] | skip
        have Bu3 := chain Bu2 Lu3
        replace hM := hM.below Lu3
        replace hok := hok.sm (w' := u3) (by omega) (fun b _ h2 => Lu3.block b (by omega))
        refine hK.out _ _ Bu3 (fun _ => ?_)
        clear hK K Lu3 hu3 hOb
        refine calm_one 8 (by kernel_rfl) rfl (fun K hK => ?_)
        obtain ⟨r0, r1, r2, r3, r4, rf, hrl⟩ := five_cells hO
        have rf0 := rf 0
        have rf1 := rf 1
        have rf2 := rf 2
        have rf3 := rf 3
        have rf4 := rf 4
        have t6 : _ = some (Obj.cells #[.int .i64 wd, .slice (some ⟨g, 0, none⟩) ms.length ms.length, .int .i64 d, .slice ta ts.length tc, .int .i64 nx] 52) := five_all hO
        go_simp
        obtain ⟨u4, hu4⟩ : ∃ u4, ((((u3.setCell ⟨Ob, 0, none⟩ (.int .i64 wd)).setCell ⟨Ob, 1, none⟩ (.slice (some ⟨g, 0, none⟩) ms.length ms.length)).setCell ⟨Ob, 2, none⟩ (.int .i64 d)).setCell ⟨Ob, 3, none⟩ (.slice ta ts.length tc)).setCell ⟨Ob, 4, none⟩ (.int .i64 nx) = u4 := ⟨_, rfl⟩
        have far : ∀ b, b ≠ Ob → u4.heap[b]? = u3.heap[b]? := fun b hb => by rw [← hu4]; exact five_far hb
        have zu4 : u3.heap.size ≤ u4.heap.size ∧ u4.heap.size ≤ u3.heap.size := by rw [← hu4]; simp [World.setCell]
        have ho : W0.heap.size ≤ Ob := by have := W0z; omega
        have Bu4 : Below W0.heap.size W0 u4 := by rw [← hu4]; exact (((((Bu3.setCell (p := ⟨Ob, 0, none⟩) ho _).setCell (p := ⟨Ob, 1, none⟩) ho _).setCell (p := ⟨Ob, 2, none⟩) ho _).setCell (p := ⟨Ob, 3, none⟩) ho _).setCell (p := ⟨Ob, 4, none⟩) ho _)
        rw [hu4] at t6
        replace hO := t6
        replace hok := hok.sm (w' := u4) (by omega) (fun b h1 h2 => far b (by omega))
        replace hM : Two u4 Mb (.int .i64 0) (.slice none 0 0) 29 := (far Mb (by omega)).trans hM
        first | rw [hu4] | skip
        have ho0 := ho
        clear ho
        refine hK.out _ _ Bu4 (fun _ => ?_)
        clear hK K hu4 t6 rf r0 r1 r2 r3 r4 rf0 rf1 rf2 rf3 rf4 far hrl
        refine calm_one 9 (by kernel_rfl) rfl (fun K hK => ?_)
        have x0 := hM.c0
        have x1 := hM.c1
        have xf0 := hM.frozen 0
        have xf1 := hM.frozen 1
        go_simp
        obtain ⟨u5, hu5⟩ : ∃ wz, (u4.setCell ⟨Mb, 0, none⟩ (.int .i64 nx)).setCell ⟨Mb, 1, none⟩ (.slice ap p.length cp) = wz := ⟨_, rfl⟩
        have far : ∀ b, b ≠ Mb → u5.heap[b]? = u4.heap[b]? := fun b hb => by rw [← hu5]; exact (Below.heap_setCell _ ⟨Mb, 1, none⟩ _ b (fun e => hb e)).trans (Below.heap_setCell _ ⟨Mb, 0, none⟩ _ b (fun e => hb e))
        have zu5 : u4.heap.size ≤ u5.heap.size ∧ u5.heap.size ≤ u4.heap.size := by rw [← hu5, setCell_size, setCell_size]; omega
        have ho : W0.heap.size ≤ Mb := by have := W0z; omega
        have Bu5 : Below W0.heap.size W0 u5 := by rw [← hu5]; exact (Bu4.setCell (p := ⟨Mb, 0, none⟩) ho _).setCell (p := ⟨Mb, 1, none⟩) ho _
        replace hO : u5.heap[Ob]? = some (.cells #[.int .i64 wd, .slice (some ⟨g, 0, none⟩) ms.length ms.length, .int .i64 d, .slice ta ts.length tc, .int .i64 nx] 52) := (far Ob (by omega)).trans hO
        replace hok := hok.sm (w' := u5) (by omega) (fun b h1 h2 => far b (by omega))
        replace hM : Two u5 Mb (.int .i64 nx) (.slice ap p.length cp) 29 := by rw [← hu5]; exact (hM.set0 _).set1 _
        first | rw [hu5] | skip
        refine hK.out _ _ Bu5 (fun _ => ?_)
        clear hK K hu5 x0 x1 xf0 xf1
        refine wpAnyH_done (by kernel_rfl) ?_ _
        refine NoPanic.normal ?_
        try simp only [Exit.then]
        go_wp2_with fail
        go_meet
        exact ⟨Ob, Mb, g, ta, tc, lo, hi, rfl, rfl, hO, hM, hok, ⟨by omega, by omega, by omega, ho0, ho, by omega, by omega, by omega⟩, Bu5⟩
    · go_simp
      obtain ⟨u1, hu1⟩ : ∃ w0, u0.alloc (.cells #[.int .i64 0, .slice none 0 0, .int .i64 0, .slice none 0 0, .int .i64 0] 52) = w0 := ⟨_, rfl⟩
      have Lu1 : Below u0.heap.size u0 u1 := by rw [← hu1]; exact (Below.refl _ _).alloc (Nat.le_refl _) _
      obtain ⟨Ob, hOb⟩ : ∃ q, u0.heap.size = q := ⟨_, rfl⟩
      have hO : u1.heap[Ob]? = some (.cells #[.int .i64 0, .slice none 0 0, .int .i64 0, .slice none 0 0, .int .i64 0] 52) := by rw [← hu1, ← hOb]; exact heap_alloc_new u0 _
      have zu1 : u0.heap.size < u1.heap.size := by rw [← hu1]; simp
      have zOb : u0.heap.size ≤ Ob ∧ Ob < u1.heap.size := by omega
      first | rw [hu1] | skip
      first | rw [hOb] | skip
      have Bu1 := chain Bu0 Lu1
      refine hK.out _ _ Bu1 (fun _ => ?_)
      clear hK K Lu1 hu1 hOb
      refine calm_two14 1 7 (by kernel_rfl) rfl rfl (fun K hK => ?_) (fun K hK => ?_)
      · go_simp
        refine (HOS.out u1 Bu1).mono ?_
        rintro e u2 ⟨g, tt, rfl, hown, Lu2⟩
        obtain ⟨ta, tc, rfl, hok0⟩ := ownst_k hown HMB.out
        obtain ⟨lo, hi, hlo, hhi, hok⟩ : ∃ lo hi, (u1.heap.size ≤ lo ∧ lo ≤ hi) ∧ hi ≤ u2.heap.size ∧ OwK lo hi u2 g (.slice ta ts.length tc) ms ts := ⟨_, _, ⟨Nat.le_refl _, Lu2.size⟩, Nat.le_refl _, hok0⟩
        have zu2 := Lu2.size
        have Bu2 := chain Bu1 Lu2
        replace hO := (Lu2.block Ob (by omega)).trans hO
        refine hK.out _ _ Bu2 (fun _ => ?_)
        clear hK K Lu2 hown hok0
        refine calm_one 7 (by kernel_rfl) rfl (fun K hK => ?_)
        go_simp
        obtain ⟨u3, hu3⟩ : ∃ w0, u2.alloc (.cells #[.int .i64 0, .slice none 0 0] 29) = w0 := ⟨_, rfl⟩
        have Lu3 : Below u2.heap.size u2 u3 := by rw [← hu3]; exact (Below.refl _ _).alloc (Nat.le_refl _) _
        obtain ⟨Mb, hMb⟩ : ∃ q, u2.heap.size = q := ⟨_, rfl⟩
        have hM : Two u3 Mb (.int .i64 0) (.slice none 0 0) 29 := by rw [← hu3, ← hMb]; exact Two.new u2 _ _ _
        have zu3 : u2.heap.size < u3.heap.size := by rw [← hu3]; simp
        have zMb : u2.heap.size ≤ Mb ∧ Mb < u3.heap.size := by omega
        first | rw [hu3] | skip
        first | rw [hMb] | skip
        have Bu3 := chain Bu2 Lu3
        replace hO := (Lu3.block Ob (by omega)).trans hO
        replace hok := hok.sm (w' := u3) (by omega) (fun b _ h2 => Lu3.block b (by omega))
        refine hK.out _ _ Bu3 (fun _ => ?_)
        clear hK K Lu3 hu3 hMb
        refine calm_one 8 (by kernel_rfl) rfl (fun K hK => ?_)
        obtain ⟨r0, r1, r2, r3, r4, rf, hrl⟩ := five_cells hO
        have rf0 := rf 0
        have rf1 := rf 1
        have rf2 := rf 2
        have rf3 := rf 3
        have rf4 := rf 4
        have t6 : _ = some (Obj.cells #[.int .i64 wd, .slice (some ⟨g, 0, none⟩) ms.length ms.length, .int .i64 d, .slice ta ts.length tc, .int .i64 nx] 52) := five_all hO
        go_simp
        obtain ⟨u4, hu4⟩ : ∃ u4, ((((u3.setCell ⟨Ob, 0, none⟩ (.int .i64 wd)).setCell ⟨Ob, 1, none⟩ (.slice (some ⟨g, 0, none⟩) ms.length ms.length)).setCell ⟨Ob, 2, none⟩ (.int .i64 d)).setCell ⟨Ob, 3, none⟩ (.slice ta ts.length tc)).setCell ⟨Ob, 4, none⟩ (.int .i64 nx) = u4 := ⟨_, rfl⟩
        have far : ∀ b, b ≠ Ob → u4.heap[b]? = u3.heap[b]? := fun b hb => by rw [← hu4]; exact five_far hb
        have zu4 : u3.heap.size ≤ u4.heap.size ∧ u4.heap.size ≤ u3.heap.size := by rw [← hu4]; simp [World.setCell]
        have ho : W0.heap.size ≤ Ob := by have := W0z; omega
        have Bu4 : Below W0.heap.size W0 u4 := by rw [← hu4]; exact (((((Bu3.setCell (p := ⟨Ob, 0, none⟩) ho _).setCell (p := ⟨Ob, 1, none⟩) ho _).setCell (p := ⟨Ob, 2, none⟩) ho _).setCell (p := ⟨Ob, 3, none⟩) ho _).setCell (p := ⟨Ob, 4, none⟩) ho _)
        rw [hu4] at t6
        replace hO := t6
        replace hok := hok.sm (w' := u4) (by omega) (fun b h1 h2 => far b (by omega))
        replace hM : Two u4 Mb (.int .i64 0) (.slice none 0 0) 29 := (far Mb (by omega)).trans hM
        first | rw [hu4] | skip
        have ho0 := ho
        clear ho
        refine hK.out _ _ Bu4 (fun _ => ?_)
        clear hK K hu4 t6 rf r0 r1 r2 r3 r4 rf0 rf1 rf2 rf3 rf4 far hrl
        refine calm_one 9 (by kernel_rfl) rfl (fun K hK => ?_)
        have x0 := hM.c0
        have x1 := hM.c1
        have xf0 := hM.frozen 0
        have xf1 := hM.frozen 1
        go_simp
        obtain ⟨u5, hu5⟩ : ∃ wz, (u4.setCell ⟨Mb, 0, none⟩ (.int .i64 nx)).setCell ⟨Mb, 1, none⟩ (.slice ap p.length cp) = wz := ⟨_, rfl⟩
        have far : ∀ b, b ≠ Mb → u5.heap[b]? = u4.heap[b]? := fun b hb => by rw [← hu5]; exact (Below.heap_setCell _ ⟨Mb, 1, none⟩ _ b (fun e => hb e)).trans (Below.heap_setCell _ ⟨Mb, 0, none⟩ _ b (fun e => hb e))
        have zu5 : u4.heap.size ≤ u5.heap.size ∧ u5.heap.size ≤ u4.heap.size := by rw [← hu5, setCell_size, setCell_size]; omega
        have ho : W0.heap.size ≤ Mb := by have := W0z; omega
        have Bu5 : Below W0.heap.size W0 u5 := by rw [← hu5]; exact (Bu4.setCell (p := ⟨Mb, 0, none⟩) ho _).setCell (p := ⟨Mb, 1, none⟩) ho _
        replace hO : u5.heap[Ob]? = some (.cells #[.int .i64 wd, .slice (some ⟨g, 0, none⟩) ms.length ms.length, .int .i64 d, .slice ta ts.length tc, .int .i64 nx] 52) := (far Ob (by omega)).trans hO
        replace hok := hok.sm (w' := u5) (by omega) (fun b h1 h2 => far b (by omega))
        replace hM : Two u5 Mb (.int .i64 nx) (.slice ap p.length cp) 29 := by rw [← hu5]; exact (hM.set0 _).set1 _
        first | rw [hu5] | skip
        refine hK.out _ _ Bu5 (fun _ => ?_)
        clear hK K hu5 x0 x1 xf0 xf1
        refine wpAnyH_done (by kernel_rfl) ?_ _
        refine NoPanic.normal ?_
        try simp only [Exit.then]
        go_wp2_with fail
        go_meet
        exact ⟨Ob, Mb, g, ta, tc, lo, hi, rfl, rfl, hO, hM, hok, ⟨by omega, by omega, by omega, ho0, ho, by omega, by omega, by omega⟩, Bu5⟩
      · go_simp
        obtain ⟨u2, hu2⟩ : ∃ w0, u1.alloc (.cells #[.int .i64 0, .slice none 0 0] 29) = w0 := ⟨_, rfl⟩
        have Lu2 : Below u1.heap.size u1 u2 := by rw [← hu2]; exact (Below.refl _ _).alloc (Nat.le_refl _) _
        obtain ⟨Mb, hMb⟩ : ∃ q, u1.heap.size = q := ⟨_, rfl⟩
        have hM : Two u2 Mb (.int .i64 0) (.slice none 0 0) 29 := by rw [← hu2, ← hMb]; exact Two.new u1 _ _ _
        have zu2 : u1.heap.size < u2.heap.size := by rw [← hu2]; simp
        have zMb : u1.heap.size ≤ Mb ∧ Mb < u2.heap.size := by omega
        first | rw [hu2] | skip
        first | rw [hMb] | skip
        have Bu2 := chain Bu1 Lu2
        replace hO := (Lu2.block Ob (by omega)).trans hO
        refine hK.out _ _ Bu2 (fun _ => ?_)
        clear hK K Lu2 hu2 hMb
        refine calm_one 1 (by kernel_rfl) rfl (fun K hK => ?_)
        go_simp
        refine (HOS.out u2 Bu2).mono ?_
        rintro e u3 ⟨g, tt, rfl, hown, Lu3⟩
        obtain ⟨ta, tc, rfl, hok0⟩ := ownst_k hown HMB.out
        obtain ⟨lo, hi, hlo, hhi, hok⟩ : ∃ lo hi, (u2.heap.size ≤ lo ∧ lo ≤ hi) ∧ hi ≤ u3.heap.size ∧ OwK lo hi u3 g (.slice ta ts.length tc) ms ts := ⟨_, _, ⟨Nat.le_refl _, Lu3.size⟩, Nat.le_refl _, hok0⟩
        have zu3 := Lu3.size
        have Bu3 := chain Bu2 Lu3
        replace hO := (Lu3.block Ob (by omega)).trans hO
        replace hM := hM.below Lu3
        refine hK.out _ _ Bu3 (fun _ => ?_)
        clear hK K Lu3 hown hok0
        refine calm_one 8 (by kernel_rfl) rfl (fun K hK => ?_)
        obtain ⟨r0, r1, r2, r3, r4, rf, hrl⟩ := five_cells hO
        have rf0 := rf 0
        have rf1 := rf 1
        have rf2 := rf 2
        have rf3 := rf 3
        have rf4 := rf 4
        have t6 : _ = some (Obj.cells #[.int .i64 wd, .slice (some ⟨g, 0, none⟩) ms.length ms.length, .int .i64 d, .slice ta ts.length tc, .int .i64 nx] 52) := five_all hO
        go_simp
        obtain ⟨u4, hu4⟩ : ∃ u4, ((((u3.setCell ⟨Ob, 0, none⟩ (.int .i64 wd)).setCell ⟨Ob, 1, none⟩ (.slice (some ⟨g, 0, none⟩) ms.length ms.length)).setCell ⟨Ob, 2, none⟩ (.int .i64 d)).setCell ⟨Ob, 3, none⟩ (.slice ta ts.length tc)).setCell ⟨Ob, 4, none⟩ (.int .i64 nx) = u4 := ⟨_, rfl⟩
        have far : ∀ b, b ≠ Ob → u4.heap[b]? = u3.heap[b]? := fun b hb => by rw [← hu4]; exact five_far hb
        have zu4 : u3.heap.size ≤ u4.heap.size ∧ u4.heap.size ≤ u3.heap.size := by rw [← hu4]; simp [World.setCell]
        have ho : W0.heap.size ≤ Ob := by have := W0z; omega
        have Bu4 : Below W0.heap.size W0 u4 := by rw [← hu4]; exact (((((Bu3.setCell (p := ⟨Ob, 0, none⟩) ho _).setCell (p := ⟨Ob, 1, none⟩) ho _).setCell (p := ⟨Ob, 2, none⟩) ho _).setCell (p := ⟨Ob, 3, none⟩) ho _).setCell (p := ⟨Ob, 4, none⟩) ho _)
        rw [hu4] at t6
        replace hO := t6
        replace hok := hok.sm (w' := u4) (by omega) (fun b h1 h2 => far b (by omega))
        replace hM : Two u4 Mb (.int .i64 0) (.slice none 0 0) 29 := (far Mb (by omega)).trans hM
        first | rw [hu4] | skip
        have ho0 := ho
        clear ho
        refine hK.out _ _ Bu4 (fun _ => ?_)
        clear hK K hu4 t6 rf r0 r1 r2 r3 r4 rf0 rf1 rf2 rf3 rf4 far hrl
        refine calm_one 9 (by kernel_rfl) rfl (fun K hK => ?_)
        have x0 := hM.c0
        have x1 := hM.c1
        have xf0 := hM.frozen 0
        have xf1 := hM.frozen 1
        go_simp
        obtain ⟨u5, hu5⟩ : ∃ wz, (u4.setCell ⟨Mb, 0, none⟩ (.int .i64 nx)).setCell ⟨Mb, 1, none⟩ (.slice ap p.length cp) = wz := ⟨_, rfl⟩
        have far : ∀ b, b ≠ Mb → u5.heap[b]? = u4.heap[b]? := fun b hb => by rw [← hu5]; exact (Below.heap_setCell _ ⟨Mb, 1, none⟩ _ b (fun e => hb e)).trans (Below.heap_setCell _ ⟨Mb, 0, none⟩ _ b (fun e => hb e))
        have zu5 : u4.heap.size ≤ u5.heap.size ∧ u5.heap.size ≤ u4.heap.size := by rw [← hu5, setCell_size, setCell_size]; omega
        have ho : W0.heap.size ≤ Mb := by have := W0z; omega
        have Bu5 : Below W0.heap.size W0 u5 := by rw [← hu5]; exact (Bu4.setCell (p := ⟨Mb, 0, none⟩) ho _).setCell (p := ⟨Mb, 1, none⟩) ho _
        replace hO : u5.heap[Ob]? = some (.cells #[.int .i64 wd, .slice (some ⟨g, 0, none⟩) ms.length ms.length, .int .i64 d, .slice ta ts.length tc, .int .i64 nx] 52) := (far Ob (by omega)).trans hO
        replace hok := hok.sm (w' := u5) (by omega) (fun b h1 h2 => far b (by omega))
        replace hM : Two u5 Mb (.int .i64 nx) (.slice ap p.length cp) 29 := by rw [← hu5]; exact (hM.set0 _).set1 _
        first | rw [hu5] | skip
        refine hK.out _ _ Bu5 (fun _ => ?_)
        clear hK K hu5 x0 x1 xf0 xf1
        refine wpAnyH_done (by kernel_rfl) ?_ _
        refine NoPanic.normal ?_
        try simp only [Exit.then]
        go_wp2_with fail
        go_meet
        exact ⟨Ob, Mb, g, ta, tc, lo, hi, rfl, rfl, hO, hM, hok, ⟨by omega, by omega, by omega, ho0, ho, by omega, by omega, by omega⟩, Bu5⟩
    · go_simp
      obtain ⟨u1, hu1⟩ : ∃ w0, u0.alloc (.cells #[.int .i64 0, .slice none 0 0] 29) = w0 := ⟨_, rfl⟩
      have Lu1 : Below u0.heap.size u0 u1 := by rw [← hu1]; exact (Below.refl _ _).alloc (Nat.le_refl _) _
      obtain ⟨Mb, hMb⟩ : ∃ q, u0.heap.size = q := ⟨_, rfl⟩
      have hM : Two u1 Mb (.int .i64 0) (.slice none 0 0) 29 := by rw [← hu1, ← hMb]; exact Two.new u0 _ _ _
      have zu1 : u0.heap.size < u1.heap.size := by rw [← hu1]; simp
      have zMb : u0.heap.size ≤ Mb ∧ Mb < u1.heap.size := by omega
      first | rw [hu1] | skip
      first | rw [hMb] | skip
      have Bu1 := chain Bu0 Lu1
      refine hK.out _ _ Bu1 (fun _ => ?_)
      clear hK K Lu1 hu1 hMb
      refine calm_two14 1 6 (by kernel_rfl) rfl rfl (fun K hK => ?_) (fun K hK => ?_)
      · go_simp
        refine (HOS.out u1 Bu1).mono ?_
        rintro e u2 ⟨g, tt, rfl, hown, Lu2⟩
        obtain ⟨ta, tc, rfl, hok0⟩ := ownst_k hown HMB.out
        obtain ⟨lo, hi, hlo, hhi, hok⟩ : ∃ lo hi, (u1.heap.size ≤ lo ∧ lo ≤ hi) ∧ hi ≤ u2.heap.size ∧ OwK lo hi u2 g (.slice ta ts.length tc) ms ts := ⟨_, _, ⟨Nat.le_refl _, Lu2.size⟩, Nat.le_refl _, hok0⟩
        have zu2 := Lu2.size
        have Bu2 := chain Bu1 Lu2
        replace hM := hM.below Lu2
        refine hK.out _ _ Bu2 (fun _ => ?_)
        clear hK K Lu2 hown hok0
        refine calm_one 6 (by kernel_rfl) rfl (fun K hK => ?_)
        go_simp
        obtain ⟨u3, hu3⟩ : ∃ w0, u2.alloc (.cells #[.int .i64 0, .slice none 0 0, .int .i64 0, .slice none 0 0, .int .i64 0] 52) = w0 := ⟨_, rfl⟩
        have Lu3 : Below u2.heap.size u2 u3 := by rw [← hu3]; exact (Below.refl _ _).alloc (Nat.le_refl _) _
        obtain ⟨Ob, hOb⟩ : ∃ q, u2.heap.size = q := ⟨_, rfl⟩
        have hO : u3.heap[Ob]? = some (.cells #[.int .i64 0, .slice none 0 0, .int .i64 0, .slice none 0 0, .int .i64 0] 52) := by rw [← hu3, ← hOb]; exact heap_alloc_new u2 _
        have zu3 : u2.heap.size < u3.heap.size := by rw [← hu3]; simp
        have zOb : u2.heap.size ≤ Ob ∧ Ob < u3.heap.size := by omega
        first | rw [hu3] | skip
        first | rw [hOb] | skip
        have Bu3 := chain Bu2 Lu3
        replace hM := hM.below Lu3
        replace hok := hok.sm (w' := u3) (by omega) (fun b _ h2 => Lu3.block b (by omega))
        refine hK.out _ _ Bu3 (fun _ => ?_)
        clear hK K Lu3 hu3 hOb
        refine calm_one 8 (by kernel_rfl) rfl (fun K hK => ?_)
        obtain ⟨r0, r1, r2, r3, r4, rf, hrl⟩ := five_cells hO
        have rf0 := rf 0
        have rf1 := rf 1
        have rf2 := rf 2
        have rf3 := rf 3
        have rf4 := rf 4
        have t6 : _ = some (Obj.cells #[.int .i64 wd, .slice (some ⟨g, 0, none⟩) ms.length ms.length, .int .i64 d, .slice ta ts.length tc, .int .i64 nx] 52) := five_all hO
        go_simp
        obtain ⟨u4, hu4⟩ : ∃ u4, ((((u3.setCell ⟨Ob, 0, none⟩ (.int .i64 wd)).setCell ⟨Ob, 1, none⟩ (.slice (some ⟨g, 0, none⟩) ms.length ms.length)).setCell ⟨Ob, 2, none⟩ (.int .i64 d)).setCell ⟨Ob, 3, none⟩ (.slice ta ts.length tc)).setCell ⟨Ob, 4, none⟩ (.int .i64 nx) = u4 := ⟨_, rfl⟩
        have far : ∀ b, b ≠ Ob → u4.heap[b]? = u3.heap[b]? := fun b hb => by rw [← hu4]; exact five_far hb
        have zu4 : u3.heap.size ≤ u4.heap.size ∧ u4.heap.size ≤ u3.heap.size := by rw [← hu4]; simp [World.setCell]
        have ho : W0.heap.size ≤ Ob := by have := W0z; omega
        have Bu4 : Below W0.heap.size W0 u4 := by rw [← hu4]; exact (((((Bu3.setCell (p := ⟨Ob, 0, none⟩) ho _).setCell (p := ⟨Ob, 1, none⟩) ho _).setCell (p := ⟨Ob, 2, none⟩) ho _).setCell (p := ⟨Ob, 3, none⟩) ho _).setCell (p := ⟨Ob, 4, none⟩) ho _)
        rw [hu4] at t6
        replace hO := t6
        replace hok := hok.sm (w' := u4) (by omega) (fun b h1 h2 => far b (by omega))
        replace hM : Two u4 Mb (.int .i64 0) (.slice none 0 0) 29 := (far Mb (by omega)).trans hM
        first | rw [hu4] | skip
        have ho0 := ho
        clear ho
        refine hK.out _ _ Bu4 (fun _ => ?_)
        clear hK K hu4 t6 rf r0 r1 r2 r3 r4 rf0 rf1 rf2 rf3 rf4 far hrl
        refine calm_one 9 (by kernel_rfl) rfl (fun K hK => ?_)
        have x0 := hM.c0
        have x1 := hM.c1
        have xf0 := hM.frozen 0
        have xf1 := hM.frozen 1
        go_simp
        obtain ⟨u5, hu5⟩ : ∃ wz, (u4.setCell ⟨Mb, 0, none⟩ (.int .i64 nx)).setCell ⟨Mb, 1, none⟩ (.slice ap p.length cp) = wz := ⟨_, rfl⟩
        have far : ∀ b, b ≠ Mb → u5.heap[b]? = u4.heap[b]? := fun b hb => by rw [← hu5]; exact (Below.heap_setCell _ ⟨Mb, 1, none⟩ _ b (fun e => hb e)).trans (Below.heap_setCell _ ⟨Mb, 0, none⟩ _ b (fun e => hb e))
        have zu5 : u4.heap.size ≤ u5.heap.size ∧ u5.heap.size ≤ u4.heap.size := by rw [← hu5, setCell_size, setCell_size]; omega
        have ho : W0.heap.size ≤ Mb := by have := W0z; omega
        have Bu5 : Below W0.heap.size W0 u5 := by rw [← hu5]; exact (Bu4.setCell (p := ⟨Mb, 0, none⟩) ho _).setCell (p := ⟨Mb, 1, none⟩) ho _
        replace hO : u5.heap[Ob]? = some (.cells #[.int .i64 wd, .slice (some ⟨g, 0, none⟩) ms.length ms.length, .int .i64 d, .slice ta ts.length tc, .int .i64 nx] 52) := (far Ob (by omega)).trans hO
        replace hok := hok.sm (w' := u5) (by omega) (fun b h1 h2 => far b (by omega))
        replace hM : Two u5 Mb (.int .i64 nx) (.slice ap p.length cp) 29 := by rw [← hu5]; exact (hM.set0 _).set1 _
        first | rw [hu5] | skip
        refine hK.out _ _ Bu5 (fun _ => ?_)
        clear hK K hu5 x0 x1 xf0 xf1
        refine wpAnyH_done (by kernel_rfl) ?_ _
        refine NoPanic.normal ?_
        try simp only [Exit.then]
        go_wp2_with fail
        go_meet
        exact ⟨Ob, Mb, g, ta, tc, lo, hi, rfl, rfl, hO, hM, hok, ⟨by omega, by omega, by omega, ho0, ho, by omega, by omega, by omega⟩, Bu5⟩
      · go_simp
        obtain ⟨u2, hu2⟩ : ∃ w0, u1.alloc (.cells #[.int .i64 0, .slice none 0 0, .int .i64 0, .slice none 0 0, .int .i64 0] 52) = w0 := ⟨_, rfl⟩
        have Lu2 : Below u1.heap.size u1 u2 := by rw [← hu2]; exact (Below.refl _ _).alloc (Nat.le_refl _) _
        obtain ⟨Ob, hOb⟩ : ∃ q, u1.heap.size = q := ⟨_, rfl⟩
        have hO : u2.heap[Ob]? = some (.cells #[.int .i64 0, .slice none 0 0, .int .i64 0, .slice none 0 0, .int .i64 0] 52) := by rw [← hu2, ← hOb]; exact heap_alloc_new u1 _
        have zu2 : u1.heap.size < u2.heap.size := by rw [← hu2]; simp
        have zOb : u1.heap.size ≤ Ob ∧ Ob < u2.heap.size := by omega
        first | rw [hu2] | skip
        first | rw [hOb] | skip
        have Bu2 := chain Bu1 Lu2
        replace hM := hM.below Lu2
        refine hK.out _ _ Bu2 (fun _ => ?_)
        clear hK K Lu2 hu2 hOb
        refine calm_one 1 (by kernel_rfl) rfl (fun K hK => ?_)
        go_simp
        refine (HOS.out u2 Bu2).mono ?_
        rintro e u3 ⟨g, tt, rfl, hown, Lu3⟩
        obtain ⟨ta, tc, rfl, hok0⟩ := ownst_k hown HMB.out
        obtain ⟨lo, hi, hlo, hhi, hok⟩ : ∃ lo hi, (u2.heap.size ≤ lo ∧ lo ≤ hi) ∧ hi ≤ u3.heap.size ∧ OwK lo hi u3 g (.slice ta ts.length tc) ms ts := ⟨_, _, ⟨Nat.le_refl _, Lu3.size⟩, Nat.le_refl _, hok0⟩
        have zu3 := Lu3.size
        have Bu3 := chain Bu2 Lu3
        replace hO := (Lu3.block Ob (by omega)).trans hO
        replace hM := hM.below Lu3
        refine hK.out _ _ Bu3 (fun _ => ?_)
        clear hK K Lu3 hown hok0
        refine calm_one 8 (by kernel_rfl) rfl (fun K hK => ?_)
        obtain ⟨r0, r1, r2, r3, r4, rf, hrl⟩ := five_cells hO
        have rf0 := rf 0
        have rf1 := rf 1
        have rf2 := rf 2
        have rf3 := rf 3
        have rf4 := rf 4
        have t6 : _ = some (Obj.cells #[.int .i64 wd, .slice (some ⟨g, 0, none⟩) ms.length ms.length, .int .i64 d, .slice ta ts.length tc, .int .i64 nx] 52) := five_all hO
        go_simp
        obtain ⟨u4, hu4⟩ : ∃ u4, ((((u3.setCell ⟨Ob, 0, none⟩ (.int .i64 wd)).setCell ⟨Ob, 1, none⟩ (.slice (some ⟨g, 0, none⟩) ms.length ms.length)).setCell ⟨Ob, 2, none⟩ (.int .i64 d)).setCell ⟨Ob, 3, none⟩ (.slice ta ts.length tc)).setCell ⟨Ob, 4, none⟩ (.int .i64 nx) = u4 := ⟨_, rfl⟩
        have far : ∀ b, b ≠ Ob → u4.heap[b]? = u3.heap[b]? := fun b hb => by rw [← hu4]; exact five_far hb
        have zu4 : u3.heap.size ≤ u4.heap.size ∧ u4.heap.size ≤ u3.heap.size := by rw [← hu4]; simp [World.setCell]
        have ho : W0.heap.size ≤ Ob := by have := W0z; omega
        have Bu4 : Below W0.heap.size W0 u4 := by rw [← hu4]; exact (((((Bu3.setCell (p := ⟨Ob, 0, none⟩) ho _).setCell (p := ⟨Ob, 1, none⟩) ho _).setCell (p := ⟨Ob, 2, none⟩) ho _).setCell (p := ⟨Ob, 3, none⟩) ho _).setCell (p := ⟨Ob, 4, none⟩) ho _)
        rw [hu4] at t6
        replace hO := t6
        replace hok := hok.sm (w' := u4) (by omega) (fun b h1 h2 => far b (by omega))
        replace hM : Two u4 Mb (.int .i64 0) (.slice none 0 0) 29 := (far Mb (by omega)).trans hM
        first | rw [hu4] | skip
        have ho0 := ho
        clear ho
        refine hK.out _ _ Bu4 (fun _ => ?_)
        clear hK K hu4 t6 rf r0 r1 r2 r3 r4 rf0 rf1 rf2 rf3 rf4 far hrl
        refine calm_one 9 (by kernel_rfl) rfl (fun K hK => ?_)
        have x0 := hM.c0
        have x1 := hM.c1
        have xf0 := hM.frozen 0
        have xf1 := hM.frozen 1
        go_simp
        obtain ⟨u5, hu5⟩ : ∃ wz, (u4.setCell ⟨Mb, 0, none⟩ (.int .i64 nx)).setCell ⟨Mb, 1, none⟩ (.slice ap p.length cp) = wz := ⟨_, rfl⟩
        have far : ∀ b, b ≠ Mb → u5.heap[b]? = u4.heap[b]? := fun b hb => by rw [← hu5]; exact (Below.heap_setCell _ ⟨Mb, 1, none⟩ _ b (fun e => hb e)).trans (Below.heap_setCell _ ⟨Mb, 0, none⟩ _ b (fun e => hb e))
        have zu5 : u4.heap.size ≤ u5.heap.size ∧ u5.heap.size ≤ u4.heap.size := by rw [← hu5, setCell_size, setCell_size]; omega
        have ho : W0.heap.size ≤ Mb := by have := W0z; omega
        have Bu5 : Below W0.heap.size W0 u5 := by rw [← hu5]; exact (Bu4.setCell (p := ⟨Mb, 0, none⟩) ho _).setCell (p := ⟨Mb, 1, none⟩) ho _
        replace hO : u5.heap[Ob]? = some (.cells #[.int .i64 wd, .slice (some ⟨g, 0, none⟩) ms.length ms.length, .int .i64 d, .slice ta ts.length tc, .int .i64 nx] 52) := (far Ob (by omega)).trans hO
        replace hok := hok.sm (w' := u5) (by omega) (fun b h1 h2 => far b (by omega))
        replace hM : Two u5 Mb (.int .i64 nx) (.slice ap p.length cp) 29 := by rw [← hu5]; exact (hM.set0 _).set1 _
        first | rw [hu5] | skip
        refine hK.out _ _ Bu5 (fun _ => ?_)
        clear hK K hu5 x0 x1 xf0 xf1
        refine wpAnyH_done (by kernel_rfl) ?_ _
        refine NoPanic.normal ?_
        try simp only [Exit.then]
        go_wp2_with fail
        go_meet
        exact ⟨Ob, Mb, g, ta, tc, lo, hi, rfl, rfl, hO, hM, hok, ⟨by omega, by omega, by omega, ho0, ho, by omega, by omega, by omega⟩, Bu5⟩
  case rest =>
    obtain ⟨Ob, Mb, g, ta, tc, lo, hi, rfl, rfl, hO, hM, hok, hnum, L3⟩ := hcut
    generalize hwc : wc = wo at *
    clear hwc wc
    have hI3 := HI1.out.below L3
    have k0 := hI3.c0
    have k1 := hI3.c1
    have k2 := hI3.c2
    have k3 := hI3.c3
    have k4 := hI3.c4
    have m0 := hM.c0
    have m1 := hM.c1
    have HB3 := hidP (chain (chain HB.out HL1.out) L3)
    have HTR3 : Hid (wo.heap[w.heap.size + 1]? = some (.cells #[.int .i64 0, .slice none 0 0, .int .i64 0, .slice none 0 0, .int .i64 0] 52)) := ((chain HL1.out L3).block _ (by have := HSZ.out; omega)).trans HTR.out
    have HZ : Hid (w.heap.size + 1 + 1 ≤ W0.heap.size ∧ W0.heap.size ≤ wo.heap.size ∧ Ob < wo.heap.size ∧ Mb < wo.heap.size) := ⟨by have := HSZ.out; omega, L3.size, (five_cells hO).2.2.2.2.2.2, hM.lt⟩
    obtain ⟨LD, hLD⟩ : ∃ L, raiD (nx, p) ts d = L := ⟨_, rfl⟩
    obtain ⟨LT, hLT⟩ : ∃ L, raiS (nx, p) ts d = L := ⟨_, rfl⟩
    obtain ⟨rr, hrr⟩ : ∃ b, raiR (nx, p) ts d = b := ⟨_, rfl⟩
    have HR : Hid (Calls Tryz.prog 14 #[.agg #[.int .i64 d, .slice aw ts.length cw], .agg #[.int .i64 nx, .slice ap p.length cp]] wo fun e w' => ∃ va vc, e = .returned (.tuple #[.agg #[.int .i64 LD, .slice va LT.length vc], .bool rr]) ∧ TsO true (Btw wo.heap.size w'.heap.size) w' (.slice va LT.length vc) LT ∧ Below wo.heap.size wo w') := by
      show Calls _ _ _ _ _
      refine (iRaisedG aw ap cw cp d ts (nx, p) wo hI3.wv (HP.out.1.next HB3.out) HP.out.2 HTW.out.1 HTW.out.2.2.1).mono ?_
      rintro e w' ⟨vt, rfl, ⟨S, vm, vl, ht⟩, L2⟩
      obtain ⟨a', c', rfl, -⟩ := ht.form
      rw [hLD, hrr]
      rw [hLT] at ht ⊢
      exact ⟨a', c', rfl, ht.out, L2⟩
    have HLX := hidP (And.intro hLD (And.intro hLT hrr))
    have HK3 := hidP hI3
    have HO3 := hidP hO
    have HM3 := hidP hM
    have HOK3 := hidP hok
    have HN3 := hidP hnum
    clear hM hok L3 hO hLD hLT hrr hI3 hnum HOS HS0 BL0 W0z
    go_wp2_with fail
    refine HR.out.mono ?_
    rintro e w4 ⟨va, vc, rfl, ht4, L4⟩
    obtain ⟨w5, hw5⟩ : ∃ w5, w4.alloc (.cells #[.int .i64 LD, .slice va LT.length vc] 26) = w5 := ⟨_, rfl⟩
    have L5 : Below w4.heap.size w4 w5 := by rw [← hw5]; exact (Below.refl _ _).alloc (Nat.le_refl _) _
    have HZ5 : Hid (w5.heap.size = w4.heap.size + 1 ∧ wo.heap.size ≤ w4.heap.size) := ⟨by rw [← hw5]; simp, L4.size⟩
    have HT5 : Hid (Two w5 w4.heap.size (.int .i64 LD) (.slice va LT.length vc) 26) := by show Two _ _ _ _ _; rw [← hw5]; exact Two.new w4 _ _ _
    have HX5 := hidP (ht4.next L5)
    have HL5 := hidP (chain L4 L5)
    have HW5 := hidP hw5
    clear ht4 L4 L5 hw5 HR
    go_upto_region 5 with fail
    rw [HW5.out]
    clear k0 k1 k2 k3 k4 m0 m1
    have hI5 := HK3.out.below HL5.out
    have k0 := hI5.c0
    have k1 := hI5.c1
    have k2 := hI5.c2
    have k3 := hI5.c3
    have k4 := hI5.c4
    clear hI5
    rcases rr with _ | _
    · have HNO : Hid (kpB wd nx d p ts = false) := by show _ = _; unfold kpB; rw [HLX.out.2.2]; simp
      have hz := HZ.out
      have hn3 := HN3.out
      have hl := HL5.out.size
      have tO : w5.heap[Ob]? = some (.cells #[.int .i64 wd, .slice (some ⟨g, 0, none⟩) ms.length ms.length, .int .i64 d, .slice ta ts.length tc, .int .i64 nx] 52) := (HL5.out.block Ob (by omega)).trans HO3.out
      obtain ⟨f0, f1, f2, f3, f4, -, -⟩ := five_cells tO
      have tr : w5.heap[w.heap.size + 1]? = some (.cells #[.int .i64 0, .slice none 0 0, .int .i64 0, .slice none 0 0, .int .i64 0] 52) := (HL5.out.block _ (by omega)).trans HTR3.out
      obtain ⟨r0, r1, r2, r3, r4, rf, hrl⟩ := five_cells tr
      have rf0 := rf 0
      have rf1 := rf 1
      have rf2 := rf 2
      have rf3 := rf 3
      have rf4 := rf 4
      have t6 : _ = some (Obj.cells #[.int .i64 wd, .slice (some ⟨g, 0, none⟩) ms.length ms.length, .int .i64 d, .slice ta ts.length tc, .int .i64 nx] 52) := five_all tr
      obtain ⟨q0, q1, q2, q3, q4, -, -⟩ := five_cells t6
      obtain ⟨wz, hwz⟩ : ∃ wz, ((((w5.setCell ⟨w.heap.size + 1, 0, none⟩ (.int .i64 wd)).setCell ⟨w.heap.size + 1, 1, none⟩ (.slice (some ⟨g, 0, none⟩) ms.length ms.length)).setCell ⟨w.heap.size + 1, 2, none⟩ (.int .i64 d)).setCell ⟨w.heap.size + 1, 3, none⟩ (.slice ta ts.length tc)).setCell ⟨w.heap.size + 1, 4, none⟩ (.int .i64 nx) = wz := ⟨_, rfl⟩
      have far : ∀ b, b ≠ w.heap.size + 1 → wz.heap[b]? = w5.heap[b]? := fun b hb => by rw [← hwz]; exact five_far hb
      have hsw : wz.heap.size = w5.heap.size := by rw [← hwz]; simp [World.setCell]
      have ho : w.heap.size ≤ w.heap.size + 1 := by omega
      have BZ : Below w.heap.size w wz := by
        rw [← hwz]
        have hb := chain HB3.out HL5.out
        exact (((((hb.setCell (p := ⟨w.heap.size + 1, 0, none⟩) ho _).setCell (p := ⟨w.heap.size + 1, 1, none⟩) ho _).setCell (p := ⟨w.heap.size + 1, 2, none⟩) ho _).setCell (p := ⟨w.heap.size + 1, 3, none⟩) ho _).setCell (p := ⟨w.heap.size + 1, 4, none⟩) ho _)
      have hst : StO true (Btw w.heap.size wz.heap.size) wz (.agg #[.int .i64 wd, .slice (some ⟨g, 0, none⟩) ms.length ms.length, .int .i64 d, .slice ta ts.length tc, .int .i64 nx]) wd ms d ts nx := by
        obtain ⟨ds, F, h1, h2, h3, h4, h5⟩ := HOK3.out.sm (w' := wz) (by omega) (fun b hb1 hb2 => (far b (by omega)).trans (HL5.out.block b (by omega)))
        exact kp_sto wd d nx h2 h1 rfl (marksB_len HMB.out) (marks_at18 HMB.out) h3 (fun b hb => ⟨by have := (h4 b hb).1; omega, (h4 b hb).2.2⟩) (fun b hb => by have := (h5 b hb).1; omega)
      have HST7 := hidP (And.intro hst BZ)
      have HWZ := hidP hwz
      clear hst BZ far hsw hwz tr t6 rf tO hz hn3 hl ho hrl
      go_wp2_with fail
      refine bodyPost_ret (v := .tuple #[.agg #[.int .i64 wd, .slice (some ⟨g, 0, none⟩) ms.length ms.length, .int .i64 d, .slice ta ts.length tc, .int .i64 nx], .int .i64 (-1)]) (by simp [results, Tryz.results32, go_sem, q0, q1, q2, q3, q4]) rfl ?_
      rw [HWZ.out, HNO.out]
      exact ⟨_, rfl, HST7.out.1, HST7.out.2⟩
    have HOKP := hidP (rai_ok HTW.out.1 HLX.out.2.2)
    have HA := hidP (iAsWide ms.length ts.length am aw ap cm cw cp p.length wd d nx w5)
    by_cases hlw : ¬ (p.length : Int) = wd
    · have HNO : Hid (kpB wd nx d p ts = false) := by show _ = _; unfold kpB; rw [decide_eq_false hlw]; simp
      rw [decide_eq_false hlw] at HA
      go_wp2_with fail
      refine HA.out.mono ?_
      rintro e w6 ⟨rfl, L6⟩
      have HL6 := hidP (chain HL5.out L6)
      clear L6 k0 k1 k2 k3 k4
      have hz := HZ.out
      have hn3 := HN3.out
      have hl := HL6.out.size
      have tO : w6.heap[Ob]? = some (.cells #[.int .i64 wd, .slice (some ⟨g, 0, none⟩) ms.length ms.length, .int .i64 d, .slice ta ts.length tc, .int .i64 nx] 52) := (HL6.out.block Ob (by omega)).trans HO3.out
      obtain ⟨f0, f1, f2, f3, f4, -, -⟩ := five_cells tO
      have tr : w6.heap[w.heap.size + 1]? = some (.cells #[.int .i64 0, .slice none 0 0, .int .i64 0, .slice none 0 0, .int .i64 0] 52) := (HL6.out.block _ (by omega)).trans HTR3.out
      obtain ⟨r0, r1, r2, r3, r4, rf, hrl⟩ := five_cells tr
      have rf0 := rf 0
      have rf1 := rf 1
      have rf2 := rf 2
      have rf3 := rf 3
      have rf4 := rf 4
      have t6 : _ = some (Obj.cells #[.int .i64 wd, .slice (some ⟨g, 0, none⟩) ms.length ms.length, .int .i64 d, .slice ta ts.length tc, .int .i64 nx] 52) := five_all tr
      obtain ⟨q0, q1, q2, q3, q4, -, -⟩ := five_cells t6
      obtain ⟨wz, hwz⟩ : ∃ wz, ((((w6.setCell ⟨w.heap.size + 1, 0, none⟩ (.int .i64 wd)).setCell ⟨w.heap.size + 1, 1, none⟩ (.slice (some ⟨g, 0, none⟩) ms.length ms.length)).setCell ⟨w.heap.size + 1, 2, none⟩ (.int .i64 d)).setCell ⟨w.heap.size + 1, 3, none⟩ (.slice ta ts.length tc)).setCell ⟨w.heap.size + 1, 4, none⟩ (.int .i64 nx) = wz := ⟨_, rfl⟩
      have far : ∀ b, b ≠ w.heap.size + 1 → wz.heap[b]? = w6.heap[b]? := fun b hb => by rw [← hwz]; exact five_far hb
      have hsw : wz.heap.size = w6.heap.size := by rw [← hwz]; simp [World.setCell]
      have ho : w.heap.size ≤ w.heap.size + 1 := by omega
      have BZ : Below w.heap.size w wz := by
        rw [← hwz]
        have hb := chain HB3.out HL6.out
        exact (((((hb.setCell (p := ⟨w.heap.size + 1, 0, none⟩) ho _).setCell (p := ⟨w.heap.size + 1, 1, none⟩) ho _).setCell (p := ⟨w.heap.size + 1, 2, none⟩) ho _).setCell (p := ⟨w.heap.size + 1, 3, none⟩) ho _).setCell (p := ⟨w.heap.size + 1, 4, none⟩) ho _)
      have hst : StO true (Btw w.heap.size wz.heap.size) wz (.agg #[.int .i64 wd, .slice (some ⟨g, 0, none⟩) ms.length ms.length, .int .i64 d, .slice ta ts.length tc, .int .i64 nx]) wd ms d ts nx := by
        obtain ⟨ds, F, h1, h2, h3, h4, h5⟩ := HOK3.out.sm (w' := wz) (by omega) (fun b hb1 hb2 => (far b (by omega)).trans (HL6.out.block b (by omega)))
        exact kp_sto wd d nx h2 h1 rfl (marksB_len HMB.out) (marks_at18 HMB.out) h3 (fun b hb => ⟨by have := (h4 b hb).1; omega, (h4 b hb).2.2⟩) (fun b hb => by have := (h5 b hb).1; omega)
      have HST7 := hidP (And.intro hst BZ)
      have HWZ := hidP hwz
      clear hst BZ far hsw hwz tr t6 rf tO hz hn3 hl ho hrl
      go_wp2_with fail
      refine bodyPost_ret (v := .tuple #[.agg #[.int .i64 wd, .slice (some ⟨g, 0, none⟩) ms.length ms.length, .int .i64 d, .slice ta ts.length tc, .int .i64 nx], .int .i64 (-1)]) (by simp [results, Tryz.results32, go_sem, q0, q1, q2, q3, q4]) rfl ?_
      rw [HWZ.out, HNO.out]
      exact ⟨_, rfl, HST7.out.1, HST7.out.2⟩
    replace hlw : (p.length : Int) = wd := Classical.not_not.1 hlw
    rw [decide_eq_true hlw] at HA
    by_cases hnx : nx = 1000000
    · have HNO : Hid (kpB wd nx d p ts = false) := by show _ = _; unfold kpB; rw [decide_eq_true hnx]; simp
      have hne : (nx == 1000000) = true := by simp; exact hnx
      clear hnx
      go_wp2_with fail
      refine HA.out.mono ?_
      rintro e w6 ⟨rfl, L6⟩
      have HL6 := hidP (chain HL5.out L6)
      have hI6 := HK3.out.below HL6.out
      replace k0 := hI6.c0
      replace k1 := hI6.c1
      replace k2 := hI6.c2
      replace k3 := hI6.c3
      replace k4 := hI6.c4
      clear L6 hI6
      have hz := HZ.out
      have hn3 := HN3.out
      have hl := HL6.out.size
      have tO : w6.heap[Ob]? = some (.cells #[.int .i64 wd, .slice (some ⟨g, 0, none⟩) ms.length ms.length, .int .i64 d, .slice ta ts.length tc, .int .i64 nx] 52) := (HL6.out.block Ob (by omega)).trans HO3.out
      obtain ⟨f0, f1, f2, f3, f4, -, -⟩ := five_cells tO
      have tr : w6.heap[w.heap.size + 1]? = some (.cells #[.int .i64 0, .slice none 0 0, .int .i64 0, .slice none 0 0, .int .i64 0] 52) := (HL6.out.block _ (by omega)).trans HTR3.out
      obtain ⟨r0, r1, r2, r3, r4, rf, hrl⟩ := five_cells tr
      have rf0 := rf 0
      have rf1 := rf 1
      have rf2 := rf 2
      have rf3 := rf 3
      have rf4 := rf 4
      have t6 : _ = some (Obj.cells #[.int .i64 wd, .slice (some ⟨g, 0, none⟩) ms.length ms.length, .int .i64 d, .slice ta ts.length tc, .int .i64 nx] 52) := five_all tr
      obtain ⟨q0, q1, q2, q3, q4, -, -⟩ := five_cells t6
      obtain ⟨wz, hwz⟩ : ∃ wz, ((((w6.setCell ⟨w.heap.size + 1, 0, none⟩ (.int .i64 wd)).setCell ⟨w.heap.size + 1, 1, none⟩ (.slice (some ⟨g, 0, none⟩) ms.length ms.length)).setCell ⟨w.heap.size + 1, 2, none⟩ (.int .i64 d)).setCell ⟨w.heap.size + 1, 3, none⟩ (.slice ta ts.length tc)).setCell ⟨w.heap.size + 1, 4, none⟩ (.int .i64 nx) = wz := ⟨_, rfl⟩
      have far : ∀ b, b ≠ w.heap.size + 1 → wz.heap[b]? = w6.heap[b]? := fun b hb => by rw [← hwz]; exact five_far hb
      have hsw : wz.heap.size = w6.heap.size := by rw [← hwz]; simp [World.setCell]
      have ho : w.heap.size ≤ w.heap.size + 1 := by omega
      have BZ : Below w.heap.size w wz := by
        rw [← hwz]
        have hb := chain HB3.out HL6.out
        exact (((((hb.setCell (p := ⟨w.heap.size + 1, 0, none⟩) ho _).setCell (p := ⟨w.heap.size + 1, 1, none⟩) ho _).setCell (p := ⟨w.heap.size + 1, 2, none⟩) ho _).setCell (p := ⟨w.heap.size + 1, 3, none⟩) ho _).setCell (p := ⟨w.heap.size + 1, 4, none⟩) ho _)
      have hst : StO true (Btw w.heap.size wz.heap.size) wz (.agg #[.int .i64 wd, .slice (some ⟨g, 0, none⟩) ms.length ms.length, .int .i64 d, .slice ta ts.length tc, .int .i64 nx]) wd ms d ts nx := by
        obtain ⟨ds, F, h1, h2, h3, h4, h5⟩ := HOK3.out.sm (w' := wz) (by omega) (fun b hb1 hb2 => (far b (by omega)).trans (HL6.out.block b (by omega)))
        exact kp_sto wd d nx h2 h1 rfl (marksB_len HMB.out) (marks_at18 HMB.out) h3 (fun b hb => ⟨by have := (h4 b hb).1; omega, (h4 b hb).2.2⟩) (fun b hb => by have := (h5 b hb).1; omega)
      have HST7 := hidP (And.intro hst BZ)
      have HWZ := hidP hwz
      clear hst BZ far hsw hwz tr t6 rf tO hz hn3 hl ho hrl
      go_wp2_with fail
      refine bodyPost_ret (v := .tuple #[.agg #[.int .i64 wd, .slice (some ⟨g, 0, none⟩) ms.length ms.length, .int .i64 d, .slice ta ts.length tc, .int .i64 nx], .int .i64 (-1)]) (by simp [results, Tryz.results32, go_sem, q0, q1, q2, q3, q4]) rfl ?_
      rw [HWZ.out, HNO.out]
      exact ⟨_, rfl, HST7.out.1, HST7.out.2⟩
    have hnn : (nx == 1000000) = false := by simp; exact hnx
    have HYES : Hid (kpB wd nx d p ts = true) := by show _ = _; unfold kpB; rw [HLX.out.2.2, HOKP.out, decide_eq_true hlw, decide_eq_false hnx]; rfl
    clear hnx
    go_wp2_with fail
    refine HA.out.mono ?_
    rintro e w6 ⟨rfl, L6⟩
    have HL6 := hidP (chain HL5.out L6)
    have HL56 := hidP L6
    have hI6 := HK3.out.below HL6.out
    replace k0 := hI6.c0
    replace k1 := hI6.c1
    replace k2 := hI6.c2
    replace k3 := hI6.c3
    replace k4 := hI6.c4
    clear L6 hI6
    go_upto_region 7 with fail
    clear k0 k1 k2 k3 k4
    have hz := HZ.out
    have hn3 := HN3.out
    have hz5 := HZ5.out
    have hl6 := HL56.out.size
    have hO6 : w6.heap[Ob]? = some (.cells #[.int .i64 wd, .slice (some ⟨g, 0, none⟩) ms.length ms.length, .int .i64 d, .slice ta ts.length tc, .int .i64 nx] 52) := (HL6.out.block Ob (by omega)).trans HO3.out
    have hM6 := HM3.out.below HL6.out
    have HO6 := hidP hO6
    have HM6 := hidP hM6
    obtain ⟨ds, F, hds, hdr, htF, hFt, hFb⟩ := HOK3.out.sm (w' := w6) (by omega) (fun b _ hb2 => HL6.out.block b (by omega))
    have hdl : ds.length = ms.length := by rw [← hds, dMarks_length]
    have HDR := hidP (drow_mono18 hdr (show w.heap.size ≤ lo by omega))
    have HFT : Hid (dMarks ds = ms ∧ ds.length = ms.length ∧ ∀ b, FtM g ds b → lo ≤ b ∧ b < hi) := ⟨hds, hdl, fun b hb => ⟨(hFt b hb).1, (hFt b hb).2.1⟩⟩
    have HPL := hidP (okB_len HOKP.out)
    have BS : Hid (Below w6.heap.size w6 w6.drew) := (Below.refl _ _).drew
    have HS6 : Hid (∀ X : World, (∀ b, b < w6.heap.size → b ≠ g → X.heap[b]? = w6.heap[b]?) → X.cell? ⟨Ob, 1, none⟩ = some (.slice (some ⟨g, 0, none⟩) ms.length ms.length) ∧ X.cell? ⟨Mb, 0, none⟩ = some (.int .i64 nx) ∧ X.cell? ⟨Mb, 1, none⟩ = some (.slice ap p.length cp)) := fun X hX => by
      have hz := HZ.out
      have hn := HN3.out
      have hf := HFT.out.2.2 g (Or.inl rfl)
      have h6 := HL6.out.size
      obtain ⟨_, f1, _, _, _, _, _⟩ := five_cells ((hX Ob (by omega) (by omega)).trans HO6.out)
      have hm : Two X Mb (.int .i64 nx) (.slice ap p.length cp) 29 := (hX Mb (by omega) (by omega)).trans HM6.out
      exact ⟨f1, hm.c0, hm.c1⟩
    have HOM : Hid (∀ W', Below w6.heap.size w6 W' → Calls Tryz.prog 130 #[.agg #[.int .i64 nx, .slice ap p.length cp]] W' fun e w' => ∃ h c, e = .returned (.agg #[.int .i64 nx, .slice (some ⟨h, 0, none⟩) p.length c]) ∧ IRow W'.heap.size w' h c p ∧ Below W'.heap.size W' w') := fun W' L' => iOwn15 (nx, ap, cp, p) W' (HP.out.1.next (chain (chain HB3.out HL6.out) L')) (by have := HPL.out; show 0 < p.length; omega) HP.out.2
    clear hO6 hM6 hds hdr htF hFt hFb hdl hz hn3 hz5 hl6
    refine wp_region_calm2 (S := fun X => ∀ b, b < w6.heap.size → b ≠ g → X.heap[b]? = w6.heap[b]?) (fuel := 4) [0, 1, 2] _ rfl (by kernel_rfl) (by kernel_rfl) (by kernel_rfl) (by kernel_rfl) (by kernel_rfl) (by kernel_rfl) (by kernel_rfl) (fun b hb _ => BS.out.block b hb) (fun hS => ?_)
    simp only [List.pop_toArray, List.dropLast]
    iterate 3
      refine ⟨_, rfl, ?_⟩
      apply Exists.intro
      refine ⟨Or.inl ⟨by rfl, fun w' hw' => ?_⟩, ?_⟩
      · obtain ⟨e1, e2, e3⟩ := HS6.out w' hw'
        first
        | (go_simp; done)
        | (go_simp; with_reducible rfl)
      simp only [Act.put, List.getElem_toArray, List.getElem_cons_succ, List.getElem_cons_zero, List.setIfInBounds_toArray, List.set_cons_zero, List.set_cons_succ]
    obtain ⟨u0, hv0⟩ : ∃ w0, w6.drew = w0 := ⟨_, rfl⟩
    have Bu0 : Below w6.heap.size w6 u0 := by rw [← hv0]; exact BS.out
    rw [hv0]
    clear hv0 hS
    refine calm_one 3 (by kernel_rfl) rfl (fun K hK => ?_)
    go_simp
    refine (HOM.out u0 Bu0).mono ?_
    rintro e u1 ⟨hh, hc, rfl, hrow, Lu1⟩
    have Bu1 := chain Bu0 Lu1
    have HR1 : Hid (IRow u0.heap.size u1 hh hc p ∧ w6.heap.size ≤ u0.heap.size) := ⟨hrow, Bu0.size⟩
    refine hK.out _ _ (fun b hb _ => Bu1.block b hb) (fun _ => ?_)
    clear hK K hrow Lu1 Bu0
    refine calm_one 4 (by kernel_rfl) rfl (fun K hK => ?_)
    go_simp
    obtain ⟨u2, hu2⟩ : ∃ w8, u1.alloc (.cells #[.int .i64 nx, .slice (some ⟨hh, 0, none⟩) p.length hc] 29) = w8 := ⟨_, rfl⟩
    have Lu2 : Below u1.heap.size u1 u2 := by rw [← hu2]; exact (Below.refl _ _).alloc (Nat.le_refl _) _
    have hN2 : u2.heap[u1.heap.size]? = some (.cells #[.int .i64 nx, .slice (some ⟨hh, 0, none⟩) p.length hc] 29 (0, 0)) := by rw [← hu2]; exact heap_alloc_new u1 _
    have zu2 : u1.heap.size < u2.heap.size := by rw [← hu2]; simp
    have Bu2 := chain Bu1 Lu2
    have HR2 : Hid (IRow u0.heap.size u2 hh hc p ∧ hh < u1.heap.size) := ⟨HR1.out.1.below Lu2, HR1.out.1.lt.2⟩
    have HD2 : Hid (DRow w.heap.size u2 g ms.length ds) := drow_stay HDR.out (fun b _ h2 => Bu2.block b h2)
    have hD2r : u2.ownsRow w.heap.size 29 2 (.slice (some ⟨g, 0, none⟩) ms.length ms.length) ms.length (dCells ds) := by
      have := HD2.out.1
      rw [HFT.out.2.1] at this
      exact this
    have hml := marksB_len HMB.out
    have hwu : w.heap.size ≤ u2.heap.size := by have := HZ.out; have := HL6.out.size; have := Bu2.size; omega
    first | rw [hu2] | skip
    refine hK.out _ _ (fun b hb _ => Bu2.block b hb) (fun _ => ?_)
    clear hK K hu2
    refine calm_one 5 (by kernel_rfl) rfl (fun K hK => ?_)
    refine step_append_at u2 rfl (.tmp 42) (.tmp 45) 44 rfl w.heap.size 29 j0 _ 2 32 Tryz.underlying44 hj0 hy0 hy1 hy2 rfl (by omega) g ms.length ms.length (dCells ds) rfl hD2r (some ⟨u1.heap.size, 0, none⟩) 1 1 [.int .i64 nx, .slice (some ⟨hh, 0, none⟩) p.length hc] rfl (dmark_src hN2) (by unfold maxLen; omega) (by omega) hwu u2.heap.size rfl ?_
    intro g9 c9 u3 hown hgrow hat hlt9
    have Zf : Hid (lo ≤ g ∧ g < hi ∧ hi ≤ wo.heap.size ∧ ∀ x ∈ ds, x.2.1 < wo.heap.size) := by
      have hn := HN3.out
      have h1 := HFT.out.2.2 g (Or.inl rfl)
      refine ⟨h1.1, h1.2, by omega, fun x hx => ?_⟩
      obtain ⟨i, hi', rfl⟩ := List.getElem_of_mem hx
      have := HFT.out.2.2 _ (Or.inr ⟨i, hi', rfl⟩)
      have e : mdnth ds i = ds[i] := by simp [mdnth, List.getD, hi']
      rw [e] at this
      omega
    have HR3 : Hid (DRow w.heap.size u3 g9 c9 (ds ++ [(nx, hh, hc, p)])) := by
      have hz := HZ.out
      have hf := Zf.out
      have h6 := HL6.out.size
      have h0 := HR1.out.2
      have h1 := HR1.out.1.lt
      refine DRow.snoc HD2.out (irow_low18 HR2.out.1 (by omega)) (by omega) (fun x hx => by have := hf.2.2.2 x hx; omega) (by rw [HFT.out.2.1]; exact hown) hgrow ?_
      rcases hat with e | e
      · exact Or.inl e.symm
      · exact Or.inr e
    have HG9 : Hid (g9 = g ∨ u2.heap.size ≤ g9) := by
      rcases hat with e | e
      · exact Or.inl e.symm
      · exact Or.inr (by omega)
    have Lu3 : Hid (∀ b, b < w6.heap.size → b ≠ g → u3.heap[b]? = w6.heap[b]?) := fun b hb hg => (hgrow.block b (by have := Bu2.size; omega) (fun e => hg (by injection e))).trans (Bu2.block b hb)
    have HZ3 : Hid (u2.heap.size ≤ u3.heap.size ∧ w6.heap.size ≤ u1.heap.size ∧ u1.heap.size < u2.heap.size) := ⟨hgrow.size, Bu1.size, zu2⟩
    have HU3 : Hid (u3.os = w6.os ∧ u3.tape = w6.tape ∧ u3.output = w6.output) := ⟨hgrow.os.trans Bu2.os, hgrow.tape.trans Bu2.tape, hgrow.output.trans Bu2.output⟩
    have HTX3 : Hid (u3.heap[w4.heap.size]? = w5.heap[w4.heap.size]?) := by
      show _ = _
      have h5 := HZ5.out
      have h6 := HL56.out.size
      have hf := Zf.out
      exact (Lu3.out _ (by omega) (by omega)).trans (HL56.out.block _ (by omega))
    refine hK.out _ _ Lu3.out (fun _ => ?_)
    clear hK K hown hgrow hat hlt9 hN2 zu2 hD2r hml hwu Bu2 Lu2 Bu1
    refine calm_one 6 (by kernel_rfl) rfl (fun K hK => ?_)
    go_simp
    refine hK.out _ _ Lu3.out (fun _ => ?_)
    clear hK K
    refine wpAnyH_done (by kernel_rfl) ?_ _
    simp only [Exit.then]
    have HNE : Hid (Ob ≠ g ∧ Mb ≠ g ∧ Ob < w6.heap.size ∧ Mb < w6.heap.size ∧ Ob ≠ Mb ∧ Ob < wo.heap.size ∧ w.heap.size + 1 < Ob ∧ Ob ≠ w4.heap.size ∧ Mb ≠ w.heap.size + 1 ∧ w4.heap.size < u3.heap.size ∧ Ob < u3.heap.size ∧ ¬ (lo ≤ Ob ∧ Ob < hi)) := by
      have hz := HZ.out
      have hn := HN3.out
      have hf := HFT.out.2.2 g (Or.inl rfl)
      have h6 := HL6.out.size
      have h56 := HL56.out.size
      have h3 := HZ3.out
      have h5 := HZ5.out
      refine ⟨by omega, by omega, by omega, by omega, by omega, by omega, by omega, by omega, by omega, by omega, by omega, hn.2.2.2.2.2.2.1⟩
    have hO3 : u3.heap[Ob]? = some (.cells #[.int .i64 wd, .slice (some ⟨g, 0, none⟩) ms.length ms.length, .int .i64 d, .slice ta ts.length tc, .int .i64 nx] 52) := (Lu3.out Ob HNE.out.2.2.1 HNE.out.1).trans HO6.out
    obtain ⟨f0, f1, f2, f3, f4, ff, hDl9⟩ := five_cells hO3
    have ff1 := ff 1
    obtain ⟨wa, hwa⟩ : ∃ wa, u3.setCell ⟨Ob, 1, none⟩ (.slice (some ⟨g9, 0, none⟩) (ms.length + 1) c9) = wa := ⟨_, rfl⟩
    have hOa : wa.heap[Ob]? = some (.cells #[.int .i64 wd, .slice (some ⟨g9, 0, none⟩) (ms.length + 1) c9, .int .i64 d, .slice ta ts.length tc, .int .i64 nx] 52) := by rw [← hwa]; exact heap_setCell_same u3 Ob 1 _ _ _ hO3
    have fara : ∀ b, b ≠ Ob → wa.heap[b]? = u3.heap[b]? := fun b hb => by rw [← hwa]; exact Below.heap_setCell _ ⟨Ob, 1, none⟩ _ b (fun e => hb e)
    have hsa : u3.heap.size = wa.heap.size := by rw [← hwa, setCell_size]
    have HOA := hidP hOa
    have HFA := hidP (And.intro fara hsa)
    have HWA := hidP hwa
    clear hOa fara hsa hwa
    go_wp2_with fail
    refine NoPanic.normal ?_
    first | rw [HWA.out] | skip
    clear f0 f1 f2 f3 f4 ff ff1 hO3 hDl9
    obtain ⟨f0, f1, f2, f3, f4, ff, hDl9⟩ := five_cells HOA.out
    have ff2 := ff 2
    have ff3 := ff 3
    have hTa : Two wa w4.heap.size (.int .i64 LD) (.slice va LT.length vc) 26 := ((HFA.out.1 _ (fun e => HNE.out.2.2.2.2.2.2.2.1 e.symm)).trans HTX3.out).trans HT5.out
    have x0 := hTa.c0
    have x1 := hTa.c1
    obtain ⟨wb, hwb⟩ : ∃ wb, (wa.setCell ⟨Ob, 2, none⟩ (.int .i64 LD)).setCell ⟨Ob, 3, none⟩ (.slice va LT.length vc) = wb := ⟨_, rfl⟩
    have hOb : wb.heap[Ob]? = some (.cells #[.int .i64 wd, .slice (some ⟨g9, 0, none⟩) (ms.length + 1) c9, .int .i64 LD, .slice va LT.length vc, .int .i64 nx] 52) := by
      rw [← hwb]
      have h1 : (wa.setCell ⟨Ob, 2, none⟩ (.int .i64 LD)).heap[Ob]? = some (.cells #[.int .i64 wd, .slice (some ⟨g9, 0, none⟩) (ms.length + 1) c9, .int .i64 LD, .slice ta ts.length tc, .int .i64 nx] 52) := heap_setCell_same wa Ob 2 _ _ _ HOA.out
      exact heap_setCell_same _ Ob 3 _ _ _ h1
    have farb : ∀ b, b ≠ Ob → wb.heap[b]? = wa.heap[b]? := fun b hb => by rw [← hwb]; exact (Below.heap_setCell _ ⟨Ob, 3, none⟩ _ b (fun e => hb e)).trans (Below.heap_setCell _ ⟨Ob, 2, none⟩ _ b (fun e => hb e))
    have hsb : wa.heap.size = wb.heap.size := by rw [← hwb, setCell_size, setCell_size]
    have HOB := hidP hOb
    have HFB := hidP (And.intro farb hsb)
    have HWB := hidP hwb
    clear hOb farb hsb hwb ff hTa
    go_upto_region 9 with fail
    first | rw [HWB.out] | skip
    clear f0 f1 f2 f3 f4 ff2 ff3 hDl9 x0 x1
    obtain ⟨f0, f1, f2, f3, f4, ff, hDl9⟩ := five_cells HOB.out
    have ff4 := ff 4
    obtain ⟨wc, hwc⟩ : ∃ wc, wb.setCell ⟨Ob, 4, none⟩ (.int .i64 (nx + 1)) = wc := ⟨_, rfl⟩
    have hOc : wc.heap[Ob]? = some (.cells #[.int .i64 wd, .slice (some ⟨g9, 0, none⟩) (ms.length + 1) c9, .int .i64 LD, .slice va LT.length vc, .int .i64 (nx + 1)] 52) := by rw [← hwc]; exact heap_setCell_same wb Ob 4 _ _ _ HOB.out
    have farc : ∀ b, b ≠ Ob → wc.heap[b]? = u3.heap[b]? := fun b hb => by rw [← hwc]; exact ((Below.heap_setCell _ ⟨Ob, 4, none⟩ _ b (fun e => hb e)).trans (HFB.out.1 b hb)).trans (HFA.out.1 b hb)
    have hsc : u3.heap.size = wc.heap.size := by rw [← hwc, setCell_size]; exact HFA.out.2.trans HFB.out.2
    have HOC := hidP hOc
    have HFC := hidP (And.intro farc hsc)
    have HWC := hidP hwc
    have hwr : wrap64 (nx + 1) = nx + 1 := by have := HNB.out; unfold wrap64; omega
    clear hOc farc hsc hwc ff
    go_upto_region 10 with fail
    first | rw [hwr, HWC.out] | rw [HWC.out] | skip
    clear f0 f1 f2 f3 f4 ff4 hDl9
    have hM3 : Two wc Mb (.int .i64 nx) (.slice ap p.length cp) 29 := (HFC.out.1 Mb (fun e => HNE.out.2.2.2.2.1 e.symm)).trans ((Lu3.out Mb HNE.out.2.2.2.1 HNE.out.2.1).trans HM6.out)
    have HCE : Hid (∀ W' : World, W'.heap[Ob]? = wc.heap[Ob]? → W'.heap[Mb]? = wc.heap[Mb]? → (W'.cell? ⟨Ob, 0, none⟩ = some (.int .i64 wd) ∧ W'.cell? ⟨Ob, 1, none⟩ = some (.slice (some ⟨g9, 0, none⟩) (ms.length + 1) c9) ∧ W'.cell? ⟨Ob, 2, none⟩ = some (.int .i64 LD) ∧ W'.cell? ⟨Ob, 3, none⟩ = some (.slice va LT.length vc) ∧ W'.cell? ⟨Ob, 4, none⟩ = some (.int .i64 (nx + 1))) ∧ W'.cell? ⟨Mb, 0, none⟩ = some (.int .i64 nx)) := fun W' h1 h2 => by
      obtain ⟨i0, i1, i2, i3, i4, -, -⟩ := five_cells HOC.out
      exact ⟨⟨(World.cell?_of_block (a := ⟨Ob, 0, none⟩) h1).trans i0, (World.cell?_of_block (a := ⟨Ob, 1, none⟩) h1).trans i1, (World.cell?_of_block (a := ⟨Ob, 2, none⟩) h1).trans i2, (World.cell?_of_block (a := ⟨Ob, 3, none⟩) h1).trans i3, (World.cell?_of_block (a := ⟨Ob, 4, none⟩) h1).trans i4⟩, (World.cell?_of_block (a := ⟨Mb, 0, none⟩) h2).trans hM3.c0⟩
    clear hM3
    refine wp_region_takes (S := fun W' => W'.heap[Ob]? = wc.heap[Ob]? ∧ W'.heap[Mb]? = wc.heap[Mb]?) (fuel := 2) [0, 1, 2] (by kernel_rfl) (by kernel_rfl) (by kernel_rfl) (by kernel_rfl) ⟨rfl, rfl⟩ (fun _ => ?_)
    iterate 3
      refine ⟨_, rfl, ?_⟩
      apply Exists.intro
      refine ⟨Or.inl ⟨by rfl, fun w' hw' => ?_⟩, ?_⟩
      · obtain ⟨⟨e1, e2, e3, e4, e5⟩, e6⟩ := HCE.out w' hw'.1 hw'.2
        first
        | (go_simp; done)
        | (go_simp; with_reducible rfl)
      simp only [Act.put, List.getElem_toArray, List.getElem_cons_succ, List.getElem_cons_zero, List.setIfInBounds_toArray, List.set_cons_zero, List.set_cons_succ]
    obtain ⟨V, hV⟩ : ∃ V, wc.drew = V := ⟨_, rfl⟩
    have hVh : V.heap = wc.heap := by rw [← hV]; rfl
    have HVL : Hid (Below wc.heap.size wc V) := by show Below _ _ _; rw [← hV]; exact (Below.refl _ _).drew
    rw [hV]
    clear hV
    have tr5 : V.heap[w.heap.size + 1]? = some (.cells #[.int .i64 0, .slice none 0 0, .int .i64 0, .slice none 0 0, .int .i64 0] 52) := by
      rw [hVh]
      have hz := HZ.out
      have hf := Zf.out
      have hn := HN3.out
      have h6 := HL6.out.size
      have hne := HNE.out
      exact (HFC.out.1 _ (by omega)).trans ((Lu3.out _ (by omega) (by omega)).trans ((HL6.out.block _ (by omega)).trans HTR3.out))
    obtain ⟨r0, r1, r2, r3, r4, rf, hrl⟩ := five_cells tr5
    have rf0 := rf 0
    have rf1 := rf 1
    have rf2 := rf 2
    have rf3 := rf 3
    have rf4 := rf 4
    have t6 : _ = some (Obj.cells #[.int .i64 wd, .slice (some ⟨g9, 0, none⟩) (ms.length + 1) c9, .int .i64 LD, .slice va LT.length vc, .int .i64 (nx + 1)] 52) := five_all tr5
    obtain ⟨q0, q1, q2, q3, q4, -, -⟩ := five_cells t6
    refine calm_one 3 (by kernel_rfl) rfl (fun K hK => ?_)
    go_simp
    obtain ⟨wz, hwz⟩ : ∃ wz, ((((V.setCell ⟨w.heap.size + 1, 0, none⟩ (.int .i64 wd)).setCell ⟨w.heap.size + 1, 1, none⟩ (.slice (some ⟨g9, 0, none⟩) (ms.length + 1) c9)).setCell ⟨w.heap.size + 1, 2, none⟩ (.int .i64 LD)).setCell ⟨w.heap.size + 1, 3, none⟩ (.slice va LT.length vc)).setCell ⟨w.heap.size + 1, 4, none⟩ (.int .i64 (nx + 1)) = wz := ⟨_, rfl⟩
    have far : ∀ b, b ≠ w.heap.size + 1 → wz.heap[b]? = wc.heap[b]? := fun b hb => by rw [← hwz, ← hVh]; exact five_far hb
    have hsw : wz.heap.size = wc.heap.size := by rw [← hwz, ← hVh]; simp [World.setCell]
    have HFZ := hidP (And.intro far hsw)
    have HQ : Hid (wz.cell? ⟨w.heap.size + 1, 0, none⟩ = some (.int .i64 wd) ∧ wz.cell? ⟨w.heap.size + 1, 1, none⟩ = some (.slice (some ⟨g9, 0, none⟩) (ms.length + 1) c9) ∧ wz.cell? ⟨w.heap.size + 1, 2, none⟩ = some (.int .i64 LD) ∧ wz.cell? ⟨w.heap.size + 1, 3, none⟩ = some (.slice va LT.length vc) ∧ wz.cell? ⟨w.heap.size + 1, 4, none⟩ = some (.int .i64 (nx + 1))) := by
      rw [hwz] at q0 q1 q2 q3 q4
      exact ⟨q0, q1, q2, q3, q4⟩
    have HSS : Hid (wz.heap[Ob]? = wc.heap[Ob]? ∧ wz.heap[Mb]? = wc.heap[Mb]?) := ⟨far _ (by have := HNE.out; omega), far _ (by have := HNE.out; omega)⟩
    have HBZ : Hid (wz.os = wc.os ∧ wz.tape = wc.tape ∧ wz.output = wc.output) := by
      have h := HVL.out
      rw [← hwz]
      exact ⟨h.os, h.tape, h.output⟩
    rw [hwz]
    clear far hsw hwz tr5 t6 rf rf0 rf1 rf2 rf3 rf4 r0 r1 r2 r3 r4 q0 q1 q2 q3 q4 hVh HVL hrl
    refine hK.out _ _ HSS.out (fun _ => ?_)
    clear hK K
    refine calm_one 4 (by kernel_rfl) rfl (fun K hK => ?_)
    go_simp
    refine hK.out _ _ HSS.out (fun _ => ?_)
    clear hK K
    refine wpAnyH_done (by kernel_rfl) ?_ _
    refine NoPanic.normal ?_
    try simp only [Exit.then]
    obtain ⟨q0, q1, q2, q3, q4⟩ := HQ.out
    go_wp2_with fail
    refine bodyPost_ret (v := .tuple #[.agg #[.int .i64 wd, .slice (some ⟨g9, 0, none⟩) (ms.length + 1) c9, .int .i64 LD, .slice va LT.length vc, .int .i64 (nx + 1)], .int .i64 nx]) (by simp [results, Tryz.results32, go_sem, q0, q1, q2, q3, q4]) rfl ?_
    have hz := HZ.out
    have hf := Zf.out
    have hn := HN3.out
    have h6 := HL6.out.size
    have h56 := HL56.out.size
    have h5 := HZ5.out
    have h3 := HZ3.out
    have hne := HNE.out
    have h1 := HR1.out
    have h2 := HR2.out.2
    have hlt := HR1.out.1.lt
    have h9 := HG9.out
    have hzz := HFZ.out.2
    have hzc := HFC.out.2
    have hfm : ∀ b, FtM g9 (ds ++ [(nx, hh, hc, p)]) b → w.heap.size + 1 < b ∧ b ≠ Ob ∧ ¬ Btw wo.heap.size w4.heap.size b := fun b hb => by
      have hcs : b = g9 ∨ FtM g ds b ∨ b = hh := by
        rcases hb with hb | ⟨i, hi', rfl⟩
        · exact Or.inl hb
        · rw [List.length_append, List.length_singleton] at hi'
          rcases Nat.lt_or_ge i ds.length with h | h
          · refine Or.inr (Or.inl (Or.inr ⟨i, h, ?_⟩))
            simp [mdnth, List.getD, List.getElem?_append_left h]
          · have e : i = ds.length := by omega
            subst e
            refine Or.inr (Or.inr ?_)
            simp [mdnth, List.getD]
      have hft := HFT.out.2.2
      have hg := hft g (Or.inl rfl)
      rcases hcs with rfl | h | rfl
      · refine ⟨by rcases h9 with e | e <;> omega, by rcases h9 with e | e <;> omega, fun hq => ?_⟩
        have := hq.1
        have := hq.2
        rcases h9 with e | e <;> omega
      · have h' := hft b h
        refine ⟨by omega, by omega, fun hq => ?_⟩
        have := hq.1
        omega
      · refine ⟨by omega, by omega, fun hq => ?_⟩
        have := hq.2
        omega
    have hdz : DRow w.heap.size wz g9 c9 (ds ++ [(nx, hh, hc, p)]) := drow_sm18 HR3.out (fun b hb => by
      obtain ⟨b1, b2, -⟩ := hfm b hb
      exact (HFZ.out.1 b (by omega)).trans (HFC.out.1 b b2))
    have htz : TsO true (Btw wo.heap.size w4.heap.size) wz (.slice va LT.length vc) LT := HX5.out.sm ⟨by omega, fun b hb => by
      have b1 := hb.1
      have b2 := hb.2
      exact (HFZ.out.1 b (by omega)).trans ((HFC.out.1 b (by omega)).trans ((Lu3.out b (by omega) (by omega)).trans (HL56.out.block b (by omega))))⟩
    have hst : StO true (Btw w.heap.size wz.heap.size) wz (.agg #[.int .i64 wd, .slice (some ⟨g9, 0, none⟩) (ms.length + 1) c9, .int .i64 LD, .slice va LT.length vc, .int .i64 (nx + 1)]) wd (ms ++ [(nx, p)]) LD LT (nx + 1) := by
      have hw0 := marksB_len (rai_web0 HTW.out.1 HLX.out.2.2)
      rw [List.length_append, List.length_singleton] at hw0
      have hs0 := HST.out
      refine kp_sto wd LD (nx + 1) hdz (by simp [dMarks, ← HFT.out.1]) (by simp) (by simp; omega) (fun x hx => ?_) htz (fun b hb => ⟨by have := (hfm b hb).1; omega, (hfm b hb).2.2⟩) (fun b hb => by have := hb.1; omega)
      rcases List.mem_append.1 hx with hx | hx
      · exact marks_at18 HMB.out x hx
      · rw [List.mem_singleton.1 hx]; exact HPL.out.2
    have hcw : wc.os = u3.os ∧ wc.tape = u3.tape ∧ wc.output = u3.output := by rw [← HWC.out, ← HWB.out, ← HWA.out]; exact ⟨rfl, rfl, rfl⟩
    have L36 := chain HB3.out HL6.out
    have BZ : Below w.heap.size w wz :=
      { os := HBZ.out.1.trans (hcw.1.trans (HU3.out.1.trans L36.os))
        tape := HBZ.out.2.1.trans (hcw.2.1.trans (HU3.out.2.1.trans L36.tape))
        output := HBZ.out.2.2.trans (hcw.2.2.trans (HU3.out.2.2.trans L36.output))
        size := by omega
        block := fun b hb => (HFZ.out.1 b (by omega)).trans ((HFC.out.1 b (by omega)).trans ((Lu3.out b (by omega) (by omega)).trans (L36.block b hb))) }
    rw [HYES.out]
    refine ⟨_, rfl, ?_, BZ⟩
    show StO true _ wz _ wd (ms ++ [(nx, p)]) (raiD (nx, p) ts d) (raiS (nx, p) ts d) (nx + 1)
    rw [HLX.out.1, HLX.out.2.1]
    exact hst
end Go.Proofs.YtaaagmgglolibaaGreat
namespace Go.Proofs.YtaaagmgglolibaaGreat
open Go Go.RowKit

theorem own_next18 {w w' : World} {b : Nat} {xs : List Int} (h : Own w b xs) (L : Below w.heap.size w w') : Own w' b xs := h.below h.lt L
theorem stin_of {v : Bool} {w : World} {X : Nat} {am aw : Option Addr} {cm cw : Nat} {wd : Int} {ms : List Mk} {d : Int} {ts : List Wb} {nx : Int} {t : TypeId} (h : w.heap[X]? = some (.cells #[.int .i64 wd, .slice am ms.length cm, .int .i64 d, .slice aw ts.length cw, .int .i64 nx] t)) (hm : MView w am ms) (hw : WbView v w aw ts) : StIn v w X am aw cm cw wd ms d ts nx := by
  obtain ⟨a, b, c, d', e, -, hl⟩ := five_cells h
  exact ⟨hl, a, b, c, d', e, hm, hw⟩

set_option maxRecDepth 100000 in
set_option maxHeartbeats 8000000 in
theorem walkKept_of (am aw : Option Addr) (cm cw : Nat) (wd : Int) (ms : List Mk) (d : Int) (ts : List Wb) (nx a : Int) (ms' : List Mk) (b : Int) (ts' : List Wb) (c r : Int) (ap : Option Addr) (cp : Nat) (p : List Int) (w : World) (hm : MView w am ms) (hw : WbView false w aw ts) (hf : StFit ms ts) (hv : View w ap p) (hnl : p.length ≤ 1048576)
    (hsm' : StSmall ms ts → StSmall ms' ts')
    (hs : StSmall ms ts → ∀ (W : World) (am aw : Option Addr) (cm cw : Nat) (ap : Option Addr) (cp : Nat), MView W am ms → WbView true W aw ts → View W ap p → Calls Tryz.prog 37 #[.agg #[.int .i64 wd, .slice am ms.length cm, .int .i64 d, .slice aw ts.length cw, .int .i64 nx], .slice ap p.length cp] W fun e w' => ∃ x, e = .returned (.tuple #[x, .int .i64 r]) ∧ StV w' x a ms' b ts' c ∧ Below W.heap.size W w')
    (hi : StSmall ms ts → ∀ (W : World) (am aw : Option Addr) (cm cw : Nat) (ap : Option Addr) (cp : Nat), MView W am ms → WbView true W aw ts → View W ap p → Calls Tryz.prog 32 #[.agg #[.int .i64 wd, .slice am ms.length cm, .int .i64 d, .slice aw ts.length cw, .int .i64 nx], .slice ap p.length cp] W fun e w' => ∃ x, e = .returned (.tuple #[x, .int .i64 r]) ∧ StO true (Btw W.heap.size w'.heap.size) w' x a ms' b ts' c ∧ Below W.heap.size W w') :
    Calls Tryz.prog 9 #[.agg #[.int .i64 wd, .slice am ms.length cm, .int .i64 d, .slice aw ts.length cw, .int .i64 nx], .slice ap p.length cp] w fun e w' => e = .returned (.bool true) ∧ Below w.heap.size w w' := by
  obtain ⟨W, hW⟩ : ∃ W, w.alloc (.cells #[.int .i64 wd, .slice am ms.length cm, .int .i64 d, .slice aw ts.length cw, .int .i64 nx] 104) = W := ⟨_, rfl⟩
  have hB : Below w.heap.size w W := by rw [← hW]; exact (Below.refl _ _).alloc (Nat.le_refl _) _
  have hI : StIn false W w.heap.size am aw cm cw wd ms d ts nx := by rw [← hW]; exact StIn.box hm hw
  have hrr : (r != r) = false := by simp
  have HSZ := hidP (szSt false am aw cm cw wd ms d ts nx W hI.mv hI.wv hf)
  have HB := hidP hB
  have HW := hidP hI
  have HS := hidP hs
  have HI := hidP hi
  have HSM' := hidP hsm'
  have HV := hidP hv
  have HN := hidP hnl
  have hnl2 : ¬ ((1048576 : Int) < (p.length : Int)) := by omega
  have k0 := hI.c0
  have k1 := hI.c1
  have k2 := hI.c2
  have k3 := hI.c3
  have k4 := hI.c4
  clear hm hw hB hI hf hs hi hsm' hv
  go_enter Tryz.func9, Tryz.ntmps9
  go_wp2_with fail
  refine HSZ.out.mono ?_
  rintro e w1 ⟨r1, rfl, -, hr, L1⟩
  by_cases hneg : r1 < 0
  · go_wp2_with fail
    go_ret
    exact ⟨rfl, chain HB.out L1⟩
  have hsm : StSmall ms ts := by rcases hr with h | h; exact absurd h hneg; exact h
  have HSM := hidP hsm
  have HSN := hidP (HSM'.out hsm)
  have hI1 := HW.out.below L1
  replace k0 := hI1.c0
  replace k1 := hI1.c1
  replace k2 := hI1.c2
  replace k3 := hI1.c3
  replace k4 := hI1.c4
  have HW1 := hidP hI1
  have HB1 := hidP (chain HB.out L1)
  have HC1 := hidP (toSt false am aw cm cw wd ms d ts nx w1 hI1.mv hI1.wv hsm)
  clear hr L1 hI1 HSZ hW hsm
  go_wp2_with fail
  refine HC1.out.mono ?_
  rintro e w2 ⟨m2, i2, b2, lo2, rfl, o2, -, L2⟩
  have HV2 := hidP (toS ap cp p w2 (HV.out.next (chain HB1.out L2)) HN.out)
  have HO2 := hidP o2
  have HL2a := hidP L2
  clear o2 L2 HC1
  go_wp2_with fail
  refine HV2.out.mono ?_
  rintro e w2b ⟨pb, rfl, hob, -, L2b⟩
  have o2b := HO2.out.next L2b
  have HC2 := hidP (HS.out HSM.out w2b _ _ ms.length ts.length (some ⟨pb, 0, none⟩) p.length o2b.mview o2b.wview hob.view)
  have HL2 := hidP (chain HL2a.out L2b)
  clear o2b L2b hob HO2 HV2
  go_wp2_with fail
  refine HC2.out.mono ?_
  rintro e w3 ⟨x, rfl, ⟨am0, cm0, aw0, cw0, rfl, hm0, hw0⟩, L3⟩
  obtain ⟨w4, hw4⟩ : ∃ w4, w3.alloc (.cells #[.int .i64 a, .slice am0 ms'.length cm0, .int .i64 b, .slice aw0 ts'.length cw0, .int .i64 c] 52) = w4 := ⟨_, rfl⟩
  have L4 : Below w3.heap.size w3 w4 := by rw [← hw4]; exact (Below.refl _ _).alloc (Nat.le_refl _) _
  have hI4 : StIn true w4 w3.heap.size am0 aw0 cm0 cw0 a ms' b ts' c := by rw [← hw4]; exact StIn.box hm0 hw0
  have HP0 := hidP hI4
  have HL4 := hidP (chain (chain HL2.out L3) L4)
  have HW4 := hidP (HW1.out.below HL4.out)
  have HV4 := hidP (HV.out.next (chain HB1.out HL4.out))
  have HQ4 := hidP hw4
  replace k0 := HW4.out.c0
  replace k1 := HW4.out.c1
  replace k2 := HW4.out.c2
  replace k3 := HW4.out.c3
  replace k4 := HW4.out.c4
  have HC4 := hidP (toSt false am aw cm cw wd ms d ts nx w4 HW4.out.mv HW4.out.wv HSM.out)
  clear hm0 hw0 L3 L4 hI4 hw4 HC2
  go_upto_region 8 with fail
  rw [HQ4.out]
  go_wp2_with fail
  refine HC4.out.mono ?_
  rintro e w5 ⟨m5, i5, b5, lo5, rfl, o5, hm5, L5⟩
  obtain ⟨wv, hwv⟩ : ∃ w6, w5.alloc (.cells #[.int .i64 wd, .slice (some ⟨m5, 0, none⟩) ms.length ms.length, .int .i64 d, .slice (some ⟨b5, 0, none⟩) ts.length ts.length, .int .i64 nx] 52) = w6 := ⟨_, rfl⟩
  have L6v : Below w5.heap.size w5 wv := by rw [← hwv]; exact (Below.refl _ _).alloc (Nat.le_refl _) _
  have hIv : StIn true wv w5.heap.size (some ⟨m5, 0, none⟩) (some ⟨b5, 0, none⟩) ms.length ts.length wd ms d ts nx := by rw [← hwv]; exact StIn.box o5.mview o5.wview
  have HLV : Hid (w5.heap.size + 1 ≤ wv.heap.size ∧ lo5 ts.length ≤ w5.heap.size ∧ w4.heap.size ≤ m5 ∧ w4.heap.size ≤ w5.heap.size) := ⟨by rw [← hwv]; simp, o5.webs.last, hm5, L5.size⟩
  have HIV := hidP hIv
  have HOV := hidP (o5.next L6v)
  have HL6v := hidP (chain L5 L6v)
  have HQ6 := hidP hwv
  have HV6 := hidP (toS ap cp p wv (HV4.out.next (chain L5 L6v)) HN.out)
  clear o5 hm5 L5 L6v hIv hwv HC4
  go_upto_region 9 with fail
  rw [HQ6.out]
  clear k0 k1 k2 k3 k4
  go_wp2_with fail
  refine HV6.out.mono ?_
  rintro e w6 ⟨qb, rfl, hoq, hqge, L6⟩
  have hI6 := HIV.out.below L6
  have HP1 := hidP hI6
  have HO6 := hidP (HOV.out.next L6)
  have HLO : Hid (lo5 ts.length ≤ w5.heap.size ∧ w4.heap.size ≤ m5 ∧ w5.heap.size + 1 ≤ w6.heap.size ∧ w5.heap.size + 1 ≤ qb ∧ qb < w6.heap.size ∧ w4.heap.size ≤ w5.heap.size) := ⟨HLV.out.2.1, HLV.out.2.2.1, by have := HLV.out.1; have := L6.size; omega, by have := HLV.out.1; omega, hoq.lt, HLV.out.2.2.2⟩
  have HOQ := hidP hoq
  have HL6 := hidP (chain HL6v.out L6)
  have HC6 := hidP (HI.out HSM.out w6 _ _ ms.length ts.length (some ⟨qb, 0, none⟩) p.length hI6.mv hI6.wv hoq.view)
  have p0 := hI6.c0
  have p1 := hI6.c1
  have p2 := hI6.c2
  have p3 := hI6.c3
  have p4 := hI6.c4
  clear hoq hqge L6 hI6 HIV HOV HV6 HQ6
  go_wp2_with fail
  refine HC6.out.mono ?_
  rintro e w7 ⟨x, rfl, hst, L7⟩
  obtain ⟨am7, cm7, aw7, cw7, rfl, -, -, hv7⟩ := hst.view
  obtain ⟨w8, hw8⟩ : ∃ w8, w7.alloc (.cells #[.int .i64 a, .slice am7 ms'.length cm7, .int .i64 b, .slice aw7 ts'.length cw7, .int .i64 c] 52) = w8 := ⟨_, rfl⟩
  have L8 : Below w7.heap.size w7 w8 := by rw [← hw8]; exact (Below.refl _ _).alloc (Nat.le_refl _) _
  have t8 : w8.heap[w7.heap.size]? = some (.cells #[.int .i64 a, .slice am7 ms'.length cm7, .int .i64 b, .slice aw7 ts'.length cw7, .int .i64 c] 52) := by rw [← hw8]; exact heap_alloc_new w7 _
  have hz8 : w8.heap.size = w7.heap.size + 1 := by rw [← hw8]; simp
  have HST8 := hidP (hst.next L8)
  have HT8 := hidP t8
  have HZ8 : Hid (w8.heap.size = w7.heap.size + 1 ∧ w6.heap.size ≤ w7.heap.size) := ⟨hz8, L7.size⟩
  have HV8 : Hid (∀ W', W'.heap[w7.heap.size]? = w8.heap[w7.heap.size]? → Sta (Btw w6.heap.size w7.heap.size) w8 W' → StIn true W' w7.heap.size am7 aw7 cm7 cw7 a ms' b ts' c) := fun W' e1 e2 => by
    have h := hv7 W' ((Sta.below L8 (fun q hq => hq.2)).trans e2)
    exact stin_of (e1.trans t8) h.1 h.2
  have HL8 := hidP (chain (chain HL6.out L7) L8)
  have HLQ := hidP (chain L7 L8)
  have HP18 := hidP (HP1.out.below (chain L7 L8))
  have HO8 := hidP (HO6.out.next (chain L7 L8))
  have HQ8 := hidP hw8
  have hI8 := HV8.out w8 rfl (Sta.refl _ _)
  have hP8 := HP0.out.below HL8.out
  have HE8 := hidP (eqSt true true am7 aw7 cm7 cw7 a ms' b ts' c am0 aw0 cm0 cw0 w8 hI8.mv hI8.wv hP8.mv hP8.wv HSN.out)
  have g0 := hI8.c0
  have g1 := hI8.c1
  have g2 := hI8.c2
  have g3 := hI8.c3
  have g4 := hI8.c4
  have f0 := hP8.c0
  have f1 := hP8.c1
  have f2 := hP8.c2
  have f3 := hP8.c3
  have f4 := hP8.c4
  clear hst hv7 L7 L8 t8 hz8 hw8 hI8 hP8 HC6 HP1 HO6
  go_upto_region 11 with fail
  rw [HQ8.out]
  clear p0 p1 p2 p3 p4
  go_wp2_with fail
  refine HE8.out.mono ?_
  rintro e w9 ⟨rfl, L9⟩
  have HL9 := hidP L9
  have HP9 := hidP (HP18.out.below L9)
  have HA9 := hidP (HW4.out.below (chain HL8.out L9))
  have HS9 : Hid (∀ W', Below w9.heap.size w9 W' → (W'.cell? ⟨w5.heap.size, 0, none⟩ = some (.int .i64 wd) ∧ W'.cell? ⟨w5.heap.size, 1, none⟩ = some (.slice (some ⟨m5, 0, none⟩) ms.length ms.length) ∧ W'.cell? ⟨w5.heap.size, 2, none⟩ = some (.int .i64 d) ∧ W'.cell? ⟨w5.heap.size, 3, none⟩ = some (.slice (some ⟨b5, 0, none⟩) ts.length ts.length) ∧ W'.cell? ⟨w5.heap.size, 4, none⟩ = some (.int .i64 nx)) ∧ W'.cell? ⟨w.heap.size, 0, none⟩ = some (.int .i64 wd) ∧ W'.cell? ⟨w.heap.size, 1, none⟩ = some (.slice am ms.length cm) ∧ W'.cell? ⟨w.heap.size, 2, none⟩ = some (.int .i64 d) ∧ W'.cell? ⟨w.heap.size, 3, none⟩ = some (.slice aw ts.length cw) ∧ W'.cell? ⟨w.heap.size, 4, none⟩ = some (.int .i64 nx)) := fun W' L' => ⟨⟨(HP9.out.below L').c0, (HP9.out.below L').c1, (HP9.out.below L').c2, (HP9.out.below L').c3, (HP9.out.below L').c4⟩, (HA9.out.below L').c0, (HA9.out.below L').c1, (HA9.out.below L').c2, (HA9.out.below L').c3, (HA9.out.below L').c4⟩
  have HC9 := hidP (toSt false am aw cm cw wd ms d ts nx w9.drew (HA9.out.below (Below.refl _ _).drew).mv (HA9.out.below (Below.refl _ _).drew).wv HSM.out)
  have BL := hidP ((Below.refl w9.heap.size w9).drew)
  clear L9 g0 g1 g2 g3 g4 f0 f1 f2 f3 f4
  go_wp2_with fail
  refine wp_region_takes (S := fun W' => Below w9.heap.size w9 W') (fuel := 3) [0, 1] (by kernel_rfl) (by kernel_rfl) (by kernel_rfl) (by kernel_rfl) BL.out (fun _ => ?_)
  iterate 2
    refine ⟨_, rfl, ?_⟩
    apply Exists.intro
    refine ⟨Or.inl ⟨by rfl, fun w' hw' => ?_⟩, ?_⟩
    · obtain ⟨⟨e1, e2, e3, e4, e5⟩, f1, f2, f3, f4, f5⟩ := HS9.out w' hw'
      first
      | (go_simp; done)
      | (go_simp; with_reducible rfl)
    simp only [Act.put, List.getElem_toArray, List.getElem_cons_succ, List.getElem_cons_zero, List.setIfInBounds_toArray, List.set_cons_zero, List.set_cons_succ]
  refine calm_one 2 (by kernel_rfl) rfl (fun K hK => ?_)
  go_simp
  refine HC9.out.mono ?_
  rintro e wa ⟨ma, ia, ba, loa, rfl, oa, -, La⟩
  have HLa := hidP (chain BL.out La)
  have HCa := hidP (eqSt true true (some ⟨m5, 0, none⟩) (some ⟨b5, 0, none⟩) ms.length ts.length wd ms d ts nx (some ⟨ma, 0, none⟩) (some ⟨ba, 0, none⟩) ms.length ts.length wa (HP9.out.below HLa.out).mv (HP9.out.below HLa.out).wv oa.mview oa.wview HSM.out)
  clear oa La
  refine hK.out _ _ HLa.out (fun _ => ?_)
  clear hK K
  refine calm_one 3 (by kernel_rfl) rfl (fun K hK => ?_)
  go_simp
  refine HCa.out.mono ?_
  rintro e wb ⟨rfl, Lb⟩
  have HLb := hidP (chain HLa.out Lb)
  clear Lb
  refine hK.out _ _ HLb.out (fun _ => ?_)
  clear hK K
  refine calm_rest [4] rfl (by kernel_rfl) (by kernel_rfl) (by kernel_rfl) HLb.out ?_
  iterate 1
    refine ⟨_, rfl, ?_⟩
    apply Exists.intro
    refine ⟨Or.inl ⟨by rfl, fun w' hw' => ?_⟩, ?_⟩
    · skip
      first
      | (go_simp; done)
      | (go_simp; with_reducible rfl)
    simp only [Act.put, List.getElem_toArray, List.getElem_cons_succ, List.getElem_cons_zero, List.setIfInBounds_toArray, List.set_cons_zero, List.set_cons_succ]
  refine NoPanic.normal (NoPanic.normal ?_)
  have HLBa := hidP (chain HL9.out HLb.out)
  have HVb := hidP (toS ap cp p wb (HV4.out.next (chain HL8.out HLBa.out)) HN.out)
  have HPa := hidP (HP9.out.below HLb.out)
  clear HS9 HC9 BL HLa HCa HE8
  go_wp2_with fail
  refine HVb.out.mono ?_
  rintro e wu ⟨ub, rfl, hou, -, Lu⟩
  have hoqu : Own wu qb p := own_next18 (own_next18 HOQ.out (chain HLQ.out HLBa.out)) Lu
  have HEu := hidP (eqS (some ⟨qb, 0, none⟩) (some ⟨ub, 0, none⟩) p.length p.length p p wu hoqu.view hou.view HN.out)
  have HLu := hidP Lu
  clear hou hoqu Lu HVb
  go_wp2_with fail
  refine HEu.out.mono ?_
  rintro e wy ⟨he, nd, hwy⟩
  obtain rfl : e = .returned (.bool true) := by rw [he]; simp
  clear he
  have HLy : Hid (Below wb.heap.size wb wy) := by
    show Below _ _ _
    rw [hwy]
    exact below_drewN HLu.out nd
  have HLB := hidP (chain HLBa.out HLy.out)
  have hPb := HPa.out.below HLy.out
  clear hwy HEu HLu
  have HPB := hidP hPb
  have p0 := hPb.c0
  have p1 := hPb.c1
  have p2 := hPb.c2
  have p3 := hPb.c3
  have p4 := hPb.c4
  have HMb := hidP (markSt m5 i5 b5 wd ms d ts nx lo5 wy (HO8.out.next HLB.out) HSM.out)
  clear hPb HLb HPa
  go_wp2_with fail
  refine HMb.out.mono ?_
  rintro e wm ⟨⟨kx, hkx1, hkx2, rfl⟩, gc⟩
  have HGC := hidP gc
  have HOM : Hid (Own wm qb p) := by
    have hlo := HLO.out
    have hz8 := HZ8.out
    have hzb := HLB.out.size
    have h1 : Own wy qb p := own_next18 (own_next18 HOQ.out HLQ.out) HLB.out
    exact (gc.2.2.2.2 qb (by omega) (Or.inr (by omega))).trans h1
  have HMq := hidP (mark_big qb kx p wm HOM.out HN.out hkx1 (by omega))
  have hkz : ¬ (kx + (p.length : Int) < 0) := by omega
  clear gc p0 p1 p2 p3 p4 HMb
  go_wp2_with fail
  refine HMq.out.mono ?_
  rintro e wc ⟨rfl, -, gq⟩
  have gc := HGC.out
  have hzb := HLB.out.size
  have hlo := HLO.out
  have hz8 := HZ8.out
  have hzq := gq.size
  have hzm := gc.2.2.2.1
  have hz68 := HL8.out.size
  have hqn : ∀ q, q ≠ qb → q < wm.heap.size → wc.heap[q]? = wm.heap[q]? := fun q h1 h2 => gq.block q h2 (fun e => h1 (by injection e))
  have HBc : Hid (Below w4.heap.size w4 wc) := (HL8.out.trans (Below.mono HLB.out HL8.out.size)).trans ⟨gq.os.trans gc.1, gq.tape.trans gc.2.1, gq.output.trans gc.2.2.1, Nat.le_trans gc.2.2.2.1 hzq, fun q hq => (hqn q (by omega) (by omega)).trans (gc.2.2.2.2 q (by omega) (Or.inl (by omega)))⟩
  have HSc : Hid (wc.heap[w7.heap.size]? = w8.heap[w7.heap.size]? ∧ Sta (Btw w6.heap.size w7.heap.size) w8 wc) := ⟨((hqn _ (by omega) (by omega)).trans (gc.2.2.2.2 _ (by omega) (Or.inr (by omega)))).trans (HLB.out.block _ (by omega)), by omega, fun q hq => ((hqn q (by have := hq.1; omega) (by have := hq.2; omega)).trans (gc.2.2.2.2 q (by have := hq.2; omega) (Or.inr (by have := hq.1; omega)))).trans (HLB.out.block q (by have := hq.2; omega))⟩
  have hIc := HV8.out wc HSc.out.1 HSc.out.2
  have hPc := HP0.out.below HBc.out
  have HEc := hidP (eqSt true true am7 aw7 cm7 cw7 a ms' b ts' c am0 aw0 cm0 cw0 wc hIc.mv hIc.wv hPc.mv hPc.wv HSN.out)
  have g0 := hIc.c0
  have g1 := hIc.c1
  have g2 := hIc.c2
  have g3 := hIc.c3
  have g4 := hIc.c4
  have f0 := hPc.c0
  have f1 := hPc.c1
  have f2 := hPc.c2
  have f3 := hPc.c3
  have f4 := hPc.c4
  clear gc gq hqn hzb hlo hz8 hzq hzm hz68 hIc hPc HMq HP9 HPB HO8
  go_wp2_with fail
  refine HEc.out.mono ?_
  rintro e wd2 ⟨rfl, Ld⟩
  have HBd := hidP (HBc.out.trans (Below.mono Ld HBc.out.size))
  have hz8 := HZ8.out
  have hszc := HSc.out.2.1
  have HSd : Hid (wd2.heap[w7.heap.size]? = w8.heap[w7.heap.size]? ∧ Sta (Btw w6.heap.size w7.heap.size) w8 wd2) := ⟨(Ld.block _ (by omega)).trans HSc.out.1, HSc.out.2.trans (Sta.below Ld (fun q hq => by have := hq.2; omega))⟩
  have hId := HV8.out wd2 HSd.out.1 HSd.out.2
  replace g0 := hId.c0
  replace g1 := hId.c1
  replace g2 := hId.c2
  replace g3 := hId.c3
  replace g4 := hId.c4
  obtain ⟨N, hN, how⟩ := HST8.out.ow rfl
  have HMd := hidP (how.act wd2 HSd.out.2 1 (by omega) (by omega))
  have hszd := HSd.out.2.1
  clear Ld hz8 hszc hId f0 f1 f2 f3 f4 how
  go_wp2_with fail
  refine HMd.out.mono ?_
  rintro e wf ⟨rfl, hcf, hdf⟩
  have hz8 := HZ8.out
  have HTf : Hid (wf.heap[w7.heap.size]? = some (.cells #[.int .i64 a, .slice am7 ms'.length cm7, .int .i64 b, .slice aw7 ts'.length cw7, .int .i64 c] 52)) := (hcf.2.2.2.2 _ (by omega) (fun hq => by have := hq.2; omega)).trans (HSd.out.1.trans HT8.out)
  have HBf : Hid (Below w4.heap.size w4 wf) := HBd.out.trans (hcf.below HBd.out.size (fun q hq => by have := hq.1; have := HL6.out.size; omega))
  have HDf := hidP hdf
  have HZf : Hid (w8.heap.size ≤ wf.heap.size) := by show _ ≤ _; have := hcf.2.2.2.1; omega
  obtain ⟨h0, h1, h2, h3, h4, -, -⟩ := five_cells HTf.out
  have HHf := hidP (hdf wf (Sta.refl _ _))
  clear hcf hdf hz8 hszd g0 g1 g2 g3 g4 HMd
  go_wp2_with fail
  refine HHf.out.mono ?_
  rintro e wg ⟨rfl, Lg⟩
  have HBg := hidP (HBf.out.trans (Below.mono Lg HBf.out.size))
  have HLg := hidP Lg
  have hAg := HW4.out.below HBg.out
  have k0 := hAg.c0
  have k1 := hAg.c1
  have k2 := hAg.c2
  have k3 := hAg.c3
  have k4 := hAg.c4
  have HCg := hidP (toSt false am aw cm cw wd ms d ts nx wg hAg.mv hAg.wv HSM.out)
  have hq1 : ¬ ((1 : Int) + (N : Int) < 0) := by omega
  have hq2 : ((1 : Int) + (N : Int) != 1 + (N : Int)) = false := by simp
  clear Lg hAg h0 h1 h2 h3 h4 HHf
  go_wp2_with fail
  refine HCg.out.mono ?_
  rintro e wh ⟨mh, ih, bh, loh, rfl, oh, -, Lh⟩
  have HLha := hidP (chain HLg.out Lh)
  have HVh := hidP (toS ap cp p wh (HV4.out.next (HBf.out.trans (Below.mono HLha.out HBf.out.size))) HN.out)
  have HOh := hidP oh
  clear oh Lh k0 k1 k2 k3 k4 HCg
  go_wp2_with fail
  refine HVh.out.mono ?_
  rintro e whb ⟨rb, rfl, hor, -, Lhb⟩
  have oh := HOh.out.next Lhb
  have HCh := hidP (HI.out HSM.out whb _ _ ms.length ts.length (some ⟨rb, 0, none⟩) p.length oh.mview oh.wview hor.view)
  have HLh := hidP (chain HLha.out Lhb)
  clear oh hor Lhb HVh HOh
  go_wp2_with fail
  refine HCh.out.mono ?_
  rintro e wi ⟨x, rfl, hsti, Li⟩
  obtain ⟨ami, cmi, awi, cwi, rfl, -, -, hvi⟩ := hsti.view
  obtain ⟨wj, hwj⟩ : ∃ wj, wi.alloc (.cells #[.int .i64 a, .slice ami ms'.length cmi, .int .i64 b, .slice awi ts'.length cwi, .int .i64 c] 52) = wj := ⟨_, rfl⟩
  have Lj : Below wi.heap.size wi wj := by rw [← hwj]; exact (Below.refl _ _).alloc (Nat.le_refl _) _
  have hIj : StIn true wj wi.heap.size ami awi cmi cwi a ms' b ts' c := by rw [← hwj]; exact StIn.box (hvi wi (Sta.refl _ _)).1 (hvi wi (Sta.refl _ _)).2
  have HLj := hidP (chain (chain HLh.out Li) Lj)
  have HBj := hidP (HBf.out.trans (Below.mono HLj.out HBf.out.size))
  have hPj := HP0.out.below HBj.out
  have HEj := hidP (eqSt true true ami awi cmi cwi a ms' b ts' c am0 aw0 cm0 cw0 wj hIj.mv hIj.wv hPj.mv hPj.wv HSN.out)
  have HQj := hidP hwj
  have g0 := hIj.c0
  have g1 := hIj.c1
  have g2 := hIj.c2
  have g3 := hIj.c3
  have g4 := hIj.c4
  have f0 := hPj.c0
  have f1 := hPj.c1
  have f2 := hPj.c2
  have f3 := hPj.c3
  have f4 := hPj.c4
  clear hsti hvi Li Lj hIj hPj hwj HCh
  go_upto_region 31 with fail
  rw [HQj.out]
  go_wp2_with fail
  refine HEj.out.mono ?_
  rintro e wk ⟨rfl, Lk⟩
  have HLk := hidP (chain HLj.out Lk)
  have HBk := hidP (HBj.out.trans (Below.mono Lk HBj.out.size))
  have hz8 := HZ8.out
  have hzf := HZf.out
  have tk := (HLk.out.block w7.heap.size (by omega)).trans HTf.out
  obtain ⟨h0, h1, h2, h3, h4, -, -⟩ := five_cells tk
  have HHk := hidP (HDf.out wk (Sta.below HLk.out (fun q hq => by have := hq.2; omega)))
  clear Lk hz8 hzf tk g0 g1 g2 g3 g4 f0 f1 f2 f3 f4 HEj
  go_wp2_with fail
  refine HHk.out.mono ?_
  rintro e wl ⟨rfl, Ll⟩
  have HF := hidP (((HB1.out.trans (Below.mono HL4.out HB1.out.size)).trans (Below.mono HBk.out (by have := HB1.out.size; have := HL4.out.size; omega))).trans (Below.mono Ll (by have := HB1.out.size; have := HL4.out.size; have := HBk.out.size; omega)))
  clear Ll h0 h1 h2 h3 h4 HHk
  go_wp2_with fail
  go_ret
  exact ⟨rfl, HF.out⟩

set_option maxRecDepth 100000 in
set_option maxHeartbeats 2000000 in
theorem iKept18_no (am aw : Option Addr) (cm cw : Nat) (wd : Int) (ms : List Mk) (d : Int) (ts : List Wb) (nx : Int) (ap : Option Addr) (cp : Nat) (p : List Int) (w : World) (hm : MView w am ms) (hv : WbView true w aw ts) (hsm : StSmall ms ts) (hst : stB wd ms d ts nx = false) :
    Calls Tryz.prog 32 #[.agg #[.int .i64 wd, .slice am ms.length cm, .int .i64 d, .slice aw ts.length cw, .int .i64 nx], .slice ap p.length cp] w fun e w' => e = .returned (.tuple #[.agg #[.int .i64 0, .slice none 0 0, .int .i64 0, .slice none 0 0, .int .i64 0], .int .i64 (-1)]) ∧ Below w.heap.size w w' := by
  obtain ⟨W1, hW1⟩ : ∃ W, w.alloc (.cells #[.int .i64 wd, .slice am ms.length cm, .int .i64 d, .slice aw ts.length cw, .int .i64 nx] 52) = W := ⟨_, rfl⟩
  have hB1 : Below w.heap.size w W1 := by rw [← hW1]; exact (Below.refl _ _).alloc (Nat.le_refl _) _
  have hI1 : StIn true W1 w.heap.size am aw cm cw wd ms d ts nx := by rw [← hW1]; exact StIn.box hm hv
  obtain ⟨W, hW⟩ : ∃ W, W1.alloc (.cells #[.int .i64 0, .slice none 0 0, .int .i64 0, .slice none 0 0, .int .i64 0] 52) = W := ⟨_, rfl⟩
  have hB2 : Below W1.heap.size W1 W := by rw [← hW]; exact (Below.refl _ _).alloc (Nat.le_refl _) _
  have s1 : W1.heap.size = w.heap.size + 1 := by rw [← hW1]; simp
  have TR : W.heap[w.heap.size + 1]? = some (.cells #[.int .i64 0, .slice none 0 0, .int .i64 0, .slice none 0 0, .int .i64 0] 52) := by rw [← hW, ← s1]; exact heap_alloc_new W1 _
  have hI := hI1.below hB2
  have HB := hidP (chain hB1 hB2)
  have HTR := hidP TR
  have HC := hidP (iStateOk am aw cm cw wd ms d ts nx W hI.mv hI.wv hsm)
  rw [hst] at HC
  have k0 := hI.c0
  have k1 := hI.c1
  have k2 := hI.c2
  have k3 := hI.c3
  have k4 := hI.c4
  have HWW : Hid ((w.alloc (.cells #[.int .i64 wd, .slice am ms.length cm, .int .i64 d, .slice aw ts.length cw, .int .i64 nx] 52)).alloc (.cells #[.int .i64 0, .slice none 0 0, .int .i64 0, .slice none 0 0, .int .i64 0] 52) = W) := by show _ = _; rw [hW1, hW]
  clear hm hv hB1 hI1 hB2 TR hI s1 hW hW1 hsm hst
  go_enter Tryz.func32, Tryz.ntmps32
  go_upto_region 1 with fail
  rw [HWW.out]
  clear HWW
  go_wp2_with fail
  refine HC.out.mono ?_
  rintro e w1 ⟨rfl, L1⟩
  obtain ⟨r0, r1, r2, r3, r4, rf, hrl⟩ := five_cells ((L1.block _ (five_cells HTR.out).2.2.2.2.2.2).trans HTR.out)
  have rf0 := rf 0
  have rf1 := rf 1
  have rf2 := rf 2
  have rf3 := rf 3
  have rf4 := rf 4
  have HB1 := hidP (chain HB.out L1)
  clear L1 rf k0 k1 k2 k3 k4
  go_wp2_with fail
  refine bodyPost_ret (v := .tuple #[.agg #[.int .i64 0, .slice none 0 0, .int .i64 0, .slice none 0 0, .int .i64 0], .int .i64 (-1)]) (by simp [results, Tryz.results32, go_sem, r0, r1, r2, r3, r4]) rfl ?_
  have ho : w.heap.size ≤ w.heap.size + 1 := by omega
  exact ⟨rfl, (((((HB1.out.setCell (p := ⟨w.heap.size + 1, 0, none⟩) ho _).setCell (p := ⟨w.heap.size + 1, 1, none⟩) ho _).setCell (p := ⟨w.heap.size + 1, 2, none⟩) ho _).setCell (p := ⟨w.heap.size + 1, 3, none⟩) ho _).setCell (p := ⟨w.heap.size + 1, 4, none⟩) ho _)⟩
theorem tot_bound18 (f : Nat → Nat) (c : Nat) : ∀ n, (∀ i, i < n → f i ≤ c) → tot f n ≤ n * c
  | 0, _ => by simp [tot]
  | n + 1, h => by
    have h1 := tot_bound18 f c n (fun i hi => h i (by omega))
    have h2 := h n (by omega)
    have h3 : (n + 1) * c = n * c + c := Nat.succ_mul n c
    simp only [tot]
    omega
theorem mtot_bound18 {ms : List Mk} {a b : Nat} (h1 : ms.length ≤ a) (h2 : ∀ i, (mat ms i).length ≤ b) : mtot ms ≤ a + a * b := by
  have h := tot_bound18 (fun j => (mat ms j).length) b ms.length (fun i _ => h2 i)
  have h3 := Nat.mul_le_mul_right b h1
  unfold mtot
  omega
theorem ctot_bound18 {ls : List (List Int)} {a b : Nat} (h1 : ls.length ≤ a) (h2 : ∀ i, (cn ls i).length ≤ b) : ctot ls ≤ a + a * b := by
  have h := tot_bound18 (fun j => (cn ls j).length) b ls.length (fun i _ => h2 i)
  have h3 := Nat.mul_le_mul_right b h1
  unfold ctot
  omega
theorem kp_small18 {wd nx d : Int} {ms : List Mk} {ts : List Wb} {p : List Int} (hst : stB wd ms d ts nx = true) (hsm : StSmall ms ts) (b : Bool) (hb : b = true → raiR (nx, p) ts d = true) : StSmall (kpMs b ms nx p) (kpTs b nx p ts d) := by
  obtain ⟨hmb, hok, -, -⟩ := stB_parts hst
  rcases b with _ | _
  · exact hsm
  have hr := hb rfl
  have hw0 := marksB_len (rai_web0 hok hr)
  rw [List.length_append, List.length_singleton] at hw0
  have hs0 := st_short18 hst
  have hpl := (okB_len (rai_ok hok hr)).2
  show StSmall (ms ++ [(nx, p)]) (raiS (nx, p) ts d)
  have hln : (ms ++ [(nx, p)]).length ≤ 60 := by rw [List.length_append, List.length_singleton]; omega
  have hat : ∀ i, (mat (ms ++ [(nx, p)]) i).length ≤ 4 := fun i => by
    rcases Nat.lt_or_ge i (ms ++ [(nx, p)]).length with hi | hi
    · have hm : (ms ++ [(nx, p)])[i] ∈ ms ++ [(nx, p)] := List.getElem_mem hi
      have e : mat (ms ++ [(nx, p)]) i = ((ms ++ [(nx, p)])[i]).2 := by simp only [mat, List.getD, List.getElem?_eq_getElem hi, Option.getD_some]
      rw [e]
      rcases List.mem_append.1 hm with hx | hx
      · exact marks_at18 hmb _ hx
      · rw [List.mem_singleton.1 hx]; exact hpl
    · have e : mat (ms ++ [(nx, p)]) i = [] := by simp [mat, List.getD, List.getElem?_eq_none hi]
      rw [e]; simp
  have hwee := rT_wee (nx, p) ts d
  have hrl := rT_len (nx, p) ts d
  have hre : rT (nx, p) ts d = raiS (nx, p) ts d := by unfold rT; rw [if_pos hok]
  rw [hre] at hwee hrl
  refine ⟨⟨by omega, fun i => by have := hat i; omega⟩, hwee, ?_⟩
  have h1 := mtot_bound18 hln hat
  have h2 : ttot (raiS (nx, p) ts d) ≤ 4 + 4 * 4000 := by
    have h := tot_bound18 (fun j => wtot (wnth (raiS (nx, p) ts d) j)) 4000 (raiS (nx, p) ts d).length (fun i hi => by
      obtain ⟨w1, w2, w3, w4⟩ := web_small (rai_web (m := (nx, p)) hok i (by omega))
      have a1 := mtot_bound18 w1 w2
      have a2 := ctot_bound18 w3 w4
      show mtot _ + ctot _ ≤ 4000
      omega)
    have h3 := Nat.mul_le_mul_right 4000 hrl
    unfold ttot
    omega
  omega
theorem kpB_rai {wd nx d : Int} {p : List Int} {ts : List Wb} (h : kpB wd nx d p ts = true) : raiR (nx, p) ts d = true := by
  unfold kpB at h
  simp only [Bool.and_eq_true] at h
  exact h.2

theorem walkKept18 (am aw ap : Option Addr) (cm cw cp : Nat) (wd : Int) (ms : List Mk) (d : Int) (ts : List Wb) (nx : Int) (p : List Int) (w : World) (hm : MView w am ms) (hw : WbView false w aw ts) (hf : StFit ms ts) (hv : View w ap p) (hn : p.length ≤ maxLen) :
    Calls Tryz.prog 9 #[.agg #[.int .i64 wd, .slice am ms.length cm, .int .i64 d, .slice aw ts.length cw, .int .i64 nx], .slice ap p.length cp] w fun e w' => e = .returned (.bool true) ∧ Below w.heap.size w w' := by
  unfold maxLen at hn
  by_cases hbig : 1048576 < p.length
  · go_enter Tryz.func9, Tryz.ntmps9
    go_wp2
    go_ret
    exact ⟨rfl, (Below.refl _ _).alloc (Nat.le_refl _) _⟩
  have hpl : p.length ≤ 1048576 := by omega
  rcases h : stB wd ms d ts nx with _ | _
  · refine walkKept_of am aw cm cw wd ms d ts nx 0 [] 0 [] 0 (-1) ap cp p w hm hw hf hv hpl (fun _ => ⟨⟨by simp, fun i => by simp [mat]⟩, ⟨by simp, fun i => by simp [wnth, MSmall, CSmall, mat, cn]⟩, by decide⟩) (fun hsm W am aw cm cw ap cp h1 h2 _ => ?_) (fun hsm W am aw cm cw ap cp h1 h2 _ => ?_)
    · refine (sKept18_no true am aw cm cw wd ms d ts nx ap cp p W h1 h2 hsm h).mono ?_
      rintro e w' ⟨rfl, L⟩
      exact ⟨_, rfl, ⟨none, 0, none, 0, rfl, Or.inl rfl, Or.inl rfl⟩, L⟩
    · refine (iKept18_no am aw cm cw wd ms d ts nx ap cp p W h1 h2 hsm h).mono ?_
      rintro e w' ⟨rfl, L⟩
      exact ⟨_, rfl, (StO.zero true w').mono (fun q hq => hq.2) (fun q hq => hq.elim), L⟩
  · obtain ⟨p1, p2, -, -⟩ := stB_parts h
    exact walkKept_of am aw cm cw wd ms d ts nx wd _ _ _ _ _ ap cp p w hm hw hf hv hpl (fun hsm => kp_small18 h hsm _ kpB_rai) (fun hsm W am aw cm cw ap cp h1 h2 h3 => sKept18 true am aw cm cw wd ms d ts nx ap cp p W h1 h2 h3 hpl hsm h p1 p2) (fun hsm W am aw cm cw ap cp h1 h2 h3 => iKept18 am aw cm cw wd ms d ts nx ap cp p W h1 h2 h3 hpl hsm h)
end Go.Proofs.YtaaagmgglolibaaGreat
