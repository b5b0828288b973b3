/-
  The program's ownWeb: a web copied into memory of the call's own.
  The program's link: one more number in a list of links.
  How the program links, as plain lists.
-/
import Derived.Test.YtmembegdbceooaaGreatLkBlkZz
import Derived.Test.YtmembegdbceooaaGreatFeWalkZz
import Derived.Deep.CutRange
import Derived.Deep.CutBlock
import Derived.Deep.LoopGhost
import Derived.Test.YtmembegdbceooaaGreatFh0Zz
import Derived.Test.YtmembegdbceooaaGreatFgRowZz
import Derived.Test.YtmembegdbceooaaGreatFg0Zz
import Derived.Test.YtmembegdbceooaaGreatMathZz
namespace Go.Proofs.YtmembegdbceooaaGreat
open Go Go.RowKit

theorem calm_three {P : Program} {md : Region.Mode} {Q : Exit → Act → World → Prop} {ops : Array Oper} {S : World → Prop} {fuel : Nat} {listed : Array Bool} {a : Act} {w : World} {o o2 o3 : Oper} (i j k : Nat) (hr : Region.ready md ops listed = [i, j, k]) (ho : ops[i]? = some o) (ho2 : ops[j]? = some o2) (ho3 : ops[k]? = some o3)
    (h : ∀ K : Act → World → Prop, Shut (∀ a w, S w → (S w → wpAnyH P md ops Q S fuel (listed.setIfInBounds i true) a w) → K a w) → if Region.wanted o (yielded ops a.tmps) = true then Oper.wp P o a w K Q else K (a.put o.dst undef) w)
    (h2 : ∀ K : Act → World → Prop, Shut (∀ a w, S w → (S w → wpAnyH P md ops Q S fuel (listed.setIfInBounds j true) a w) → K a w) → if Region.wanted o2 (yielded ops a.tmps) = true then Oper.wp P o2 a w K Q else K (a.put o2.dst undef) w)
    (h3 : ∀ K : Act → World → Prop, Shut (∀ a w, S w → (S w → wpAnyH P md ops Q S fuel (listed.setIfInBounds k true) a w) → K a w) → if Region.wanted o3 (yielded ops a.tmps) = true then Oper.wp P o3 a w K Q else K (a.put o3.dst undef) w) : wpAnyH P md ops Q S (fuel + 1) listed a w :=
  wpAnyH_ready hr (by simp) (AllReadyH.cons ho h (AllReadyH.cons ho2 h2 (AllReadyH.cons ho3 h3 AllReadyH.nil)))

/-- A web in memory of the call's own: n lists of links. -/
def OwnWeb (base : Nat) (w : World) (g gl : Nat) (ms : List Mk) (X : Nat → List Int) (n : Nat) : Prop := ∃ G cc V lo hi, OPart base w g ms.length ms G cc lo hi ∧ NM base w gl n V X hi ∧ g ≠ gl ∧ gl < lo

set_option maxRecDepth 100000 in
set_option maxHeartbeats 20000000 in
theorem iOwnWeb (am al : Option Addr) (cm cl : Nat) (ms : List Mk) (ls : List (List Int)) (w : World) (hm : MView w am ms) (hl : CView w al ls) (hmb : marksB ms = true) (hsm : MSmall ms) (hcs : CSmall ls) :
    Calls Tryz.prog 67 #[.agg #[.slice am ms.length cm, .slice al ls.length cl]] w fun e w' => ∃ g gl, e = .returned (.agg #[.slice (some ⟨g, 0, none⟩) ms.length ms.length, .slice (some ⟨gl, 0, none⟩) ls.length ls.length]) ∧ OwnWeb w.heap.size w' g gl ms (cn ls) ls.length ∧ Below w.heap.size w w' := by
  obtain ⟨W1, hW1⟩ : ∃ W, w.alloc (.cells #[.slice am ms.length cm, .slice al ls.length cl] 27) = W := ⟨_, rfl⟩
  have hB1 : Below w.heap.size w W1 := by rw [← hW1]; exact (Below.refl _ _).alloc (Nat.le_refl _) _
  have hI1 : WebIn W1 w.heap.size am cm ms al cl ls := by rw [← hW1]; exact WebIn.box hm hl
  obtain ⟨W, hW⟩ : ∃ W, W1.alloc (.cells #[.slice none 0 0, .slice none 0 0] 27) = W := ⟨_, rfl⟩
  have hB2 : Below W1.heap.size W1 W := by rw [← hW]; exact (Below.refl _ _).alloc (Nat.le_refl _) _
  have TR : Two W W1.heap.size (.slice none 0 0) (.slice none 0 0) 27 := by rw [← hW]; exact Two.new W1 _ _ _
  have s1 : W1.heap.size = w.heap.size + 1 := by rw [← hW1]; simp
  have s2 : W.heap.size = w.heap.size + 2 := by rw [← hW]; simp [s1]
  have hI := hI1.below hB2
  have HB := hidP (chain hB1 hB2)
  have HI := hidP hI
  have HTR := hidP TR
  have HMB := hidP hmb
  have hml := marksB_len hmb
  have hll := hcs.1
  have hmkM : ∀ w0 : World, (Instr.makeSlice 24 (.int .i64 (ms.length : Int)) (.int .i64 (ms.length : Int))).run Tryz.prog w0 = .ok (.slice (some ⟨w0.heap.size, 0, none⟩) ms.length ms.length) (w0.alloc (.cells (madeCells #[.int .i64 0, .slice none 0 0] (ms.length * 2)) 30)) := fun w0 => run_make_rows (P := Tryz.prog) 24 30 (.agg #[.int .i64 0, .slice none 0 0]) 2 32 Tryz.underlying24 Tryz.info30 .i64 .i64 ms.length (by omega) (by omega) w0
  have hmkL : ∀ w0 : World, (Instr.makeSlice 25 (.int .i64 (ls.length : Int)) (.int .i64 (ls.length : Int))).run Tryz.prog w0 = .ok (.slice (some ⟨w0.heap.size, 0, none⟩) ls.length ls.length) (w0.alloc (.cells (madeCells #[.slice none 0 0] ls.length) 28)) := fun w0 => by have h := run_make_rows (P := Tryz.prog) 25 28 (.slice none 0 0) 1 24 Tryz.underlying25 Tryz.info28 .i64 .i64 ls.length (by omega) (by omega) w0; rw [Nat.mul_one] at h; exact h
  have HS : Hid (∀ W', Below W.heap.size W W' → W'.cell? ⟨w.heap.size, 0, none⟩ = some (.slice am ms.length cm) ∧ W'.cell? ⟨w.heap.size, 1, none⟩ = some (.slice al ls.length cl)) := fun W' L' => ⟨(HI.out.below L').c0, (HI.out.below L').c1⟩
  have HSZ := hidP (And.intro s1 s2)
  have BL := hidP ((Below.refl W.heap.size W).drew)
  have HWW : Hid ((w.alloc (.cells #[.slice am ms.length cm, .slice al ls.length cl] 27)).alloc (.cells #[.slice none 0 0, .slice none 0 0] 27) = W) := by show _ = _; rw [hW1, hW]
  clear hm hl hB1 hI1 hB2 TR hI s1 s2 hW hW1
  go_enter Tryz.func67, Tryz.ntmps67
  go_upto_region 1 with fail
  rw [HWW.out]
  clear HWW
  go_cut [3] from 8 to 17 (fun v wx => ∃ o g gl, v = .pointer (some ⟨o, 0, none⟩) ∧ Two wx o (.slice (some ⟨g, 0, none⟩) ms.length ms.length) (.slice (some ⟨gl, 0, none⟩) ls.length ls.length) 27 ∧ FB wx g (ms.length * 2) zeroM 30 ∧ FB wx gl ls.length (fun _ => .slice none 0 0) 28 ∧ W.heap.size ≤ o ∧ W.heap.size ≤ g ∧ W.heap.size ≤ gl ∧ o ≠ g ∧ o ≠ gl ∧ g ≠ gl ∧ Below W.heap.size W wx)
  case first =>
    refine wp_region_takes (S := fun W' => Below W.heap.size W W') (fuel := 5) [0, 1, 2, 4, 5, 6] (by kernel_rfl) (by kernel_rfl) (by kernel_rfl) (by kernel_rfl) BL.out (fun _ => ?_)
    iterate 6
      refine ⟨_, rfl, ?_⟩
      apply Exists.intro
      refine ⟨Or.inl ⟨by rfl, fun w' hw' => ?_⟩, ?_⟩
      · obtain ⟨e1, e2⟩ := HS.out w' hw'
        first
        | (go_simp; done)
        | (go_simp; with_reducible rfl)
      simp only [Act.put, List.getElem_toArray, List.getElem_cons_succ, List.getElem_cons_zero, List.setIfInBounds_toArray, List.set_cons_zero, List.set_cons_succ]
    obtain ⟨wv0, hv0⟩ : ∃ w0, W.drew = w0 := ⟨_, rfl⟩
    have Bwv0 : Below W.heap.size W wv0 := by rw [← hv0]; exact BL.out
    have sv0 : W.heap.size ≤ wv0.heap.size := Bwv0.size
    rw [hv0]
    clear hv0
    refine calm_three 3 7 9 (by kernel_rfl) rfl rfl rfl (fun K hK => ?_) (fun K hK => ?_) (fun K hK => ?_)
    · go_simp
      obtain ⟨wv1, hX⟩ : ∃ w0, wv0.alloc (.cells (madeCells #[.int .i64 0, .slice none 0 0] (ms.length * 2)) 30) = w0 := ⟨_, rfl⟩
      have LX : Below wv0.heap.size wv0 wv1 := by rw [← hX]; exact (Below.refl _ _).alloc (Nat.le_refl _) _
      have sX : wv0.heap.size < wv1.heap.size := by rw [← hX]; simp
      have Fg : FB wv1 wv0.heap.size (ms.length * 2) zeroM 30 := by rw [← hX]; exact FB.madeM wv0 _ _
      have Bwv1 : Below W.heap.size W wv1 := chain Bwv0 LX
      obtain ⟨g, hg⟩ : ∃ q, wv0.heap.size = q := ⟨_, rfl⟩
      have hg1 : wv0.heap.size ≤ g := by omega
      have hg2 : g < wv1.heap.size := by omega
      rw [hX]
      rw [hg] at Fg ⊢
      refine hK.out _ _ Bwv1 (fun _ => ?_)
      clear hK K hX LX hg sX
      refine calm_two14 7 9 (by kernel_rfl) rfl rfl (fun K hK => ?_) (fun K hK => ?_)
      · go_simp
        obtain ⟨wv2, hX⟩ : ∃ w0, wv1.alloc (.cells (madeCells #[.slice none 0 0] ls.length) 28) = w0 := ⟨_, rfl⟩
        have LX : Below wv1.heap.size wv1 wv2 := by rw [← hX]; exact (Below.refl _ _).alloc (Nat.le_refl _) _
        have sX : wv1.heap.size < wv2.heap.size := by rw [← hX]; simp
        have Fl : FB wv2 wv1.heap.size ls.length (fun _ => .slice none 0 0) 28 := by rw [← hX]; have := FB.madeL wv1 ls.length 28; rw [Nat.mul_one] at this; exact this
        replace Fg := Fg.next LX
        have Bwv2 : Below W.heap.size W wv2 := chain Bwv1 LX
        obtain ⟨gl, hgl⟩ : ∃ q, wv1.heap.size = q := ⟨_, rfl⟩
        have hgl1 : wv1.heap.size ≤ gl := by omega
        have hgl2 : gl < wv2.heap.size := by omega
        rw [hX]
        rw [hgl] at Fl ⊢
        refine hK.out _ _ Bwv2 (fun _ => ?_)
        clear hK K hX LX hgl sX
        refine calm_more14 2 [8] (by kernel_rfl) (by kernel_rfl) (by kernel_rfl) Bwv2 ?_
        iterate 1
          refine ⟨_, rfl, ?_⟩
          apply Exists.intro
          refine ⟨Or.inl ⟨by rfl, fun w' hw' => ?_⟩, ?_⟩
          · first
            | (go_simp; done)
            | (go_simp; with_reducible rfl)
          simp only [Act.put, List.getElem_toArray, List.getElem_cons_succ, List.getElem_cons_zero, List.setIfInBounds_toArray, List.set_cons_zero, List.set_cons_succ]
        refine calm_one 9 (by kernel_rfl) rfl (fun K hK => ?_)
        go_simp
        have oE : wv2.heap.size = wv2.heap.size := rfl
        refine hK.out _ _ (Bwv2.alloc Bwv2.size _) (fun _ => ?_)
        clear hK K
        refine calm_one 10 (by kernel_rfl) rfl (fun K hK => ?_)
        go_simp
        obtain ⟨wz, hwz⟩ : ∃ wz, wv2.alloc (.cells #[.slice (some ⟨g, 0, none⟩) ms.length ms.length, .slice (some ⟨gl, 0, none⟩) ls.length ls.length] 27) = wz := ⟨_, rfl⟩
        have LZ : Below wv2.heap.size wv2 wz := by rw [← hwz]; exact (Below.refl _ _).alloc (Nat.le_refl _) _
        have TZ : Two wz wv2.heap.size (.slice (some ⟨g, 0, none⟩) ms.length ms.length) (.slice (some ⟨gl, 0, none⟩) ls.length ls.length) 27 := by rw [← hwz]; exact Two.new wv2 _ _ _
        have hgl1 := Fg.lt
        have hgl2 := Fl.lt
        rw [hwz]
        refine hK.out _ _ (chain Bwv2 LZ) (fun _ => ?_)
        clear hK K hwz
        refine wpAnyH_done (by kernel_rfl) ?_ _
        refine NoPanic.normal ?_
        try simp only [Exit.then]
        go_wp2_with fail
        go_meet
        exact ⟨_, g, gl, rfl, TZ, Fg.next LZ, Fl.next LZ, by have := Bwv2.size; omega, by omega, by omega, by omega, by omega, by omega, chain Bwv2 LZ⟩
      · go_simp
        obtain ⟨wv4, hX⟩ : ∃ w0, wv1.alloc (.cells #[.slice none 0 0, .slice none 0 0] 27) = w0 := ⟨_, rfl⟩
        have LX : Below wv1.heap.size wv1 wv4 := by rw [← hX]; exact (Below.refl _ _).alloc (Nat.le_refl _) _
        have sX : wv1.heap.size < wv4.heap.size := by rw [← hX]; simp
        have Fo : Two wv4 wv1.heap.size (.slice none 0 0) (.slice none 0 0) 27 := by rw [← hX]; exact Two.new wv1 _ _ _
        replace Fg := Fg.next LX
        have Bwv4 : Below W.heap.size W wv4 := chain Bwv1 LX
        obtain ⟨o, ho⟩ : ∃ q, wv1.heap.size = q := ⟨_, rfl⟩
        have ho1 : wv1.heap.size ≤ o := by omega
        have ho2 : o < wv4.heap.size := by omega
        rw [hX]
        rw [ho] at Fo ⊢
        refine hK.out _ _ Bwv4 (fun _ => ?_)
        clear hK K hX LX ho sX
        refine calm_one 7 (by kernel_rfl) rfl (fun K hK => ?_)
        go_simp
        obtain ⟨wv5, hX⟩ : ∃ w0, wv4.alloc (.cells (madeCells #[.slice none 0 0] ls.length) 28) = w0 := ⟨_, rfl⟩
        have LX : Below wv4.heap.size wv4 wv5 := by rw [← hX]; exact (Below.refl _ _).alloc (Nat.le_refl _) _
        have sX : wv4.heap.size < wv5.heap.size := by rw [← hX]; simp
        have Fl : FB wv5 wv4.heap.size ls.length (fun _ => .slice none 0 0) 28 := by rw [← hX]; have := FB.madeL wv4 ls.length 28; rw [Nat.mul_one] at this; exact this
        replace Fg := Fg.next LX
        replace Fo := Fo.below LX
        have Bwv5 : Below W.heap.size W wv5 := chain Bwv4 LX
        obtain ⟨gl, hgl⟩ : ∃ q, wv4.heap.size = q := ⟨_, rfl⟩
        have hgl1 : wv4.heap.size ≤ gl := by omega
        have hgl2 : gl < wv5.heap.size := by omega
        rw [hX]
        rw [hgl] at Fl ⊢
        refine hK.out _ _ Bwv5 (fun _ => ?_)
        clear hK K hX LX hgl sX
        refine calm_more14 1 [8] (by kernel_rfl) (by kernel_rfl) (by kernel_rfl) Bwv5 ?_
        iterate 1
          refine ⟨_, rfl, ?_⟩
          apply Exists.intro
          refine ⟨Or.inl ⟨by rfl, fun w' hw' => ?_⟩, ?_⟩
          · first
            | (go_simp; done)
            | (go_simp; with_reducible rfl)
          simp only [Act.put, List.getElem_toArray, List.getElem_cons_succ, List.getElem_cons_zero, List.setIfInBounds_toArray, List.set_cons_zero, List.set_cons_succ]
        have x0 := Fo.c0
        have x1 := Fo.c1
        have xf0 := Fo.frozen 0
        have xf1 := Fo.frozen 1
        have hgl1 := Fg.lt
        have hgl2 := Fl.lt
        have hgl3 := Fo.lt
        refine calm_one 10 (by kernel_rfl) rfl (fun K hK => ?_)
        go_simp
        obtain ⟨wz, hwz⟩ : ∃ wz, (wv5.setCell ⟨o, 0, none⟩ (.slice (some ⟨g, 0, none⟩) ms.length ms.length)).setCell ⟨o, 1, none⟩ (.slice (some ⟨gl, 0, none⟩) ls.length ls.length) = wz := ⟨_, rfl⟩
        have TZ : Two wz o (.slice (some ⟨g, 0, none⟩) ms.length ms.length) (.slice (some ⟨gl, 0, none⟩) ls.length ls.length) 27 := by rw [← hwz]; exact (Fo.set0 _).set1 _
        have Fg2 : FB wz g (ms.length * 2) zeroM 30 := by rw [← hwz]; exact (Fg.far (by omega) _ _).far (by omega) _ _
        have Fl2 : FB wz gl ls.length (fun _ => .slice none 0 0) 28 := by rw [← hwz]; exact (Fl.far (by omega) _ _).far (by omega) _ _
        have BZ : Below W.heap.size W wz := by rw [← hwz]; exact (Bwv5.setCell (by show W.heap.size ≤ o; omega) _).setCell (by show W.heap.size ≤ o; omega) _
        rw [hwz]
        refine hK.out _ _ BZ (fun _ => ?_)
        clear hK K hwz x0 x1 xf0 xf1
        refine wpAnyH_done (by kernel_rfl) ?_ _
        refine NoPanic.normal ?_
        try simp only [Exit.then]
        go_wp2_with fail
        go_meet
        exact ⟨o, g, gl, rfl, TZ, Fg2, Fl2, by omega, by omega, by omega, by omega, by omega, by omega, BZ⟩
    · go_simp
      obtain ⟨wv6, hX⟩ : ∃ w0, wv0.alloc (.cells (madeCells #[.slice none 0 0] ls.length) 28) = w0 := ⟨_, rfl⟩
      have LX : Below wv0.heap.size wv0 wv6 := by rw [← hX]; exact (Below.refl _ _).alloc (Nat.le_refl _) _
      have sX : wv0.heap.size < wv6.heap.size := by rw [← hX]; simp
      have Fl : FB wv6 wv0.heap.size ls.length (fun _ => .slice none 0 0) 28 := by rw [← hX]; have := FB.madeL wv0 ls.length 28; rw [Nat.mul_one] at this; exact this
      have Bwv6 : Below W.heap.size W wv6 := chain Bwv0 LX
      obtain ⟨gl, hgl⟩ : ∃ q, wv0.heap.size = q := ⟨_, rfl⟩
      have hgl1 : wv0.heap.size ≤ gl := by omega
      have hgl2 : gl < wv6.heap.size := by omega
      rw [hX]
      rw [hgl] at Fl ⊢
      refine hK.out _ _ Bwv6 (fun _ => ?_)
      clear hK K hX LX hgl sX
      refine calm_two14 3 9 (by kernel_rfl) rfl rfl (fun K hK => ?_) (fun K hK => ?_)
      · go_simp
        obtain ⟨wv7, hX⟩ : ∃ w0, wv6.alloc (.cells (madeCells #[.int .i64 0, .slice none 0 0] (ms.length * 2)) 30) = w0 := ⟨_, rfl⟩
        have LX : Below wv6.heap.size wv6 wv7 := by rw [← hX]; exact (Below.refl _ _).alloc (Nat.le_refl _) _
        have sX : wv6.heap.size < wv7.heap.size := by rw [← hX]; simp
        have Fg : FB wv7 wv6.heap.size (ms.length * 2) zeroM 30 := by rw [← hX]; exact FB.madeM wv6 _ _
        replace Fl := Fl.next LX
        have Bwv7 : Below W.heap.size W wv7 := chain Bwv6 LX
        obtain ⟨g, hg⟩ : ∃ q, wv6.heap.size = q := ⟨_, rfl⟩
        have hg1 : wv6.heap.size ≤ g := by omega
        have hg2 : g < wv7.heap.size := by omega
        rw [hX]
        rw [hg] at Fg ⊢
        refine hK.out _ _ Bwv7 (fun _ => ?_)
        clear hK K hX LX hg sX
        refine calm_more14 2 [8] (by kernel_rfl) (by kernel_rfl) (by kernel_rfl) Bwv7 ?_
        iterate 1
          refine ⟨_, rfl, ?_⟩
          apply Exists.intro
          refine ⟨Or.inl ⟨by rfl, fun w' hw' => ?_⟩, ?_⟩
          · first
            | (go_simp; done)
            | (go_simp; with_reducible rfl)
          simp only [Act.put, List.getElem_toArray, List.getElem_cons_succ, List.getElem_cons_zero, List.setIfInBounds_toArray, List.set_cons_zero, List.set_cons_succ]
        refine calm_one 9 (by kernel_rfl) rfl (fun K hK => ?_)
        go_simp
        have oE : wv7.heap.size = wv7.heap.size := rfl
        refine hK.out _ _ (Bwv7.alloc Bwv7.size _) (fun _ => ?_)
        clear hK K
        refine calm_one 10 (by kernel_rfl) rfl (fun K hK => ?_)
        go_simp
        obtain ⟨wz, hwz⟩ : ∃ wz, wv7.alloc (.cells #[.slice (some ⟨g, 0, none⟩) ms.length ms.length, .slice (some ⟨gl, 0, none⟩) ls.length ls.length] 27) = wz := ⟨_, rfl⟩
        have LZ : Below wv7.heap.size wv7 wz := by rw [← hwz]; exact (Below.refl _ _).alloc (Nat.le_refl _) _
        have TZ : Two wz wv7.heap.size (.slice (some ⟨g, 0, none⟩) ms.length ms.length) (.slice (some ⟨gl, 0, none⟩) ls.length ls.length) 27 := by rw [← hwz]; exact Two.new wv7 _ _ _
        have hgl1 := Fg.lt
        have hgl2 := Fl.lt
        rw [hwz]
        refine hK.out _ _ (chain Bwv7 LZ) (fun _ => ?_)
        clear hK K hwz
        refine wpAnyH_done (by kernel_rfl) ?_ _
        refine NoPanic.normal ?_
        try simp only [Exit.then]
        go_wp2_with fail
        go_meet
        exact ⟨_, g, gl, rfl, TZ, Fg.next LZ, Fl.next LZ, by have := Bwv7.size; omega, by omega, by omega, by omega, by omega, by omega, chain Bwv7 LZ⟩
      · go_simp
        obtain ⟨wv9, hX⟩ : ∃ w0, wv6.alloc (.cells #[.slice none 0 0, .slice none 0 0] 27) = w0 := ⟨_, rfl⟩
        have LX : Below wv6.heap.size wv6 wv9 := by rw [← hX]; exact (Below.refl _ _).alloc (Nat.le_refl _) _
        have sX : wv6.heap.size < wv9.heap.size := by rw [← hX]; simp
        have Fo : Two wv9 wv6.heap.size (.slice none 0 0) (.slice none 0 0) 27 := by rw [← hX]; exact Two.new wv6 _ _ _
        replace Fl := Fl.next LX
        have Bwv9 : Below W.heap.size W wv9 := chain Bwv6 LX
        obtain ⟨o, ho⟩ : ∃ q, wv6.heap.size = q := ⟨_, rfl⟩
        have ho1 : wv6.heap.size ≤ o := by omega
        have ho2 : o < wv9.heap.size := by omega
        rw [hX]
        rw [ho] at Fo ⊢
        refine hK.out _ _ Bwv9 (fun _ => ?_)
        clear hK K hX LX ho sX
        refine calm_one 3 (by kernel_rfl) rfl (fun K hK => ?_)
        go_simp
        obtain ⟨wv10, hX⟩ : ∃ w0, wv9.alloc (.cells (madeCells #[.int .i64 0, .slice none 0 0] (ms.length * 2)) 30) = w0 := ⟨_, rfl⟩
        have LX : Below wv9.heap.size wv9 wv10 := by rw [← hX]; exact (Below.refl _ _).alloc (Nat.le_refl _) _
        have sX : wv9.heap.size < wv10.heap.size := by rw [← hX]; simp
        have Fg : FB wv10 wv9.heap.size (ms.length * 2) zeroM 30 := by rw [← hX]; exact FB.madeM wv9 _ _
        replace Fl := Fl.next LX
        replace Fo := Fo.below LX
        have Bwv10 : Below W.heap.size W wv10 := chain Bwv9 LX
        obtain ⟨g, hg⟩ : ∃ q, wv9.heap.size = q := ⟨_, rfl⟩
        have hg1 : wv9.heap.size ≤ g := by omega
        have hg2 : g < wv10.heap.size := by omega
        rw [hX]
        rw [hg] at Fg ⊢
        refine hK.out _ _ Bwv10 (fun _ => ?_)
        clear hK K hX LX hg sX
        refine calm_more14 1 [8] (by kernel_rfl) (by kernel_rfl) (by kernel_rfl) Bwv10 ?_
        iterate 1
          refine ⟨_, rfl, ?_⟩
          apply Exists.intro
          refine ⟨Or.inl ⟨by rfl, fun w' hw' => ?_⟩, ?_⟩
          · first
            | (go_simp; done)
            | (go_simp; with_reducible rfl)
          simp only [Act.put, List.getElem_toArray, List.getElem_cons_succ, List.getElem_cons_zero, List.setIfInBounds_toArray, List.set_cons_zero, List.set_cons_succ]
        have x0 := Fo.c0
        have x1 := Fo.c1
        have xf0 := Fo.frozen 0
        have xf1 := Fo.frozen 1
        have hgl1 := Fg.lt
        have hgl2 := Fl.lt
        have hgl3 := Fo.lt
        refine calm_one 10 (by kernel_rfl) rfl (fun K hK => ?_)
        go_simp
        obtain ⟨wz, hwz⟩ : ∃ wz, (wv10.setCell ⟨o, 0, none⟩ (.slice (some ⟨g, 0, none⟩) ms.length ms.length)).setCell ⟨o, 1, none⟩ (.slice (some ⟨gl, 0, none⟩) ls.length ls.length) = wz := ⟨_, rfl⟩
        have TZ : Two wz o (.slice (some ⟨g, 0, none⟩) ms.length ms.length) (.slice (some ⟨gl, 0, none⟩) ls.length ls.length) 27 := by rw [← hwz]; exact (Fo.set0 _).set1 _
        have Fg2 : FB wz g (ms.length * 2) zeroM 30 := by rw [← hwz]; exact (Fg.far (by omega) _ _).far (by omega) _ _
        have Fl2 : FB wz gl ls.length (fun _ => .slice none 0 0) 28 := by rw [← hwz]; exact (Fl.far (by omega) _ _).far (by omega) _ _
        have BZ : Below W.heap.size W wz := by rw [← hwz]; exact (Bwv10.setCell (by show W.heap.size ≤ o; omega) _).setCell (by show W.heap.size ≤ o; omega) _
        rw [hwz]
        refine hK.out _ _ BZ (fun _ => ?_)
        clear hK K hwz x0 x1 xf0 xf1
        refine wpAnyH_done (by kernel_rfl) ?_ _
        refine NoPanic.normal ?_
        try simp only [Exit.then]
        go_wp2_with fail
        go_meet
        exact ⟨o, g, gl, rfl, TZ, Fg2, Fl2, by omega, by omega, by omega, by omega, by omega, by omega, BZ⟩
    · go_simp
      obtain ⟨wv11, hX⟩ : ∃ w0, wv0.alloc (.cells #[.slice none 0 0, .slice none 0 0] 27) = w0 := ⟨_, rfl⟩
      have LX : Below wv0.heap.size wv0 wv11 := by rw [← hX]; exact (Below.refl _ _).alloc (Nat.le_refl _) _
      have sX : wv0.heap.size < wv11.heap.size := by rw [← hX]; simp
      have Fo : Two wv11 wv0.heap.size (.slice none 0 0) (.slice none 0 0) 27 := by rw [← hX]; exact Two.new wv0 _ _ _
      have Bwv11 : Below W.heap.size W wv11 := chain Bwv0 LX
      obtain ⟨o, ho⟩ : ∃ q, wv0.heap.size = q := ⟨_, rfl⟩
      have ho1 : wv0.heap.size ≤ o := by omega
      have ho2 : o < wv11.heap.size := by omega
      rw [hX]
      rw [ho] at Fo ⊢
      refine hK.out _ _ Bwv11 (fun _ => ?_)
      clear hK K hX LX ho sX
      refine calm_two14 3 7 (by kernel_rfl) rfl rfl (fun K hK => ?_) (fun K hK => ?_)
      · go_simp
        obtain ⟨wv12, hX⟩ : ∃ w0, wv11.alloc (.cells (madeCells #[.int .i64 0, .slice none 0 0] (ms.length * 2)) 30) = w0 := ⟨_, rfl⟩
        have LX : Below wv11.heap.size wv11 wv12 := by rw [← hX]; exact (Below.refl _ _).alloc (Nat.le_refl _) _
        have sX : wv11.heap.size < wv12.heap.size := by rw [← hX]; simp
        have Fg : FB wv12 wv11.heap.size (ms.length * 2) zeroM 30 := by rw [← hX]; exact FB.madeM wv11 _ _
        replace Fo := Fo.below LX
        have Bwv12 : Below W.heap.size W wv12 := chain Bwv11 LX
        obtain ⟨g, hg⟩ : ∃ q, wv11.heap.size = q := ⟨_, rfl⟩
        have hg1 : wv11.heap.size ≤ g := by omega
        have hg2 : g < wv12.heap.size := by omega
        rw [hX]
        rw [hg] at Fg ⊢
        refine hK.out _ _ Bwv12 (fun _ => ?_)
        clear hK K hX LX hg sX
        refine calm_one 7 (by kernel_rfl) rfl (fun K hK => ?_)
        go_simp
        obtain ⟨wv13, hX⟩ : ∃ w0, wv12.alloc (.cells (madeCells #[.slice none 0 0] ls.length) 28) = w0 := ⟨_, rfl⟩
        have LX : Below wv12.heap.size wv12 wv13 := by rw [← hX]; exact (Below.refl _ _).alloc (Nat.le_refl _) _
        have sX : wv12.heap.size < wv13.heap.size := by rw [← hX]; simp
        have Fl : FB wv13 wv12.heap.size ls.length (fun _ => .slice none 0 0) 28 := by rw [← hX]; have := FB.madeL wv12 ls.length 28; rw [Nat.mul_one] at this; exact this
        replace Fo := Fo.below LX
        replace Fg := Fg.next LX
        have Bwv13 : Below W.heap.size W wv13 := chain Bwv12 LX
        obtain ⟨gl, hgl⟩ : ∃ q, wv12.heap.size = q := ⟨_, rfl⟩
        have hgl1 : wv12.heap.size ≤ gl := by omega
        have hgl2 : gl < wv13.heap.size := by omega
        rw [hX]
        rw [hgl] at Fl ⊢
        refine hK.out _ _ Bwv13 (fun _ => ?_)
        clear hK K hX LX hgl sX
        refine calm_more14 1 [8] (by kernel_rfl) (by kernel_rfl) (by kernel_rfl) Bwv13 ?_
        iterate 1
          refine ⟨_, rfl, ?_⟩
          apply Exists.intro
          refine ⟨Or.inl ⟨by rfl, fun w' hw' => ?_⟩, ?_⟩
          · first
            | (go_simp; done)
            | (go_simp; with_reducible rfl)
          simp only [Act.put, List.getElem_toArray, List.getElem_cons_succ, List.getElem_cons_zero, List.setIfInBounds_toArray, List.set_cons_zero, List.set_cons_succ]
        have x0 := Fo.c0
        have x1 := Fo.c1
        have xf0 := Fo.frozen 0
        have xf1 := Fo.frozen 1
        have hgl1 := Fg.lt
        have hgl2 := Fl.lt
        have hgl3 := Fo.lt
        refine calm_one 10 (by kernel_rfl) rfl (fun K hK => ?_)
        go_simp
        obtain ⟨wz, hwz⟩ : ∃ wz, (wv13.setCell ⟨o, 0, none⟩ (.slice (some ⟨g, 0, none⟩) ms.length ms.length)).setCell ⟨o, 1, none⟩ (.slice (some ⟨gl, 0, none⟩) ls.length ls.length) = wz := ⟨_, rfl⟩
        have TZ : Two wz o (.slice (some ⟨g, 0, none⟩) ms.length ms.length) (.slice (some ⟨gl, 0, none⟩) ls.length ls.length) 27 := by rw [← hwz]; exact (Fo.set0 _).set1 _
        have Fg2 : FB wz g (ms.length * 2) zeroM 30 := by rw [← hwz]; exact (Fg.far (by omega) _ _).far (by omega) _ _
        have Fl2 : FB wz gl ls.length (fun _ => .slice none 0 0) 28 := by rw [← hwz]; exact (Fl.far (by omega) _ _).far (by omega) _ _
        have BZ : Below W.heap.size W wz := by rw [← hwz]; exact (Bwv13.setCell (by show W.heap.size ≤ o; omega) _).setCell (by show W.heap.size ≤ o; omega) _
        rw [hwz]
        refine hK.out _ _ BZ (fun _ => ?_)
        clear hK K hwz x0 x1 xf0 xf1
        refine wpAnyH_done (by kernel_rfl) ?_ _
        refine NoPanic.normal ?_
        try simp only [Exit.then]
        go_wp2_with fail
        go_meet
        exact ⟨o, g, gl, rfl, TZ, Fg2, Fl2, by omega, by omega, by omega, by omega, by omega, by omega, BZ⟩
      · go_simp
        obtain ⟨wv14, hX⟩ : ∃ w0, wv11.alloc (.cells (madeCells #[.slice none 0 0] ls.length) 28) = w0 := ⟨_, rfl⟩
        have LX : Below wv11.heap.size wv11 wv14 := by rw [← hX]; exact (Below.refl _ _).alloc (Nat.le_refl _) _
        have sX : wv11.heap.size < wv14.heap.size := by rw [← hX]; simp
        have Fl : FB wv14 wv11.heap.size ls.length (fun _ => .slice none 0 0) 28 := by rw [← hX]; have := FB.madeL wv11 ls.length 28; rw [Nat.mul_one] at this; exact this
        replace Fo := Fo.below LX
        have Bwv14 : Below W.heap.size W wv14 := chain Bwv11 LX
        obtain ⟨gl, hgl⟩ : ∃ q, wv11.heap.size = q := ⟨_, rfl⟩
        have hgl1 : wv11.heap.size ≤ gl := by omega
        have hgl2 : gl < wv14.heap.size := by omega
        rw [hX]
        rw [hgl] at Fl ⊢
        refine hK.out _ _ Bwv14 (fun _ => ?_)
        clear hK K hX LX hgl sX
        refine calm_one 3 (by kernel_rfl) rfl (fun K hK => ?_)
        go_simp
        obtain ⟨wv15, hX⟩ : ∃ w0, wv14.alloc (.cells (madeCells #[.int .i64 0, .slice none 0 0] (ms.length * 2)) 30) = w0 := ⟨_, rfl⟩
        have LX : Below wv14.heap.size wv14 wv15 := by rw [← hX]; exact (Below.refl _ _).alloc (Nat.le_refl _) _
        have sX : wv14.heap.size < wv15.heap.size := by rw [← hX]; simp
        have Fg : FB wv15 wv14.heap.size (ms.length * 2) zeroM 30 := by rw [← hX]; exact FB.madeM wv14 _ _
        replace Fo := Fo.below LX
        replace Fl := Fl.next LX
        have Bwv15 : Below W.heap.size W wv15 := chain Bwv14 LX
        obtain ⟨g, hg⟩ : ∃ q, wv14.heap.size = q := ⟨_, rfl⟩
        have hg1 : wv14.heap.size ≤ g := by omega
        have hg2 : g < wv15.heap.size := by omega
        rw [hX]
        rw [hg] at Fg ⊢
        refine hK.out _ _ Bwv15 (fun _ => ?_)
        clear hK K hX LX hg sX
        refine calm_more14 1 [8] (by kernel_rfl) (by kernel_rfl) (by kernel_rfl) Bwv15 ?_
        iterate 1
          refine ⟨_, rfl, ?_⟩
          apply Exists.intro
          refine ⟨Or.inl ⟨by rfl, fun w' hw' => ?_⟩, ?_⟩
          · first
            | (go_simp; done)
            | (go_simp; with_reducible rfl)
          simp only [Act.put, List.getElem_toArray, List.getElem_cons_succ, List.getElem_cons_zero, List.setIfInBounds_toArray, List.set_cons_zero, List.set_cons_succ]
        have x0 := Fo.c0
        have x1 := Fo.c1
        have xf0 := Fo.frozen 0
        have xf1 := Fo.frozen 1
        have hgl1 := Fg.lt
        have hgl2 := Fl.lt
        have hgl3 := Fo.lt
        refine calm_one 10 (by kernel_rfl) rfl (fun K hK => ?_)
        go_simp
        obtain ⟨wz, hwz⟩ : ∃ wz, (wv15.setCell ⟨o, 0, none⟩ (.slice (some ⟨g, 0, none⟩) ms.length ms.length)).setCell ⟨o, 1, none⟩ (.slice (some ⟨gl, 0, none⟩) ls.length ls.length) = wz := ⟨_, rfl⟩
        have TZ : Two wz o (.slice (some ⟨g, 0, none⟩) ms.length ms.length) (.slice (some ⟨gl, 0, none⟩) ls.length ls.length) 27 := by rw [← hwz]; exact (Fo.set0 _).set1 _
        have Fg2 : FB wz g (ms.length * 2) zeroM 30 := by rw [← hwz]; exact (Fg.far (by omega) _ _).far (by omega) _ _
        have Fl2 : FB wz gl ls.length (fun _ => .slice none 0 0) 28 := by rw [← hwz]; exact (Fl.far (by omega) _ _).far (by omega) _ _
        have BZ : Below W.heap.size W wz := by rw [← hwz]; exact (Bwv15.setCell (by show W.heap.size ≤ o; omega) _).setCell (by show W.heap.size ≤ o; omega) _
        rw [hwz]
        refine hK.out _ _ BZ (fun _ => ?_)
        clear hK K hwz x0 x1 xf0 xf1
        refine wpAnyH_done (by kernel_rfl) ?_ _
        refine NoPanic.normal ?_
        try simp only [Exit.then]
        go_wp2_with fail
        go_meet
        exact ⟨o, g, gl, rfl, TZ, Fg2, Fl2, by omega, by omega, by omega, by omega, by omega, by omega, BZ⟩
  case rest =>
    obtain ⟨o, g, gl, rfl, hTo, hFg, hFl, ho, hg, hgl, hog, hogl, hggl, LW⟩ := hcut
    generalize hwc : wc = w1 at *
    clear hwc wc hmkM hmkL BL HS
    have HLW := hidP LW
    have hI1 := HI.out.below LW
    have k0 := hI1.c0
    have HLO := hidP (OPart.start (base := w.heap.size) (ms := ms) hFg (by have := HSZ.out; omega))
    have HFL := hidP hFl
    have HTO := hidP hTo
    have hgll := hFl.lt
    have hol := hTo.lt
    have hWs := HSZ.out.2
    have hgw : w.heap.size + 2 ≤ g := by omega
    have how : w.heap.size + 2 ≤ o := by omega
    have hglw : w.heap.size + 2 ≤ gl := by omega
    have HW1 := hidP LW.size
    clear hI1 hTo hFg hFl LW hWs
    go_wp2_with fail
    clear k0
    go_loopg [20] ms.length (fun gk iv wr => ∃ (k : Nat) (G cc : Nat → Nat) (hi : Nat), k ≤ ms.length ∧ ms.length - k ≤ gk ∧ iv = .int .i64 k ∧ OPart w.heap.size wr g k ms G cc w1.heap.size hi ∧ w1.heap.size ≤ wr.heap.size ∧ FB wr gl ls.length (fun _ => .slice none 0 0) 28 ∧ Two wr o (.slice (some ⟨g, 0, none⟩) ms.length ms.length) (.slice (some ⟨gl, 0, none⟩) ls.length ls.length) 27 ∧ Below W.heap.size W wr)
    case atStart => exact ⟨0, _, _, _, Nat.zero_le _, Nat.sub_le _ _, rfl, HLO.out, Nat.le_refl _, HFL.out, HTO.out, HLW.out⟩
    case round =>
      obtain ⟨k, G, cc, hi, hk, hgk, rfl, hp, hsz, hfl, hto, L⟩ := hrel
      have HP := hidP hp
      have HL := hidP L
      have HF := hidP hfl
      have HT := hidP hto
      have hIr := HI.out.below L
      clear hp L hfl hto
      by_cases hlt : k < ms.length
      · obtain ⟨mb, mo, rfl, hmb2, hms⟩ := MSeg.seg hIr.mv (by omega)
        obtain ⟨c0, pa, pc, c1, hpv⟩ := hms.at (i := k) hlt
        have hi0 : (0 : Int) ≤ (k : Int) := Int.natCast_nonneg _
        have hi1 : (k : Int) < (ms.length : Int) := by omega
        have hok := (mOkAt_iff _ _).1 (marksB_at HMB.out hlt)
        obtain ⟨V1, hV⟩ : ∃ V1, wr.alloc (.cells #[.int .i64 (mid ms k), .slice pa (mat ms k).length pc] 30) = V1 := ⟨_, rfl⟩
        have LV : Below wr.heap.size wr V1 := by rw [← hV]; exact (Below.refl _ _).alloc (Nat.le_refl _) _
        have hYl : wr.heap.size < V1.heap.size := by rw [← hV]; simp
        have y0 : V1.cell? ⟨wr.heap.size, 0, none⟩ = some (.int .i64 (mid ms k)) := by rw [← hV]; simp
        have y1 : V1.cell? ⟨wr.heap.size, 1, none⟩ = some (.slice pa (mat ms k).length pc) := by rw [← hV]; simp
        have LVd : Below wr.heap.size wr V1.drew := LV.drew
        have hOV := (HT.out.below LVd).c0
        have HPD := hidP (HP.out.next LVd)
        have HTD := hidP (HT.out.below LVd)
        have HFD := hidP (HF.out.next LVd)
        have HLD := hidP (chain HL.out LVd)
        have HC := hidP (iOwn15 (mid ms k, pa, pc, mat ms k) V1.drew (hpv.next LVd) (by have := ((mOkAt_iff _ _).1 (marksB_at HMB.out hlt)).2.2.1; exact (okB_len this).1) (hsm.2 k))
        have hol1 := HTD.out.lt
        have hgl1 := HPD.out.blk.lt
        have hszd : w1.heap.size ≤ V1.drew.heap.size := Nat.le_trans hsz LVd.size
        have hwb : w.heap.size ≤ V1.drew.heap.size := by have := HLD.out.size; have := HSZ.out; omega
        clear hms hpv hIr LV LVd hok
        have HSS : Hid (∀ W', Below V1.drew.heap.size V1.drew W' → W'.cell? ⟨o, 0, none⟩ = some (.slice (some ⟨g, 0, none⟩) ms.length ms.length) ∧ W'.cell? ⟨wr.heap.size, 0, none⟩ = some (.int .i64 (mid ms k)) ∧ W'.cell? ⟨wr.heap.size, 1, none⟩ = some (.slice pa (mat ms k).length pc)) := fun W' L' => ⟨(L'.cell (p := ⟨o, 0, none⟩) hol1).trans hOV, (L'.cell (p := ⟨wr.heap.size, 0, none⟩) hYl).trans y0, (L'.cell (p := ⟨wr.heap.size, 1, none⟩) hYl).trans y1⟩
        obtain ⟨id, hid⟩ : ∃ id, mid ms k = id := ⟨_, rfl⟩
        obtain ⟨xl, hxl⟩ : ∃ xl, (mat ms k).length = xl := ⟨_, rfl⟩
        have HID := hidP (And.intro hid hxl)
        simp only at HC
        rw [hid, hxl] at HC HSS
        rw [hxl] at y1
        rw [hid] at y0 c0
        rw [hxl] at c1
        rw [hid, hxl] at hV
        clear hid hxl hOV
        go_wp2_with fail
        clear hV c0 c1 y0 y1
        refine wp_region_calm (S := fun w' => w'.cell? ⟨o, 0, none⟩ = some (.slice (some ⟨g, 0, none⟩) ms.length ms.length) ∧ w'.cell? ⟨wr.heap.size, 0, none⟩ = some (.int .i64 id) ∧ w'.cell? ⟨wr.heap.size, 1, none⟩ = some (.slice pa xl pc)) (fuel := 2)
          [0, 1, 2, 3] _ rfl (by kernel_rfl) (by kernel_rfl) (by kernel_rfl) (by kernel_rfl) (by kernel_rfl) (by kernel_rfl) (by kernel_rfl) (HSS.out _ (Below.refl _ _)) (fun hS => ?_)
        iterate 4
          refine ⟨_, rfl, ?_⟩
          apply Exists.intro
          refine ⟨Or.inl ⟨by rfl, fun w' hw' => ?_⟩, ?_⟩
          · first
            | (go_simp; done)
            | (go_simp; with_reducible rfl)
          simp only [Act.put, List.setIfInBounds_toArray]
        refine calm_one 4 (by kernel_rfl) rfl (fun K hK => ?_)
        go_simp
        refine HC.out.mono ?_
        rintro e w3 ⟨h3, c3, rfl, hr3, L3⟩
        refine hK.out _ _ (HSS.out _ L3) (fun _ => ?_)
        clear hK K
        refine calm_one 5 (by kernel_rfl) rfl (fun K hK => ?_)
        go_simp
        refine hK.out _ _ (HSS.out _ L3) (fun _ => ?_)
        clear hK K hS
        have HST := hidP (HPD.out.step L3 hr3 hwb hszd)
        have hN := HPD.out.next L3
        have f0 := hN.blk.frozen (k * 2)
        have f1 := hN.blk.frozen (k * 2 + 1)
        have e0 := hN.blk.cell (i := k * 2) (by omega)
        have e1 := hN.blk.cell (i := k * 2 + 1) (by omega)
        have hgN := hN.blk.lt
        have HE : Hid (FB ((w3.setCell ⟨g, k * 2, none⟩ (.int .i64 id)).setCell ⟨g, k * 2 + 1, none⟩ (.slice (some ⟨h3, 0, none⟩) xl c3)) gl ls.length (fun _ => .slice none 0 0) 28 ∧ Two ((w3.setCell ⟨g, k * 2, none⟩ (.int .i64 id)).setCell ⟨g, k * 2 + 1, none⟩ (.slice (some ⟨h3, 0, none⟩) xl c3)) o (.slice (some ⟨g, 0, none⟩) ms.length ms.length) (.slice (some ⟨gl, 0, none⟩) ls.length ls.length) 27 ∧ Below W.heap.size W ((w3.setCell ⟨g, k * 2, none⟩ (.int .i64 id)).setCell ⟨g, k * 2 + 1, none⟩ (.slice (some ⟨h3, 0, none⟩) xl c3)) ∧ w1.heap.size ≤ ((w3.setCell ⟨g, k * 2, none⟩ (.int .i64 id)).setCell ⟨g, k * 2 + 1, none⟩ (.slice (some ⟨h3, 0, none⟩) xl c3)).heap.size) :=
          ⟨((HFD.out.next L3).far (by omega) _ _).far (by omega) _ _, ((HTD.out.below L3).far (fun e => hog e.symm) _).far (fun e => hog e.symm) _, ((chain HLD.out L3).setCell (by show W.heap.size ≤ g; exact hg) _).setCell (by show W.heap.size ≤ g; exact hg) _, by rw [setCell_size, setCell_size]; exact Nat.le_trans hszd L3.size⟩
        rw [HID.out.1, HID.out.2] at HST
        clear hr3 L3 hN HPD HFD HTD HLD HC HSS
        refine wpAnyH_done (by kernel_rfl) ?_ _
        simp only [Exit.then]
        go_wp2_with fail
        refine NoPanic.normal ?_
        go_wp2_with fail
        go_roundg (ms.length - (k + 1))
        case rel => exact ⟨k + 1, _, _, _, by omega, Nat.le_refl _, by go_num, HST.out, HE.out.2.2.2, HE.out.1, HE.out.2.1, HE.out.2.2.1⟩
        case measure => omega
      · obtain rfl : k = ms.length := by omega
        have hki : ¬ ((ms.length : Int) < (ms.length : Int)) := by omega
        have k1 := hIr.c1
        have HOP := hidP (HP.out.raise HP.out.top (Nat.le_refl _))
        have HNM := hidP (NM.start (base := w.heap.size) HF.out (by omega) (lo := wr.heap.size) (by have := HF.out.lt; omega) (Nat.le_refl _))
        have hglr := HF.out.lt
        have hgr := HP.out.blk.lt
        have HSR := hidP (Nat.le_refl wr.heap.size)
        clear hIr HP HF
        go_wp2_with fail
        clear k1
        obtain ⟨H, hH⟩ : ∃ H, wr.heap.size = H := ⟨_, rfl⟩
        rw [hH] at HOP HNM HSR hglr hgr
        have HHW : Hid (w1.heap.size ≤ H) := by show _ ≤ _; omega
        clear hH
        go_loopw [35] (fun iv wq => ∃ (j : Nat) (V : Nat → Value), j ≤ ls.length ∧ iv = .int .i64 j ∧ OPart w.heap.size wq g ms.length ms G cc w1.heap.size H ∧ NM w.heap.size wq gl ls.length V (fun i => if i < j then cn ls i else []) H ∧ (∀ i, j ≤ i → V i = .slice none 0 0) ∧ Two wq o (.slice (some ⟨g, 0, none⟩) ms.length ms.length) (.slice (some ⟨gl, 0, none⟩) ls.length ls.length) 27 ∧ Below W.heap.size W wq) (fun iv _ => ls.length - (intOf iv).toNat)
        case atStart => exact ⟨0, _, Nat.zero_le _, rfl, HOP.out, HNM.out.congr (fun i _ => by rw [if_neg (by omega)]), fun _ _ => rfl, HT.out, HL.out⟩
        case round =>
          obtain ⟨j, V, hj, rfl, hop, hnm, hVn, hto, L⟩ := hrel
          generalize hwq : wr = wq at *
          clear hwq wr
          have HOQ := hidP hop
          have HNQ := hidP hnm
          have HVQ := hidP hVn
          have HTQ := hidP hto
          have HLQ := hidP L
          have hIq := HI.out.below L
          clear hop hnm hVn hto L
          by_cases hjl : j < ls.length
          · obtain ⟨lb, lo2, rfl, hlb, hcsg⟩ := hIq.cv.seg (by omega)
            obtain ⟨a, c, lk, hlv⟩ := hcsg j hjl
            have hj0 : (0 : Int) ≤ (j : Int) := Int.natCast_nonneg _
            have hj1 : (j : Int) < (ls.length : Int) := by omega
            have LD : Below wq.heap.size wq wq.drew := (Below.refl _ _).drew
            have HC := hidP (iCloneA a c (cn ls j) wq.drew (hlv.next LD) (hcs.2 j))
            have hoc := HTQ.out.c1
            have hol2 := HTQ.out.lt
            have HSS : Hid (∀ W', Below wq.drew.heap.size wq.drew W' → W'.cell? ⟨o, 1, none⟩ = some (.slice (some ⟨gl, 0, none⟩) ls.length ls.length)) := fun W' L' => (L'.cell (p := ⟨o, 1, none⟩) hol2).trans hoc
            clear hcsg hlv hIq hoc
            go_wp2_with fail
            clear lk
            refine wp_region_calm (S := fun w' => w'.cell? ⟨o, 1, none⟩ = some (.slice (some ⟨gl, 0, none⟩) ls.length ls.length)) (fuel := 2)
              [0, 1, 2, 3] _ rfl (by kernel_rfl) (by kernel_rfl) (by kernel_rfl) (by kernel_rfl) (by kernel_rfl) (by kernel_rfl) (by kernel_rfl) (HSS.out _ (Below.refl _ _)) (fun hS => ?_)
            iterate 4
              refine ⟨_, rfl, ?_⟩
              apply Exists.intro
              refine ⟨Or.inl ⟨by rfl, fun w' hw' => ?_⟩, ?_⟩
              · first
                | (go_simp; done)
                | (go_simp; with_reducible rfl)
              simp only [Act.put, List.setIfInBounds_toArray]
            refine calm_one 4 (by kernel_rfl) rfl (fun K hK => ?_)
            go_simp
            refine HC.out.mono ?_
            rintro e w3 ⟨v3, rfl, ho3, L3⟩
            refine hK.out _ _ (HSS.out _ L3) (fun _ => ?_)
            clear hK K
            refine calm_one 5 (by kernel_rfl) rfl (fun K hK => ?_)
            go_simp
            refine hK.out _ _ (HSS.out _ L3) (fun _ => ?_)
            clear hK K hS
            obtain ⟨a3, c3, rfl, -⟩ := own_form15 ho3
            have L3' : Below wq.heap.size wq w3 := chain LD L3
            have hsq : wq.drew.heap.size = wq.heap.size := rfl
            rw [hsq] at ho3
            have HPT := hidP (HNQ.out.put hjl (w' := w3) (own_mono15 ho3 HNQ.out.top) ⟨L3'.os, L3'.tape, L3'.output, L3'.size, fun k hk _ => L3'.block k hk⟩ (by
              rcases eq : (Value.slice a3 (cn ls j).length c3).ownBlock with _ | q
              · exact Or.inl rfl
              · exact Or.inr (Or.inr ⟨q, rfl, (own_lt15 ho3 eq).1⟩)))
            have f0 := (HNQ.out.next L3').blk.frozen j
            have e0 := (HNQ.out.next L3').blk.cell (i := j) hjl
            rw [HVQ.out j (Nat.le_refl _)] at e0
            have HE : Hid (OPart w.heap.size (w3.setCell ⟨gl, j, none⟩ (.slice a3 (cn ls j).length c3)) g ms.length ms G cc w1.heap.size H ∧ Two (w3.setCell ⟨gl, j, none⟩ (.slice a3 (cn ls j).length c3)) o (.slice (some ⟨g, 0, none⟩) ms.length ms.length) (.slice (some ⟨gl, 0, none⟩) ls.length ls.length) 27 ∧ Below W.heap.size W (w3.setCell ⟨gl, j, none⟩ (.slice a3 (cn ls j).length c3))) :=
              ⟨(HOQ.out.next L3').far (by omega) (Or.inl hgll) _ _, (HTQ.out.below L3').far (fun e => hogl e.symm) _, (chain HLQ.out L3').setCell (by show W.heap.size ≤ gl; exact hgl) _⟩
            clear ho3 L3 L3' LD HOQ HNQ HTQ HLQ HC HSS hsq
            refine wpAnyH_done (by kernel_rfl) ?_ _
            simp only [Exit.then]
            go_wp2_with fail
            refine NoPanic.normal ?_
            go_wp2_with fail
            go_roundw
            case rel => exact ⟨j + 1, _, by omega, by go_num, HE.out.1, HPT.out.congr (fun i _ => by
              simp only [updX]
              by_cases e : i = j
              · rw [if_pos e, if_pos (by omega), e]
              · rw [if_neg e]
                by_cases e2 : i < j
                · rw [if_pos e2, if_pos (by omega)]
                · rw [if_neg e2, if_neg (by omega)]), fun i hi' => by
              unfold updV
              rw [if_neg (by omega)]
              exact HVQ.out i (by omega), HE.out.2.1, HE.out.2.2⟩
            case measure => simp [intOf]; omega
          · obtain rfl : j = ls.length := by omega
            have hji : ¬ ((ls.length : Int) < (ls.length : Int)) := by omega
            have hz := HSZ.out
            have tR := HTR.out.below HLQ.out
            rw [hz.1] at tR
            have r0 := tR.c0
            have r1 := tR.c1
            have rf0 := tR.frozen 0
            have rf1 := tR.frozen 1
            have o0 := HTQ.out.c0
            have o1 := HTQ.out.c1
            have t3 := (tR.set0 (.slice (some ⟨g, 0, none⟩) ms.length ms.length)).set1 (.slice (some ⟨gl, 0, none⟩) ls.length ls.length)
            have q0 := t3.c0
            have q1 := t3.c1
            have HNF := hidP (HNQ.out.congr (Y := cn ls) (fun i hi' => by rw [if_pos hi']))
            have hHw := HHW.out
            have HE : Hid (OPart w.heap.size ((wq.setCell ⟨w.heap.size + 1, 0, none⟩ (.slice (some ⟨g, 0, none⟩) ms.length ms.length)).setCell ⟨w.heap.size + 1, 1, none⟩ (.slice (some ⟨gl, 0, none⟩) ls.length ls.length)) g ms.length ms G cc w1.heap.size H ∧ NM w.heap.size ((wq.setCell ⟨w.heap.size + 1, 0, none⟩ (.slice (some ⟨g, 0, none⟩) ms.length ms.length)).setCell ⟨w.heap.size + 1, 1, none⟩ (.slice (some ⟨gl, 0, none⟩) ls.length ls.length)) gl ls.length V (cn ls) H ∧ Below w.heap.size w ((wq.setCell ⟨w.heap.size + 1, 0, none⟩ (.slice (some ⟨g, 0, none⟩) ms.length ms.length)).setCell ⟨w.heap.size + 1, 1, none⟩ (.slice (some ⟨gl, 0, none⟩) ls.length ls.length))) :=
              ⟨(HOQ.out.far (by omega) (Or.inl (by omega)) _ _).far (by omega) (Or.inl (by omega)) _ _, (HNF.out.far (by omega) (by omega) _ _).far (by omega) (by omega) _ _, ((chain HB.out HLQ.out).setCell (by show w.heap.size ≤ w.heap.size + 1; omega) _).setCell (by show w.heap.size ≤ w.heap.size + 1; omega) _⟩
            clear hIq HOQ HNQ HTQ HLQ hz tR t3 HNF hHw
            go_wp2_with fail
            refine bodyPost_ret (v := .agg #[.slice (some ⟨g, 0, none⟩) ms.length ms.length, .slice (some ⟨gl, 0, none⟩) ls.length ls.length]) (by simp [results, Tryz.results67, go_sem, q0, q1]) rfl ?_
            exact ⟨g, gl, rfl, ⟨G, cc, V, _, _, HE.out.1, HE.out.2.1, hggl, hgll⟩, HE.out.2.2⟩
end Go.Proofs.YtmembegdbceooaaGreat
namespace Go.Proofs.YtmembegdbceooaaGreat
open Go Go.RowKit

/-- What a link changes: the row of lists and the lists in it; new lists are those of before, or new. -/
structure LkChg (gl n : Nat) (V V' : Nat → Value) (w w' : World) : Prop where
  os : w'.os = w.os
  tape : w'.tape = w.tape
  output : w'.output = w.output
  size : w.heap.size ≤ w'.heap.size
  block : ∀ b, b < w.heap.size → b ≠ gl → (∀ i, i < n → (V i).ownBlock ≠ some b) → w'.heap[b]? = w.heap[b]?
  fresh : ∀ i, i < n → ∀ q, (V' i).ownBlock = some q → (∃ k, k < n ∧ (V k).ownBlock = some q) ∨ w.heap.size ≤ q
theorem ins_vals {xs : List Int} {x : Int} (hx : x ∉ xs) : (xs.map (Value.int .i64)).take (plcI x xs) ++ Value.int .i64 x :: (xs.map (Value.int .i64)).drop (plcI x xs) = (insI xs x).map (Value.int .i64) := by
  rw [insI_plc x hx, List.map_append, List.map_cons, List.map_take, List.map_drop]

set_option maxRecDepth 100000 in
set_option maxHeartbeats 8000000 in
theorem iLink (base gl n cl cm lo : Nat) (am : Option Addr) (ms : List Mk) (V : Nat → Value) (X : Nat → List Int) (id other : Int) (w : World) (hm : MView w am ms) (hmb : marksB ms = true) (hf : 0 ≤ zFind ms id) (hn : NM base w gl n V X lo) (hj : zIdx ms id < n) (hr : (X (zIdx ms id)).Pairwise (fun a b => a < b)) (hx : other ∉ X (zIdx ms id)) (hl : (X (zIdx ms id)).length ≤ 1000) :
    Calls Tryz.prog 70 #[.agg #[.slice am ms.length cm, .slice (some ⟨gl, 0, none⟩) n cl], .int .i64 id, .int .i64 other] w fun e w' => e = .returned (.tuple #[]) ∧ (∃ V', NM base w' gl n V' (updX X (zIdx ms id) (insI (X (zIdx ms id)) other)) lo ∧ LkChg gl n V V' w w') := by
  obtain ⟨W, hW⟩ : ∃ W, w.alloc (.cells #[.slice am ms.length cm, .slice (some ⟨gl, 0, none⟩) n cl] 27) = W := ⟨_, rfl⟩
  have hB : Below w.heap.size w W := by rw [← hW]; exact (Below.refl _ _).alloc (Nat.le_refl _) _
  have x0 : W.cell? ⟨w.heap.size, 0, none⟩ = some (.slice am ms.length cm) := by rw [← hW]; simp
  have x1 : W.cell? ⟨w.heap.size, 1, none⟩ = some (.slice (some ⟨gl, 0, none⟩) n cl) := by rw [← hW]; simp
  have hXl : w.heap.size < W.heap.size := by rw [← hW]; simp
  have HP := hidP (iPlace am (some ⟨gl, 0, none⟩) cm n cl ms id W (hm.next hB) hmb)
  have hpi := plc_idx hmb hf
  rw [hpi, decide_eq_true hf] at HP
  obtain ⟨j, hjj⟩ : ∃ j, zIdx ms id = j := ⟨_, rfl⟩
  rw [hjj] at HP hj hr hx hl ⊢
  have HN := hidP (hn.next hB)
  have HB := hidP hB
  have HPW := hidP hr
  have HNX := hidP hx
  have hj0 : (0 : Int) ≤ (j : Int) := Int.natCast_nonneg _
  have hj1 : (j : Int) < (n : Int) := by omega
  have hlow := hn.top
  have HVB : Hid (∀ q, (V j).ownBlock = some q → lo ≤ q ∧ q < w.heap.size) := fun q e => own_lt15 (hn.own j hj) e
  clear hm hmb hf hn hB hpi hjj hr hx
  go_enter Tryz.func70, Tryz.ntmps70
  go_wp2_with fail
  refine HP.out.mono ?_
  rintro e w1 ⟨rfl, L1⟩
  replace x0 := (L1.cell (p := ⟨w.heap.size, 0, none⟩) hXl).trans x0
  replace x1 := (L1.cell (p := ⟨w.heap.size, 1, none⟩) hXl).trans x1
  have hXl1 : w.heap.size < w1.heap.size := Nat.lt_of_lt_of_le hXl L1.size
  have hN1 := HN.out.next L1
  obtain ⟨a, c, ev, hvw⟩ := own_form15 (hN1.own j hj)
  have c1 := hN1.blk.cell hj
  rw [ev] at c1
  have HEV := hidP ev
  have HN1 := hidP hN1
  have HL1 := hidP (chain HB.out L1)
  have HBS := hidP (iBsI a c (X j) other w1 hvw HPW.out (by omega))
  have hgl1 := hN1.blk.lt
  clear L1 hN1 hvw ev HP HN hW hXl
  go_wp2_with fail
  refine HBS.out.mono ?_
  rintro e w2 ⟨⟨fb, rfl⟩, L2⟩
  replace x0 := (L2.cell (p := ⟨w.heap.size, 0, none⟩) hXl1).trans x0
  replace x1 := (L2.cell (p := ⟨w.heap.size, 1, none⟩) hXl1).trans x1
  have hXl2 : w.heap.size < w2.heap.size := Nat.lt_of_lt_of_le hXl1 L2.size
  have HN2 := hidP (HN1.out.next L2)
  have HL2 := hidP (chain HL1.out L2)
  replace c1 := (L2.cell (p := ⟨gl, j, none⟩) hgl1).trans c1
  have hpl := plcI_le other (X j)
  clear L2 HN1 HL1 HBS hXl1 hgl1
  generalize hpp : plcI other (X j) = pp at *
  have HPP := hidP hpp
  clear hpp
  obtain ⟨xl, hxl⟩ : ∃ xl, (X j).length = xl := ⟨_, rfl⟩
  have HXL := hidP hxl
  rw [hxl] at c1 hpl hl HEV
  clear hxl
  go_wp2_with fail
  have HSS : Hid (∀ W', w2.grownBy W' (V j).ownBlock → W'.cell? ⟨w.heap.size, 1, none⟩ = some (.slice (some ⟨gl, 0, none⟩) n cl) ∧ W'.cell? ⟨gl, j, none⟩ = some (.slice a xl c)) := fun W' hg => by
    have hgl2 := HN2.out.blk.lt
    have hout := HN2.out.out
    exact ⟨(World.cell?_of_block (a := ⟨w.heap.size, 1, none⟩) (hg.block w.heap.size hXl2 (fun e => by have := HVB.out _ e.symm; omega))).trans x1, (World.cell?_of_block (a := ⟨gl, j, none⟩) (hg.block gl hgl2 (fun e => by have := HVB.out _ e.symm; omega))).trans c1⟩
  have LD : Below w2.heap.size w2 w2.drew := (Below.refl _ _).drew
  have GD : w2.grownBy w2.drew (V j).ownBlock := ⟨LD.os, LD.tape, LD.output, LD.size, fun k hk _ => LD.block k hk⟩
  obtain ⟨w3, hw3⟩ : ∃ w3, w2.drew.alloc (.cells #[.int .i64 other] 2) = w3 := ⟨_, rfl⟩
  have L3 : Below w2.heap.size w2 w3 := by rw [← hw3]; exact LD.alloc (by show w2.heap.size ≤ w2.drew.heap.size; exact Nat.le_refl _) _
  have G3 : w2.grownBy w3 (V j).ownBlock := ⟨L3.os, L3.tape, L3.output, L3.size, fun k hk _ => L3.block k hk⟩
  have hO : One w3 w2.heap.size (.int .i64 other) 2 := by rw [← hw3]; exact heap_alloc_new w2.drew _
  have hs3 : w2.heap.size < w3.heap.size := by rw [← hw3]; simp
  have HN3 := hidP (HN2.out.next L3)
  have hown := HN3.out.own j hj
  rw [HEV.out] at hown
  have HIN := hidP (iInsertI lo c pp w2.heap.size a ((X j).map (Value.int .i64)) (.int .i64 other) w3 (fun v hv => by obtain ⟨y, -, rfl⟩ := List.mem_map.1 hv; rfl) rfl (by rw [List.length_map, HXL.out]; rw [HXL.out] at hown; exact hown) hO (by rw [List.length_map, HXL.out, ← HEV.out]; exact fun e => by have := HVB.out _ e; omega) (by rw [List.length_map, HXL.out]; exact hpl) (by rw [List.length_map, HXL.out]; omega) HN3.out.top)
  rw [List.length_map, HXL.out, ← HEV.out] at HIN
  have HIN2 : Hid (Calls Tryz.prog 134 #[.slice a xl c, .int .i64 pp, .slice (some ⟨w2.heap.size, 0, none⟩) 1 1] w3 fun e w' => ∃ g G, e = .returned (.slice (some ⟨g, 0, none⟩) (xl + 1) G) ∧ VRowI lo w' g G (((X j).map (Value.int .i64)).take pp ++ Value.int .i64 other :: ((X j).map (Value.int .i64)).drop pp) ∧ w3.grownBy w' (V j).ownBlock ∧ ((V j).ownBlock = some g ∨ g = w3.heap.size)) := by
    have h := HIN.out
    rw [HEV.out] at h
    rw [HEV.out]
    exact h
  clear hown HIN LD hO
  refine wp_region_calm (S := fun w' => w'.cell? ⟨w.heap.size, 1, none⟩ = some (.slice (some ⟨gl, 0, none⟩) n cl) ∧ w'.cell? ⟨gl, j, none⟩ = some (.slice a xl c)) (fuel := 3)
    [0, 1, 2, 3, 4, 5, 6, 7, 8, 9] _ rfl (by kernel_rfl) (by kernel_rfl) (by kernel_rfl) (by kernel_rfl) (by kernel_rfl) (by kernel_rfl) (by kernel_rfl) (HSS.out _ GD) (fun hS => ?_)
  iterate 10
    refine ⟨_, rfl, ?_⟩
    apply Exists.intro
    refine ⟨Or.inl ⟨by rfl, fun w' hw' => ?_⟩, ?_⟩
    · first
      | (go_simp; done)
      | (go_simp; with_reducible rfl)
    simp only [Act.put, List.setIfInBounds_toArray]
  refine calm_one 10 (by kernel_rfl) rfl (fun K hK => ?_)
  go_simp
  refine hK.out _ _ (HSS.out _ G3) (fun _ => ?_)
  clear hK K
  refine calm_one 11 (by kernel_rfl) rfl (fun K hK => ?_)
  go_simp
  refine HIN2.out.mono ?_
  rintro e w4 ⟨g4, c4, rfl, hv4, G4, hat4⟩
  have G24 : w2.grownBy w4 (V j).ownBlock := ⟨G4.os.trans G3.os, G4.tape.trans G3.tape, G4.output.trans G3.output, Nat.le_trans G3.size G4.size, fun k hk hne => (G4.block k (Nat.lt_of_lt_of_le hk G3.size) hne).trans (G3.block k hk hne)⟩
  refine hK.out _ _ (HSS.out _ G24) (fun _ => ?_)
  clear hK K
  refine calm_one 12 (by kernel_rfl) rfl (fun K hK => ?_)
  go_simp
  refine hK.out _ _ (HSS.out _ G24) (fun _ => ?_)
  clear hK K hS
  have hlen : (insI (X j) other).length = xl + 1 := by
    have h := congrArg List.length (ins_vals HNX.out)
    rw [HPP.out] at h
    simp only [List.length_append, List.length_cons, List.length_take, List.length_drop, List.length_map] at h
    have := HXL.out
    omega
  have ho4 : w4.ownsRow lo 2 1 (.slice (some ⟨g4, 0, none⟩) (xl + 1) c4) (insI (X j) other).length ((insI (X j) other).map (Value.int .i64)) := by
    have h := hv4
    unfold VRowI at h
    rw [← HPP.out, ins_vals HNX.out, List.length_map, hlen] at h
    rw [hlen]
    exact h
  have HPT := hidP (HN3.out.put hj ho4 G4 (by
    rcases hat4 with e | e
    · exact Or.inr (Or.inl (by rw [e]; rfl))
    · exact Or.inr (Or.inr ⟨g4, rfl, by omega⟩)))
  have hb4 := HN3.out.blk.same (G4.block gl HN3.out.blk.lt (fun e => by have := HVB.out _ e.symm; have := HN3.out.out; omega))
  have f0 := hb4.frozen j
  have e0 := (HSS.out _ G24).2
  have HCH : Hid (LkChg gl n V (updV V j (.slice (some ⟨g4, 0, none⟩) (xl + 1) c4)) w (w4.setCell ⟨gl, j, none⟩ (.slice (some ⟨g4, 0, none⟩) (xl + 1) c4))) := by
    have hsz := HL2.out.size
    refine ⟨G24.os.trans HL2.out.os, G24.tape.trans HL2.out.tape, G24.output.trans HL2.out.output, by rw [setCell_size]; exact Nat.le_trans hsz G24.size, fun b hb h1 h2 => ?_, fun i hi q hq => ?_⟩
    · exact (Below.heap_setCell w4 ⟨gl, j, none⟩ _ b (fun e => h1 e)).trans ((G24.block b (by omega) (fun e => h2 j hj e.symm)).trans (HL2.out.block b hb))
    · unfold updV at hq
      by_cases e : i = j
      · rw [if_pos e] at hq
        have hq' : g4 = q := by injection hq
        rcases hat4 with h | h
        · exact Or.inl ⟨j, hj, by rw [h, hq']⟩
        · right; omega
      · rw [if_neg e] at hq
        exact Or.inl ⟨i, hi, hq⟩
  clear hv4 G4 G24 G3 GD L3 hat4 ho4 hb4 HIN2 HSS HN3 HN2 hw3 x0 x1 c1
  refine wpAnyH_done (by kernel_rfl) ?_ _
  simp only [Exit.then]
  go_wp2_with fail
  refine NoPanic.normal ?_
  go_wp2_with fail
  exact bodyPost_end (v := .tuple #[]) (by simp [results, Tryz.results70, go_sem]) rfl ⟨rfl, _, HPT.out, HCH.out⟩
end Go.Proofs.YtmembegdbceooaaGreat
namespace Go.Proofs.YtmembegdbceooaaGreat
open Go

theorem insI_last {l : List Int} {x : Int} (h : ∀ y ∈ l, y < x) : insI l x = l ++ [x] := by
  induction l with
  | nil => rfl
  | cons a l ih =>
    have h1 := h a (by simp)
    simp only [insI]
    rw [if_pos (by omega)] <;> first | (rw [ih (fun y hy => h y (by simp [hy]))]; rfl) | skip
/-- The lists behind the first t of those that are near. -/
def lkX (ms : List Mk) (ls : List (List Int)) (ids : List Int) (x : Int) (t i : Nat) : List Int := if i < ms.length then lnkI ms ls (ids.take t) x i else ownI (ids.take t)
theorem lkX_start {ms : List Mk} {ls : List (List Int)} (hl : ls.length = ms.length) (ids : List Int) (x : Int) {i : Nat} (hi : i < ms.length + 1) : cn (ls ++ [[]]) i = lkX ms ls ids x 0 i := by
  unfold lkX
  by_cases h : i < ms.length
  · rw [if_pos h]
    simp [lnkI, hasB, cn, List.getD, List.getElem?_append_left (show i < ls.length by omega)]
  · rw [if_neg h]
    obtain rfl : i = ms.length := by omega
    simp [ownI, cn, List.getD, ← hl]
theorem lkX_end (ms : List Mk) (ls : List (List Int)) (ids : List Int) (x : Int) {i : Nat} (hi : i < ms.length + 1) : lkX ms ls ids x ids.length i = cn (lnkL ms ls ids x) i := by
  unfold lkX
  rw [List.take_length]
  by_cases h : i < ms.length
  · rw [if_pos h, lnkL_at h]
  · rw [if_neg h, show i = ms.length by omega, lnkL_last]
theorem snoc_lt {ms : List Mk} {m : Mk} (hm : marksB (ms ++ [m]) = true) : ∀ j, j < ms.length → mid ms j < m.1 := by
  have key : ∀ k, k ≤ ms.length → ∀ j, j < k → mid (ms ++ [m]) j < mid (ms ++ [m]) k := by
    intro k
    induction k with
    | zero => intro _ j hj; omega
    | succ k ih =>
      intro hk j hj
      have h1 := ((mOkAt_iff _ _).1 (marksB_at hm (i := k + 1) (by simp; omega))).2.2.2.2
      rcases h1 with h1 | h1
      · omega
      · rw [show k + 1 - 1 = k by omega] at h1
        rcases Nat.lt_or_ge j k with e | e
        · have := ih (by omega) j e; omega
        · rw [show j = k by omega]; exact h1
  intro j hj
  have := key ms.length (Nat.le_refl _) j hj
  rw [mid_snoc hj, mid_last] at this
  exact this
theorem snoc_find {ms : List Mk} {m : Mk} (hm : marksB (ms ++ [m]) = true) {j : Nat} (hj : j < ms.length) : 0 ≤ zFind (ms ++ [m]) (mid ms j) ∧ zIdx (ms ++ [m]) (mid ms j) = j := by
  have := zFind_mid hm (i := j) (by simp; omega)
  rw [mid_snoc hj] at this
  exact ⟨by omega, this.2⟩
theorem snoc_last {ms : List Mk} {m : Mk} (hm : marksB (ms ++ [m]) = true) : 0 ≤ zFind (ms ++ [m]) m.1 ∧ zIdx (ms ++ [m]) m.1 = ms.length := by
  have := zFind_mid hm (i := ms.length) (by simp)
  rw [mid_last] at this
  exact ⟨by omega, this.2⟩
/-- One step: what is asked of both links, and what they come to. -/
theorem lkX_step {ms : List Mk} {ls : List (List Int)} {m : Mk} (hw : webB ms ls = true) (hm : marksB (ms ++ [m]) = true) {ids : List Int} (hd : ids.Nodup) (hf : ∀ y ∈ ids, 0 ≤ zFind ms y) {t : Nat} (ht : t < ids.length) :
    ∃ j, j < ms.length ∧ nth ids t = mid ms j ∧ lkX ms ls ids m.1 t j = cn ls j ∧ (cn ls j).Pairwise (fun a b => a < b) ∧ m.1 ∉ cn ls j ∧ (cn ls j).length ≤ 60 ∧ (ownI (ids.take t)).Pairwise (fun a b => a < b) ∧ nth ids t ∉ ownI (ids.take t) ∧ (ownI (ids.take t)).length ≤ 60 ∧
      ∀ i, updX (updX (lkX ms ls ids m.1 t) j (insI (cn ls j) m.1)) ms.length (insI (ownI (ids.take t)) (nth ids t)) i = lkX ms ls ids m.1 (t + 1) i ∨ ms.length < i := by
  have hmem : nth ids t ∈ ids := by simp [nth, List.getD, ht]
  obtain ⟨a, b, c⟩ := zIdx_lt (hf _ hmem)
  have hms := web_marks hw
  have h60 := marksB_len hms
  have hnt := nodup_take hd ht
  have hlt : ∀ y ∈ cn ls (zIdx ms (nth ids t)), y < m.1 := fun y hy => by
    obtain ⟨h1, h2, h3, -⟩ := web_link hw a hy
    have := snoc_lt hm _ h2
    rw [h3] at this
    exact this
  have hlk : lnkI ms ls (ids.take t) m.1 (zIdx ms (nth ids t)) = cn ls (zIdx ms (nth ids t)) := by
    unfold lnkI
    rw [if_neg]
    rw [c, hasB_iff]
    exact hnt
  refine ⟨zIdx ms (nth ids t), a, c.symm, by unfold lkX; rw [if_pos a, hlk], rise_pairs (web_rise hw a), fun h => by have := hlt _ h; omega, by have := links_short hw a; omega, (ownI_fold _ [] List.Pairwise.nil).1, by rw [ownI_mem]; exact hnt, ?_, fun i => ?_⟩
  · have h1 := fold_len14 (ids.take t) []
    have h2 := ids_short hd hf
    unfold ownI
    simp at h1
    omega
  · rcases Nat.lt_or_ge ms.length i with h | h
    · exact Or.inr h
    · left
      unfold updX lkX
      by_cases e1 : i = ms.length
      · rw [if_pos e1, if_neg (by omega)]
        unfold ownI
        rw [List.take_add_one, List.getElem?_eq_getElem ht, List.foldl_append]
        simp [nth, List.getD, ht]
      · have hi : i < ms.length := by omega
        rw [if_neg e1]
        by_cases e2 : i = zIdx ms (nth ids t)
        · rw [if_pos e2, if_pos hi, insI_last hlt, e2]
          unfold lnkI
          rw [if_pos]
          rw [c, hasB_iff, take_mem ht]
          exact Or.inr rfl
        · rw [if_neg e2, if_pos hi, if_pos hi]
          unfold lnkI
          have : hasB (ids.take (t + 1)) (mid ms i) = hasB (ids.take t) (mid ms i) := by
            rw [Bool.eq_iff_iff, hasB_iff, hasB_iff, take_mem ht]
            constructor
            · rintro (h1 | h1)
              · exact h1
              · exfalso
                apply e2
                rw [← h1, (zFind_mid hms hi).2]
            · exact Or.inl
          rw [this]
end Go.Proofs.YtmembegdbceooaaGreat
