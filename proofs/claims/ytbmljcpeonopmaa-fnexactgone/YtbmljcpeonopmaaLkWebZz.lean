/-
  The program's ownWeb: a web copied into memory of the call's own.
  The program's link: one more number in a list of links.
  The program's Linked.
  The laws' own markWeb and heldWeb over a web that Linked hands out.
  What Linked hands out, written over and held: the whole web.
  Marks and lists of links that are handed out.
  Webs that are handed out, written over and held: markWebS, heldWebS.
  A row of webs that is filled one by one, each web in blocks of its own.
  A row of webs that grows by append, each web in blocks of its own.
  A tower and a state that are handed out.
  The program's ownTower.
  The program's ownState.
  The program's Gone.
-/
import Derived.Test.YtbmljcpeonopmaaLkBlkZz
import Derived.Test.YtbmljcpeonopmaaFeWalkZz
import Derived.Deep.CutRange
import Derived.Deep.CutBlock
import Derived.Deep.LoopGhost
import Derived.Test.YtbmljcpeonopmaaFh0Zz
import Derived.Test.YtbmljcpeonopmaaFgRowZz
import Derived.Test.YtbmljcpeonopmaaFg0Zz
import Derived.Test.YtbmljcpeonopmaaLkPlnZz
import Derived.Test.YtbmljcpeonopmaaHM9Zz
import Derived.Test.YtbmljcpeonopmaaFg1Zz
import Derived.Test.YtbmljcpeonopmaaMArgsZz
import Derived.Test.YtbmljcpeonopmaaFeHelpZz
import Derived.Test.YtbmljcpeonopmaaFeHmZz
import Derived.Test.YtbmljcpeonopmaaMMarkZz
import Derived.Test.YtbmljcpeonopmaaTwArgsZz
import Derived.Test.YtbmljcpeonopmaaTwOkZz
import Derived.Test.YtbmljcpeonopmaaGnOnlyZz
namespace Go.Proofs.Ytbmljcpeonopmaa
open Go Go.RowKit

theorem calm_three {P : Program} {md : Region.Mode} {Q : Exit → Act → World → Prop} {ops : Array Oper} {S : World → Prop} {fuel : Nat} {listed : Array Bool} {a : Act} {w : World} {o o2 o3 : Oper} (i j k : Nat) (hr : Region.ready md ops listed = [i, j, k]) (ho : ops[i]? = some o) (ho2 : ops[j]? = some o2) (ho3 : ops[k]? = some o3)
    (h : ∀ K : Act → World → Prop, Shut (∀ a w, S w → (S w → wpAnyH P md ops Q S fuel (listed.setIfInBounds i true) a w) → K a w) → if Region.wanted o (yielded ops a.tmps) = true then Oper.wp P o a w K Q else K (a.put o.dst undef) w)
    (h2 : ∀ K : Act → World → Prop, Shut (∀ a w, S w → (S w → wpAnyH P md ops Q S fuel (listed.setIfInBounds j true) a w) → K a w) → if Region.wanted o2 (yielded ops a.tmps) = true then Oper.wp P o2 a w K Q else K (a.put o2.dst undef) w)
    (h3 : ∀ K : Act → World → Prop, Shut (∀ a w, S w → (S w → wpAnyH P md ops Q S fuel (listed.setIfInBounds k true) a w) → K a w) → if Region.wanted o3 (yielded ops a.tmps) = true then Oper.wp P o3 a w K Q else K (a.put o3.dst undef) w) : wpAnyH P md ops Q S (fuel + 1) listed a w :=
  wpAnyH_ready hr (by simp) (AllReadyH.cons ho h (AllReadyH.cons ho2 h2 (AllReadyH.cons ho3 h3 AllReadyH.nil)))

/-- A web in memory of the call's own: n lists of links. -/
def OwnWeb (base : Nat) (w : World) (g gl : Nat) (ms : List Mk) (X : Nat → List Int) (n : Nat) : Prop := ∃ G cc V lo hi, OPart base w g ms.length ms G cc lo hi ∧ NM base w gl n V X hi ∧ g ≠ gl ∧ gl < lo

set_option maxRecDepth 100000 in
set_option maxHeartbeats 20000000 in
theorem iOwnWeb (am al : Option Addr) (cm cl : Nat) (ms : List Mk) (ls : List (List Int)) (w : World) (hm : MView w am ms) (hl : CView w al ls) (hmb : marksB ms = true) (hsm : MSmall ms) (hcs : CSmall ls) :
    Calls Try.prog 102 #[.agg #[.slice am ms.length cm, .slice al ls.length cl]] w fun e w' => ∃ g gl, e = .returned (.agg #[.slice (some ⟨g, 0, none⟩) ms.length ms.length, .slice (some ⟨gl, 0, none⟩) ls.length ls.length]) ∧ OwnWeb w.heap.size w' g gl ms (cn ls) ls.length ∧ Below w.heap.size w w' := by
  obtain ⟨W1, hW1⟩ : ∃ W, w.alloc (.cells #[.slice am ms.length cm, .slice al ls.length cl] 105) = W := ⟨_, rfl⟩
  have hB1 : Below w.heap.size w W1 := by rw [← hW1]; exact (Below.refl _ _).alloc (Nat.le_refl _) _
  have hI1 : WebIn W1 w.heap.size am cm ms al cl ls := by rw [← hW1]; exact WebIn.box hm hl
  obtain ⟨W, hW⟩ : ∃ W, W1.alloc (.cells #[.slice none 0 0, .slice none 0 0] 105) = W := ⟨_, rfl⟩
  have hB2 : Below W1.heap.size W1 W := by rw [← hW]; exact (Below.refl _ _).alloc (Nat.le_refl _) _
  have TR : Two W W1.heap.size (.slice none 0 0) (.slice none 0 0) 105 := by rw [← hW]; exact Two.new W1 _ _ _
  have s1 : W1.heap.size = w.heap.size + 1 := by rw [← hW1]; simp
  have s2 : W.heap.size = w.heap.size + 2 := by rw [← hW]; simp [s1]
  have hI := hI1.below hB2
  have HB := hidP (chain hB1 hB2)
  have HI := hidP hI
  have HTR := hidP TR
  have HMB := hidP hmb
  have hml := marksB_len hmb
  have hll := hcs.1
  have hmkM : ∀ w0 : World, (Instr.makeSlice 29 (.int .i64 (ms.length : Int)) (.int .i64 (ms.length : Int))).run Try.prog w0 = .ok (.slice (some ⟨w0.heap.size, 0, none⟩) ms.length ms.length) (w0.alloc (.cells (madeCells #[.int .i64 0, .slice none 0 0] (ms.length * 2)) 76)) := fun w0 => run_make_rows (P := Try.prog) 29 76 (.agg #[.int .i64 0, .slice none 0 0]) 2 32 Try.underlying29 Try.info76 .i64 .i64 ms.length (by omega) (by omega) w0
  have hmkL : ∀ w0 : World, (Instr.makeSlice 103 (.int .i64 (ls.length : Int)) (.int .i64 (ls.length : Int))).run Try.prog w0 = .ok (.slice (some ⟨w0.heap.size, 0, none⟩) ls.length ls.length) (w0.alloc (.cells (madeCells #[.slice none 0 0] ls.length) 41)) := fun w0 => by have h := run_make_rows (P := Try.prog) 103 41 (.slice none 0 0) 1 24 Try.underlying103 Try.info41 .i64 .i64 ls.length (by omega) (by omega) w0; rw [Nat.mul_one] at h; exact h
  have HS : Hid (∀ W', Below W.heap.size W W' → W'.cell? ⟨w.heap.size, 0, none⟩ = some (.slice am ms.length cm) ∧ W'.cell? ⟨w.heap.size, 1, none⟩ = some (.slice al ls.length cl)) := fun W' L' => ⟨(HI.out.below L').c0, (HI.out.below L').c1⟩
  have HSZ := hidP (And.intro s1 s2)
  have BL := hidP ((Below.refl W.heap.size W).drew)
  have HWW : Hid ((w.alloc (.cells #[.slice am ms.length cm, .slice al ls.length cl] 105)).alloc (.cells #[.slice none 0 0, .slice none 0 0] 105) = W) := by show _ = _; rw [hW1, hW]
  clear hm hl hB1 hI1 hB2 TR hI s1 s2 hW hW1
  go_enter Try.func102, Try.ntmps102
  go_upto_region 1 with fail
  rw [HWW.out]
  clear HWW
  go_cut [3] from 8 to 17 (fun v wx => ∃ o g gl, v = .pointer (some ⟨o, 0, none⟩) ∧ Two wx o (.slice (some ⟨g, 0, none⟩) ms.length ms.length) (.slice (some ⟨gl, 0, none⟩) ls.length ls.length) 105 ∧ FB wx g (ms.length * 2) zeroM 76 ∧ FB wx gl ls.length (fun _ => .slice none 0 0) 41 ∧ W.heap.size ≤ o ∧ W.heap.size ≤ g ∧ W.heap.size ≤ gl ∧ o ≠ g ∧ o ≠ gl ∧ g ≠ gl ∧ Below W.heap.size W wx)
  case first =>
    refine wp_region_takes (S := fun W' => Below W.heap.size W W') (fuel := 5) [0, 1, 2, 4, 5, 6] (by kernel_rfl) (by kernel_rfl) (by kernel_rfl) (by kernel_rfl) BL.out (fun _ => ?_)
    iterate 6
      refine ⟨_, rfl, ?_⟩
      apply Exists.intro
      refine ⟨Or.inl ⟨by rfl, fun w' hw' => ?_⟩, ?_⟩
      · obtain ⟨e1, e2⟩ := HS.out w' hw'
        first
        | (go_simp; done)
        | (go_simp; with_reducible rfl)
      simp only [Act.put, List.getElem_toArray, List.getElem_cons_succ, List.getElem_cons_zero, List.setIfInBounds_toArray, List.set_cons_zero, List.set_cons_succ]
    obtain ⟨wv0, hv0⟩ : ∃ w0, W.drew = w0 := ⟨_, rfl⟩
    have Bwv0 : Below W.heap.size W wv0 := by rw [← hv0]; exact BL.out
    have sv0 : W.heap.size ≤ wv0.heap.size := Bwv0.size
    rw [hv0]
    clear hv0
    refine calm_three 3 7 9 (by kernel_rfl) rfl rfl rfl (fun K hK => ?_) (fun K hK => ?_) (fun K hK => ?_)
    · go_simp
      obtain ⟨wv1, hX⟩ : ∃ w0, wv0.alloc (.cells (madeCells #[.int .i64 0, .slice none 0 0] (ms.length * 2)) 76) = w0 := ⟨_, rfl⟩
      have LX : Below wv0.heap.size wv0 wv1 := by rw [← hX]; exact (Below.refl _ _).alloc (Nat.le_refl _) _
      have sX : wv0.heap.size < wv1.heap.size := by rw [← hX]; simp
      have Fg : FB wv1 wv0.heap.size (ms.length * 2) zeroM 76 := by rw [← hX]; exact FB.madeM wv0 _ _
      have Bwv1 : Below W.heap.size W wv1 := chain Bwv0 LX
      obtain ⟨g, hg⟩ : ∃ q, wv0.heap.size = q := ⟨_, rfl⟩
      have hg1 : wv0.heap.size ≤ g := by omega
      have hg2 : g < wv1.heap.size := by omega
      rw [hX]
      rw [hg] at Fg ⊢
      refine hK.out _ _ Bwv1 (fun _ => ?_)
      clear hK K hX LX hg sX
      refine calm_two14 7 9 (by kernel_rfl) rfl rfl (fun K hK => ?_) (fun K hK => ?_)
      · go_simp
        obtain ⟨wv2, hX⟩ : ∃ w0, wv1.alloc (.cells (madeCells #[.slice none 0 0] ls.length) 41) = w0 := ⟨_, rfl⟩
        have LX : Below wv1.heap.size wv1 wv2 := by rw [← hX]; exact (Below.refl _ _).alloc (Nat.le_refl _) _
        have sX : wv1.heap.size < wv2.heap.size := by rw [← hX]; simp
        have Fl : FB wv2 wv1.heap.size ls.length (fun _ => .slice none 0 0) 41 := by rw [← hX]; have := FB.madeL wv1 ls.length 41; rw [Nat.mul_one] at this; exact this
        replace Fg := Fg.next LX
        have Bwv2 : Below W.heap.size W wv2 := chain Bwv1 LX
        obtain ⟨gl, hgl⟩ : ∃ q, wv1.heap.size = q := ⟨_, rfl⟩
        have hgl1 : wv1.heap.size ≤ gl := by omega
        have hgl2 : gl < wv2.heap.size := by omega
        rw [hX]
        rw [hgl] at Fl ⊢
        refine hK.out _ _ Bwv2 (fun _ => ?_)
        clear hK K hX LX hgl sX
        refine calm_more14 2 [8] (by kernel_rfl) (by kernel_rfl) (by kernel_rfl) Bwv2 ?_
        iterate 1
          refine ⟨_, rfl, ?_⟩
          apply Exists.intro
          refine ⟨Or.inl ⟨by rfl, fun w' hw' => ?_⟩, ?_⟩
          · first
            | (go_simp; done)
            | (go_simp; with_reducible rfl)
          simp only [Act.put, List.getElem_toArray, List.getElem_cons_succ, List.getElem_cons_zero, List.setIfInBounds_toArray, List.set_cons_zero, List.set_cons_succ]
        refine calm_one 9 (by kernel_rfl) rfl (fun K hK => ?_)
        go_simp
        have oE : wv2.heap.size = wv2.heap.size := rfl
        refine hK.out _ _ (Bwv2.alloc Bwv2.size _) (fun _ => ?_)
        clear hK K
        refine calm_one 10 (by kernel_rfl) rfl (fun K hK => ?_)
        go_simp
        obtain ⟨wz, hwz⟩ : ∃ wz, wv2.alloc (.cells #[.slice (some ⟨g, 0, none⟩) ms.length ms.length, .slice (some ⟨gl, 0, none⟩) ls.length ls.length] 105) = wz := ⟨_, rfl⟩
        have LZ : Below wv2.heap.size wv2 wz := by rw [← hwz]; exact (Below.refl _ _).alloc (Nat.le_refl _) _
        have TZ : Two wz wv2.heap.size (.slice (some ⟨g, 0, none⟩) ms.length ms.length) (.slice (some ⟨gl, 0, none⟩) ls.length ls.length) 105 := by rw [← hwz]; exact Two.new wv2 _ _ _
        have hgl1 := Fg.lt
        have hgl2 := Fl.lt
        rw [hwz]
        refine hK.out _ _ (chain Bwv2 LZ) (fun _ => ?_)
        clear hK K hwz
        refine wpAnyH_done (by kernel_rfl) ?_ _
        refine NoPanic.normal ?_
        try simp only [Exit.then]
        go_wp2_with fail
        go_meet
        exact ⟨_, g, gl, rfl, TZ, Fg.next LZ, Fl.next LZ, by have := Bwv2.size; omega, by omega, by omega, by omega, by omega, by omega, chain Bwv2 LZ⟩
      · go_simp
        obtain ⟨wv4, hX⟩ : ∃ w0, wv1.alloc (.cells #[.slice none 0 0, .slice none 0 0] 105) = w0 := ⟨_, rfl⟩
        have LX : Below wv1.heap.size wv1 wv4 := by rw [← hX]; exact (Below.refl _ _).alloc (Nat.le_refl _) _
        have sX : wv1.heap.size < wv4.heap.size := by rw [← hX]; simp
        have Fo : Two wv4 wv1.heap.size (.slice none 0 0) (.slice none 0 0) 105 := by rw [← hX]; exact Two.new wv1 _ _ _
        replace Fg := Fg.next LX
        have Bwv4 : Below W.heap.size W wv4 := chain Bwv1 LX
        obtain ⟨o, ho⟩ : ∃ q, wv1.heap.size = q := ⟨_, rfl⟩
        have ho1 : wv1.heap.size ≤ o := by omega
        have ho2 : o < wv4.heap.size := by omega
        rw [hX]
        rw [ho] at Fo ⊢
        refine hK.out _ _ Bwv4 (fun _ => ?_)
        clear hK K hX LX ho sX
        refine calm_one 7 (by kernel_rfl) rfl (fun K hK => ?_)
        go_simp
        obtain ⟨wv5, hX⟩ : ∃ w0, wv4.alloc (.cells (madeCells #[.slice none 0 0] ls.length) 41) = w0 := ⟨_, rfl⟩
        have LX : Below wv4.heap.size wv4 wv5 := by rw [← hX]; exact (Below.refl _ _).alloc (Nat.le_refl _) _
        have sX : wv4.heap.size < wv5.heap.size := by rw [← hX]; simp
        have Fl : FB wv5 wv4.heap.size ls.length (fun _ => .slice none 0 0) 41 := by rw [← hX]; have := FB.madeL wv4 ls.length 41; rw [Nat.mul_one] at this; exact this
        replace Fg := Fg.next LX
        replace Fo := Fo.below LX
        have Bwv5 : Below W.heap.size W wv5 := chain Bwv4 LX
        obtain ⟨gl, hgl⟩ : ∃ q, wv4.heap.size = q := ⟨_, rfl⟩
        have hgl1 : wv4.heap.size ≤ gl := by omega
        have hgl2 : gl < wv5.heap.size := by omega
        rw [hX]
        rw [hgl] at Fl ⊢
        refine hK.out _ _ Bwv5 (fun _ => ?_)
        clear hK K hX LX hgl sX
        refine calm_more14 1 [8] (by kernel_rfl) (by kernel_rfl) (by kernel_rfl) Bwv5 ?_
        iterate 1
          refine ⟨_, rfl, ?_⟩
          apply Exists.intro
          refine ⟨Or.inl ⟨by rfl, fun w' hw' => ?_⟩, ?_⟩
          · first
            | (go_simp; done)
            | (go_simp; with_reducible rfl)
          simp only [Act.put, List.getElem_toArray, List.getElem_cons_succ, List.getElem_cons_zero, List.setIfInBounds_toArray, List.set_cons_zero, List.set_cons_succ]
        have x0 := Fo.c0
        have x1 := Fo.c1
        have xf0 := Fo.frozen 0
        have xf1 := Fo.frozen 1
        have hgl1 := Fg.lt
        have hgl2 := Fl.lt
        have hgl3 := Fo.lt
        refine calm_one 10 (by kernel_rfl) rfl (fun K hK => ?_)
        go_simp
        obtain ⟨wz, hwz⟩ : ∃ wz, (wv5.setCell ⟨o, 0, none⟩ (.slice (some ⟨g, 0, none⟩) ms.length ms.length)).setCell ⟨o, 1, none⟩ (.slice (some ⟨gl, 0, none⟩) ls.length ls.length) = wz := ⟨_, rfl⟩
        have TZ : Two wz o (.slice (some ⟨g, 0, none⟩) ms.length ms.length) (.slice (some ⟨gl, 0, none⟩) ls.length ls.length) 105 := by rw [← hwz]; exact (Fo.set0 _).set1 _
        have Fg2 : FB wz g (ms.length * 2) zeroM 76 := by rw [← hwz]; exact (Fg.far (by omega) _ _).far (by omega) _ _
        have Fl2 : FB wz gl ls.length (fun _ => .slice none 0 0) 41 := by rw [← hwz]; exact (Fl.far (by omega) _ _).far (by omega) _ _
        have BZ : Below W.heap.size W wz := by rw [← hwz]; exact (Bwv5.setCell (by show W.heap.size ≤ o; omega) _).setCell (by show W.heap.size ≤ o; omega) _
        rw [hwz]
        refine hK.out _ _ BZ (fun _ => ?_)
        clear hK K hwz x0 x1 xf0 xf1
        refine wpAnyH_done (by kernel_rfl) ?_ _
        refine NoPanic.normal ?_
        try simp only [Exit.then]
        go_wp2_with fail
        go_meet
        exact ⟨o, g, gl, rfl, TZ, Fg2, Fl2, by omega, by omega, by omega, by omega, by omega, by omega, BZ⟩
    · go_simp
      obtain ⟨wv6, hX⟩ : ∃ w0, wv0.alloc (.cells (madeCells #[.slice none 0 0] ls.length) 41) = w0 := ⟨_, rfl⟩
      have LX : Below wv0.heap.size wv0 wv6 := by rw [← hX]; exact (Below.refl _ _).alloc (Nat.le_refl _) _
      have sX : wv0.heap.size < wv6.heap.size := by rw [← hX]; simp
      have Fl : FB wv6 wv0.heap.size ls.length (fun _ => .slice none 0 0) 41 := by rw [← hX]; have := FB.madeL wv0 ls.length 41; rw [Nat.mul_one] at this; exact this
      have Bwv6 : Below W.heap.size W wv6 := chain Bwv0 LX
      obtain ⟨gl, hgl⟩ : ∃ q, wv0.heap.size = q := ⟨_, rfl⟩
      have hgl1 : wv0.heap.size ≤ gl := by omega
      have hgl2 : gl < wv6.heap.size := by omega
      rw [hX]
      rw [hgl] at Fl ⊢
      refine hK.out _ _ Bwv6 (fun _ => ?_)
      clear hK K hX LX hgl sX
      refine calm_two14 3 9 (by kernel_rfl) rfl rfl (fun K hK => ?_) (fun K hK => ?_)
      · go_simp
        obtain ⟨wv7, hX⟩ : ∃ w0, wv6.alloc (.cells (madeCells #[.int .i64 0, .slice none 0 0] (ms.length * 2)) 76) = w0 := ⟨_, rfl⟩
        have LX : Below wv6.heap.size wv6 wv7 := by rw [← hX]; exact (Below.refl _ _).alloc (Nat.le_refl _) _
        have sX : wv6.heap.size < wv7.heap.size := by rw [← hX]; simp
        have Fg : FB wv7 wv6.heap.size (ms.length * 2) zeroM 76 := by rw [← hX]; exact FB.madeM wv6 _ _
        replace Fl := Fl.next LX
        have Bwv7 : Below W.heap.size W wv7 := chain Bwv6 LX
        obtain ⟨g, hg⟩ : ∃ q, wv6.heap.size = q := ⟨_, rfl⟩
        have hg1 : wv6.heap.size ≤ g := by omega
        have hg2 : g < wv7.heap.size := by omega
        rw [hX]
        rw [hg] at Fg ⊢
        refine hK.out _ _ Bwv7 (fun _ => ?_)
        clear hK K hX LX hg sX
        refine calm_more14 2 [8] (by kernel_rfl) (by kernel_rfl) (by kernel_rfl) Bwv7 ?_
        iterate 1
          refine ⟨_, rfl, ?_⟩
          apply Exists.intro
          refine ⟨Or.inl ⟨by rfl, fun w' hw' => ?_⟩, ?_⟩
          · first
            | (go_simp; done)
            | (go_simp; with_reducible rfl)
          simp only [Act.put, List.getElem_toArray, List.getElem_cons_succ, List.getElem_cons_zero, List.setIfInBounds_toArray, List.set_cons_zero, List.set_cons_succ]
        refine calm_one 9 (by kernel_rfl) rfl (fun K hK => ?_)
        go_simp
        have oE : wv7.heap.size = wv7.heap.size := rfl
        refine hK.out _ _ (Bwv7.alloc Bwv7.size _) (fun _ => ?_)
        clear hK K
        refine calm_one 10 (by kernel_rfl) rfl (fun K hK => ?_)
        go_simp
        obtain ⟨wz, hwz⟩ : ∃ wz, wv7.alloc (.cells #[.slice (some ⟨g, 0, none⟩) ms.length ms.length, .slice (some ⟨gl, 0, none⟩) ls.length ls.length] 105) = wz := ⟨_, rfl⟩
        have LZ : Below wv7.heap.size wv7 wz := by rw [← hwz]; exact (Below.refl _ _).alloc (Nat.le_refl _) _
        have TZ : Two wz wv7.heap.size (.slice (some ⟨g, 0, none⟩) ms.length ms.length) (.slice (some ⟨gl, 0, none⟩) ls.length ls.length) 105 := by rw [← hwz]; exact Two.new wv7 _ _ _
        have hgl1 := Fg.lt
        have hgl2 := Fl.lt
        rw [hwz]
        refine hK.out _ _ (chain Bwv7 LZ) (fun _ => ?_)
        clear hK K hwz
        refine wpAnyH_done (by kernel_rfl) ?_ _
        refine NoPanic.normal ?_
        try simp only [Exit.then]
        go_wp2_with fail
        go_meet
        exact ⟨_, g, gl, rfl, TZ, Fg.next LZ, Fl.next LZ, by have := Bwv7.size; omega, by omega, by omega, by omega, by omega, by omega, chain Bwv7 LZ⟩
      · go_simp
        obtain ⟨wv9, hX⟩ : ∃ w0, wv6.alloc (.cells #[.slice none 0 0, .slice none 0 0] 105) = w0 := ⟨_, rfl⟩
        have LX : Below wv6.heap.size wv6 wv9 := by rw [← hX]; exact (Below.refl _ _).alloc (Nat.le_refl _) _
        have sX : wv6.heap.size < wv9.heap.size := by rw [← hX]; simp
        have Fo : Two wv9 wv6.heap.size (.slice none 0 0) (.slice none 0 0) 105 := by rw [← hX]; exact Two.new wv6 _ _ _
        replace Fl := Fl.next LX
        have Bwv9 : Below W.heap.size W wv9 := chain Bwv6 LX
        obtain ⟨o, ho⟩ : ∃ q, wv6.heap.size = q := ⟨_, rfl⟩
        have ho1 : wv6.heap.size ≤ o := by omega
        have ho2 : o < wv9.heap.size := by omega
        rw [hX]
        rw [ho] at Fo ⊢
        refine hK.out _ _ Bwv9 (fun _ => ?_)
        clear hK K hX LX ho sX
        refine calm_one 3 (by kernel_rfl) rfl (fun K hK => ?_)
        go_simp
        obtain ⟨wv10, hX⟩ : ∃ w0, wv9.alloc (.cells (madeCells #[.int .i64 0, .slice none 0 0] (ms.length * 2)) 76) = w0 := ⟨_, rfl⟩
        have LX : Below wv9.heap.size wv9 wv10 := by rw [← hX]; exact (Below.refl _ _).alloc (Nat.le_refl _) _
        have sX : wv9.heap.size < wv10.heap.size := by rw [← hX]; simp
        have Fg : FB wv10 wv9.heap.size (ms.length * 2) zeroM 76 := by rw [← hX]; exact FB.madeM wv9 _ _
        replace Fl := Fl.next LX
        replace Fo := Fo.below LX
        have Bwv10 : Below W.heap.size W wv10 := chain Bwv9 LX
        obtain ⟨g, hg⟩ : ∃ q, wv9.heap.size = q := ⟨_, rfl⟩
        have hg1 : wv9.heap.size ≤ g := by omega
        have hg2 : g < wv10.heap.size := by omega
        rw [hX]
        rw [hg] at Fg ⊢
        refine hK.out _ _ Bwv10 (fun _ => ?_)
        clear hK K hX LX hg sX
        refine calm_more14 1 [8] (by kernel_rfl) (by kernel_rfl) (by kernel_rfl) Bwv10 ?_
        iterate 1
          refine ⟨_, rfl, ?_⟩
          apply Exists.intro
          refine ⟨Or.inl ⟨by rfl, fun w' hw' => ?_⟩, ?_⟩
          · first
            | (go_simp; done)
            | (go_simp; with_reducible rfl)
          simp only [Act.put, List.getElem_toArray, List.getElem_cons_succ, List.getElem_cons_zero, List.setIfInBounds_toArray, List.set_cons_zero, List.set_cons_succ]
        have x0 := Fo.c0
        have x1 := Fo.c1
        have xf0 := Fo.frozen 0
        have xf1 := Fo.frozen 1
        have hgl1 := Fg.lt
        have hgl2 := Fl.lt
        have hgl3 := Fo.lt
        refine calm_one 10 (by kernel_rfl) rfl (fun K hK => ?_)
        go_simp
        obtain ⟨wz, hwz⟩ : ∃ wz, (wv10.setCell ⟨o, 0, none⟩ (.slice (some ⟨g, 0, none⟩) ms.length ms.length)).setCell ⟨o, 1, none⟩ (.slice (some ⟨gl, 0, none⟩) ls.length ls.length) = wz := ⟨_, rfl⟩
        have TZ : Two wz o (.slice (some ⟨g, 0, none⟩) ms.length ms.length) (.slice (some ⟨gl, 0, none⟩) ls.length ls.length) 105 := by rw [← hwz]; exact (Fo.set0 _).set1 _
        have Fg2 : FB wz g (ms.length * 2) zeroM 76 := by rw [← hwz]; exact (Fg.far (by omega) _ _).far (by omega) _ _
        have Fl2 : FB wz gl ls.length (fun _ => .slice none 0 0) 41 := by rw [← hwz]; exact (Fl.far (by omega) _ _).far (by omega) _ _
        have BZ : Below W.heap.size W wz := by rw [← hwz]; exact (Bwv10.setCell (by show W.heap.size ≤ o; omega) _).setCell (by show W.heap.size ≤ o; omega) _
        rw [hwz]
        refine hK.out _ _ BZ (fun _ => ?_)
        clear hK K hwz x0 x1 xf0 xf1
        refine wpAnyH_done (by kernel_rfl) ?_ _
        refine NoPanic.normal ?_
        try simp only [Exit.then]
        go_wp2_with fail
        go_meet
        exact ⟨o, g, gl, rfl, TZ, Fg2, Fl2, by omega, by omega, by omega, by omega, by omega, by omega, BZ⟩
    · go_simp
      obtain ⟨wv11, hX⟩ : ∃ w0, wv0.alloc (.cells #[.slice none 0 0, .slice none 0 0] 105) = w0 := ⟨_, rfl⟩
      have LX : Below wv0.heap.size wv0 wv11 := by rw [← hX]; exact (Below.refl _ _).alloc (Nat.le_refl _) _
      have sX : wv0.heap.size < wv11.heap.size := by rw [← hX]; simp
      have Fo : Two wv11 wv0.heap.size (.slice none 0 0) (.slice none 0 0) 105 := by rw [← hX]; exact Two.new wv0 _ _ _
      have Bwv11 : Below W.heap.size W wv11 := chain Bwv0 LX
      obtain ⟨o, ho⟩ : ∃ q, wv0.heap.size = q := ⟨_, rfl⟩
      have ho1 : wv0.heap.size ≤ o := by omega
      have ho2 : o < wv11.heap.size := by omega
      rw [hX]
      rw [ho] at Fo ⊢
      refine hK.out _ _ Bwv11 (fun _ => ?_)
      clear hK K hX LX ho sX
      refine calm_two14 3 7 (by kernel_rfl) rfl rfl (fun K hK => ?_) (fun K hK => ?_)
      · go_simp
        obtain ⟨wv12, hX⟩ : ∃ w0, wv11.alloc (.cells (madeCells #[.int .i64 0, .slice none 0 0] (ms.length * 2)) 76) = w0 := ⟨_, rfl⟩
        have LX : Below wv11.heap.size wv11 wv12 := by rw [← hX]; exact (Below.refl _ _).alloc (Nat.le_refl _) _
        have sX : wv11.heap.size < wv12.heap.size := by rw [← hX]; simp
        have Fg : FB wv12 wv11.heap.size (ms.length * 2) zeroM 76 := by rw [← hX]; exact FB.madeM wv11 _ _
        replace Fo := Fo.below LX
        have Bwv12 : Below W.heap.size W wv12 := chain Bwv11 LX
        obtain ⟨g, hg⟩ : ∃ q, wv11.heap.size = q := ⟨_, rfl⟩
        have hg1 : wv11.heap.size ≤ g := by omega
        have hg2 : g < wv12.heap.size := by omega
        rw [hX]
        rw [hg] at Fg ⊢
        refine hK.out _ _ Bwv12 (fun _ => ?_)
        clear hK K hX LX hg sX
        refine calm_one 7 (by kernel_rfl) rfl (fun K hK => ?_)
        go_simp
        obtain ⟨wv13, hX⟩ : ∃ w0, wv12.alloc (.cells (madeCells #[.slice none 0 0] ls.length) 41) = w0 := ⟨_, rfl⟩
        have LX : Below wv12.heap.size wv12 wv13 := by rw [← hX]; exact (Below.refl _ _).alloc (Nat.le_refl _) _
        have sX : wv12.heap.size < wv13.heap.size := by rw [← hX]; simp
        have Fl : FB wv13 wv12.heap.size ls.length (fun _ => .slice none 0 0) 41 := by rw [← hX]; have := FB.madeL wv12 ls.length 41; rw [Nat.mul_one] at this; exact this
        replace Fo := Fo.below LX
        replace Fg := Fg.next LX
        have Bwv13 : Below W.heap.size W wv13 := chain Bwv12 LX
        obtain ⟨gl, hgl⟩ : ∃ q, wv12.heap.size = q := ⟨_, rfl⟩
        have hgl1 : wv12.heap.size ≤ gl := by omega
        have hgl2 : gl < wv13.heap.size := by omega
        rw [hX]
        rw [hgl] at Fl ⊢
        refine hK.out _ _ Bwv13 (fun _ => ?_)
        clear hK K hX LX hgl sX
        refine calm_more14 1 [8] (by kernel_rfl) (by kernel_rfl) (by kernel_rfl) Bwv13 ?_
        iterate 1
          refine ⟨_, rfl, ?_⟩
          apply Exists.intro
          refine ⟨Or.inl ⟨by rfl, fun w' hw' => ?_⟩, ?_⟩
          · first
            | (go_simp; done)
            | (go_simp; with_reducible rfl)
          simp only [Act.put, List.getElem_toArray, List.getElem_cons_succ, List.getElem_cons_zero, List.setIfInBounds_toArray, List.set_cons_zero, List.set_cons_succ]
        have x0 := Fo.c0
        have x1 := Fo.c1
        have xf0 := Fo.frozen 0
        have xf1 := Fo.frozen 1
        have hgl1 := Fg.lt
        have hgl2 := Fl.lt
        have hgl3 := Fo.lt
        refine calm_one 10 (by kernel_rfl) rfl (fun K hK => ?_)
        go_simp
        obtain ⟨wz, hwz⟩ : ∃ wz, (wv13.setCell ⟨o, 0, none⟩ (.slice (some ⟨g, 0, none⟩) ms.length ms.length)).setCell ⟨o, 1, none⟩ (.slice (some ⟨gl, 0, none⟩) ls.length ls.length) = wz := ⟨_, rfl⟩
        have TZ : Two wz o (.slice (some ⟨g, 0, none⟩) ms.length ms.length) (.slice (some ⟨gl, 0, none⟩) ls.length ls.length) 105 := by rw [← hwz]; exact (Fo.set0 _).set1 _
        have Fg2 : FB wz g (ms.length * 2) zeroM 76 := by rw [← hwz]; exact (Fg.far (by omega) _ _).far (by omega) _ _
        have Fl2 : FB wz gl ls.length (fun _ => .slice none 0 0) 41 := by rw [← hwz]; exact (Fl.far (by omega) _ _).far (by omega) _ _
        have BZ : Below W.heap.size W wz := by rw [← hwz]; exact (Bwv13.setCell (by show W.heap.size ≤ o; omega) _).setCell (by show W.heap.size ≤ o; omega) _
        rw [hwz]
        refine hK.out _ _ BZ (fun _ => ?_)
        clear hK K hwz x0 x1 xf0 xf1
        refine wpAnyH_done (by kernel_rfl) ?_ _
        refine NoPanic.normal ?_
        try simp only [Exit.then]
        go_wp2_with fail
        go_meet
        exact ⟨o, g, gl, rfl, TZ, Fg2, Fl2, by omega, by omega, by omega, by omega, by omega, by omega, BZ⟩
      · go_simp
        obtain ⟨wv14, hX⟩ : ∃ w0, wv11.alloc (.cells (madeCells #[.slice none 0 0] ls.length) 41) = w0 := ⟨_, rfl⟩
        have LX : Below wv11.heap.size wv11 wv14 := by rw [← hX]; exact (Below.refl _ _).alloc (Nat.le_refl _) _
        have sX : wv11.heap.size < wv14.heap.size := by rw [← hX]; simp
        have Fl : FB wv14 wv11.heap.size ls.length (fun _ => .slice none 0 0) 41 := by rw [← hX]; have := FB.madeL wv11 ls.length 41; rw [Nat.mul_one] at this; exact this
        replace Fo := Fo.below LX
        have Bwv14 : Below W.heap.size W wv14 := chain Bwv11 LX
        obtain ⟨gl, hgl⟩ : ∃ q, wv11.heap.size = q := ⟨_, rfl⟩
        have hgl1 : wv11.heap.size ≤ gl := by omega
        have hgl2 : gl < wv14.heap.size := by omega
        rw [hX]
        rw [hgl] at Fl ⊢
        refine hK.out _ _ Bwv14 (fun _ => ?_)
        clear hK K hX LX hgl sX
        refine calm_one 3 (by kernel_rfl) rfl (fun K hK => ?_)
        go_simp
        obtain ⟨wv15, hX⟩ : ∃ w0, wv14.alloc (.cells (madeCells #[.int .i64 0, .slice none 0 0] (ms.length * 2)) 76) = w0 := ⟨_, rfl⟩
        have LX : Below wv14.heap.size wv14 wv15 := by rw [← hX]; exact (Below.refl _ _).alloc (Nat.le_refl _) _
        have sX : wv14.heap.size < wv15.heap.size := by rw [← hX]; simp
        have Fg : FB wv15 wv14.heap.size (ms.length * 2) zeroM 76 := by rw [← hX]; exact FB.madeM wv14 _ _
        replace Fo := Fo.below LX
        replace Fl := Fl.next LX
        have Bwv15 : Below W.heap.size W wv15 := chain Bwv14 LX
        obtain ⟨g, hg⟩ : ∃ q, wv14.heap.size = q := ⟨_, rfl⟩
        have hg1 : wv14.heap.size ≤ g := by omega
        have hg2 : g < wv15.heap.size := by omega
        rw [hX]
        rw [hg] at Fg ⊢
        refine hK.out _ _ Bwv15 (fun _ => ?_)
        clear hK K hX LX hg sX
        refine calm_more14 1 [8] (by kernel_rfl) (by kernel_rfl) (by kernel_rfl) Bwv15 ?_
        iterate 1
          refine ⟨_, rfl, ?_⟩
          apply Exists.intro
          refine ⟨Or.inl ⟨by rfl, fun w' hw' => ?_⟩, ?_⟩
          · first
            | (go_simp; done)
            | (go_simp; with_reducible rfl)
          simp only [Act.put, List.getElem_toArray, List.getElem_cons_succ, List.getElem_cons_zero, List.setIfInBounds_toArray, List.set_cons_zero, List.set_cons_succ]
        have x0 := Fo.c0
        have x1 := Fo.c1
        have xf0 := Fo.frozen 0
        have xf1 := Fo.frozen 1
        have hgl1 := Fg.lt
        have hgl2 := Fl.lt
        have hgl3 := Fo.lt
        refine calm_one 10 (by kernel_rfl) rfl (fun K hK => ?_)
        go_simp
        obtain ⟨wz, hwz⟩ : ∃ wz, (wv15.setCell ⟨o, 0, none⟩ (.slice (some ⟨g, 0, none⟩) ms.length ms.length)).setCell ⟨o, 1, none⟩ (.slice (some ⟨gl, 0, none⟩) ls.length ls.length) = wz := ⟨_, rfl⟩
        have TZ : Two wz o (.slice (some ⟨g, 0, none⟩) ms.length ms.length) (.slice (some ⟨gl, 0, none⟩) ls.length ls.length) 105 := by rw [← hwz]; exact (Fo.set0 _).set1 _
        have Fg2 : FB wz g (ms.length * 2) zeroM 76 := by rw [← hwz]; exact (Fg.far (by omega) _ _).far (by omega) _ _
        have Fl2 : FB wz gl ls.length (fun _ => .slice none 0 0) 41 := by rw [← hwz]; exact (Fl.far (by omega) _ _).far (by omega) _ _
        have BZ : Below W.heap.size W wz := by rw [← hwz]; exact (Bwv15.setCell (by show W.heap.size ≤ o; omega) _).setCell (by show W.heap.size ≤ o; omega) _
        rw [hwz]
        refine hK.out _ _ BZ (fun _ => ?_)
        clear hK K hwz x0 x1 xf0 xf1
        refine wpAnyH_done (by kernel_rfl) ?_ _
        refine NoPanic.normal ?_
        try simp only [Exit.then]
        go_wp2_with fail
        go_meet
        exact ⟨o, g, gl, rfl, TZ, Fg2, Fl2, by omega, by omega, by omega, by omega, by omega, by omega, BZ⟩
  case rest =>
    obtain ⟨o, g, gl, rfl, hTo, hFg, hFl, ho, hg, hgl, hog, hogl, hggl, LW⟩ := hcut
    generalize hwc : wc = w1 at *
    clear hwc wc hmkM hmkL BL HS
    have HLW := hidP LW
    have hI1 := HI.out.below LW
    have k0 := hI1.c0
    have HLO := hidP (OPart.start (base := w.heap.size) (ms := ms) hFg (by have := HSZ.out; omega))
    have HFL := hidP hFl
    have HTO := hidP hTo
    have hgll := hFl.lt
    have hol := hTo.lt
    have hWs := HSZ.out.2
    have hgw : w.heap.size + 2 ≤ g := by omega
    have how : w.heap.size + 2 ≤ o := by omega
    have hglw : w.heap.size + 2 ≤ gl := by omega
    have HW1 := hidP LW.size
    clear hI1 hTo hFg hFl LW hWs
    go_wp2_with fail
    clear k0
    go_loopg [20] ms.length (fun gk iv wr => ∃ (k : Nat) (G cc : Nat → Nat) (hi : Nat), k ≤ ms.length ∧ ms.length - k ≤ gk ∧ iv = .int .i64 k ∧ OPart w.heap.size wr g k ms G cc w1.heap.size hi ∧ w1.heap.size ≤ wr.heap.size ∧ FB wr gl ls.length (fun _ => .slice none 0 0) 41 ∧ Two wr o (.slice (some ⟨g, 0, none⟩) ms.length ms.length) (.slice (some ⟨gl, 0, none⟩) ls.length ls.length) 105 ∧ Below W.heap.size W wr)
    case atStart => exact ⟨0, _, _, _, Nat.zero_le _, Nat.sub_le _ _, rfl, HLO.out, Nat.le_refl _, HFL.out, HTO.out, HLW.out⟩
    case round =>
      obtain ⟨k, G, cc, hi, hk, hgk, rfl, hp, hsz, hfl, hto, L⟩ := hrel
      have HP := hidP hp
      have HL := hidP L
      have HF := hidP hfl
      have HT := hidP hto
      have hIr := HI.out.below L
      clear hp L hfl hto
      by_cases hlt : k < ms.length
      · obtain ⟨mb, mo, rfl, hmb2, hms⟩ := MSeg.seg hIr.mv (by omega)
        obtain ⟨c0, pa, pc, c1, hpv⟩ := hms.at (i := k) hlt
        have hi0 : (0 : Int) ≤ (k : Int) := Int.natCast_nonneg _
        have hi1 : (k : Int) < (ms.length : Int) := by omega
        have hok := (mOkAt_iff _ _).1 (marksB_at HMB.out hlt)
        obtain ⟨V1, hV⟩ : ∃ V1, wr.alloc (.cells #[.int .i64 (mid ms k), .slice pa (mat ms k).length pc] 76) = V1 := ⟨_, rfl⟩
        have LV : Below wr.heap.size wr V1 := by rw [← hV]; exact (Below.refl _ _).alloc (Nat.le_refl _) _
        have hYl : wr.heap.size < V1.heap.size := by rw [← hV]; simp
        have y0 : V1.cell? ⟨wr.heap.size, 0, none⟩ = some (.int .i64 (mid ms k)) := by rw [← hV]; simp
        have y1 : V1.cell? ⟨wr.heap.size, 1, none⟩ = some (.slice pa (mat ms k).length pc) := by rw [← hV]; simp
        have LVd : Below wr.heap.size wr V1.drew := LV.drew
        have hOV := (HT.out.below LVd).c0
        have HPD := hidP (HP.out.next LVd)
        have HTD := hidP (HT.out.below LVd)
        have HFD := hidP (HF.out.next LVd)
        have HLD := hidP (chain HL.out LVd)
        have HC := hidP (iOwn15 (mid ms k, pa, pc, mat ms k) V1.drew (hpv.next LVd) (by have := ((mOkAt_iff _ _).1 (marksB_at HMB.out hlt)).2.2.1; exact (okB_len this).1) (hsm.2 k))
        have hol1 := HTD.out.lt
        have hgl1 := HPD.out.blk.lt
        have hszd : w1.heap.size ≤ V1.drew.heap.size := Nat.le_trans hsz LVd.size
        have hwb : w.heap.size ≤ V1.drew.heap.size := by have := HLD.out.size; have := HSZ.out; omega
        clear hms hpv hIr LV LVd hok
        have HSS : Hid (∀ W', Below V1.drew.heap.size V1.drew W' → W'.cell? ⟨o, 0, none⟩ = some (.slice (some ⟨g, 0, none⟩) ms.length ms.length) ∧ W'.cell? ⟨wr.heap.size, 0, none⟩ = some (.int .i64 (mid ms k)) ∧ W'.cell? ⟨wr.heap.size, 1, none⟩ = some (.slice pa (mat ms k).length pc)) := fun W' L' => ⟨(L'.cell (p := ⟨o, 0, none⟩) hol1).trans hOV, (L'.cell (p := ⟨wr.heap.size, 0, none⟩) hYl).trans y0, (L'.cell (p := ⟨wr.heap.size, 1, none⟩) hYl).trans y1⟩
        obtain ⟨id, hid⟩ : ∃ id, mid ms k = id := ⟨_, rfl⟩
        obtain ⟨xl, hxl⟩ : ∃ xl, (mat ms k).length = xl := ⟨_, rfl⟩
        have HID := hidP (And.intro hid hxl)
        simp only at HC
        rw [hid, hxl] at HC HSS
        rw [hxl] at y1
        rw [hid] at y0 c0
        rw [hxl] at c1
        rw [hid, hxl] at hV
        clear hid hxl hOV
        go_wp2_with fail
        clear hV c0 c1 y0 y1
        refine wp_region_calm (S := fun w' => w'.cell? ⟨o, 0, none⟩ = some (.slice (some ⟨g, 0, none⟩) ms.length ms.length) ∧ w'.cell? ⟨wr.heap.size, 0, none⟩ = some (.int .i64 id) ∧ w'.cell? ⟨wr.heap.size, 1, none⟩ = some (.slice pa xl pc)) (fuel := 2)
          [0, 1, 2, 3] _ rfl (by kernel_rfl) (by kernel_rfl) (by kernel_rfl) (by kernel_rfl) (by kernel_rfl) (by kernel_rfl) (by kernel_rfl) (HSS.out _ (Below.refl _ _)) (fun hS => ?_)
        iterate 4
          refine ⟨_, rfl, ?_⟩
          apply Exists.intro
          refine ⟨Or.inl ⟨by rfl, fun w' hw' => ?_⟩, ?_⟩
          · first
            | (go_simp; done)
            | (go_simp; with_reducible rfl)
          simp only [Act.put, List.setIfInBounds_toArray]
        refine calm_one 4 (by kernel_rfl) rfl (fun K hK => ?_)
        go_simp
        refine HC.out.mono ?_
        rintro e w3 ⟨h3, c3, rfl, hr3, L3⟩
        refine hK.out _ _ (HSS.out _ L3) (fun _ => ?_)
        clear hK K
        refine calm_one 5 (by kernel_rfl) rfl (fun K hK => ?_)
        go_simp
        refine hK.out _ _ (HSS.out _ L3) (fun _ => ?_)
        clear hK K hS
        have HST := hidP (HPD.out.step L3 hr3 hwb hszd)
        have hN := HPD.out.next L3
        have f0 := hN.blk.frozen (k * 2)
        have f1 := hN.blk.frozen (k * 2 + 1)
        have e0 := hN.blk.cell (i := k * 2) (by omega)
        have e1 := hN.blk.cell (i := k * 2 + 1) (by omega)
        have hgN := hN.blk.lt
        have HE : Hid (FB ((w3.setCell ⟨g, k * 2, none⟩ (.int .i64 id)).setCell ⟨g, k * 2 + 1, none⟩ (.slice (some ⟨h3, 0, none⟩) xl c3)) gl ls.length (fun _ => .slice none 0 0) 41 ∧ Two ((w3.setCell ⟨g, k * 2, none⟩ (.int .i64 id)).setCell ⟨g, k * 2 + 1, none⟩ (.slice (some ⟨h3, 0, none⟩) xl c3)) o (.slice (some ⟨g, 0, none⟩) ms.length ms.length) (.slice (some ⟨gl, 0, none⟩) ls.length ls.length) 105 ∧ Below W.heap.size W ((w3.setCell ⟨g, k * 2, none⟩ (.int .i64 id)).setCell ⟨g, k * 2 + 1, none⟩ (.slice (some ⟨h3, 0, none⟩) xl c3)) ∧ w1.heap.size ≤ ((w3.setCell ⟨g, k * 2, none⟩ (.int .i64 id)).setCell ⟨g, k * 2 + 1, none⟩ (.slice (some ⟨h3, 0, none⟩) xl c3)).heap.size) :=
          ⟨((HFD.out.next L3).far (by omega) _ _).far (by omega) _ _, ((HTD.out.below L3).far (fun e => hog e.symm) _).far (fun e => hog e.symm) _, ((chain HLD.out L3).setCell (by show W.heap.size ≤ g; exact hg) _).setCell (by show W.heap.size ≤ g; exact hg) _, by rw [setCell_size, setCell_size]; exact Nat.le_trans hszd L3.size⟩
        rw [HID.out.1, HID.out.2] at HST
        clear hr3 L3 hN HPD HFD HTD HLD HC HSS
        refine wpAnyH_done (by kernel_rfl) ?_ _
        simp only [Exit.then]
        go_wp2_with fail
        refine NoPanic.normal ?_
        go_wp2_with fail
        go_roundg (ms.length - (k + 1))
        case rel => exact ⟨k + 1, _, _, _, by omega, Nat.le_refl _, by go_num, HST.out, HE.out.2.2.2, HE.out.1, HE.out.2.1, HE.out.2.2.1⟩
        case measure => omega
      · obtain rfl : k = ms.length := by omega
        have hki : ¬ ((ms.length : Int) < (ms.length : Int)) := by omega
        have k1 := hIr.c1
        have HOP := hidP (HP.out.raise HP.out.top (Nat.le_refl _))
        have HNM := hidP (NM.start (base := w.heap.size) HF.out (by omega) (lo := wr.heap.size) (by have := HF.out.lt; omega) (Nat.le_refl _))
        have hglr := HF.out.lt
        have hgr := HP.out.blk.lt
        have HSR := hidP (Nat.le_refl wr.heap.size)
        clear hIr HP HF
        go_wp2_with fail
        clear k1
        obtain ⟨H, hH⟩ : ∃ H, wr.heap.size = H := ⟨_, rfl⟩
        rw [hH] at HOP HNM HSR hglr hgr
        have HHW : Hid (w1.heap.size ≤ H) := by show _ ≤ _; omega
        clear hH
        go_loopw [35] (fun iv wq => ∃ (j : Nat) (V : Nat → Value), j ≤ ls.length ∧ iv = .int .i64 j ∧ OPart w.heap.size wq g ms.length ms G cc w1.heap.size H ∧ NM w.heap.size wq gl ls.length V (fun i => if i < j then cn ls i else []) H ∧ (∀ i, j ≤ i → V i = .slice none 0 0) ∧ Two wq o (.slice (some ⟨g, 0, none⟩) ms.length ms.length) (.slice (some ⟨gl, 0, none⟩) ls.length ls.length) 105 ∧ Below W.heap.size W wq) (fun iv _ => ls.length - (intOf iv).toNat)
        case atStart => exact ⟨0, _, Nat.zero_le _, rfl, HOP.out, HNM.out.congr (fun i _ => by rw [if_neg (by omega)]), fun _ _ => rfl, HT.out, HL.out⟩
        case round =>
          obtain ⟨j, V, hj, rfl, hop, hnm, hVn, hto, L⟩ := hrel
          generalize hwq : wr = wq at *
          clear hwq wr
          have HOQ := hidP hop
          have HNQ := hidP hnm
          have HVQ := hidP hVn
          have HTQ := hidP hto
          have HLQ := hidP L
          have hIq := HI.out.below L
          clear hop hnm hVn hto L
          by_cases hjl : j < ls.length
          · obtain ⟨lb, lo2, rfl, hlb, hcsg⟩ := hIq.cv.seg (by omega)
            obtain ⟨a, c, lk, hlv⟩ := hcsg j hjl
            have hj0 : (0 : Int) ≤ (j : Int) := Int.natCast_nonneg _
            have hj1 : (j : Int) < (ls.length : Int) := by omega
            have LD : Below wq.heap.size wq wq.drew := (Below.refl _ _).drew
            have HC := hidP (iCloneA a c (cn ls j) wq.drew (hlv.next LD) (hcs.2 j))
            have hoc := HTQ.out.c1
            have hol2 := HTQ.out.lt
            have HSS : Hid (∀ W', Below wq.drew.heap.size wq.drew W' → W'.cell? ⟨o, 1, none⟩ = some (.slice (some ⟨gl, 0, none⟩) ls.length ls.length)) := fun W' L' => (L'.cell (p := ⟨o, 1, none⟩) hol2).trans hoc
            clear hcsg hlv hIq hoc
            go_wp2_with fail
            clear lk
            refine wp_region_calm (S := fun w' => w'.cell? ⟨o, 1, none⟩ = some (.slice (some ⟨gl, 0, none⟩) ls.length ls.length)) (fuel := 2)
              [0, 1, 2, 3] _ rfl (by kernel_rfl) (by kernel_rfl) (by kernel_rfl) (by kernel_rfl) (by kernel_rfl) (by kernel_rfl) (by kernel_rfl) (HSS.out _ (Below.refl _ _)) (fun hS => ?_)
            iterate 4
              refine ⟨_, rfl, ?_⟩
              apply Exists.intro
              refine ⟨Or.inl ⟨by rfl, fun w' hw' => ?_⟩, ?_⟩
              · first
                | (go_simp; done)
                | (go_simp; with_reducible rfl)
              simp only [Act.put, List.setIfInBounds_toArray]
            refine calm_one 4 (by kernel_rfl) rfl (fun K hK => ?_)
            go_simp
            refine HC.out.mono ?_
            rintro e w3 ⟨v3, rfl, ho3, L3⟩
            refine hK.out _ _ (HSS.out _ L3) (fun _ => ?_)
            clear hK K
            refine calm_one 5 (by kernel_rfl) rfl (fun K hK => ?_)
            go_simp
            refine hK.out _ _ (HSS.out _ L3) (fun _ => ?_)
            clear hK K hS
            obtain ⟨a3, c3, rfl, -⟩ := own_form15 ho3
            have L3' : Below wq.heap.size wq w3 := chain LD L3
            have hsq : wq.drew.heap.size = wq.heap.size := rfl
            rw [hsq] at ho3
            have HPT := hidP (HNQ.out.put hjl (w' := w3) (own_mono15 ho3 HNQ.out.top) ⟨L3'.os, L3'.tape, L3'.output, L3'.size, fun k hk _ => L3'.block k hk⟩ (by
              rcases eq : (Value.slice a3 (cn ls j).length c3).ownBlock with _ | q
              · exact Or.inl rfl
              · exact Or.inr (Or.inr ⟨q, rfl, (own_lt15 ho3 eq).1⟩)))
            have f0 := (HNQ.out.next L3').blk.frozen j
            have e0 := (HNQ.out.next L3').blk.cell (i := j) hjl
            rw [HVQ.out j (Nat.le_refl _)] at e0
            have HE : Hid (OPart w.heap.size (w3.setCell ⟨gl, j, none⟩ (.slice a3 (cn ls j).length c3)) g ms.length ms G cc w1.heap.size H ∧ Two (w3.setCell ⟨gl, j, none⟩ (.slice a3 (cn ls j).length c3)) o (.slice (some ⟨g, 0, none⟩) ms.length ms.length) (.slice (some ⟨gl, 0, none⟩) ls.length ls.length) 105 ∧ Below W.heap.size W (w3.setCell ⟨gl, j, none⟩ (.slice a3 (cn ls j).length c3))) :=
              ⟨(HOQ.out.next L3').far (by omega) (Or.inl hgll) _ _, (HTQ.out.below L3').far (fun e => hogl e.symm) _, (chain HLQ.out L3').setCell (by show W.heap.size ≤ gl; exact hgl) _⟩
            clear ho3 L3 L3' LD HOQ HNQ HTQ HLQ HC HSS hsq
            refine wpAnyH_done (by kernel_rfl) ?_ _
            simp only [Exit.then]
            go_wp2_with fail
            refine NoPanic.normal ?_
            go_wp2_with fail
            go_roundw
            case rel => exact ⟨j + 1, _, by omega, by go_num, HE.out.1, HPT.out.congr (fun i _ => by
              simp only [updX]
              by_cases e : i = j
              · rw [if_pos e, if_pos (by omega), e]
              · rw [if_neg e]
                by_cases e2 : i < j
                · rw [if_pos e2, if_pos (by omega)]
                · rw [if_neg e2, if_neg (by omega)]), fun i hi' => by
              unfold updV
              rw [if_neg (by omega)]
              exact HVQ.out i (by omega), HE.out.2.1, HE.out.2.2⟩
            case measure => simp [intOf]; omega
          · obtain rfl : j = ls.length := by omega
            have hji : ¬ ((ls.length : Int) < (ls.length : Int)) := by omega
            have hz := HSZ.out
            have tR := HTR.out.below HLQ.out
            rw [hz.1] at tR
            have r0 := tR.c0
            have r1 := tR.c1
            have rf0 := tR.frozen 0
            have rf1 := tR.frozen 1
            have o0 := HTQ.out.c0
            have o1 := HTQ.out.c1
            have t3 := (tR.set0 (.slice (some ⟨g, 0, none⟩) ms.length ms.length)).set1 (.slice (some ⟨gl, 0, none⟩) ls.length ls.length)
            have q0 := t3.c0
            have q1 := t3.c1
            have HNF := hidP (HNQ.out.congr (Y := cn ls) (fun i hi' => by rw [if_pos hi']))
            have hHw := HHW.out
            have HE : Hid (OPart w.heap.size ((wq.setCell ⟨w.heap.size + 1, 0, none⟩ (.slice (some ⟨g, 0, none⟩) ms.length ms.length)).setCell ⟨w.heap.size + 1, 1, none⟩ (.slice (some ⟨gl, 0, none⟩) ls.length ls.length)) g ms.length ms G cc w1.heap.size H ∧ NM w.heap.size ((wq.setCell ⟨w.heap.size + 1, 0, none⟩ (.slice (some ⟨g, 0, none⟩) ms.length ms.length)).setCell ⟨w.heap.size + 1, 1, none⟩ (.slice (some ⟨gl, 0, none⟩) ls.length ls.length)) gl ls.length V (cn ls) H ∧ Below w.heap.size w ((wq.setCell ⟨w.heap.size + 1, 0, none⟩ (.slice (some ⟨g, 0, none⟩) ms.length ms.length)).setCell ⟨w.heap.size + 1, 1, none⟩ (.slice (some ⟨gl, 0, none⟩) ls.length ls.length))) :=
              ⟨(HOQ.out.far (by omega) (Or.inl (by omega)) _ _).far (by omega) (Or.inl (by omega)) _ _, (HNF.out.far (by omega) (by omega) _ _).far (by omega) (by omega) _ _, ((chain HB.out HLQ.out).setCell (by show w.heap.size ≤ w.heap.size + 1; omega) _).setCell (by show w.heap.size ≤ w.heap.size + 1; omega) _⟩
            clear hIq HOQ HNQ HTQ HLQ hz tR t3 HNF hHw
            go_wp2_with fail
            refine bodyPost_ret (v := .agg #[.slice (some ⟨g, 0, none⟩) ms.length ms.length, .slice (some ⟨gl, 0, none⟩) ls.length ls.length]) (by simp [results, Try.results102, go_sem, q0, q1]) rfl ?_
            exact ⟨g, gl, rfl, ⟨G, cc, V, _, _, HE.out.1, HE.out.2.1, hggl, hgll⟩, HE.out.2.2⟩
end Go.Proofs.Ytbmljcpeonopmaa
namespace Go.Proofs.Ytbmljcpeonopmaa
open Go Go.RowKit

/-- What a link changes: the row of lists and the lists in it; new lists are those of before, or new. -/
structure LkChg (gl n : Nat) (V V' : Nat → Value) (w w' : World) : Prop where
  os : w'.os = w.os
  tape : w'.tape = w.tape
  output : w'.output = w.output
  size : w.heap.size ≤ w'.heap.size
  block : ∀ b, b < w.heap.size → b ≠ gl → (∀ i, i < n → (V i).ownBlock ≠ some b) → w'.heap[b]? = w.heap[b]?
  fresh : ∀ i, i < n → ∀ q, (V' i).ownBlock = some q → (∃ k, k < n ∧ (V k).ownBlock = some q) ∨ w.heap.size ≤ q
theorem ins_vals {xs : List Int} {x : Int} (hx : x ∉ xs) : (xs.map (Value.int .i64)).take (plcI x xs) ++ Value.int .i64 x :: (xs.map (Value.int .i64)).drop (plcI x xs) = (insI xs x).map (Value.int .i64) := by
  rw [insI_plc x hx, List.map_append, List.map_cons, List.map_take, List.map_drop]

end Go.Proofs.Ytbmljcpeonopmaa
namespace Go.Proofs.Ytbmljcpeonopmaa
open Go Go.RowKit Go.Deep

theorem mview_sm {w : World} {am : Option Addr} {ms : List Mk} (h : MView w am ms) : ∃ ss : List Sm, SView w am ss ∧ smMarks ss = ms ∧ SLies w ss ∧ ss.length = ms.length := by
  rcases h with rfl | ⟨b, off, rfl, hb, hs⟩
  · exact ⟨[], Or.inl rfl, rfl, (fun x hx => by cases hx), rfl⟩
  · have each : ∀ i, i < ms.length → ∃ q : Sm, w.cell? ⟨b, off + i * 2, none⟩ = some (.int .i64 q.1) ∧ w.cell? ⟨b, off + i * 2 + 1, none⟩ = some (.slice q.2.1 q.2.2.2.length q.2.2.1) ∧ View w q.2.1 q.2.2.2 ∧ smMark q = mnth ms i := by
      intro i hi
      obtain ⟨c0, ao, ca, c1, hv⟩ := hs.at (i := i) hi
      exact ⟨(mid ms i, ao, ca, mat ms i), c0, c1, hv, rfl⟩
    obtain ⟨q, hq⟩ := choose_lt each
    have hl : ((List.range ms.length).map q).length = ms.length := by simp
    have hat : ∀ i, i < ms.length → snth ((List.range ms.length).map q) i = q i := fun i hi => by simp [snth, List.getD, hi]
    refine ⟨(List.range ms.length).map q, Or.inr ⟨b, off, rfl, hb, fun i hi => ?_⟩, ?_, ?_, hl⟩
    · rw [hl] at hi
      rw [hat i hi]
      exact ⟨(hq i hi).1, (hq i hi).2.1⟩
    · refine List.ext_getElem (by simp [smMarks]) (fun i h1 h2 => ?_)
      have := (hq i h2).2.2.2
      simp only [smMarks, List.getElem_map, List.getElem_range]
      rw [this]
      simp [mnth, List.getD, h2]
    · intro x hx
      obtain ⟨i, hi, rfl⟩ := List.mem_map.1 hx
      exact (hq i (List.mem_range.1 hi)).2.2.1

/-- What Linked hands out. -/
def LkdOut (base : Nat) (w : World) (v : Value) (ms : List Mk) (ls : List (List Int)) (m : Mk) (most : Int) : Prop :=
  (linkedB ms ls m most = false ∧ v = .agg #[.slice none 0 0, .slice none 0 0]) ∨ (linkedB ms ls m most = true ∧ ∃ g gl, v = .agg #[.slice (some ⟨g, 0, none⟩) (ms.length + 1) (ms.length + 1), .slice (some ⟨gl, 0, none⟩) (ms.length + 1) (ms.length + 1)] ∧ OwnWeb base w g gl (ms ++ [m]) (cn (lnkL ms ls (nearI ms m.2 most) m.1)) (ms.length + 1))

theorem cview_vals {w : World} {al : Option Addr} {ls : List (List Int)} (h : CView w al ls) : ∃ vs : List Value, vs.length = ls.length ∧ SrcAt w 1 al vs.length vs ∧ (∀ a, al = some a → vs ≠ [] → a.block < w.heap.size) ∧ ∀ i, i < ls.length → ∃ a c, vs[i]? = some (.slice a (cn ls i).length c) ∧ View w a (cn ls i) := by
  rcases h with rfl | ⟨b, off, rfl, hb, hs⟩
  · exact ⟨[], rfl, ⟨rfl, (fun u hu => by cases hu), Or.inl rfl⟩, (fun a _ h => absurd rfl h), fun i hi => by simp at hi⟩
  · have each : ∀ i, i < ls.length → ∃ v : Value, w.cell? ⟨b, off + i, none⟩ = some v ∧ v.oneCell' = true ∧ ∃ a c, v = .slice a (cn ls i).length c ∧ View w a (cn ls i) := by
      intro i hi
      obtain ⟨a, c, h1, h2⟩ := hs i hi
      exact ⟨_, h1, rfl, a, c, rfl, h2⟩
    obtain ⟨f, hf⟩ := choose_lt each
    refine ⟨(List.range ls.length).map f, by simp, ⟨by simp, fun u hu => ?_, Or.inr ⟨_, rfl, fun j u hu => ?_⟩⟩, fun a e _ => by injection e with e; rw [← e]; exact hb, fun i hi => ?_⟩
    · obtain ⟨i, hi, rfl⟩ := List.mem_map.1 hu
      exact (hf i (List.mem_range.1 hi)).2.1
    · rw [Go.WideShapes.add_plain]
      have hj : j < ls.length := by
        rcases Nat.lt_or_ge j ls.length with h1 | h1
        · exact h1
        · rw [List.getElem?_eq_none (by simp; exact h1)] at hu; cases hu
      rw [List.getElem?_map, List.getElem?_range hj] at hu
      injection hu with hu
      rw [← hu]
      exact (hf j hj).1
    · obtain ⟨h1, h2, a, c, h3, h4⟩ := hf i hi
      exact ⟨a, c, by rw [List.getElem?_map, List.getElem?_range hi]; show some (f i) = _; rw [h3], h4⟩
theorem vr_cview {base : Nat} {w : World} {g c : Nat} {vs : List Value} {ls : List (List Int)} (h : VR base w g c (vs ++ [.slice none 0 0])) (hl : vs.length = ls.length) (hv : ∀ i, i < ls.length → ∃ a c, vs[i]? = some (.slice a (cn ls i).length c) ∧ View w a (cn ls i)) : CView w (some ⟨g, 0, none⟩) (ls ++ [[]]) := by
  refine Or.inr ⟨g, 0, rfl, h.lt.2, fun i hi => ?_⟩
  have hi' : i < ls.length + 1 := by simpa using hi
  rw [Nat.zero_add, World.ownsRow.cellAt h i (by simp; omega)]
  rcases Nat.lt_or_ge i ls.length with e | e
  · obtain ⟨a, c, h1, h2⟩ := hv i e
    have ec : cn (ls ++ [[]]) i = cn ls i := by simp [cn, List.getD, List.getElem?_append_left e]
    rw [ec, List.getElem?_append_left (by omega)]
    exact ⟨a, c, h1, h2⟩
  · obtain rfl : i = ls.length := by omega
    have ec : cn (ls ++ [[]]) ls.length = [] := by simp [cn, List.getD]
    rw [ec, ← hl]
    exact ⟨none, 0, by simp, Or.inl rfl⟩
theorem LkChg.trans {gl n : Nat} {V V1 V2 : Nat → Value} {w w1 w2 : World} (h : LkChg gl n V V1 w w1) (k : LkChg gl n V1 V2 w1 w2) : LkChg gl n V V2 w w2 := by
  refine ⟨k.os.trans h.os, k.tape.trans h.tape, k.output.trans h.output, Nat.le_trans h.size k.size, fun b hb h1 h2 => ?_, fun i hi q hq => ?_⟩
  · refine (k.block b (Nat.lt_of_lt_of_le hb h.size) h1 (fun i hi e => ?_)).trans (h.block b hb h1 h2)
    rcases h.fresh i hi b e with ⟨j, hj, e2⟩ | e2
    · exact h2 j hj e2
    · omega
  · rcases k.fresh i hi q hq with ⟨j, hj, e2⟩ | e2
    · rcases h.fresh j hj q e2 with h3 | h3
      · exact Or.inl h3
      · exact Or.inr h3
    · exact Or.inr (Nat.le_trans h.size e2)
theorem LkChg.below {gl n : Nat} {V V1 : Nat → Value} {w w1 w2 : World} (h : LkChg gl n V V1 w w1) (L : Below w1.heap.size w1 w2) : LkChg gl n V V1 w w2 :=
  ⟨L.os.trans h.os, L.tape.trans h.tape, L.output.trans h.output, Nat.le_trans h.size L.size, fun b hb h1 h2 => (L.block b (Nat.lt_of_lt_of_le hb h.size)).trans (h.block b hb h1 h2), h.fresh⟩
theorem LkChg.refl (gl n : Nat) (V : Nat → Value) (w : World) : LkChg gl n V V w w := ⟨rfl, rfl, rfl, Nat.le_refl _, fun _ _ _ _ => rfl, fun i hi _ hq => Or.inl ⟨i, hi, hq⟩⟩
theorem OPart.chg {base : Nat} {w w' : World} {g gl n : Nat} {ms : List Mk} {G cc : Nat → Nat} {V V1 : Nat → Value} {lo hi : Nat} (h : OPart base w g ms.length ms G cc lo hi) (k : LkChg gl n V V1 w w') (hg : g ≠ gl) (hgl : gl < lo) (hV : ∀ i, i < n → ∀ q, (V i).ownBlock = some q → hi ≤ q) (hgh : g < hi) : OPart base w' g ms.length ms G cc lo hi :=
  ⟨h.blk.same (k.block g h.blk.lt hg (fun i hi' e => by have := hV i hi' g e; omega)), fun i hi' => by
    have hw := h.within i hi'
    have hr := h.rows i hi'
    have e := k.block (G i) hr.lt.2 (by omega) (fun j hj e => by have := hV j hj _ e; omega)
    obtain ⟨h1, h2 | ⟨g', c', cur, e1, h3, h4, h5⟩⟩ := hr
    · exact ⟨h1, Or.inl h2⟩
    · refine ⟨h1, Or.inr ⟨g', c', cur, e1, h3, ?_, h5⟩⟩
      injection e1 with e1 e2 e3
      injection e1 with e1
      injection e1 with e1
      rw [← e1, e, e1]
      exact h4, h.rise, h.within, Nat.le_trans h.top k.size, h.ge, h.out⟩
theorem OPart.low {base base' : Nat} {w : World} {g k : Nat} {ms : List Mk} {G cc : Nat → Nat} {lo hi : Nat} (h : OPart base w g k ms G cc lo hi) (hb : base' ≤ base) : OPart base' w g k ms G cc lo hi :=
  ⟨h.blk, fun i hi' => (h.rows i hi').mono hb, h.rise, h.within, h.top, Nat.le_trans hb h.ge, h.out⟩
theorem NM.low {base base' : Nat} {w : World} {g n : Nat} {V : Nat → Value} {X : Nat → List Int} {lo : Nat} (h : NM base w g n V X lo) (hb : base' ≤ base) : NM base' w g n V X lo :=
  ⟨h.blk, h.own, h.apart, Nat.le_trans hb h.ge, h.out, h.top⟩
/-- A block of two that no link reaches. -/
theorem two_chg {gl n b : Nat} {V V1 : Nat → Value} {w w' : World} {x y : Value} {t : TypeId} (h : Two w b x y t) (k : LkChg gl n V V1 w w') (h1 : b ≠ gl) (h2 : ∀ i, i < n → (V i).ownBlock ≠ some b) : Two w' b x y t := (k.block b h.lt h1 h2).trans h
theorem OwnWeb.next {base : Nat} {w w' : World} {g gl n : Nat} {ms : List Mk} {X : Nat → List Int} (h : OwnWeb base w g gl ms X n) (L : Below w.heap.size w w') : OwnWeb base w' g gl ms X n := by
  obtain ⟨G, cc, V, lo, hi, h1, h2, h3, h4⟩ := h
  exact ⟨G, cc, V, lo, hi, h1.next L, h2.next L, h3, h4⟩

end Go.Proofs.Ytbmljcpeonopmaa
namespace Go.Proofs.Ytbmljcpeonopmaa
open Go Go.RowKit

/-- The lists, each number the next. -/
def mkX (k0 : Int) (X : Nat → List Int) (i : Nat) : List Int := tabL (fun t => k0 + (tot (fun j => (X j).length) i : Nat) + t) (X i).length
theorem mkX_len (k0 : Int) (X : Nat → List Int) (i : Nat) : (mkX k0 X i).length = (X i).length := by unfold mkX; rw [tabL_length]
theorem NM.over {base : Nat} {w w' : World} {g n : Nat} {V : Nat → Value} {X : Nat → List Int} {lo : Nat} (h : NM base w g n V X lo) {m : Nat} (hm : m < n) {xs : List Int} (ho : w'.ownsRow lo 2 1 (V m) xs.length (xs.map (Value.int .i64)))
    (hg : w.grownBy w' (V m).ownBlock) : NM base w' g n V (updX X m xs) lo := by
  have hgl := h.blk.lt
  have hout := h.out
  have hVm : ∀ q, (V m).ownBlock = some q → lo ≤ q ∧ q < w.heap.size := fun q e => own_lt15 (h.own m hm) e
  refine ⟨h.blk.same (hg.block g hgl (fun e => by have := hVm g e.symm; omega)), fun i hi => ?_, h.apart, h.ge, hout, Nat.le_trans h.top hg.size⟩
  unfold updX
  by_cases e : i = m
  · rw [if_pos e, e]; exact ho
  · rw [if_neg e]
    refine own_same15 (h.own i hi) (fun q eq => ?_)
    have hq := own_lt15 (h.own i hi) eq
    refine hg.block q hq.2 (fun e' => ?_)
    rcases h.apart i m hi hm e with h1 | h1
    · rw [h1] at eq; cases eq
    · exact h1 (eq.trans e')
theorem own_out15 {w : World} {b : Nat} {v : Value} {xs : List Int} (h : w.ownsRow b 2 1 v xs.length (xs.map (Value.int .i64))) : IOut b w v xs := by
  obtain ⟨h1, ⟨rfl, h2⟩ | ⟨g, cap, cur, rfl, h3⟩⟩ := h
  · exact Or.inl ⟨rfl, List.length_eq_zero_iff.1 h2⟩
  · exact Or.inr ⟨g, cap, rfl, ⟨h1, Or.inr ⟨g, cap, cur, rfl, h3⟩⟩⟩
theorem out_own15 {w : World} {b : Nat} {v : Value} {xs : List Int} (h : IOut b w v xs) : w.ownsRow b 2 1 v xs.length (xs.map (Value.int .i64)) := by
  rcases h with ⟨rfl, rfl⟩ | ⟨g, c, rfl, hr⟩
  · exact ⟨rfl, Or.inl ⟨rfl, rfl⟩⟩
  · exact hr

set_option maxRecDepth 100000 in
set_option maxHeartbeats 2000000 in
theorem markNM (base lo gl n cap : Nat) (V : Nat → Value) (X : Nat → List Int) (k0 : Int) (w : World) (h : NM base w gl n V X lo) (hn : n ≤ 61) (hx : ∀ i, i < n → (X i).length ≤ 1000) (h0 : 1 ≤ k0) (h1 : k0 ≤ 1000000) :
    Calls Try.prog 105 #[.slice (some ⟨gl, 0, none⟩) n cap, .int .i64 k0] w fun e w' => e = .returned (.int .i64 (k0 + (tot (fun j => (X j).length) n : Nat))) ∧ NM base w' gl n V (mkX k0 X) lo ∧ LkChg gl n V V w w' := by
  have HX := hidP hx
  have HNM := hidP h
  have HTB : Hid (∀ k, k ≤ n → tot (fun j => (X j).length) k ≤ 1000 * k) := fun k => by
    induction k with
    | zero => intro _; simp [tot]
    | succ k ih => intro hk; have := ih (by omega); have := hx k (by omega); simp only [tot]; omega
  clear h hx
  go_enter Try.func105, Try.ntmps105
  go_wp2
  go_loopw [1, 5] (fun kk i wr => ∃ k : Nat, k ≤ n ∧ i = .int .i64 k ∧ kk = .int .i64 (k0 + (tot (fun j => (X j).length) k : Nat)) ∧ NM base wr gl n V (fun i => if i < k then mkX k0 X i else X i) lo ∧ LkChg gl n V V w wr) (fun _ i _ => n - (intOf i).toNat)
  case atStart => exact ⟨0, Nat.zero_le _, rfl, by simp [tot], HNM.out.congr (fun i _ => by rw [if_neg (by omega)]), LkChg.refl _ _ _ _⟩
  case round =>
    obtain ⟨k, hk, rfl, rfl, hnm, hch⟩ := hrel
    have htb := HTB.out k hk
    obtain ⟨T, hT⟩ : ∃ T : Nat, tot (fun j => (X j).length) k = T := ⟨_, rfl⟩
    rw [hT] at htb ⊢
    have HTT := hidP hT
    clear hT
    by_cases hlt : k < n
    · have hxk := HX.out k hlt
      have hown := hnm.own k hlt
      rw [if_neg (by omega)] at hown
      obtain ⟨a, c, ev, -⟩ := own_form15 hown
      have cc := hnm.blk.cell hlt
      rw [ev] at cc
      have ho := own_out15 hown
      rw [ev] at ho
      have HM := hidP (markO lo c a (k0 + T) (X k) wr ho (by omega) (by omega) (by omega))
      have HN := hidP hnm
      have HC := hidP hch
      have HEV := hidP ev
      have hi0 : (0 : Int) ≤ (k : Int) := Int.natCast_nonneg _
      have hi1 : (k : Int) < (n : Int) := by omega
      clear hnm hch hown ho ev
      go_wp2_with fail
      refine HM.out.mono ?_
      rintro e w1 ⟨rfl, hio, hchv, -⟩
      have hio2 : w1.ownsRow lo 2 1 (V k) (mkX k0 X k).length ((mkX k0 X k).map (Value.int .i64)) := by
        have h2 := out_own15 hio
        rw [tabL_length, ← HEV.out] at h2
        have e2 : mkX k0 X k = tabL (fun i => k0 + T + i) (X k).length := by unfold mkX; rw [HTT.out]
        rw [e2, tabL_length]
        exact h2
      have hg1 : wr.grownBy w1 (V k).ownBlock := ⟨hchv.1, hchv.2.1, hchv.2.2.1, hchv.2.2.2.1, fun b hb hne => hchv.2.2.2.2 b hb (fun p n' c' e => by
        intro eb
        apply hne
        have h3 := (HN.out.own k hlt)
        rw [HEV.out]
        injection e with e1 e2 e3
        rcases h3 with ⟨-, ⟨e4, -⟩ | ⟨g4, c4, cur4, e4, -⟩⟩
        · rw [HEV.out] at e4
          injection e4 with e5
          rw [e5] at e1; cases e1
        · rw [HEV.out] at e4
          injection e4 with e5
          rw [e1] at e5
          injection e5 with e5
          rw [eb, e1, e5]
          rfl)⟩
      have HN2 := hidP ((HN.out.over hlt hio2 hg1).congr (Y := fun i => if i < k + 1 then mkX k0 X i else X i) (fun i hi' => by
        simp only [updX]
        by_cases e : i = k
        · rw [if_pos e, if_pos (by omega), e]
        · rw [if_neg e]
          by_cases e2 : i < k
          · rw [if_pos e2, if_pos (by omega)]
          · rw [if_neg e2, if_neg (by omega)]))
      have HC2 := hidP (HC.out.trans (⟨hg1.os, hg1.tape, hg1.output, hg1.size, fun b hb _ h2 => hg1.block b hb (fun e => h2 k hlt e.symm), fun i hi' q hq => Or.inl ⟨i, hi', hq⟩⟩ : LkChg gl n V V wr w1))
      have HTS : Hid (tot (fun j => (X j).length) (k + 1) = T + (X k).length) := by show tot (fun j => (X j).length) k + (X k).length = _; rw [HTT.out]
      clear hio hchv hio2 hg1 HM HN HC
      go_wp2_with fail
      go_roundw
      case rel => exact ⟨k + 1, by omega, by go_num, by rw [HTS.out]; congr 1; omega, HN2.out, HC2.out⟩
      case measure => simp [intOf]; omega
    · obtain rfl : k = n := by omega
      have HF := hidP (And.intro (hnm.congr (Y := mkX k0 X) (fun i hi' => by rw [if_pos hi'])) hch)
      clear hnm hch
      go_wp2
      go_ret
      exact ⟨ret_int (by rw [HTT.out]), HF.out.1, HF.out.2⟩

set_option maxRecDepth 100000 in
set_option maxHeartbeats 2000000 in
theorem heldNM (gl n cap : Nat) (X : Nat → List Int) (k0 : Int) (w : World) (h : ∀ i, i < n → ∃ a c, w.cell? ⟨gl, i, none⟩ = some (.slice a (X i).length c) ∧ View w a (mkX k0 X i)) (hn : n ≤ 61) (hx : ∀ i, i < n → (X i).length ≤ 1000) (h0 : 1 ≤ k0) (h1 : k0 ≤ 1000000) :
    Calls Try.prog 106 #[.slice (some ⟨gl, 0, none⟩) n cap, .int .i64 k0] w fun e w' => e = .returned (.int .i64 (k0 + (tot (fun j => (X j).length) n : Nat))) ∧ w' = w := by
  have HX := hidP hx
  have HH := hidP h
  have HTB : Hid (∀ k, k ≤ n → tot (fun j => (X j).length) k ≤ 1000 * k) := fun k => by
    induction k with
    | zero => intro _; simp [tot]
    | succ k ih => intro hk; have := ih (by omega); have := hx k (by omega); simp only [tot]; omega
  clear h hx
  go_enter Try.func106, Try.ntmps106
  go_wp2
  go_loopw [1, 5] (fun kk i wr => ∃ k : Nat, k ≤ n ∧ i = .int .i64 k ∧ kk = .int .i64 (k0 + (tot (fun j => (X j).length) k : Nat)) ∧ wr = w) (fun _ i _ => n - (intOf i).toNat)
  case atStart => exact ⟨0, Nat.zero_le _, rfl, by simp [tot], rfl⟩
  case round =>
    obtain ⟨k, hk, rfl, rfl, hwr⟩ := hrel
    subst hwr
    have htb := HTB.out k hk
    obtain ⟨T, hT⟩ : ∃ T : Nat, tot (fun j => (X j).length) k = T := ⟨_, rfl⟩
    rw [hT] at htb ⊢
    have HTT := hidP hT
    clear hT
    by_cases hlt : k < n
    · have hxk := HX.out k hlt
      obtain ⟨a, c, cc, hv⟩ := HH.out k hlt
      unfold mkX at hv
      rw [HTT.out] at hv
      have HM := hidP (heldI a c (X k).length (k0 + T) wr hv (by omega) (by omega) (by omega))
      have HTS : Hid (tot (fun j => (X j).length) (k + 1) = T + (X k).length) := by show tot (fun j => (X j).length) k + (X k).length = _; rw [HTT.out]
      have hi0 : (0 : Int) ≤ (k : Int) := Int.natCast_nonneg _
      have hi1 : (k : Int) < (n : Int) := by omega
      clear hv
      go_wp2_with fail
      refine HM.out.mono ?_
      rintro e w1 ⟨rfl, hw1⟩
      subst hw1
      go_wp2_with fail
      go_roundw
      case rel => exact ⟨k + 1, by omega, by go_num, by rw [HTS.out]; congr 1; omega, by first | trivial | rfl⟩
      case measure => simp [intOf]; omega
    · obtain rfl : k = n := by omega
      go_wp2
      go_ret
      exact ⟨ret_int (by rw [HTT.out]), rfl⟩
end Go.Proofs.Ytbmljcpeonopmaa
namespace Go.Proofs.Ytbmljcpeonopmaa
open Go Go.RowKit

theorem NM.same {base : Nat} {w w' : World} {g n : Nat} {V : Nat → Value} {X : Nat → List Int} {lo : Nat} (h : NM base w g n V X lo) (hs : w.heap.size ≤ w'.heap.size) (e0 : w'.heap[g]? = w.heap[g]?) (e : ∀ i, i < n → ∀ q, (V i).ownBlock = some q → w'.heap[q]? = w.heap[q]?) : NM base w' g n V X lo :=
  ⟨h.blk.same e0, fun i hi => own_same15 (h.own i hi) (fun q eq => e i hi q eq), h.apart, h.ge, h.out, Nat.le_trans h.top hs⟩
theorem irow_same15 {base : Nat} {w w' : World} {g c : Nat} {xs : List Int} (h : IRow base w g c xs) (e : w'.heap[g]? = w.heap[g]?) : IRow base w' g c xs := by
  obtain ⟨h1, h2 | ⟨g', c', cur, e1, h3, h4, h5⟩⟩ := h
  · exact ⟨h1, Or.inl h2⟩
  · refine ⟨h1, Or.inr ⟨g', c', cur, e1, h3, ?_, h5⟩⟩
    injection e1 with e1 e2 e3
    injection e1 with e1
    injection e1 with e1
    rw [← e1, e, e1]
    exact h4
theorem MOwn.same15 {base : Nat} {w w' : World} {g c : Nat} {ds : List Dm} (h : MOwn base w g c ds) (e0 : w'.heap[g]? = w.heap[g]?) (e : ∀ i, i < ds.length → w'.heap[(mdnth ds i).2.1]? = w.heap[(mdnth ds i).2.1]?) : MOwn base w' g c ds := by
  refine ⟨?_, fun i hi => irow_same15 (h.rows i hi) (e i hi), h.off, h.apart⟩
  obtain ⟨h1, h2 | ⟨g', c', cur, e1, h3, h4, h5⟩⟩ := h.row
  · exact ⟨h1, Or.inl h2⟩
  · refine ⟨h1, Or.inr ⟨g', c', cur, e1, h3, ?_, h5⟩⟩
    injection e1 with e1 e2 e3
    injection e1 with e1
    injection e1 with e1
    rw [← e1, e0, e1]
    exact h4

/-- As OwnWeb, and all its blocks lie below N. -/
def OwnWebN (base N : Nat) (w : World) (g gl : Nat) (ms : List Mk) (X : Nat → List Int) (n : Nat) : Prop := ∃ G cc V lo hi, OPart base w g ms.length ms G cc lo hi ∧ NM base w gl n V X hi ∧ g ≠ gl ∧ gl < lo ∧ lo ≤ hi ∧ hi ≤ N ∧ ∀ i, i < n → ∀ q, (V i).ownBlock = some q → q < N
theorem OwnWeb.upto {base : Nat} {w : World} {g gl : Nat} {ms : List Mk} {X : Nat → List Int} {n : Nat} (h : OwnWeb base w g gl ms X n) (h0 : 0 < ms.length) : OwnWebN base w.heap.size w g gl ms X n := by
  obtain ⟨G, cc, V, lo, hi, ho, hn, h1, h2⟩ := h
  have hw := ho.within 0 h0
  exact ⟨G, cc, V, lo, hi, ho, hn, h1, h2, by omega, ho.top, fun i hi' q e => (own_lt15 (hn.own i hi') e).2⟩

end Go.Proofs.Ytbmljcpeonopmaa
namespace Go.Proofs.Ytbmljcpeonopmaa
open Go Go.RowKit

/-- Marks' footprint: their row and each place. -/
def FtM (g : Nat) (ds : List Dm) (b : Nat) : Prop := b = g ∨ ∃ i, i < ds.length ∧ b = (mdnth ds i).2.1
theorem mown_sm {base : Nat} {w w' : World} {g c : Nat} {ds : List Dm} (h : MOwn base w g c ds) (k : Sta (FtM g ds) w w') : MOwn base w' g c ds :=
  h.same15 (k.2 g (Or.inl rfl)) (fun i hi => k.2 _ (Or.inr ⟨i, hi, rfl⟩))
theorem mown_bnd {base : Nat} {w : World} {g c : Nat} {ds : List Dm} (h : MOwn base w g c ds) (b : Nat) (hb : FtM g ds b) : base ≤ b ∧ b < w.heap.size := by
  rcases hb with rfl | ⟨i, hi, rfl⟩
  · exact h.lt
  · exact (h.rows i hi).lt
theorem ow_marks {base : Nat} {w : World} {g c : Nat} {ds : List Dm} (h : MOwn base w g c ds) (hn : ds.length ≤ 60) (hat : ∀ x ∈ dMarks ds, x.2.length ≤ 4) :
    Ow 41 43 (FtM g ds) w (.slice (some ⟨g, 0, none⟩) ds.length c) (totM (dMarks ds)) := by
  refine ⟨fun b hb => (mown_bnd h b hb).2, fun w' hs k0 h0 h1 => ?_⟩
  refine (markDM base g c ds k0 w' (mown_sm h hs) hn hat h0 (by omega)).mono ?_
  rintro e w2 ⟨rfl, ⟨es, hes, hel, hem, heb⟩, hch⟩
  refine ⟨rfl, ⟨hch.os, hch.tape, hch.output, hch.size, fun b hb hS => hch.block b hb (fun e => hS (Or.inl e)) (fun i hi e => hS (Or.inr ⟨i, hi, e⟩))⟩, fun W hW => ?_⟩
  have hv := (hes.same15 (w' := W) (hW.2 g (Or.inl rfl)) (fun i hi => hW.2 _ (Or.inr ⟨i, by omega, heb i (by omega)⟩))).view
  rw [hem] at hv
  have hh := heldMS (some ⟨g, 0, none⟩) c (dMarks ds) k0 W hv (by rw [dMarks_length]; exact hn) hat h0 (by omega)
  rw [dMarks_length] at hh
  exact hh.mono (fun e W' ⟨e1, e2⟩ => ⟨e1, by rw [e2]; exact Below.refl _ _⟩)

set_option maxHeartbeats 400000 in
theorem markM_z (cap : Nat) (k : Int) (w : World) : Calls Try.prog 41 #[.slice none 0 cap, .int .i64 k] w fun e w' => e = .returned (.int .i64 k) ∧ w' = w := by
  go_enter Try.func41, Try.ntmps41
  go_wp2
  refine wp_loop_rounds 1 ?_
  rw [rounds_succ]
  go_wp2
  go_ret
  exact ⟨rfl, rfl⟩
set_option maxHeartbeats 400000 in
theorem heldM_z (cap : Nat) (k : Int) (w : World) : Calls Try.prog 43 #[.slice none 0 cap, .int .i64 k] w fun e w' => e = .returned (.int .i64 k) ∧ w' = w := by
  go_enter Try.func43, Try.ntmps43
  go_wp2
  refine wp_loop_rounds 1 ?_
  rw [rounds_succ]
  go_wp2
  go_ret
  exact ⟨rfl, rfl⟩
theorem ow_marks0 (cap : Nat) (w : World) : Ow 41 43 (fun _ => False) w (.slice none 0 cap) 0 :=
  ⟨fun _ h => h.elim, fun w' _ k0 _ _ => (markM_z cap k0 w').mono (by
    rintro e w2 ⟨rfl, rfl⟩
    exact ⟨by simp, Cgd.refl _ _, fun W _ => (heldM_z cap k0 W).mono (by rintro e W' ⟨rfl, rfl⟩; exact ⟨by simp, Below.refl _ _⟩)⟩)⟩

/-- Lists' footprint. -/
def FtL (gl n : Nat) (V : Nat → Value) (b : Nat) : Prop := b = gl ∨ ∃ i, i < n ∧ (V i).ownBlock = some b
theorem nm_sm {base : Nat} {w w' : World} {g n : Nat} {V : Nat → Value} {X : Nat → List Int} {lo : Nat} (h : NM base w g n V X lo) (k : Sta (FtL g n V) w w') : NM base w' g n V X lo :=
  h.same k.1 (k.2 g (Or.inl rfl)) (fun i hi q e => k.2 q (Or.inr ⟨i, hi, e⟩))
theorem nm_bnd {base : Nat} {w : World} {g n : Nat} {V : Nat → Value} {X : Nat → List Int} {lo : Nat} (h : NM base w g n V X lo) (b : Nat) (hb : FtL g n V b) : base ≤ b ∧ b < w.heap.size := by
  have h1 := h.ge
  have h2 := h.out
  rcases hb with rfl | ⟨i, hi, e⟩
  · exact ⟨h.ge, h.blk.lt⟩
  · have := own_lt15 (h.own i hi) e
    omega
theorem ow_links {base : Nat} {w : World} {g n : Nat} {V : Nat → Value} {X : Nat → List Int} {lo : Nat} (cap : Nat) (h : NM base w g n V X lo) (hn : n ≤ 61) (hx : ∀ i, i < n → (X i).length ≤ 1000) :
    Ow 105 106 (FtL g n V) w (.slice (some ⟨g, 0, none⟩) n cap) (tot (fun j => (X j).length) n) := by
  refine ⟨fun b hb => (nm_bnd h b hb).2, fun w' hs k0 h0 h1 => ?_⟩
  refine (markNM base lo g n cap V X k0 w' (nm_sm h hs) hn hx h0 (by omega)).mono ?_
  rintro e w2 ⟨rfl, hm, hch⟩
  refine ⟨rfl, ⟨hch.os, hch.tape, hch.output, hch.size, fun b hb hS => hch.block b hb (fun e => hS (Or.inl e)) (fun i hi e => hS (Or.inr ⟨i, hi, e⟩))⟩, fun W hW => ?_⟩
  have hm' := nm_sm hm hW
  exact (heldNM g n cap X k0 W (fun i hi => by
    obtain ⟨a, c, e, hv⟩ := own_form15 (hm'.own i hi)
    have hc := hm'.blk.cell hi
    rw [e, mkX_len] at hc
    exact ⟨a, c, hc, hv⟩) hn hx h0 (by omega)).mono (fun e W' ⟨e1, e2⟩ => ⟨e1, by rw [e2]; exact Below.refl _ _⟩)
set_option maxHeartbeats 400000 in
theorem markL_z (cap : Nat) (k : Int) (w : World) : Calls Try.prog 105 #[.slice none 0 cap, .int .i64 k] w fun e w' => e = .returned (.int .i64 k) ∧ w' = w := by
  go_enter Try.func105, Try.ntmps105
  go_wp2
  refine wp_loop_rounds 1 ?_
  rw [rounds_succ]
  go_wp2
  go_ret
  exact ⟨rfl, rfl⟩
set_option maxHeartbeats 400000 in
theorem heldL_z (cap : Nat) (k : Int) (w : World) : Calls Try.prog 106 #[.slice none 0 cap, .int .i64 k] w fun e w' => e = .returned (.int .i64 k) ∧ w' = w := by
  go_enter Try.func106, Try.ntmps106
  go_wp2
  refine wp_loop_rounds 1 ?_
  rw [rounds_succ]
  go_wp2
  go_ret
  exact ⟨rfl, rfl⟩
theorem ow_links0 (cap : Nat) (w : World) : Ow 105 106 (fun _ => False) w (.slice none 0 cap) 0 :=
  ⟨fun _ h => h.elim, fun w' _ k0 _ _ => (markL_z cap k0 w').mono (by
    rintro e w2 ⟨rfl, rfl⟩
    exact ⟨by simp, Cgd.refl _ _, fun W _ => (heldL_z cap k0 W).mono (by rintro e W' ⟨rfl, rfl⟩; exact ⟨by simp, Below.refl _ _⟩)⟩)⟩

/-- How many numbers the lists have. -/
def totX (ls : List (List Int)) : Nat := tot (fun j => (cn ls j).length) ls.length
/-- A web in hand: its two rows' values; o: it is the call's own to be written over. -/
structure OwW (o : Bool) (S : Nat → Prop) (w : World) (vm vl : Value) (ms : List Mk) (ls : List (List Int)) : Prop where
  bnd : ∀ b, S b → b < w.heap.size
  rows : o = true → ∃ (F G : Nat → Prop), Ow 41 43 F w vm (totM ms) ∧ Ow 105 106 G w vl (totX ls) ∧ (∀ b, F b → S b) ∧ (∀ b, G b → S b) ∧ (∀ b, F b → ¬ G b) ∧ totM ms + totX ls ≤ 100000
  view : ∃ am cm al cl, vm = .slice am ms.length cm ∧ vl = .slice al ls.length cl ∧ ms.length ≤ cm ∧ ls.length ≤ cl ∧ ∀ w', Sta S w w' → MView w' am ms ∧ CView w' al ls
theorem OwW.sm {o : Bool} {S : Nat → Prop} {w w' : World} {vm vl : Value} {ms : List Mk} {ls : List (List Int)} (h : OwW o S w vm vl ms ls) (k : Sta S w w') : OwW o S w' vm vl ms ls := by
  obtain ⟨am, cm, al, cl, e1, e2, c1, c2, hv⟩ := h.view
  exact ⟨fun b hb => Nat.lt_of_lt_of_le (h.bnd b hb) k.1, fun ho => by obtain ⟨F, G, h1, h2, h3, h4, h5, h6⟩ := h.rows ho; exact ⟨F, G, h1.sm (k.mono h3), h2.sm (k.mono h4), h3, h4, h5, h6⟩, ⟨am, cm, al, cl, e1, e2, c1, c2, fun w2 k2 => hv w2 (k.trans k2)⟩⟩
theorem OwW.next {o : Bool} {S : Nat → Prop} {w w' : World} {vm vl : Value} {ms : List Mk} {ls : List (List Int)} (h : OwW o S w vm vl ms ls) (L : Below w.heap.size w w') : OwW o S w' vm vl ms ls := h.sm (Sta.below L h.bnd)
theorem OwW.mono {o : Bool} {S T : Nat → Prop} {w : World} {vm vl : Value} {ms : List Mk} {ls : List (List Int)} (h : OwW o S w vm vl ms ls) (ht : ∀ b, T b → b < w.heap.size) (k : ∀ b, S b → T b) : OwW o T w vm vl ms ls := by
  obtain ⟨am, cm, al, cl, e1, e2, c1, c2, hv⟩ := h.view
  exact ⟨ht, fun ho => by obtain ⟨F, G, h1, h2, h3, h4, h5, h6⟩ := h.rows ho; exact ⟨F, G, h1, h2, fun b hb => k b (h3 b hb), fun b hb => k b (h4 b hb), h5, h6⟩, ⟨am, cm, al, cl, e1, e2, c1, c2, fun w2 k2 => hv w2 (k2.mono k)⟩⟩
theorem OwW.zero (o : Bool) (w : World) : OwW o (fun _ => False) w (.slice none 0 0) (.slice none 0 0) [] [] :=
  ⟨fun _ h => h.elim, fun _ => ⟨fun _ => False, fun _ => False, ow_marks0 0 w, ow_links0 0 w, fun _ h => h, fun _ h => h, fun _ h => h.elim, by decide⟩, ⟨none, 0, none, 0, rfl, rfl, Nat.le_refl _, Nat.le_refl _, fun _ _ => ⟨Or.inl rfl, Or.inl rfl⟩⟩⟩

theorem OwnWeb.ow {base : Nat} {w : World} {g gl : Nat} {ms : List Mk} {ls : List (List Int)} (h : OwnWeb base w g gl ms (cn ls) ls.length) (hm : marksB ms = true) (hml : ms.length = ls.length) (hl : ls.length ≤ 61) (hx : ∀ i, (cn ls i).length ≤ 1000) :
    OwW true (Btw base w.heap.size) w (.slice (some ⟨g, 0, none⟩) ms.length ms.length) (.slice (some ⟨gl, 0, none⟩) ls.length ls.length) ms ls := by
  obtain ⟨G, cc, V, lo, hi, ho, hn, h1, h2⟩ := h
  have h60 := marksB_len hm
  have hmo := ho.own (by unfold maxLen; omega)
  have hdl := dsOf_len ms G cc
  have hdm := dsOf_marks ms G cc
  have hat : ∀ x ∈ ms, x.2.length ≤ 4 := fun x hx' => by
    obtain ⟨i, hi', rfl⟩ := List.getElem_of_mem hx'
    have := ((mOkAt_iff _ _).1 (marksB_at hm hi')).2.2.1
    have h4 := (okB_len this).2
    simpa [mat, List.getD, hi'] using h4
  have o1 := ow_marks hmo (by omega) (by rw [hdm]; exact hat)
  rw [hdl, hdm] at o1
  have o2 := ow_links ls.length hn hl (fun i _ => hx i)
  have hb1 : ∀ b, FtM g (dsOf ms G cc) b → base ≤ b ∧ b < w.heap.size := fun b hb => mown_bnd hmo b hb
  have hb2 : ∀ b, FtL gl ls.length V b → base ≤ b ∧ b < w.heap.size := fun b hb => nm_bnd hn b hb
  have htm := totM_le ms 60 4 h60 hat
  have htl : tot (fun j => (cn ls j).length) ls.length ≤ 61000 := by
    have : ∀ k, tot (fun j => (cn ls j).length) k ≤ 1000 * k := by
      intro k
      induction k with
      | zero => simp [tot]
      | succ k ih => have := hx k; simp only [tot]; omega
    have := this ls.length
    omega
  refine ⟨fun b hb => hb.2, fun _ => ⟨_, _, o1, o2, fun b hb => hb1 b hb, fun b hb => hb2 b hb, fun b hb hb' => ?_, by unfold totX; omega⟩, ⟨_, _, _, _, rfl, rfl, Nat.le_refl _, Nat.le_refl _, fun w' hs => ⟨?_, ?_⟩⟩⟩
  · have hgt := ho.out
    have hgo := hn.out
    rcases hb with rfl | ⟨i, hi', rfl⟩
    · rcases hb' with e | ⟨j, hj, e⟩
      · exact h1 e
      · have := own_lt15 (hn.own j hj) e
        have := ho.out
        have := ho.within 0 (by omega)
        omega
    · rw [hdl] at hi'
      rw [dsOf_at hi'] at hb'
      have hw := ho.within i hi'
      rcases hb' with e | ⟨j, hj, e⟩
      · have e' : G i = gl := e
        omega
      · have := own_lt15 (hn.own j hj) e
        have e' : hi ≤ G i := this.1
        omega
  · have := (mown_sm hmo (hs.mono hb1)).view
    rw [hdm] at this
    exact this
  · have := (nm_sm hn (hs.mono hb2)).view
    have e : (List.range ls.length).map (cn ls) = ls := by
      refine List.ext_getElem (by simp) (fun i h1 h2 => ?_)
      simp [cn, List.getD, h2]
    rw [e] at this
    exact this
end Go.Proofs.Ytbmljcpeonopmaa
namespace Go.Proofs.Ytbmljcpeonopmaa
open Go Go.RowKit

/-- A web that was written over. -/
def HdW (S : Nat → Prop) (w : World) (vm vl : Value) (ms : List Mk) (ls : List (List Int)) (k : Int) : Prop :=
  ∃ F G : Nat → Prop, Hd 43 F w vm k (k + totM ms) ∧ Hd 106 G w vl (k + totM ms) (k + totM ms + totX ls) ∧ (∀ b, F b → S b) ∧ (∀ b, G b → S b)
theorem HdW.sm {S : Nat → Prop} {w w' : World} {vm vl : Value} {ms : List Mk} {ls : List (List Int)} {k : Int} (h : HdW S w vm vl ms ls k) (e : Sta S w w') : HdW S w' vm vl ms ls k := by
  obtain ⟨F, G, h1, h2, h3, h4⟩ := h
  exact ⟨F, G, h1.sm (e.mono h3), h2.sm (e.mono h4), h3, h4⟩
/-- How many numbers a web has. -/
def wsz (x : Wb) : Nat := totM x.1 + totX x.2
def FtW (g n : Nat) (S : Nat → Nat → Prop) (b : Nat) : Prop := b = g ∨ ∃ i, i < n ∧ S i b
/-- Webs in a block of the call's own, each in blocks of its own. -/
structure OwTs (o : Bool) (g n : Nat) (S : Nat → Nat → Prop) (w : World) (vm vl : Nat → Value) (T : Nat → Wb) : Prop where
  lt : g < w.heap.size
  cells : ∀ i, i < n → w.cell? ⟨g, i * 2, none⟩ = some (vm i) ∧ w.cell? ⟨g, i * 2 + 1, none⟩ = some (vl i)
  webs : ∀ i, i < n → OwW o (S i) w (vm i) (vl i) (T i).1 (T i).2
  off : ∀ i, i < n → ¬ S i g
  apart : ∀ i j, i < n → j < n → i ≠ j → ∀ b, S i b → ¬ S j b
  four : n ≤ 4
theorem OwTs.sm {o : Bool} {g n : Nat} {S : Nat → Nat → Prop} {w w' : World} {vm vl : Nat → Value} {T : Nat → Wb} (h : OwTs o g n S w vm vl T) (k : Sta (FtW g n S) w w') : OwTs o g n S w' vm vl T :=
  ⟨Nat.lt_of_lt_of_le h.lt k.1, fun i hi => ⟨(k.cell (Or.inl rfl) _).trans (h.cells i hi).1, (k.cell (Or.inl rfl) _).trans (h.cells i hi).2⟩, fun i hi => (h.webs i hi).sm (k.mono (fun _ hb => Or.inr ⟨i, hi, hb⟩)), h.off, h.apart, h.four⟩
theorem OwTs.bnd {o : Bool} {g n : Nat} {S : Nat → Nat → Prop} {w : World} {vm vl : Nat → Value} {T : Nat → Wb} (h : OwTs o g n S w vm vl T) (b : Nat) (hb : FtW g n S b) : b < w.heap.size := by
  rcases hb with rfl | ⟨i, hi, hs⟩
  · exact h.lt
  · exact (h.webs i hi).bnd b hs
theorem OwTs.next {o : Bool} {g n : Nat} {S : Nat → Nat → Prop} {w w' : World} {vm vl : Nat → Value} {T : Nat → Wb} (h : OwTs o g n S w vm vl T) (L : Below w.heap.size w w') : OwTs o g n S w' vm vl T := h.sm (Sta.below L h.bnd)
theorem OwTs.size {g n : Nat} {S : Nat → Nat → Prop} {w : World} {vm vl : Nat → Value} {T : Nat → Wb} (h : OwTs true g n S w vm vl T) (k : Nat) (hk : k ≤ n) : tot (fun i => wsz (T i)) k ≤ 100000 * k := by
  induction k with
  | zero => simp [tot]
  | succ k ih =>
    have h1 := ih (by omega)
    obtain ⟨F, G, -, -, -, -, -, h6⟩ := (h.webs k (by omega)).rows rfl
    simp only [tot, wsz] at h1 ⊢
    omega
theorem tot_le17 (f : Nat → Nat) {a b : Nat} (h : a ≤ b) : tot f a ≤ tot f b := by
  induction b with
  | zero => rw [show a = 0 by omega]; exact Nat.le_refl _
  | succ b ih =>
    rcases Nat.lt_or_ge a (b + 1) with e | e
    · exact Nat.le_trans (ih (by omega)) (Nat.le_add_right _ _)
    · rw [show a = b + 1 by omega]; exact Nat.le_refl _

/-- Between two rounds: the first k webs are written over. -/
structure WsTo (g n : Nat) (S : Nat → Nat → Prop) (w wr : World) (vm vl : Nat → Value) (T : Nat → Wb) (k0 : Int) (k : Nat) : Prop where
  done : ∀ j, j < k → HdW (S j) wr (vm j) (vl j) (T j).1 (T j).2 (k0 + (tot (fun i => wsz (T i)) j : Nat))
  rest : ∀ j, k ≤ j → j < n → OwW true (S j) wr (vm j) (vl j) (T j).1 (T j).2
  chg : Cgd (fun b => ∃ i, i < n ∧ S i b) w wr
theorem WsTo.step {g n : Nat} {S : Nat → Nat → Prop} {w wr w2 w3 : World} {vm vl : Nat → Value} {T : Nat → Wb} {k0 : Int} {k : Nat} (I : WsTo g n S w wr vm vl T k0 k) (hb : ∀ i, i < n → ∀ b, S i b → b < w.heap.size) (hap : ∀ i j, i < n → j < n → i ≠ j → ∀ b, S i b → ¬ S j b) (hk : k < n) {F G : Nat → Prop}
    (hF : ∀ b, F b → S k b) (hG : ∀ b, G b → S k b) (hFG : ∀ b, F b → ¬ G b) (c1 : Cgd F wr w2) (c2 : Cgd G w2 w3)
    (d1 : Hd 43 F w2 (vm k) (k0 + (tot (fun i => wsz (T i)) k : Nat)) (k0 + (tot (fun i => wsz (T i)) k : Nat) + totM (T k).1))
    (d2 : Hd 106 G w3 (vl k) (k0 + (tot (fun i => wsz (T i)) k : Nat) + totM (T k).1) (k0 + (tot (fun i => wsz (T i)) k : Nat) + totM (T k).1 + totX (T k).2)) :
    WsTo g n S w w3 vm vl T k0 (k + 1) := by
  have hs0 := I.chg.2.2.2.1
  have hs1 := c1.2.2.2.1
  have cc : Cgd (S k) wr w3 := (c1.mono hF).trans (c2.mono hG)
  have keep : ∀ j, j < n → j ≠ k → Sta (S j) wr w3 := fun j hj hne => cc.sm (fun b hbj => Nat.lt_of_lt_of_le (hb j hj b hbj) hs0) (fun b hbj => hap j k hj hk hne b hbj)
  refine ⟨fun j hj => ?_, fun j hj hjn => (I.rest j (by omega) hjn).sm (keep j hjn (by omega)), I.chg.trans (cc.mono (fun b hb => ⟨k, hk, hb⟩))⟩
  rcases Nat.lt_or_ge j k with e | e
  · exact (I.done j e).sm (keep j (by omega) (by omega))
  · obtain rfl : j = k := by omega
    exact ⟨F, G, d1.sm (c2.sm (fun b hbF => Nat.lt_of_lt_of_le (hb j hk b (hF b hbF)) (Nat.le_trans hs0 hs1)) (fun b hbF => hFG b hbF)), d2, hF, hG⟩

set_option maxRecDepth 100000 in
set_option maxHeartbeats 1000000 in
theorem markWsO (g n cap : Nat) (S : Nat → Nat → Prop) (vm vl : Nat → Value) (T : Nat → Wb) (k0 : Int) (w : World) (h : OwTs true g n S w vm vl T) (h0 : 1 ≤ k0) (h1 : k0 + (tot (fun i => wsz (T i)) n : Nat) ≤ 1000000) :
    Calls Try.prog 80 #[.slice (some ⟨g, 0, none⟩) n cap, .int .i64 k0] w fun e w' => e = .returned (.int .i64 (k0 + (tot (fun i => wsz (T i)) n : Nat))) ∧ WsTo g n S w w' vm vl T k0 n := by
  have HT := hidP h
  have HB : Hid (∀ i, i < n → ∀ b, S i b → b < w.heap.size) := fun i hi b hb => (h.webs i hi).bnd b hb
  have HKE : Hid (∀ k : Nat, tot (fun j => wsz (T j)) (k + 1) = tot (fun j => wsz (T j)) k + (totM (T k).1 + totX (T k).2)) := fun k => rfl
  have HLE : Hid (∀ k, k ≤ n → k0 + (tot (fun j => wsz (T j)) k : Nat) ≤ 1000000) := fun k hk => by have := tot_le17 (fun j => wsz (T j)) hk; omega
  clear h h1
  go_enter Try.func80, Try.ntmps80
  go_wp2
  go_loopw [1, 5] (fun kk i wr => ∃ (k : Nat), k ≤ n ∧ i = .int .i64 k ∧ kk = .int .i64 (k0 + (tot (fun j => wsz (T j)) k : Nat)) ∧ WsTo g n S w wr vm vl T k0 k) (fun _ i _ => n - (intOf i).toNat)
  case atStart => exact ⟨0, Nat.zero_le _, rfl, by simp [tot], fun j hj => absurd hj (by omega), fun j _ hj => HT.out.webs j hj, Cgd.refl _ _⟩
  case round =>
    obtain ⟨k, hk, rfl, rfl, hI⟩ := hrel
    by_cases hlt : k < n
    · have h4 := HT.out.four
      have hle := HLE.out (k + 1) (by omega)
      have hke := HKE.out k
      obtain ⟨F, G, o1, o2, hF, hG, hFG, -⟩ := (hI.rest k (Nat.le_refl _) hlt).rows rfl
      have hgs : wr.heap[g]? = w.heap[g]? := hI.chg.2.2.2.2 g HT.out.lt (fun ⟨i, hi, hb⟩ => HT.out.off i hi hb)
      have c0r := (World.cell?_of_block (a := ⟨g, k * 2, none⟩) hgs).trans (HT.out.cells k hlt).1
      have c1w := (HT.out.cells k hlt).2
      have HGS := hidP (And.intro hgs c1w)
      have HM := hidP (o1.act wr (Sta.refl _ _) (k0 + (tot (fun j => wsz (T j)) k : Nat)) (by omega) (by omega))
      have HL := hidP o2
      have HF := hidP (And.intro hF (And.intro hG hFG))
      have HI := hidP hI
      clear hgs c1w o1 o2 hF hG hFG hI
      obtain ⟨K, hK⟩ : ∃ K : Int, k0 + (tot (fun j => wsz (T j)) k : Nat) = K := ⟨_, rfl⟩
      have hK1 : 1 ≤ K := by omega
      have hK2 : K + totM (T k).1 + totX (T k).2 ≤ 1000000 := by omega
      rw [hK] at HM ⊢
      have HKK := hidP (And.intro hK (And.intro hle hke))
      clear hK hle hke
      obtain ⟨nm, hnm⟩ : ∃ nm : Nat, totM (T k).1 = nm := ⟨_, rfl⟩
      obtain ⟨nl, hnl⟩ : ∃ nl : Nat, totX (T k).2 = nl := ⟨_, rfl⟩
      rw [hnm, hnl] at hK2
      rw [hnm] at HM
      rw [hnl] at HL
      have HNN := hidP (And.intro hnm hnl)
      clear hnm hnl
      obtain ⟨a, ha⟩ : ∃ a, vm k = a := ⟨_, rfl⟩
      obtain ⟨b, hb⟩ : ∃ b, vl k = b := ⟨_, rfl⟩
      rw [ha] at HM c0r
      rw [hb] at HL
      have HAB := hidP (And.intro ha hb)
      clear ha hb
      go_wp2_with fail
      refine HM.out.mono ?_
      rintro e w2 ⟨rfl, c1, d1⟩
      have hg2 : w2.heap[g]? = wr.heap[g]? := c1.2.2.2.2 g (by have := HI.out.chg.2.2.2.1; have := HT.out.lt; omega) (fun hb => HT.out.off k hlt (HF.out.1 g hb))
      have c1r := (World.cell?_of_block (a := ⟨g, k * 2 + 1, none⟩) (hg2.trans HGS.out.1)).trans HGS.out.2
      rw [HAB.out.2] at c1r
      have hso : Sta G wr w2 := c1.sm (fun b hb => by have := HB.out k hlt b (HF.out.2.1 b hb); have := HI.out.chg.2.2.2.1; omega) (fun b hb hb' => HF.out.2.2 b hb' hb)
      have HL2 := hidP (HL.out.act w2 hso (K + nm) (by omega) (by omega))
      have HC := hidP (And.intro c1 d1)
      clear c1 d1 hg2 hso c0r HM HL
      go_wp2_with fail
      refine HL2.out.mono ?_
      rintro e w3 ⟨rfl, c2, d2⟩
      have HW : Hid (WsTo g n S w w3 vm vl T k0 (k + 1)) := by
        obtain ⟨e1, e2⟩ := HNN.out
        obtain ⟨a1, a2⟩ := HAB.out
        refine HI.out.step HB.out HT.out.apart hlt HF.out.1 HF.out.2.1 HF.out.2.2 HC.out.1 c2 ?_ ?_
        · rw [HKK.out.1, e1, a1]; exact HC.out.2
        · rw [HKK.out.1, e1, e2, a2]; exact d2
      clear c2 d2 c1r HL2
      go_wp2_with fail
      go_roundw
      case rel => exact ⟨k + 1, by omega, by go_num, by rw [HKK.out.2.2, ← HKK.out.1, HNN.out.1, HNN.out.2]; congr 1; omega, HW.out⟩
      case measure => simp [intOf]; omega
    · obtain rfl : k = n := by omega
      have HI := hidP hI
      clear hI
      go_wp2
      go_ret
      exact ⟨rfl, HI.out⟩

set_option maxRecDepth 100000 in
set_option maxHeartbeats 1000000 in
theorem heldWsO (g n cap : Nat) (S : Nat → Nat → Prop) (vm vl : Nat → Value) (T : Nat → Wb) (k0 : Int) (w : World) (h4 : n ≤ 4) (hg : g < w.heap.size) (hc : ∀ i, i < n → w.cell? ⟨g, i * 2, none⟩ = some (vm i) ∧ w.cell? ⟨g, i * 2 + 1, none⟩ = some (vl i))
    (hd : ∀ j, j < n → HdW (S j) w (vm j) (vl j) (T j).1 (T j).2 (k0 + (tot (fun i => wsz (T i)) j : Nat))) (hb : ∀ i, i < n → ∀ b, S i b → b < w.heap.size) (h0 : 1 ≤ k0) (h1 : k0 + (tot (fun i => wsz (T i)) n : Nat) ≤ 1000000) :
    Calls Try.prog 82 #[.slice (some ⟨g, 0, none⟩) n cap, .int .i64 k0] w fun e w' => e = .returned (.int .i64 (k0 + (tot (fun i => wsz (T i)) n : Nat))) ∧ Below w.heap.size w w' := by
  have HC := hidP hc
  have HD := hidP hd
  have HB := hidP hb
  have HKE : Hid (∀ k : Nat, tot (fun j => wsz (T j)) (k + 1) = tot (fun j => wsz (T j)) k + (totM (T k).1 + totX (T k).2)) := fun k => rfl
  have HLE : Hid (∀ k, k ≤ n → k0 + (tot (fun j => wsz (T j)) k : Nat) ≤ 1000000) := fun k hk => by have := tot_le17 (fun j => wsz (T j)) hk; omega
  clear hc hd hb h1
  go_enter Try.func82, Try.ntmps82
  go_wp2
  go_loopw [1, 5] (fun kk i wr => ∃ (k : Nat), k ≤ n ∧ i = .int .i64 k ∧ kk = .int .i64 (k0 + (tot (fun j => wsz (T j)) k : Nat)) ∧ Below w.heap.size w wr) (fun _ i _ => n - (intOf i).toNat)
  case atStart => exact ⟨0, Nat.zero_le _, rfl, by simp [tot], Below.refl _ _⟩
  case round =>
    obtain ⟨k, hk, rfl, rfl, hI⟩ := hrel
    have HI := hidP hI
    by_cases hlt : k < n
    · have hle := HLE.out (k + 1) (by omega)
      have hke := HKE.out k
      have hst : Sta (S k) w wr := Sta.below hI (HB.out k hlt)
      obtain ⟨F, G, d1, d2, hF, hG⟩ := (HD.out k hlt).sm hst
      have c0r := (hI.cell (p := ⟨g, k * 2, none⟩) hg).trans (HC.out k hlt).1
      have c1w := (HC.out k hlt).2
      have HM := hidP (d1 wr (Sta.refl _ _))
      have HL := hidP d2
      have HF := hidP (And.intro hF hG)
      have HC1 := hidP c1w
      clear hI hst d1 d2 hF hG c1w
      obtain ⟨K, hK⟩ : ∃ K : Int, k0 + (tot (fun j => wsz (T j)) k : Nat) = K := ⟨_, rfl⟩
      have hK1 : 1 ≤ K := by omega
      rw [hK] at HM HL ⊢
      have hK2 : K + totM (T k).1 + totX (T k).2 ≤ 1000000 := by omega
      have HKK := hidP (And.intro hK (And.intro hle hke))
      clear hK hle hke
      obtain ⟨nm, hnm⟩ : ∃ nm : Nat, totM (T k).1 = nm := ⟨_, rfl⟩
      obtain ⟨nl, hnl⟩ : ∃ nl : Nat, totX (T k).2 = nl := ⟨_, rfl⟩
      rw [hnm, hnl] at hK2
      rw [hnm] at HM
      rw [hnm, hnl] at HL
      have HNN := hidP (And.intro hnm hnl)
      clear hnm hnl
      obtain ⟨a, ha⟩ : ∃ a, vm k = a := ⟨_, rfl⟩
      obtain ⟨b, hb⟩ : ∃ b, vl k = b := ⟨_, rfl⟩
      rw [ha] at HM c0r
      rw [hb] at HL HC1
      clear ha hb
      go_wp2_with fail
      refine HM.out.mono ?_
      rintro e w2 ⟨rfl, L2⟩
      have hL2 := HI.out.trans (L2.mono HI.out.size)
      have c1r := (hL2.cell (p := ⟨g, k * 2 + 1, none⟩) hg).trans HC1.out
      have hso : Sta G wr w2 := Sta.below L2 (fun b hb => by have := HB.out k hlt b (HF.out.2 b hb); have := HI.out.size; omega)
      have HL2 := hidP (HL.out w2 hso)
      have HB2 := hidP hL2
      clear L2 hL2 hso c0r HM HL
      go_wp2_with fail
      refine HL2.out.mono ?_
      rintro e w3 ⟨rfl, L3⟩
      have HB3 := hidP (HB2.out.trans (L3.mono HB2.out.size))
      clear L3 c1r HL2
      go_wp2_with fail
      go_roundw
      case rel => exact ⟨k + 1, by omega, by go_num, by rw [HKK.out.2.2, ← HKK.out.1, HNN.out.1, HNN.out.2]; congr 1; omega, HB3.out⟩
      case measure => simp [intOf]; omega
    · obtain rfl : k = n := by omega
      clear hI
      go_wp2
      go_ret
      exact ⟨rfl, HI.out⟩

theorem ow_webs {g n : Nat} (cap : Nat) {S : Nat → Nat → Prop} {w : World} {vm vl : Nat → Value} {T : Nat → Wb} (h : OwTs true g n S w vm vl T) :
    Ow 80 82 (FtW g n S) w (.slice (some ⟨g, 0, none⟩) n cap) (tot (fun i => wsz (T i)) n) := by
  refine ⟨h.bnd, fun w' hs k0 h0 h1 => ?_⟩
  have h' := h.sm hs
  refine (markWsO g n cap S vm vl T k0 w' h' h0 h1).mono ?_
  rintro e w2 ⟨rfl, hI⟩
  refine ⟨rfl, hI.chg.mono (fun b hb => Or.inr hb), fun W hW => ?_⟩
  have hgs : w2.heap[g]? = w'.heap[g]? := hI.chg.2.2.2.2 g h'.lt (fun ⟨i, hi, hb⟩ => h'.off i hi hb)
  have hgW : W.heap[g]? = w'.heap[g]? := (hW.2 g (Or.inl rfl)).trans hgs
  have hsz : w'.heap.size ≤ W.heap.size := Nat.le_trans hI.chg.2.2.2.1 hW.1
  exact heldWsO g n cap S vm vl T k0 W h'.four (Nat.lt_of_lt_of_le h'.lt hsz) (fun i hi => ⟨(World.cell?_of_block (a := ⟨g, i * 2, none⟩) hgW).trans (h'.cells i hi).1, (World.cell?_of_block (a := ⟨g, i * 2 + 1, none⟩) hgW).trans (h'.cells i hi).2⟩)
    (fun j hj => (hI.done j hj).sm (hW.mono (fun b hb => Or.inr ⟨j, hj, hb⟩))) (fun i hi b hb => Nat.lt_of_lt_of_le ((h'.webs i hi).bnd b hb) hsz) h0 h1
set_option maxHeartbeats 400000 in
theorem markWS_z (cap : Nat) (k : Int) (w : World) : Calls Try.prog 80 #[.slice none 0 cap, .int .i64 k] w fun e w' => e = .returned (.int .i64 k) ∧ w' = w := by
  go_enter Try.func80, Try.ntmps80
  go_wp2
  refine wp_loop_rounds 1 ?_
  rw [rounds_succ]
  go_wp2
  go_ret
  exact ⟨rfl, rfl⟩
set_option maxHeartbeats 400000 in
theorem heldWS_z (cap : Nat) (k : Int) (w : World) : Calls Try.prog 82 #[.slice none 0 cap, .int .i64 k] w fun e w' => e = .returned (.int .i64 k) ∧ w' = w := by
  go_enter Try.func82, Try.ntmps82
  go_wp2
  refine wp_loop_rounds 1 ?_
  rw [rounds_succ]
  go_wp2
  go_ret
  exact ⟨rfl, rfl⟩
theorem ow_webs0 (cap : Nat) (w : World) : Ow 80 82 (fun _ => False) w (.slice none 0 cap) 0 :=
  ⟨fun _ h => h.elim, fun w' _ k0 h0 _ => (markWS_z cap k0 w').mono (by
    rintro e w2 ⟨rfl, rfl⟩
    exact ⟨by simp, Cgd.refl _ _, fun W _ => (heldWS_z cap k0 W).mono (by rintro e W' ⟨rfl, rfl⟩; exact ⟨by simp, Below.refl _ _⟩)⟩)⟩
end Go.Proofs.Ytbmljcpeonopmaa
namespace Go.Proofs.Ytbmljcpeonopmaa
open Go Go.RowKit

def webC (vm vl : Nat → Value) (j : Nat) : Value := if j % 2 = 0 then vm (j / 2) else vl (j / 2)
theorem FB.madeW (w : World) (n : Nat) (t : TypeId) : FB (w.alloc (.cells (madeCells #[.slice none 0 0, .slice none 0 0] (n * 2)) t)) w.heap.size (n * 2) (webC (fun _ => .slice none 0 0) (fun _ => .slice none 0 0)) t := by
  have e : madeCells #[.slice none 0 0, .slice none 0 0] (n * 2) = ((List.range (n * 2)).map (webC (fun _ => .slice none 0 0) (fun _ => .slice none 0 0))).toArray := by
    apply Array.ext
    · simp [size_madeCells]
    · intro i h1 h2
      have h3 : i % 2 = 0 ∨ i % 2 = 1 := Nat.mod_two_eq_zero_or_one i
      rcases h3 with h3 | h3 <;> simp [madeCells, webC, h3]
  unfold FB
  rw [e]
  show (w.heap.push _)[w.heap.size]? = _
  simp
structure OwTb (o : Bool) (g n : Nat) (S : Nat → Nat → Prop) (w : World) (vm vl : Nat → Value) (T : Nat → Wb) : Prop where
  blk : FB w g (n * 2) (webC vm vl) 105
  webs : ∀ i, i < n → OwW o (S i) w (vm i) (vl i) (T i).1 (T i).2
  off : ∀ i, i < n → ¬ S i g
  apart : ∀ i j, i < n → j < n → i ≠ j → ∀ b, S i b → ¬ S j b
  four : n ≤ 4
theorem OwTb.cells {o : Bool} {g n : Nat} {S : Nat → Nat → Prop} {w : World} {vm vl : Nat → Value} {T : Nat → Wb} (h : OwTb o g n S w vm vl T) (i : Nat) (hi : i < n) : w.cell? ⟨g, i * 2, none⟩ = some (vm i) ∧ w.cell? ⟨g, i * 2 + 1, none⟩ = some (vl i) := by
  have e0 := h.blk.cell (i := i * 2) (by omega)
  have e1 := h.blk.cell (i := i * 2 + 1) (by omega)
  have a0 : webC vm vl (i * 2) = vm i := by unfold webC; rw [if_pos (by omega), show i * 2 / 2 = i by omega]
  have a1 : webC vm vl (i * 2 + 1) = vl i := by unfold webC; rw [if_neg (by omega), show (i * 2 + 1) / 2 = i by omega]
  rw [a0] at e0
  rw [a1] at e1
  exact ⟨e0, e1⟩
theorem OwTb.ts {o : Bool} {g n : Nat} {S : Nat → Nat → Prop} {w : World} {vm vl : Nat → Value} {T : Nat → Wb} (h : OwTb o g n S w vm vl T) : OwTs o g n S w vm vl T := ⟨h.blk.lt, h.cells, h.webs, h.off, h.apart, h.four⟩
theorem OwTb.sm {o : Bool} {g n : Nat} {S : Nat → Nat → Prop} {w w' : World} {vm vl : Nat → Value} {T : Nat → Wb} (h : OwTb o g n S w vm vl T) (k : Sta (FtW g n S) w w') : OwTb o g n S w' vm vl T :=
  ⟨h.blk.same (k.2 g (Or.inl rfl)), fun i hi => (h.webs i hi).sm (k.mono (fun _ hb => Or.inr ⟨i, hi, hb⟩)), h.off, h.apart, h.four⟩
theorem OwTb.next {o : Bool} {g n : Nat} {S : Nat → Nat → Prop} {w w' : World} {vm vl : Nat → Value} {T : Nat → Wb} (h : OwTb o g n S w vm vl T) (L : Below w.heap.size w w') : OwTb o g n S w' vm vl T := h.sm (Sta.below L h.ts.bnd)
theorem OwTb.start {o : Bool} {g n : Nat} {w : World} (h : FB w g (n * 2) (webC (fun _ => .slice none 0 0) (fun _ => .slice none 0 0)) 105) (hn : n ≤ 4) : OwTb o g n (fun _ _ => False) w (fun _ => .slice none 0 0) (fun _ => .slice none 0 0) (fun _ => ([], [])) :=
  ⟨h, fun _ _ => OwW.zero o w, fun _ _ h => h, fun _ _ _ _ _ _ h => h.elim, hn⟩
def updS (f : Nat → Nat → Prop) (m : Nat) (v : Nat → Prop) (i : Nat) : Nat → Prop := if i = m then v else f i
def updW (f : Nat → Wb) (m : Nat) (v : Wb) (i : Nat) : Wb := if i = m then v else f i
/-- A web is put in place of another one. -/
theorem OwTb.put {o : Bool} {g n : Nat} {S : Nat → Nat → Prop} {w w' : World} {vm vl : Nat → Value} {T : Nat → Wb} (h : OwTb o g n S w vm vl T) (L : Below w.heap.size w w') {k : Nat} {F : Nat → Prop} {xm xl : Value} {t : Wb} (hw : OwW o F w' xm xl t.1 t.2) (hF : ∀ b, F b → w.heap.size ≤ b) :
    OwTb o g n (updS S k F) ((w'.setCell ⟨g, k * 2, none⟩ xm).setCell ⟨g, k * 2 + 1, none⟩ xl) (updV vm k xm) (updV vl k xl) (updW T k t) := by
  have hg := h.blk.lt
  have h' := h.next L
  have far : ∀ b, b ≠ g → ((w'.setCell ⟨g, k * 2, none⟩ xm).setCell ⟨g, k * 2 + 1, none⟩ xl).heap[b]? = w'.heap[b]? := fun b hb => (Below.heap_setCell _ ⟨g, k * 2 + 1, none⟩ xl b (fun e => hb e)).trans (Below.heap_setCell _ ⟨g, k * 2, none⟩ xm b (fun e => hb e))
  have sz : w'.heap.size ≤ ((w'.setCell ⟨g, k * 2, none⟩ xm).setCell ⟨g, k * 2 + 1, none⟩ xl).heap.size := by rw [setCell_size, setCell_size]; exact Nat.le_refl _
  refine ⟨((h'.blk.set (k * 2) xm).set (k * 2 + 1) xl).congr (fun j hj => ?_), fun i hi => ?_, fun i hi => ?_, fun i j hi hj hne b => ?_, h.four⟩
  · unfold updV webC
    by_cases e1 : j = k * 2 + 1
    · rw [if_pos e1, if_neg (by omega)]
      show xl = if j / 2 = k then xl else vl (j / 2)
      rw [if_pos (by omega)]
    · rw [if_neg e1]
      by_cases e0 : j = k * 2
      · rw [if_pos e0, if_pos (by omega)]
        show xm = if j / 2 = k then xm else vm (j / 2)
        rw [if_pos (by omega)]
      · rw [if_neg e0]
        by_cases e2 : j % 2 = 0
        · rw [if_pos e2, if_pos e2]
          show vm (j / 2) = if j / 2 = k then xm else vm (j / 2)
          rw [if_neg (by omega)]
        · rw [if_neg e2, if_neg e2]
          show vl (j / 2) = if j / 2 = k then xl else vl (j / 2)
          rw [if_neg (by omega)]
  · unfold updS updV updW
    by_cases e : i = k
    · rw [if_pos e, if_pos e, if_pos e, if_pos e]
      exact hw.sm ⟨sz, fun b hb => far b (fun eq => by have := hF b hb; omega)⟩
    · rw [if_neg e, if_neg e, if_neg e, if_neg e]
      exact (h'.webs i hi).sm ⟨sz, fun b hb => far b (fun eq => h.off i hi (eq ▸ hb))⟩
  · unfold updS
    by_cases e : i = k
    · rw [if_pos e]
      exact fun hb => by have := hF g hb; omega
    · rw [if_neg e]
      exact h.off i hi
  · unfold updS
    by_cases e : i = k
    · rw [if_pos e, if_neg (by omega)]
      exact fun hb hb' => by have := hF b hb; have := (h.webs j hj).bnd b hb'; omega
    · rw [if_neg e]
      by_cases e' : j = k
      · rw [if_pos e']
        exact fun hb hb' => by have := hF b hb'; have := (h.webs i hi).bnd b hb; omega
      · rw [if_neg e']
        exact h.apart i j hi hj hne b
theorem OwTb.as {o : Bool} {g n : Nat} {S : Nat → Nat → Prop} {w : World} {vm vl : Nat → Value} {T U : Nat → Wb} (h : OwTb o g n S w vm vl T) (e : ∀ i, i < n → T i = U i) : OwTb o g n S w vm vl U :=
  ⟨h.blk, fun i hi => by rw [← e i hi]; exact h.webs i hi, h.off, h.apart, h.four⟩
end Go.Proofs.Ytbmljcpeonopmaa
namespace Go.Proofs.Ytbmljcpeonopmaa
open Go Go.RowKit

def webL (vm vl : Nat → Value) (n : Nat) : List Value := (List.range (n * 2)).map (webC vm vl)
theorem webL_at {vm vl : Nat → Value} {n j : Nat} (h : j < n * 2) : (webL vm vl n)[j]? = some (webC vm vl j) := by simp [webL, h]
theorem webL_snoc (vm vl : Nat → Value) (n : Nat) (xm xl : Value) : webL (updV vm n xm) (updV vl n xl) (n + 1) = webL vm vl n ++ [xm, xl] := by
  refine List.ext_getElem (by simp [webL]; omega) (fun j h1 h2 => ?_)
  have hj : j < (n + 1) * 2 := by simpa [webL] using h1
  have e1 : (webL (updV vm n xm) (updV vl n xl) (n + 1))[j] = webC (updV vm n xm) (updV vl n xl) j := by simp [webL]
  rw [e1]
  unfold webC updV
  by_cases hl : j < n * 2
  · rw [List.getElem_append_left (by simpa [webL] using hl)]
    simp only [webL, List.getElem_map, List.getElem_range, webC]
    have hne : ¬ (j / 2 = n) := by omega
    by_cases e : j % 2 = 0
    · rw [if_pos e, if_pos e]; simp [hne]
    · rw [if_neg e, if_neg e]; simp [hne]
  · rw [List.getElem_append_right (by simp [webL]; omega)]
    have hlen : (webL vm vl n).length = n * 2 := by simp [webL]
    have hd : j / 2 = n := by omega
    by_cases e : j % 2 = 0
    · have : j - (webL vm vl n).length = 0 := by omega
      rw [if_pos e]; simp [this, hd]
    · have : j - (webL vm vl n).length = 1 := by omega
      rw [if_neg e]; simp [this, hd]
structure TsR (o : Bool) (base : Nat) (w : World) (v : Value) (ts : List Wb) (S : Nat → Nat → Prop) (vm vl : Nat → Value) : Prop where
  row : w.ownsRow base 105 2 v ts.length (webL vm vl ts.length)
  webs : ∀ i, i < ts.length → OwW o (S i) w (vm i) (vl i) (wnth ts i).1 (wnth ts i).2
  off : ∀ i, i < ts.length → ∀ g, v.ownBlock = some g → ¬ S i g
  apart : ∀ i j, i < ts.length → j < ts.length → i ≠ j → ∀ b, S i b → ¬ S j b
  four : ts.length ≤ 4
  low : ∀ i b, i < ts.length → S i b → base ≤ b
theorem TsR.start (o : Bool) (base : Nat) (w : World) : TsR o base w (.slice none 0 0) [] (fun _ _ => False) (fun _ => .slice none 0 0) (fun _ => .slice none 0 0) :=
  ⟨⟨rfl, Or.inl ⟨rfl, rfl⟩⟩, fun i hi => absurd hi (by simp), fun i hi => absurd hi (by simp), fun i j hi => absurd hi (by simp), by simp, fun i b hi => absurd hi (by simp)⟩
/-- All its blocks. -/
def FtR (v : Value) (n : Nat) (S : Nat → Nat → Prop) (b : Nat) : Prop := v.ownBlock = some b ∨ ∃ i, i < n ∧ S i b
theorem row_stay {base : Nat} {w w' : World} {e : TypeId} {size n : Nat} {v : Value} {xs : List Value} (h : w.ownsRow base e size v n xs) (k : ∀ g, v.ownBlock = some g → w'.heap[g]? = w.heap[g]?) : w'.ownsRow base e size v n xs := by
  obtain ⟨h1, h2 | ⟨g, cap, cur, rfl, hb, hg, h3⟩⟩ := h
  · exact ⟨h1, Or.inl h2⟩
  · exact ⟨h1, Or.inr ⟨g, cap, cur, rfl, hb, (k g rfl).trans hg, h3⟩⟩
theorem TsR.sm {o : Bool} {base : Nat} {w w' : World} {v : Value} {ts : List Wb} {S : Nat → Nat → Prop} {vm vl : Nat → Value} (h : TsR o base w v ts S vm vl) (k : Sta (FtR v ts.length S) w w') : TsR o base w' v ts S vm vl :=
  ⟨row_stay h.row (fun g e => k.2 g (Or.inl e)), fun i hi => (h.webs i hi).sm (k.mono (fun _ hb => Or.inr ⟨i, hi, hb⟩)), h.off, h.apart, h.four, h.low⟩
theorem TsR.bnd {o : Bool} {base : Nat} {w : World} {v : Value} {ts : List Wb} {S : Nat → Nat → Prop} {vm vl : Nat → Value} (h : TsR o base w v ts S vm vl) (b : Nat) (hb : FtR v ts.length S b) : base ≤ b ∧ b < w.heap.size := by
  rcases hb with e | ⟨i, hi, hs⟩
  · exact World.ownsRow.lt h.row b e
  · exact ⟨h.low i b hi hs, (h.webs i hi).bnd b hs⟩
theorem TsR.next {o : Bool} {base : Nat} {w w' : World} {v : Value} {ts : List Wb} {S : Nat → Nat → Prop} {vm vl : Nat → Value} (h : TsR o base w v ts S vm vl) (L : Below w.heap.size w w') : TsR o base w' v ts S vm vl := h.sm (Sta.below L (fun b hb => (h.bnd b hb).2))
theorem TsR.form {o : Bool} {base : Nat} {w : World} {v : Value} {ts : List Wb} {S : Nat → Nat → Prop} {vm vl : Nat → Value} (h : TsR o base w v ts S vm vl) : ∃ a c, v = .slice a ts.length c ∧ ts.length ≤ c ∧ WbView true w a ts := by
  obtain ⟨h1, ⟨rfl, h2⟩ | ⟨g, cap, cur, rfl, hb, hg, hc, h3⟩⟩ := h.row
  · exact ⟨none, 0, by rw [h2], by omega, Or.inl (List.length_eq_zero_iff.1 h2)⟩
  · have hr := h.row
    refine ⟨some ⟨g, 0, none⟩, cap, rfl, hc, Or.inr ⟨g, 0, rfl, (World.ownsRow.lt hr g rfl).2, fun i hi => ?_⟩⟩
    obtain ⟨am, cm, al, cl, e1, e2, l1, l2, hv⟩ := (h.webs i hi).view
    have c0 := World.ownsRow.cellAt hr (i * 2) (by omega)
    have c1 := World.ownsRow.cellAt hr (i * 2 + 1) (by omega)
    rw [webL_at (by omega)] at c0 c1
    have a0 : webC vm vl (i * 2) = vm i := by unfold webC; rw [if_pos (by omega), show i * 2 / 2 = i by omega]
    have a1 : webC vm vl (i * 2 + 1) = vl i := by unfold webC; rw [if_neg (by omega), show (i * 2 + 1) / 2 = i by omega]
    rw [a0, e1] at c0
    rw [a1, e2] at c1
    obtain ⟨v1, v2⟩ := hv w (Sta.refl _ _)
    rw [Nat.zero_add]
    exact ⟨am, cm, al, cl, c0, c1, v1, v2, fun _ => ⟨l1, l2⟩⟩
theorem TsR.snoc {o : Bool} {base : Nat} {w w8 : World} {v : Value} {ts : List Wb} {S : Nat → Nat → Prop} {vm vl : Nat → Value} (h : TsR o base w v ts S vm vl) {gg cc : Nat} {F : Nat → Prop} {xm xl : Value} {t : Wb}
    (hown : w8.ownsRow base 105 2 (.slice (some ⟨gg, 0, none⟩) (ts.length + 1) cc) (ts.length + 1) (webL vm vl ts.length ++ [xm, xl])) (hsz : w.heap.size ≤ w8.heap.size) (hsame : ∀ b, b < w.heap.size → v.ownBlock ≠ some b → w8.heap[b]? = w.heap[b]?)
    (hw : OwW o F w8 xm xl t.1 t.2) (hF : ∀ b, F b → w.heap.size ≤ b ∧ b ≠ gg) (hg : v.ownBlock = some gg ∨ w.heap.size ≤ gg) (hb : base ≤ w.heap.size) (h4 : ts.length + 1 ≤ 4) :
    TsR o base w8 (.slice (some ⟨gg, 0, none⟩) (ts.length + 1) cc) (ts ++ [t]) (updS S ts.length F) (updV vm ts.length xm) (updV vl ts.length xl) := by
  have hlen : (ts ++ [t]).length = ts.length + 1 := by simp
  have hnew : wnth (ts ++ [t]) ts.length = t := by simp [wnth, List.getD]
  have hold : ∀ i, i < ts.length → wnth (ts ++ [t]) i = wnth ts i := fun i hi => by simp [wnth, List.getD, List.getElem?_append_left hi]
  refine ⟨by rw [hlen, webL_snoc]; exact hown, fun i hi => ?_, fun i hi g e => ?_, fun i j hi hj hne b => ?_, by rw [hlen]; exact h4, fun i b hi hs => ?_⟩
  · rw [hlen] at hi
    unfold updS updV
    by_cases e : i = ts.length
    · rw [if_pos e, if_pos e, if_pos e, e, hnew]; exact hw
    · rw [if_neg e, if_neg e, if_neg e, hold i (by omega)]
      exact (h.webs i (by omega)).sm ⟨hsz, fun b hb => hsame b ((h.webs i (by omega)).bnd b hb) (fun e' => h.off i (by omega) b e' hb)⟩
  · rw [hlen] at hi
    have e' : g = gg := by simpa [Value.ownBlock] using e.symm
    unfold updS
    by_cases e2 : i = ts.length
    · rw [if_pos e2]; exact fun hb => (hF g hb).2 e'
    · rw [if_neg e2]
      intro hb
      have hbb := (h.webs i (by omega)).bnd g hb
      rcases hg with h1 | h1
      · exact h.off i (by omega) g (by rw [e']; exact h1) hb
      · omega
  · rw [hlen] at hi hj
    unfold updS
    by_cases e : i = ts.length
    · rw [if_pos e, if_neg (by omega)]
      exact fun hb hb' => by have := hF b hb; have := (h.webs j (by omega)).bnd b hb'; omega
    · rw [if_neg e]
      by_cases e2 : j = ts.length
      · rw [if_pos e2]
        exact fun hb hb' => by have := hF b hb'; have := (h.webs i (by omega)).bnd b hb; omega
      · rw [if_neg e2]
        exact h.apart i j (by omega) (by omega) hne b
  · rw [hlen] at hi
    unfold updS at hs
    by_cases e : i = ts.length
    · rw [if_pos e] at hs; have := hF b hs; omega
    · rw [if_neg e] at hs; exact h.low i b (by omega) hs
end Go.Proofs.Ytbmljcpeonopmaa
namespace Go.Proofs.Ytbmljcpeonopmaa
open Go Go.RowKit

/-- A row of webs that is handed out. -/
structure TsO (o : Bool) (S : Nat → Prop) (w : World) (v : Value) (ts : List Wb) : Prop where
  bnd : ∀ b, S b → b < w.heap.size
  ow : o = true → ∃ N, N ≤ 400000 ∧ Ow 80 82 S w v N
  view : ∃ a c, v = .slice a ts.length c ∧ ts.length ≤ c ∧ ∀ w', Sta S w w' → WbView true w' a ts
theorem TsO.sm {o : Bool} {S : Nat → Prop} {w w' : World} {v : Value} {ts : List Wb} (h : TsO o S w v ts) (k : Sta S w w') : TsO o S w' v ts := by
  obtain ⟨a, c, e, hc, hv⟩ := h.view
  exact ⟨fun b hb => Nat.lt_of_lt_of_le (h.bnd b hb) k.1, fun hq => by obtain ⟨N, hN, ho⟩ := h.ow hq; exact ⟨N, hN, ho.sm k⟩, ⟨a, c, e, hc, fun w2 k2 => hv w2 (k.trans k2)⟩⟩
theorem TsO.next {o : Bool} {S : Nat → Prop} {w w' : World} {v : Value} {ts : List Wb} (h : TsO o S w v ts) (L : Below w.heap.size w w') : TsO o S w' v ts := h.sm (Sta.below L h.bnd)
theorem TsO.mono {o : Bool} {S T : Nat → Prop} {w : World} {v : Value} {ts : List Wb} (h : TsO o S w v ts) (ht : ∀ b, T b → b < w.heap.size) (k : ∀ b, S b → T b) : TsO o T w v ts := by
  obtain ⟨a, c, e, hc, hv⟩ := h.view
  exact ⟨ht, fun hq => by obtain ⟨N, hN, ho⟩ := h.ow hq; exact ⟨N, hN, ho.mono ht k⟩, ⟨a, c, e, hc, fun w2 k2 => hv w2 (k2.mono k)⟩⟩
theorem TsO.zero (o : Bool) (w : World) : TsO o (fun _ => False) w (.slice none 0 0) [] :=
  ⟨fun _ h => h.elim, fun _ => ⟨0, by omega, ow_webs0 0 w⟩, ⟨none, 0, rfl, Nat.le_refl _, fun _ _ => Or.inl rfl⟩⟩
theorem OwTs.out {o : Bool} {g : Nat} {S : Nat → Nat → Prop} {w : World} {vm vl : Nat → Value} {ts : List Wb} (cap : Nat) (hc : ts.length ≤ cap) (h : OwTs o g ts.length S w vm vl (wnth ts)) : TsO o (FtW g ts.length S) w (.slice (some ⟨g, 0, none⟩) ts.length cap) ts := by
  refine ⟨h.bnd, fun ho => ?_, ⟨_, cap, rfl, hc, fun w' hs => ?_⟩⟩
  · subst ho
    refine ⟨_, ?_, ow_webs cap h⟩
    have := h.size ts.length (Nat.le_refl _)
    have := h.four
    omega
  · have h' := h.sm hs
    refine Or.inr ⟨g, 0, rfl, h'.lt, fun i hi => ?_⟩
    obtain ⟨am, cm, al, cl, e1, e2, l1, l2, hv⟩ := (h'.webs i hi).view
    have c0 := (h'.cells i hi).1
    have c1 := (h'.cells i hi).2
    obtain ⟨v1, v2⟩ := hv w' (Sta.refl _ _)
    rw [e1] at c0
    rw [e2] at c1
    rw [Nat.zero_add]
    exact ⟨am, cm, al, cl, c0, c1, v1, v2, fun _ => ⟨l1, l2⟩⟩

set_option maxRecDepth 100000 in
set_option maxHeartbeats 1000000 in
theorem ow_tower {S : Nat → Prop} {w : World} {v : Value} {N : Nat} (d : Int) (h : Ow 80 82 S w v N) : Ow 42 44 S w (.agg #[.int .i64 d, v]) N := by
  refine ⟨h.bnd, fun w' hs k0 h0 h1 => ?_⟩
  obtain ⟨W, hW⟩ : ∃ W, w'.alloc (.cells #[.int .i64 d, v] 32) = W := ⟨_, rfl⟩
  have hB : Below w'.heap.size w' W := by rw [← hW]; exact (Below.refl _ _).alloc (Nat.le_refl _) _
  have k1 : W.cell? ⟨w'.heap.size, 1, none⟩ = some v := by rw [← hW]; simp
  have hbn : ∀ b, S b → b < w'.heap.size := fun b hb => Nat.lt_of_lt_of_le (h.bnd b hb) hs.1
  have HC := hidP (h.act W (hs.trans (Sta.below hB hbn)) k0 h0 h1)
  have HB := hidP hB
  have HBN := hidP hbn
  clear hs hB hbn h
  go_enter Try.func42, Try.ntmps42
  go_wp2_with fail
  refine HC.out.mono ?_
  rintro e w1 ⟨rfl, c1, d1⟩
  have HD := hidP (And.intro c1 d1)
  clear c1 d1 hW k1
  go_wp2_with fail
  go_ret
  refine ⟨rfl, (Cgd.of HB.out).trans HD.out.1, fun W2 hW2 => ?_⟩
  obtain ⟨W3, hW3⟩ : ∃ W, W2.alloc (.cells #[.int .i64 d, v] 32) = W := ⟨_, rfl⟩
  have hB3 : Below W2.heap.size W2 W3 := by rw [← hW3]; exact (Below.refl _ _).alloc (Nat.le_refl _) _
  have k3 : W3.cell? ⟨W2.heap.size, 1, none⟩ = some v := by rw [← hW3]; simp
  have HE := hidP (HD.out.2 W3 (hW2.trans (Sta.below hB3 (fun b hb => by have := HBN.out b hb; have := HB.out.size; have := HD.out.1.2.2.2.1; have := hW2.1; omega))))
  have HB3 := hidP hB3
  clear HD HC hW2 hB3 HBN
  go_enter Try.func44, Try.ntmps44
  go_wp2_with fail
  refine HE.out.mono ?_
  rintro e w4 ⟨rfl, L4⟩
  have HL := hidP (chain HB3.out L4)
  clear L4 hW3 k3
  go_wp2_with fail
  go_ret
  exact ⟨rfl, HL.out⟩

/-- A state that is handed out. -/
structure StO (o : Bool) (S : Nat → Prop) (w : World) (v : Value) (wd : Int) (ms : List Mk) (d : Int) (ts : List Wb) (nx : Int) : Prop where
  bnd : ∀ b, S b → b < w.heap.size
  ow : o = true → ∃ N, N ≤ 500000 ∧ Ow 12 13 S w v N
  view : ∃ am cm aw cw, v = .agg #[.int .i64 wd, .slice am ms.length cm, .int .i64 d, .slice aw ts.length cw, .int .i64 nx] ∧ ms.length ≤ cm ∧ ts.length ≤ cw ∧ ∀ w', Sta S w w' → MView w' am ms ∧ WbView true w' aw ts
theorem StO.sm {o : Bool} {S : Nat → Prop} {w w' : World} {v : Value} {wd : Int} {ms : List Mk} {d : Int} {ts : List Wb} {nx : Int} (h : StO o S w v wd ms d ts nx) (k : Sta S w w') : StO o S w' v wd ms d ts nx := by
  obtain ⟨am, cm, aw, cw, e, c1, c2, hv⟩ := h.view
  exact ⟨fun b hb => Nat.lt_of_lt_of_le (h.bnd b hb) k.1, fun hq => by obtain ⟨N, hN, ho⟩ := h.ow hq; exact ⟨N, hN, ho.sm k⟩, ⟨am, cm, aw, cw, e, c1, c2, fun w2 k2 => hv w2 (k.trans k2)⟩⟩
theorem StO.next {o : Bool} {S : Nat → Prop} {w w' : World} {v : Value} {wd : Int} {ms : List Mk} {d : Int} {ts : List Wb} {nx : Int} (h : StO o S w v wd ms d ts nx) (L : Below w.heap.size w w') : StO o S w' v wd ms d ts nx := h.sm (Sta.below L h.bnd)
theorem StO.mono {o : Bool} {S T : Nat → Prop} {w : World} {v : Value} {wd : Int} {ms : List Mk} {d : Int} {ts : List Wb} {nx : Int} (h : StO o S w v wd ms d ts nx) (ht : ∀ b, T b → b < w.heap.size) (k : ∀ b, S b → T b) : StO o T w v wd ms d ts nx := by
  obtain ⟨am, cm, aw, cw, e, c1, c2, hv⟩ := h.view
  exact ⟨ht, fun hq => by obtain ⟨N, hN, ho⟩ := h.ow hq; exact ⟨N, hN, ho.mono ht k⟩, ⟨am, cm, aw, cw, e, c1, c2, fun w2 k2 => hv w2 (k2.mono k)⟩⟩

set_option maxRecDepth 100000 in
set_option maxHeartbeats 2000000 in
theorem ow_state {S F G : Nat → Prop} {w : World} {vm vt : Value} {N K : Nat} (wd d nx : Int) (hm : Ow 41 43 F w vm N) (ht : Ow 80 82 G w vt K) (hS : ∀ b, S b → b < w.heap.size) (hF : ∀ b, F b → S b) (hG : ∀ b, G b → S b) (hd : ∀ b, F b → ¬ G b) :
    Ow 12 13 S w (.agg #[.int .i64 wd, vm, .int .i64 d, vt, .int .i64 nx]) (N + K) := by
  refine ⟨hS, fun w' hs k0 h0 h1 => ?_⟩
  have ht2 := ow_tower d ht
  obtain ⟨W, hW⟩ : ∃ W, w'.alloc (.cells #[.int .i64 wd, vm, .int .i64 d, vt, .int .i64 nx] 34) = W := ⟨_, rfl⟩
  have hB : Below w'.heap.size w' W := by rw [← hW]; exact (Below.refl _ _).alloc (Nat.le_refl _) _
  have hlt : w'.heap.size < W.heap.size := by rw [← hW]; simp
  have k1 : W.cell? ⟨w'.heap.size, 1, none⟩ = some vm := by rw [← hW]; simp
  have k2 : W.cell? ⟨w'.heap.size, 2, none⟩ = some (.int .i64 d) := by rw [← hW]; simp
  have k3 : W.cell? ⟨w'.heap.size, 3, none⟩ = some vt := by rw [← hW]; simp
  have hbn : ∀ b, S b → b < w'.heap.size := fun b hb => Nat.lt_of_lt_of_le (hS b hb) hs.1
  have hsW := hs.trans (Sta.below hB hbn)
  have HM := hidP (hm.act W (hsW.mono hF) k0 h0 (by omega))
  have HT := hidP (ht2.sm (hsW.mono hG))
  have HB := hidP hB
  have HBN := hidP hbn
  have HK := hidP (And.intro k2 k3)
  have HFG := hidP (And.intro hF (And.intro hG hd))
  clear hs hsW hB hbn hm ht ht2 k2 k3 hF hG hd hS
  go_enter Try.func12, Try.ntmps12
  go_wp2_with fail
  refine HM.out.mono ?_
  rintro e w1 ⟨rfl, c1, d1⟩
  have hnS : ¬ F w'.heap.size := fun h => by have := HBN.out _ (HFG.out.1 _ h); omega
  have eb := c1.2.2.2.2 w'.heap.size hlt hnS
  have k2' := (World.cell?_of_block (a := ⟨w'.heap.size, 2, none⟩) eb).trans HK.out.1
  have k3' := (World.cell?_of_block (a := ⟨w'.heap.size, 3, none⟩) eb).trans HK.out.2
  have hG1 : Sta G W w1 := c1.sm (fun b hb => by have := HBN.out b (HFG.out.2.1 b hb); omega) (fun b hb hf => HFG.out.2.2 b hf hb)
  have HT1 := hidP (HT.out.act w1 hG1 (k0 + N) (by omega) (by omega))
  have HC := hidP (And.intro c1 d1)
  clear c1 d1 hnS eb hG1 HM HT hW k1
  go_wp2_with fail
  refine HT1.out.mono ?_
  rintro e w2 ⟨rfl, c2, d2⟩
  have HD := hidP (And.intro c2 d2)
  clear c2 d2 HT1 k2' k3'
  go_wp2_with fail
  go_ret
  have hs1 := HC.out.1.2.2.2.1
  have hs2 := HD.out.1.2.2.2.1
  refine ⟨ret_int (by omega), (Cgd.of HB.out).trans ((HC.out.1.mono HFG.out.1).trans (HD.out.1.mono HFG.out.2.1)), fun W2 hW2 => ?_⟩
  obtain ⟨W3, hW3⟩ : ∃ W, W2.alloc (.cells #[.int .i64 wd, vm, .int .i64 d, vt, .int .i64 nx] 34) = W := ⟨_, rfl⟩
  have hB3 : Below W2.heap.size W2 W3 := by rw [← hW3]; exact (Below.refl _ _).alloc (Nat.le_refl _) _
  have hlt3 : W2.heap.size < W3.heap.size := by rw [← hW3]; simp
  have k1 : W3.cell? ⟨W2.heap.size, 1, none⟩ = some vm := by rw [← hW3]; simp
  have k2 : W3.cell? ⟨W2.heap.size, 2, none⟩ = some (.int .i64 d) := by rw [← hW3]; simp
  have k3 : W3.cell? ⟨W2.heap.size, 3, none⟩ = some vt := by rw [← hW3]; simp
  have hw3 : Sta S w2 W3 := hW2.trans (Sta.below hB3 (fun b hb => by have := HBN.out b hb; have := hW2.1; omega))
  have hF3 : Sta F w1 W3 := (HD.out.1.sm (T := F) (fun b hb => by have := HBN.out b (HFG.out.1 b hb); omega) (fun b hb hg => HFG.out.2.2 b hb hg)).trans (hw3.mono HFG.out.1)
  have HE := hidP (HC.out.2 W3 hF3)
  have HE2 := hidP (fun W4 (L : Below W3.heap.size W3 W4) => HD.out.2 W4 ((hw3.mono HFG.out.2.1).trans (Sta.below L (fun b hb => by have := HBN.out b (HFG.out.2.1 b hb); have := hw3.1; omega))))
  have HB3 := hidP hB3
  have HK3 := hidP (And.intro k2 k3)
  clear HC HD hW2 hB3 HBN k2 k3 hw3 hF3 HFG HK hs1 hs2
  go_enter Try.func13, Try.ntmps13
  go_wp2_with fail
  refine HE.out.mono ?_
  rintro e w4 ⟨rfl, L4⟩
  have k2 := (L4.cell (p := ⟨W2.heap.size, 2, none⟩) hlt3).trans HK3.out.1
  have k3 := (L4.cell (p := ⟨W2.heap.size, 3, none⟩) hlt3).trans HK3.out.2
  have HE3 := hidP (HE2.out w4 L4)
  have HL := hidP (chain HB3.out L4)
  clear L4 hW3 k1 HE HE2 HK3
  go_wp2_with fail
  refine HE3.out.mono ?_
  rintro e w5 ⟨rfl, L5⟩
  have HL5 := hidP (chain HL.out L5)
  clear L5 k2 k3
  go_wp2_with fail
  go_ret
  exact ⟨ret_int (by omega), HL5.out⟩

theorem StO.of {o : Bool} {S F G : Nat → Prop} {w : World} {am : Option Addr} {cm : Nat} {vt : Value} {N : Nat} (wd : Int) {ms : List Mk} (d : Int) {ts : List Wb} (nx : Int) (hm : o = true → Ow 41 43 F w (.slice am ms.length cm) N) (hN : N ≤ 100000) (hc : ms.length ≤ cm) (hv : ∀ w', Sta F w w' → MView w' am ms) (ht : TsO o G w vt ts) (hS : ∀ b, S b → b < w.heap.size) (hF : ∀ b, F b → S b) (hG : ∀ b, G b → S b) (hd : ∀ b, F b → ¬ G b) :
    StO o S w (.agg #[.int .i64 wd, .slice am ms.length cm, .int .i64 d, vt, .int .i64 nx]) wd ms d ts nx := by
  obtain ⟨a, c, e, hcc, hw⟩ := ht.view
  have how := ht.ow
  rw [e] at how ⊢
  exact ⟨hS, fun hq => by obtain ⟨K, hK, ho⟩ := how hq; exact ⟨N + K, by omega, ow_state wd d nx (hm hq) ho hS hF hG hd⟩, ⟨am, cm, a, c, rfl, hc, hcc, fun w' hs => ⟨hv w' (hs.mono hF), hw w' (hs.mono hG)⟩⟩⟩
theorem StO.zero (o : Bool) (w : World) : StO o (fun _ => False) w (.agg #[.int .i64 0, .slice none 0 0, .int .i64 0, .slice none 0 0, .int .i64 0]) 0 [] 0 [] 0 :=
  StO.of (F := fun _ => False) (G := fun _ => False) 0 0 0 (fun _ => ow_marks0 0 w) (by omega) (Nat.le_refl _) (fun _ _ => Or.inl rfl) (TsO.zero o w) (fun _ h => h.elim) (fun _ h => h) (fun _ h => h) (fun _ h => h.elim)
end Go.Proofs.Ytbmljcpeonopmaa
namespace Go.Proofs.Ytbmljcpeonopmaa
open Go Go.RowKit

set_option maxRecDepth 100000 in
set_option maxHeartbeats 4000000 in
theorem iOwnTower (v : Bool) (aw : Option Addr) (cw : Nat) (d : Int) (ts : List Wb) (w : World) (hv : WbView v w aw ts) (hok : towB d ts = true) (hsm : WbSmall ts) :
    Calls Try.prog 75 #[.agg #[.int .i64 d, .slice aw ts.length cw]] w fun e w' => ∃ vt, e = .returned (.agg #[.int .i64 d, vt]) ∧ TsO true (Btw w.heap.size w'.heap.size) w' vt ts ∧ Below w.heap.size w w' := by
  obtain ⟨W1, hW1⟩ : ∃ W, w.alloc (.cells #[.int .i64 d, .slice aw ts.length cw] 32) = W := ⟨_, rfl⟩
  have hB1 : Below w.heap.size w W1 := by rw [← hW1]; exact (Below.refl _ _).alloc (Nat.le_refl _) _
  have hT1 : Two W1 w.heap.size (.int .i64 d) (.slice aw ts.length cw) 32 := by rw [← hW1]; exact Two.new w _ _ _
  obtain ⟨W, hW⟩ : ∃ W, W1.alloc (.cells #[.int .i64 0, .slice none 0 0] 32) = W := ⟨_, rfl⟩
  have hB2 : Below W1.heap.size W1 W := by rw [← hW]; exact (Below.refl _ _).alloc (Nat.le_refl _) _
  have s1 : W1.heap.size = w.heap.size + 1 := by rw [← hW1]; simp
  have s2 : W.heap.size = w.heap.size + 2 := by rw [← hW]; simp [s1]
  have TR : Two W (w.heap.size + 1) (.int .i64 0) (.slice none 0 0) 32 := by rw [← hW, ← s1]; exact Two.new W1 _ _ _
  have TA := hT1.below hB2
  have h4 := (tow_at hok).1
  have hmk : ∀ w0 : World, (Instr.makeSlice 30 (.int .i64 (ts.length : Int)) (.int .i64 (ts.length : Int))).run Try.prog w0 = .ok (.slice (some ⟨w0.heap.size, 0, none⟩) ts.length ts.length) (w0.alloc (.cells (madeCells #[.slice none 0 0, .slice none 0 0] (ts.length * 2)) 105)) := fun w0 => run_make_rows (P := Try.prog) 30 105 (.agg #[.slice none 0 0, .slice none 0 0]) 2 48 Try.underlying30 Try.info105 .i64 .i64 ts.length (by omega) (by omega) w0
  have HB := hidP (chain hB1 hB2)
  have HV := hidP (fun W' (L : Below w.heap.size w W') => hv.next L)
  have HOK := hidP (And.intro hok hsm)
  have HTA := hidP TA
  have HTR := hidP TR
  have HSZ := hidP (And.intro s1 s2)
  have HS : Hid (∀ W', Below W.heap.size W W' → W'.cell? ⟨w.heap.size, 0, none⟩ = some (.int .i64 d) ∧ W'.cell? ⟨w.heap.size, 1, none⟩ = some (.slice aw ts.length cw)) := fun W' L' => ⟨(TA.below L').c0, (TA.below L').c1⟩
  have BL := hidP ((Below.refl W.heap.size W).drew)
  have HWW : Hid ((w.alloc (.cells #[.int .i64 d, .slice aw ts.length cw] 32)).alloc (.cells #[.int .i64 0, .slice none 0 0] 32) = W) := by show _ = _; rw [hW1, hW]
  have H4 := hidP h4
  clear hv hB1 hT1 hB2 TR TA s1 s2 hW hW1 hok hsm h4
  go_enter Try.func75, Try.ntmps75
  go_upto_region 1 with fail
  rw [HWW.out]
  clear HWW
  go_cut [3] from 6 to 12 (fun v wx => ∃ o g, v = .pointer (some ⟨o, 0, none⟩) ∧ Two wx o (.int .i64 d) (.slice (some ⟨g, 0, none⟩) ts.length ts.length) 32 ∧ FB wx g (ts.length * 2) (webC (fun _ => .slice none 0 0) (fun _ => .slice none 0 0)) 105 ∧ W.heap.size ≤ o ∧ W.heap.size ≤ g ∧ o ≠ g ∧ Below W.heap.size W wx)
  case first =>
    refine wp_region_takes (S := fun W' => Below W.heap.size W W') (fuel := 4) [0, 1, 2, 3, 4] (by kernel_rfl) (by kernel_rfl) (by kernel_rfl) (by kernel_rfl) BL.out (fun _ => ?_)
    iterate 5
      refine ⟨_, rfl, ?_⟩
      apply Exists.intro
      refine ⟨Or.inl ⟨by rfl, fun w' hw' => ?_⟩, ?_⟩
      · obtain ⟨e1, e2⟩ := HS.out w' hw'
        first
        | (go_simp; done)
        | (go_simp; with_reducible rfl)
      simp only [Act.put, List.getElem_toArray, List.getElem_cons_succ, List.getElem_cons_zero, List.setIfInBounds_toArray, List.set_cons_zero, List.set_cons_succ]
    obtain ⟨wv0, hv0⟩ : ∃ w0, W.drew = w0 := ⟨_, rfl⟩
    have B0 : Below W.heap.size W wv0 := by rw [← hv0]; exact BL.out
    have s0 : W.heap.size ≤ wv0.heap.size := B0.size
    rw [hv0]
    clear hv0
    refine calm_two14 5 7 (by kernel_rfl) rfl rfl (fun K hK => ?_) (fun K hK => ?_)
    · go_simp
      obtain ⟨w1, hX⟩ : ∃ w0, wv0.alloc (.cells (madeCells #[.slice none 0 0, .slice none 0 0] (ts.length * 2)) 105) = w0 := ⟨_, rfl⟩
      have LX : Below wv0.heap.size wv0 w1 := by rw [← hX]; exact (Below.refl _ _).alloc (Nat.le_refl _) _
      have sX : wv0.heap.size < w1.heap.size := by rw [← hX]; simp
      have Fg : FB w1 wv0.heap.size (ts.length * 2) (webC (fun _ => .slice none 0 0) (fun _ => .slice none 0 0)) 105 := by rw [← hX]; exact FB.madeW wv0 _ _
      have B1 : Below W.heap.size W w1 := chain B0 LX
      obtain ⟨g, hg⟩ : ∃ q, wv0.heap.size = q := ⟨_, rfl⟩
      have hg1 : wv0.heap.size ≤ g := by omega
      have hg2 : g < w1.heap.size := by omega
      rw [hX]
      rw [hg] at Fg ⊢
      refine hK.out _ _ B1 (fun _ => ?_)
      clear hK K hX LX hg sX
      refine calm_more14 2 [6] (by kernel_rfl) (by kernel_rfl) (by kernel_rfl) B1 ?_
      iterate 1
        refine ⟨_, rfl, ?_⟩
        apply Exists.intro
        refine ⟨Or.inl ⟨by rfl, fun w' hw' => ?_⟩, ?_⟩
        · first
          | (go_simp; done)
          | (go_simp; with_reducible rfl)
        simp only [Act.put, List.getElem_toArray, List.getElem_cons_succ, List.getElem_cons_zero, List.setIfInBounds_toArray, List.set_cons_zero, List.set_cons_succ]
      refine calm_one 7 (by kernel_rfl) rfl (fun K hK => ?_)
      go_simp
      refine hK.out _ _ (B1.alloc B1.size _) (fun _ => ?_)
      clear hK K
      refine calm_one 8 (by kernel_rfl) rfl (fun K hK => ?_)
      go_simp
      obtain ⟨wz, hwz⟩ : ∃ wz, w1.alloc (.cells #[.int .i64 d, .slice (some ⟨g, 0, none⟩) ts.length ts.length] 32) = wz := ⟨_, rfl⟩
      have LZ : Below w1.heap.size w1 wz := by rw [← hwz]; exact (Below.refl _ _).alloc (Nat.le_refl _) _
      have TZ : Two wz w1.heap.size (.int .i64 d) (.slice (some ⟨g, 0, none⟩) ts.length ts.length) 32 := by rw [← hwz]; exact Two.new w1 _ _ _
      have hgl := Fg.lt
      rw [hwz]
      refine hK.out _ _ (chain B1 LZ) (fun _ => ?_)
      clear hK K hwz
      refine wpAnyH_done (by kernel_rfl) ?_ _
      refine NoPanic.normal ?_
      try simp only [Exit.then]
      go_wp2_with fail
      go_meet
      exact ⟨_, g, rfl, TZ, Fg.next LZ, by have := B1.size; omega, by omega, by omega, chain B1 LZ⟩
    · go_simp
      obtain ⟨w1, hX⟩ : ∃ w0, wv0.alloc (.cells #[.int .i64 0, .slice none 0 0] 32) = w0 := ⟨_, rfl⟩
      have LX : Below wv0.heap.size wv0 w1 := by rw [← hX]; exact (Below.refl _ _).alloc (Nat.le_refl _) _
      have sX : wv0.heap.size < w1.heap.size := by rw [← hX]; simp
      have Fo : Two w1 wv0.heap.size (.int .i64 0) (.slice none 0 0) 32 := by rw [← hX]; exact Two.new wv0 _ _ _
      have B1 : Below W.heap.size W w1 := chain B0 LX
      obtain ⟨o, ho⟩ : ∃ q, wv0.heap.size = q := ⟨_, rfl⟩
      have ho1 : wv0.heap.size ≤ o := by omega
      have ho2 : o < w1.heap.size := by omega
      rw [hX]
      rw [ho] at Fo ⊢
      refine hK.out _ _ B1 (fun _ => ?_)
      clear hK K hX LX ho sX
      refine calm_one 5 (by kernel_rfl) rfl (fun K hK => ?_)
      go_simp
      obtain ⟨w2, hX⟩ : ∃ w0, w1.alloc (.cells (madeCells #[.slice none 0 0, .slice none 0 0] (ts.length * 2)) 105) = w0 := ⟨_, rfl⟩
      have LX : Below w1.heap.size w1 w2 := by rw [← hX]; exact (Below.refl _ _).alloc (Nat.le_refl _) _
      have sX : w1.heap.size < w2.heap.size := by rw [← hX]; simp
      have Fg : FB w2 w1.heap.size (ts.length * 2) (webC (fun _ => .slice none 0 0) (fun _ => .slice none 0 0)) 105 := by rw [← hX]; exact FB.madeW w1 _ _
      replace Fo := Fo.below LX
      have B2 : Below W.heap.size W w2 := chain B1 LX
      obtain ⟨g, hg⟩ : ∃ q, w1.heap.size = q := ⟨_, rfl⟩
      have hg1 : w1.heap.size ≤ g := by omega
      have hg2 : g < w2.heap.size := by omega
      rw [hX]
      rw [hg] at Fg ⊢
      refine hK.out _ _ B2 (fun _ => ?_)
      clear hK K hX LX hg sX
      refine calm_more14 1 [6] (by kernel_rfl) (by kernel_rfl) (by kernel_rfl) B2 ?_
      iterate 1
        refine ⟨_, rfl, ?_⟩
        apply Exists.intro
        refine ⟨Or.inl ⟨by rfl, fun w' hw' => ?_⟩, ?_⟩
        · first
          | (go_simp; done)
          | (go_simp; with_reducible rfl)
        simp only [Act.put, List.getElem_toArray, List.getElem_cons_succ, List.getElem_cons_zero, List.setIfInBounds_toArray, List.set_cons_zero, List.set_cons_succ]
      have x0 := Fo.c0
      have x1 := Fo.c1
      have xf0 := Fo.frozen 0
      have xf1 := Fo.frozen 1
      have hgl1 := Fg.lt
      have hgl3 := Fo.lt
      refine calm_one 8 (by kernel_rfl) rfl (fun K hK => ?_)
      go_simp
      obtain ⟨wz, hwz⟩ : ∃ wz, (w2.setCell ⟨o, 0, none⟩ (.int .i64 d)).setCell ⟨o, 1, none⟩ (.slice (some ⟨g, 0, none⟩) ts.length ts.length) = wz := ⟨_, rfl⟩
      have TZ : Two wz o (.int .i64 d) (.slice (some ⟨g, 0, none⟩) ts.length ts.length) 32 := by rw [← hwz]; exact (Fo.set0 _).set1 _
      have Fg2 : FB wz g (ts.length * 2) (webC (fun _ => .slice none 0 0) (fun _ => .slice none 0 0)) 105 := by rw [← hwz]; exact (Fg.far (by omega) _ _).far (by omega) _ _
      have BZ : Below W.heap.size W wz := by rw [← hwz]; exact (B2.setCell (by show W.heap.size ≤ o; omega) _).setCell (by show W.heap.size ≤ o; omega) _
      rw [hwz]
      refine hK.out _ _ BZ (fun _ => ?_)
      clear hK K hwz x0 x1 xf0 xf1
      refine wpAnyH_done (by kernel_rfl) ?_ _
      refine NoPanic.normal ?_
      try simp only [Exit.then]
      go_wp2_with fail
      go_meet
      exact ⟨o, g, rfl, TZ, Fg2, by omega, by omega, by omega, BZ⟩
  case rest =>
    obtain ⟨o, g, rfl, hTo, hFg, ho, hg, hog, LW⟩ := hcut
    generalize hwc : wc = w1 at *
    clear hwc wc hmk BL HS
    have HLW := hidP LW
    have hk0 := (HTA.out.below LW).c0
    have k1 := (HTA.out.below LW).c1
    have h44 := H4.out
    have HOB := hidP (OwTb.start (o := true) hFg (by omega))
    have HTO := hidP hTo
    have hWs := HSZ.out.2
    clear hTo hFg LW hk0 h44
    go_wp2_with fail
    clear k1
    go_loopg [16] ts.length (fun gk iv wr => ∃ (k : Nat) (S : Nat → Nat → Prop) (vm vl : Nat → Value), k ≤ ts.length ∧ ts.length - k ≤ gk ∧ iv = .int .i64 k ∧ OwTb true g ts.length S wr vm vl (fun i => if i < k then wnth ts i else ([], [])) ∧ (∀ i b, S i b → W.heap.size ≤ b) ∧ Two wr o (.int .i64 d) (.slice (some ⟨g, 0, none⟩) ts.length ts.length) 32 ∧ Below W.heap.size W wr)
    case atStart => exact ⟨0, _, _, _, Nat.zero_le _, Nat.sub_le _ _, rfl, HOB.out.as (fun i _ => by rw [if_neg (by omega)]), fun _ _ h => h.elim, HTO.out, HLW.out⟩
    case round =>
      obtain ⟨k, S, vm, vl, hk, hgk, rfl, hp, hsb, hto, L⟩ := hrel
      have HP := hidP hp
      have HL := hidP L
      have HT := hidP hto
      have HSB := hidP hsb
      have hVr := HV.out wr (chain HB.out L)
      clear hp L hto hsb
      by_cases hlt : k < ts.length
      · obtain ⟨wb, wo, am, cm, al, cl, rfl, hwb, c0, c1, hmv, hcv, -⟩ := hVr.web hlt
        have hi0 : (0 : Int) ≤ (k : Int) := Int.natCast_nonneg _
        have hi1 : (k : Int) < (ts.length : Int) := by omega
        have hk3 : k < 4 := by have := H4.out; omega
        have hweb := tow_web HOK.out.1 (n := k) (by have := H4.out; omega)
        obtain ⟨V1, hV⟩ : ∃ V1, wr.alloc (.cells #[.slice am (wnth ts k).1.length cm, .slice al (wnth ts k).2.length cl] 105) = V1 := ⟨_, rfl⟩
        have LV : Below wr.heap.size wr V1 := by rw [← hV]; exact (Below.refl _ _).alloc (Nat.le_refl _) _
        have hYl : wr.heap.size < V1.heap.size := by rw [← hV]; simp
        have y0 : V1.cell? ⟨wr.heap.size, 0, none⟩ = some (.slice am (wnth ts k).1.length cm) := by rw [← hV]; simp
        have y1 : V1.cell? ⟨wr.heap.size, 1, none⟩ = some (.slice al (wnth ts k).2.length cl) := by rw [← hV]; simp
        have LVd : Below wr.heap.size wr V1.drew := LV.drew
        have hOV := (HT.out.below LVd).c1
        have HPD := hidP (HP.out.next LVd)
        have HTD := hidP (HT.out.below LVd)
        have HLD := hidP (chain HL.out LVd)
        have HC := hidP (iOwnWeb am al cm cl (wnth ts k).1 (wnth ts k).2 V1.drew (hmv.next LVd) (hcv.next LVd) (web_marks hweb) (HOK.out.2.2 k).1 (HOK.out.2.2 k).2)
        have HWB := hidP hweb
        have hol1 := HTD.out.lt
        have hwbs : W.heap.size ≤ V1.drew.heap.size := HLD.out.size
        clear hmv hcv hVr LV LVd hweb
        have HSS : Hid (∀ W', Below V1.drew.heap.size V1.drew W' → W'.cell? ⟨o, 1, none⟩ = some (.slice (some ⟨g, 0, none⟩) ts.length ts.length) ∧ W'.cell? ⟨wr.heap.size, 0, none⟩ = some (.slice am (wnth ts k).1.length cm) ∧ W'.cell? ⟨wr.heap.size, 1, none⟩ = some (.slice al (wnth ts k).2.length cl)) := fun W' L' => ⟨(L'.cell (p := ⟨o, 1, none⟩) hol1).trans hOV, (L'.cell (p := ⟨wr.heap.size, 0, none⟩) hYl).trans y0, (L'.cell (p := ⟨wr.heap.size, 1, none⟩) hYl).trans y1⟩
        obtain ⟨ml, hml⟩ : ∃ ml, (wnth ts k).1.length = ml := ⟨_, rfl⟩
        obtain ⟨ll, hll⟩ : ∃ ll, (wnth ts k).2.length = ll := ⟨_, rfl⟩
        have HID := hidP (And.intro hml hll)
        rw [hml, hll] at HC HSS hV
        rw [hml] at y0 c0
        rw [hll] at y1 c1
        clear hml hll hOV
        go_wp2_with fail
        clear hV c0 c1 y0 y1
        refine wp_region_calm (S := fun w' => w'.cell? ⟨o, 1, none⟩ = some (.slice (some ⟨g, 0, none⟩) ts.length ts.length) ∧ w'.cell? ⟨wr.heap.size, 0, none⟩ = some (.slice am ml cm) ∧ w'.cell? ⟨wr.heap.size, 1, none⟩ = some (.slice al ll cl)) (fuel := 2)
          [0, 1, 2, 3] _ rfl (by kernel_rfl) (by kernel_rfl) (by kernel_rfl) (by kernel_rfl) (by kernel_rfl) (by kernel_rfl) (by kernel_rfl) (HSS.out _ (Below.refl _ _)) (fun hS => ?_)
        iterate 4
          refine ⟨_, rfl, ?_⟩
          apply Exists.intro
          refine ⟨Or.inl ⟨by rfl, fun w' hw' => ?_⟩, ?_⟩
          · first
            | (go_simp; done)
            | (go_simp; with_reducible rfl)
          simp only [Act.put, List.setIfInBounds_toArray]
        refine calm_one 4 (by kernel_rfl) rfl (fun K hK => ?_)
        go_simp
        refine HC.out.mono ?_
        rintro e w3 ⟨g3, gl3, rfl, ho3, L3⟩
        refine hK.out _ _ (HSS.out _ L3) (fun _ => ?_)
        clear hK K
        refine calm_one 5 (by kernel_rfl) rfl (fun K hK => ?_)
        go_simp
        refine hK.out _ _ (HSS.out _ L3) (fun _ => ?_)
        clear hK K hS
        have hlen := web_len HWB.out
        obtain ⟨-, -, hl60, hx60⟩ := web_small HWB.out
        rw [← HID.out.2] at ho3
        have hl3 := ho3.ow (web_marks HWB.out) hlen.symm (by omega) (fun i => by have := hx60 i; omega)
        have HST := hidP (HPD.out.put L3 (k := k) hl3 (fun b hb => hb.1))
        have hN := HPD.out.next L3
        have f0 := hN.blk.frozen (k * 2)
        have f1 := hN.blk.frozen (k * 2 + 1)
        have e0 := (hN.cells k hlt).1
        have e1 := (hN.cells k hlt).2
        have hog' : g ≠ o := fun e => hog e.symm
        rw [HID.out.1, HID.out.2] at HST
        have HE : Hid (Two ((w3.setCell ⟨g, k * 2, none⟩ (.slice (some ⟨g3, 0, none⟩) ml ml)).setCell ⟨g, k * 2 + 1, none⟩ (.slice (some ⟨gl3, 0, none⟩) ll ll)) o (.int .i64 d) (.slice (some ⟨g, 0, none⟩) ts.length ts.length) 32 ∧ Below W.heap.size W ((w3.setCell ⟨g, k * 2, none⟩ (.slice (some ⟨g3, 0, none⟩) ml ml)).setCell ⟨g, k * 2 + 1, none⟩ (.slice (some ⟨gl3, 0, none⟩) ll ll))) :=
          ⟨((HTD.out.below L3).far hog' _).far hog' _, ((chain HLD.out L3).setCell (by show W.heap.size ≤ g; exact hg) _).setCell (by show W.heap.size ≤ g; exact hg) _⟩
        have HSN : Hid (∀ i b, updS S k (Btw V1.drew.heap.size w3.heap.size) i b → W.heap.size ≤ b) := fun i b hb => by
          unfold updS at hb
          by_cases e : i = k
          · rw [if_pos e] at hb; have := hb.1; omega
          · rw [if_neg e] at hb; exact HSB.out i b hb
        clear ho3 L3 hN hl3 hlen hl60 hx60 HPD HTD HLD HC HSS
        refine wpAnyH_done (by kernel_rfl) ?_ _
        simp only [Exit.then]
        go_wp2_with fail
        refine NoPanic.normal ?_
        go_wp2_with fail
        go_roundg (ts.length - (k + 1))
        case rel => exact ⟨k + 1, _, _, _, by omega, Nat.le_refl _, by go_num, HST.out.as (fun i _ => by
          unfold updW
          by_cases e : i = k
          · rw [if_pos e, if_pos (by omega), e]
          · rw [if_neg e]
            show (if i < k then wnth ts i else ([], [])) = _
            by_cases e2 : i < k
            · rw [if_pos e2, if_pos (by omega)]
            · rw [if_neg e2, if_neg (by omega)]), HSN.out, HE.out.1, HE.out.2⟩
        case measure => omega
      · obtain rfl : k = ts.length := by omega
        have hki : ¬ ((ts.length : Int) < (ts.length : Int)) := by omega
        have tR := HTR.out.below HL.out
        have r0 := tR.c0
        have r1 := tR.c1
        have rf0 := tR.frozen 0
        have rf1 := tR.frozen 1
        have o0 := HT.out.c0
        have o1 := HT.out.c1
        have t3 := (tR.set0 (.int .i64 d)).set1 (.slice (some ⟨g, 0, none⟩) ts.length ts.length)
        have q0 := t3.c0
        have q1 := t3.c1
        have HF := hidP (HP.out.as (U := wnth ts) (fun i hi' => by rw [if_pos hi']))
        have hz := HL.out.size
        have LE : Below w.heap.size w ((wr.setCell ⟨w.heap.size + 1, 0, none⟩ (.int .i64 d)).setCell ⟨w.heap.size + 1, 1, none⟩ (.slice (some ⟨g, 0, none⟩) ts.length ts.length)) := ((chain HB.out HL.out).setCell (by show w.heap.size ≤ w.heap.size + 1; omega) _).setCell (by show w.heap.size ≤ w.heap.size + 1; omega) _
        have hft : ∀ b, FtW g ts.length S b → W.heap.size ≤ b ∧ b < wr.heap.size := fun b hb => ⟨by rcases hb with rfl | ⟨i, _, hs⟩; exact hg; exact HSB.out i b hs, HF.out.ts.bnd b hb⟩
        have hsta : Sta (FtW g ts.length S) wr ((wr.setCell ⟨w.heap.size + 1, 0, none⟩ (.int .i64 d)).setCell ⟨w.heap.size + 1, 1, none⟩ (.slice (some ⟨g, 0, none⟩) ts.length ts.length)) :=
          ⟨by rw [setCell_size, setCell_size]; exact Nat.le_refl _, fun b hb => (Below.heap_setCell _ ⟨w.heap.size + 1, 1, none⟩ _ b (fun e => by have e' : b = w.heap.size + 1 := e; have := hft b hb; omega)).trans (Below.heap_setCell _ ⟨w.heap.size + 1, 0, none⟩ _ b (fun e => by have e' : b = w.heap.size + 1 := e; have := hft b hb; omega))⟩
        have HE := hidP (And.intro ((((HF.out.ts.out ts.length (Nat.le_refl _)).sm hsta).mono (T := Btw w.heap.size ((wr.setCell ⟨w.heap.size + 1, 0, none⟩ (.int .i64 d)).setCell ⟨w.heap.size + 1, 1, none⟩ (.slice (some ⟨g, 0, none⟩) ts.length ts.length)).heap.size) (fun b hb => hb.2) (fun b hb => ⟨by have := hft b hb; omega, by rw [setCell_size, setCell_size]; exact (hft b hb).2⟩))) LE)
        clear hVr tR t3 HF LE hft hsta HP HL HT HSB hz
        go_wp2_with fail
        refine bodyPost_ret (v := .agg #[.int .i64 d, .slice (some ⟨g, 0, none⟩) ts.length ts.length]) (by simp [results, Try.results75, go_sem, q0, q1]) rfl ?_
        exact ⟨_, rfl, HE.out.1, HE.out.2⟩
end Go.Proofs.Ytbmljcpeonopmaa
namespace Go.Proofs.Ytbmljcpeonopmaa
open Go Go.RowKit

theorem five_all {w : World} {q : Nat} {a b c d e a' b' c' d' e' : Value} {t : TypeId} (h : w.heap[q]? = some (.cells #[a, b, c, d, e] t)) : (((((w.setCell ⟨q, 0, none⟩ a').setCell ⟨q, 1, none⟩ b').setCell ⟨q, 2, none⟩ c').setCell ⟨q, 3, none⟩ d').setCell ⟨q, 4, none⟩ e').heap[q]? = some (.cells #[a', b', c', d', e'] t) := by
  simp [World.setCell, Array.getElem?_modify, h]
theorem five_far {w : World} {q b : Nat} {a' b' c' d' e' : Value} (h : b ≠ q) : (((((w.setCell ⟨q, 0, none⟩ a').setCell ⟨q, 1, none⟩ b').setCell ⟨q, 2, none⟩ c').setCell ⟨q, 3, none⟩ d').setCell ⟨q, 4, none⟩ e').heap[b]? = w.heap[b]? := by
  rw [Below.heap_setCell _ ⟨q, 4, none⟩ _ b h, Below.heap_setCell _ ⟨q, 3, none⟩ _ b h, Below.heap_setCell _ ⟨q, 2, none⟩ _ b h, Below.heap_setCell _ ⟨q, 1, none⟩ _ b h, Below.heap_setCell _ ⟨q, 0, none⟩ _ b h]

/-- Marks as ownMark copies them, in hand. -/
theorem opart_ow {base : Nat} {w : World} {g : Nat} {ms : List Mk} {G cc : Nat → Nat} {lo hi : Nat} (ho : OPart base w g ms.length ms G cc lo hi) (hm : marksB ms = true) :
    Ow 41 43 (FtM g (dsOf ms G cc)) w (.slice (some ⟨g, 0, none⟩) ms.length ms.length) (totM ms) ∧ totM ms ≤ 300 ∧ (∀ b, FtM g (dsOf ms G cc) b → b = g ∨ lo ≤ b) ∧ (∀ b, FtM g (dsOf ms G cc) b → b < w.heap.size) ∧ ∀ w', Sta (FtM g (dsOf ms G cc)) w w' → MView w' (some ⟨g, 0, none⟩) ms := by
  have h60 := marksB_len hm
  have hmo := ho.own (by unfold maxLen; omega)
  have hdl := dsOf_len ms G cc
  have hdm := dsOf_marks ms G cc
  have hat : ∀ x ∈ ms, x.2.length ≤ 4 := fun x hx' => by
    obtain ⟨i, hi', rfl⟩ := List.getElem_of_mem hx'
    have := ((mOkAt_iff _ _).1 (marksB_at hm hi')).2.2.1
    have h4 := (okB_len this).2
    simpa [mat, List.getD, hi'] using h4
  have o1 := ow_marks hmo (by omega) (by rw [hdm]; exact hat)
  rw [hdl, hdm] at o1
  refine ⟨o1, totM_le ms 60 4 h60 hat, fun b hb => ?_, fun b hb => (mown_bnd hmo b hb).2, fun w' hs => ?_⟩
  · rcases hb with rfl | ⟨i, hi', rfl⟩
    · exact Or.inl rfl
    · rw [hdl] at hi'
      rw [dsOf_at hi']
      exact Or.inr (ho.within i hi').1
  · have := (mown_sm hmo hs).view
    rw [hdm] at this
    exact this

/-- Marks and a tower as ownState hands them out. -/
def OwnSt (base : Nat) (w : World) (g : Nat) (vt : Value) (ms : List Mk) (ts : List Wb) : Prop :=
  ∃ G cc lo F, OPart base w g ms.length ms G cc lo w.heap.size ∧ TsO true F w vt ts ∧ (∀ b, F b → base ≤ b ∧ b < lo) ∧ ¬ F g

set_option maxRecDepth 100000 in
set_option maxHeartbeats 20000000 in
theorem iOwnState (v : Bool) (am aw : Option Addr) (cm cw : Nat) (wd : Int) (ms : List Mk) (d : Int) (ts : List Wb) (nx : Int) (w : World) (hm : MView w am ms) (hv : WbView v w aw ts) (hmb : marksB ms = true) (hok : towB d ts = true) (hsm : StSmall ms ts) :
    Calls Try.prog 36 #[.agg #[.int .i64 wd, .slice am ms.length cm, .int .i64 d, .slice aw ts.length cw, .int .i64 nx]] w fun e w' => ∃ g vt, e = .returned (.agg #[.int .i64 wd, .slice (some ⟨g, 0, none⟩) ms.length ms.length, .int .i64 d, vt, .int .i64 nx]) ∧ OwnSt w.heap.size w' g vt ms ts ∧ Below w.heap.size w w' := by
  obtain ⟨W1, hW1⟩ : ∃ W, w.alloc (.cells #[.int .i64 wd, .slice am ms.length cm, .int .i64 d, .slice aw ts.length cw, .int .i64 nx] 34) = W := ⟨_, rfl⟩
  have hB1 : Below w.heap.size w W1 := by rw [← hW1]; exact (Below.refl _ _).alloc (Nat.le_refl _) _
  have hI1 : StIn v W1 w.heap.size am aw cm cw wd ms d ts nx := by rw [← hW1]; exact StIn.box hm hv
  obtain ⟨W, hW⟩ : ∃ W, W1.alloc (.cells #[.int .i64 0, .slice none 0 0, .int .i64 0, .slice none 0 0, .int .i64 0] 34) = W := ⟨_, rfl⟩
  have hB2 : Below W1.heap.size W1 W := by rw [← hW]; exact (Below.refl _ _).alloc (Nat.le_refl _) _
  have s1 : W1.heap.size = w.heap.size + 1 := by rw [← hW1]; simp
  have s2 : W.heap.size = w.heap.size + 2 := by rw [← hW]; simp [s1]
  have TR : W.heap[w.heap.size + 1]? = some (.cells #[.int .i64 0, .slice none 0 0, .int .i64 0, .slice none 0 0, .int .i64 0] 34) := by rw [← hW, ← s1]; exact heap_alloc_new W1 _
  have hI := hI1.below hB2
  have h60 := marksB_len hmb
  have hmk : ∀ w0 : World, (Instr.makeSlice 29 (.int .i64 (ms.length : Int)) (.int .i64 (ms.length : Int))).run Try.prog w0 = .ok (.slice (some ⟨w0.heap.size, 0, none⟩) ms.length ms.length) (w0.alloc (.cells (madeCells #[.int .i64 0, .slice none 0 0] (ms.length * 2)) 76)) := fun w0 => run_make_rows (P := Try.prog) 29 76 (.agg #[.int .i64 0, .slice none 0 0]) 2 32 Try.underlying29 Try.info76 .i64 .i64 ms.length (by omega) (by omega) w0
  have HB := hidP (chain hB1 hB2)
  have HI := hidP hI
  have HMB := hidP hmb
  have HTR := hidP TR
  have HSZ := hidP (And.intro s1 s2)
  have HTC : Hid (∀ W', Below W.heap.size W W' → Calls Try.prog 75 #[.agg #[.int .i64 d, .slice aw ts.length cw]] W' fun e w' => ∃ vt, e = .returned (.agg #[.int .i64 d, vt]) ∧ TsO true (Btw W'.heap.size w'.heap.size) w' vt ts ∧ Below W'.heap.size W' w') := fun W' L' => iOwnTower v aw cw d ts W' ((hI.below L').wv) hok hsm.2.1
  have HS : Hid (∀ W', Below W.heap.size W W' → W'.cell? ⟨w.heap.size, 0, none⟩ = some (.int .i64 wd) ∧ W'.cell? ⟨w.heap.size, 1, none⟩ = some (.slice am ms.length cm) ∧ W'.cell? ⟨w.heap.size, 2, none⟩ = some (.int .i64 d) ∧ W'.cell? ⟨w.heap.size, 3, none⟩ = some (.slice aw ts.length cw) ∧ W'.cell? ⟨w.heap.size, 4, none⟩ = some (.int .i64 nx)) := fun W' L' => ⟨(hI.below L').c0, (hI.below L').c1, (hI.below L').c2, (hI.below L').c3, (hI.below L').c4⟩
  have BL := hidP ((Below.refl W.heap.size W).drew)
  have HWW : Hid ((w.alloc (.cells #[.int .i64 wd, .slice am ms.length cm, .int .i64 d, .slice aw ts.length cw, .int .i64 nx] 34)).alloc (.cells #[.int .i64 0, .slice none 0 0, .int .i64 0, .slice none 0 0, .int .i64 0] 34) = W) := by show _ = _; rw [hW1, hW]
  have HSM := hidP hsm
  clear hm hv hB1 hI1 hB2 TR hI s1 s2 hW hW1 hok hsm h60 hmb
  go_enter Try.func36, Try.ntmps36
  go_upto_region 1 with fail
  rw [HWW.out]
  clear HWW
  go_cut [3] from 6 to 17 (fun v wx => ∃ o g ta tc F, v = .pointer (some ⟨o, 0, none⟩) ∧ wx.heap[o]? = some (.cells #[.int .i64 wd, .slice (some ⟨g, 0, none⟩) ms.length ms.length, .int .i64 d, .slice ta ts.length tc, .int .i64 nx] 34) ∧ FB wx g (ms.length * 2) zeroM 76 ∧ TsO true F wx (.slice ta ts.length tc) ts ∧ W.heap.size ≤ o ∧ W.heap.size ≤ g ∧ o ≠ g ∧ ¬ F g ∧ ¬ F o ∧ (∀ b, F b → W.heap.size ≤ b) ∧ Below W.heap.size W wx)
  case first =>
    refine wp_region_takes (S := fun W' => Below W.heap.size W W') (fuel := 5) [0, 1, 2, 3, 4, 6, 7, 9, 10] (by kernel_rfl) (by kernel_rfl) (by kernel_rfl) (by kernel_rfl) BL.out (fun _ => ?_)
    iterate 9
      refine ⟨_, rfl, ?_⟩
      apply Exists.intro
      refine ⟨Or.inl ⟨by rfl, fun w' hw' => ?_⟩, ?_⟩
      · obtain ⟨e1, e2, e3, e4, e5⟩ := HS.out w' hw'
        first
        | (go_simp; done)
        | (go_simp; with_reducible rfl)
      simp only [Act.put, List.getElem_toArray, List.getElem_cons_succ, List.getElem_cons_zero, List.setIfInBounds_toArray, List.set_cons_zero, List.set_cons_succ]
    obtain ⟨wv0, hv0⟩ : ∃ w0, W.drew = w0 := ⟨_, rfl⟩
    have Bwv0 : Below W.heap.size W wv0 := by rw [← hv0]; exact BL.out
    have s0 : W.heap.size ≤ wv0.heap.size := Bwv0.size
    rw [hv0]
    clear hv0
    refine calm_three 5 8 12 (by kernel_rfl) rfl rfl rfl (fun K hK => ?_) (fun K hK => ?_) (fun K hK => ?_)
    · go_simp
      obtain ⟨wv1, hX⟩ : ∃ w0, wv0.alloc (.cells (madeCells #[.int .i64 0, .slice none 0 0] (ms.length * 2)) 76) = w0 := ⟨_, rfl⟩
      have LX : Below wv0.heap.size wv0 wv1 := by rw [← hX]; exact (Below.refl _ _).alloc (Nat.le_refl _) _
      have swv1 : wv0.heap.size < wv1.heap.size := by rw [← hX]; simp
      have Fg : FB wv1 wv0.heap.size (ms.length * 2) zeroM 76 := by rw [← hX]; exact FB.madeM wv0 _ _
      have Bwv1 : Below W.heap.size W wv1 := chain Bwv0 LX
      obtain ⟨g, hg⟩ : ∃ q, wv0.heap.size = q := ⟨_, rfl⟩
      have hg1 : wv0.heap.size ≤ g := by omega
      have hg2 : g < wv1.heap.size := by omega
      rw [hX]
      rw [hg] at Fg ⊢
      refine hK.out _ _ Bwv1 (fun _ => ?_)
      clear hK K hX LX hg
      refine calm_two14 8 12 (by kernel_rfl) rfl rfl (fun K hK => ?_) (fun K hK => ?_)
      · go_simp
        refine (HTC.out wv1 Bwv1).mono ?_
        rintro e wv2 ⟨vt, rfl, Ft, LX⟩
        obtain ⟨ta, tc, rfl, -, -⟩ := Ft.view
        have swv2 : wv1.heap.size ≤ wv2.heap.size := LX.size
        replace Fg := Fg.next LX
        have Bwv2 : Below W.heap.size W wv2 := chain Bwv1 LX
        obtain ⟨F, hF⟩ : ∃ F, Btw wv1.heap.size wv2.heap.size = F := ⟨_, rfl⟩
        have hF1 : ∀ b, F b → wv1.heap.size ≤ b ∧ b < wv2.heap.size := fun b hb => by rw [← hF] at hb; exact hb
        rw [hF] at Ft
        refine hK.out _ _ Bwv2 (fun _ => ?_)
        clear hK K LX hF
        refine calm_more14 2 [11] (by kernel_rfl) (by kernel_rfl) (by kernel_rfl) Bwv2 ?_
        iterate 1
          refine ⟨_, rfl, ?_⟩
          apply Exists.intro
          refine ⟨Or.inl ⟨by rfl, fun w' hw' => ?_⟩, ?_⟩
          · first
            | (go_simp; done)
            | (go_simp; with_reducible rfl)
          simp only [Act.put, List.getElem_toArray, List.getElem_cons_succ, List.getElem_cons_zero, List.setIfInBounds_toArray, List.set_cons_zero, List.set_cons_succ]
        refine calm_one 12 (by kernel_rfl) rfl (fun K hK => ?_)
        go_simp
        refine hK.out _ _ (Bwv2.alloc Bwv2.size _) (fun _ => ?_)
        clear hK K
        refine calm_one 13 (by kernel_rfl) rfl (fun K hK => ?_)
        go_simp
        obtain ⟨wz, hwz⟩ : ∃ wz, wv2.alloc (.cells #[.int .i64 wd, .slice (some ⟨g, 0, none⟩) ms.length ms.length, .int .i64 d, .slice ta ts.length tc, .int .i64 nx] 34) = wz := ⟨_, rfl⟩
        have LZ : Below wv2.heap.size wv2 wz := by rw [← hwz]; exact (Below.refl _ _).alloc (Nat.le_refl _) _
        have TZ : wz.heap[wv2.heap.size]? = some (.cells #[.int .i64 wd, .slice (some ⟨g, 0, none⟩) ms.length ms.length, .int .i64 d, .slice ta ts.length tc, .int .i64 nx] 34) := by rw [← hwz]; exact heap_alloc_new wv2 _
        have hgl := Fg.lt
        rw [hwz]
        refine hK.out _ _ (chain Bwv2 LZ) (fun _ => ?_)
        clear hK K hwz
        refine wpAnyH_done (by kernel_rfl) ?_ _
        refine NoPanic.normal ?_
        try simp only [Exit.then]
        go_wp2_with fail
        go_meet
        exact ⟨wv2.heap.size, g, ta, tc, F, rfl, TZ, Fg.next LZ, Ft.next LZ, by have := Bwv2.size; omega, by omega, by omega, fun hb => by have := hF1 _ hb; omega, fun hb => by have := Ft.bnd _ hb; omega, fun b hb => by have := hF1 b hb; omega, chain Bwv2 LZ⟩
      · go_simp
        obtain ⟨wv4, hX⟩ : ∃ w0, wv1.alloc (.cells #[.int .i64 0, .slice none 0 0, .int .i64 0, .slice none 0 0, .int .i64 0] 34) = w0 := ⟨_, rfl⟩
        have LX : Below wv1.heap.size wv1 wv4 := by rw [← hX]; exact (Below.refl _ _).alloc (Nat.le_refl _) _
        have swv4 : wv1.heap.size < wv4.heap.size := by rw [← hX]; simp
        have Fo : wv4.heap[wv1.heap.size]? = some (.cells #[.int .i64 0, .slice none 0 0, .int .i64 0, .slice none 0 0, .int .i64 0] 34) := by rw [← hX]; exact heap_alloc_new wv1 _
        replace Fg := Fg.next LX
        have Bwv4 : Below W.heap.size W wv4 := chain Bwv1 LX
        obtain ⟨o, ho⟩ : ∃ q, wv1.heap.size = q := ⟨_, rfl⟩
        have ho1 : wv1.heap.size ≤ o := by omega
        have ho2 : o < wv4.heap.size := by omega
        have hol : o < wv4.heap.size := ho2
        rw [hX]
        rw [ho] at Fo ⊢
        refine hK.out _ _ Bwv4 (fun _ => ?_)
        clear hK K hX LX ho
        refine calm_one 8 (by kernel_rfl) rfl (fun K hK => ?_)
        go_simp
        refine (HTC.out wv4 Bwv4).mono ?_
        rintro e wv5 ⟨vt, rfl, Ft, LX⟩
        obtain ⟨ta, tc, rfl, -, -⟩ := Ft.view
        have swv5 : wv4.heap.size ≤ wv5.heap.size := LX.size
        replace Fg := Fg.next LX
        replace Fo := (LX.block _ hol).trans Fo
        replace hol := Nat.lt_of_lt_of_le hol LX.size
        have Bwv5 : Below W.heap.size W wv5 := chain Bwv4 LX
        obtain ⟨F, hF⟩ : ∃ F, Btw wv4.heap.size wv5.heap.size = F := ⟨_, rfl⟩
        have hF1 : ∀ b, F b → wv4.heap.size ≤ b ∧ b < wv5.heap.size := fun b hb => by rw [← hF] at hb; exact hb
        rw [hF] at Ft
        refine hK.out _ _ Bwv5 (fun _ => ?_)
        clear hK K LX hF
        refine calm_more14 1 [11] (by kernel_rfl) (by kernel_rfl) (by kernel_rfl) Bwv5 ?_
        iterate 1
          refine ⟨_, rfl, ?_⟩
          apply Exists.intro
          refine ⟨Or.inl ⟨by rfl, fun w' hw' => ?_⟩, ?_⟩
          · first
            | (go_simp; done)
            | (go_simp; with_reducible rfl)
          simp only [Act.put, List.getElem_toArray, List.getElem_cons_succ, List.getElem_cons_zero, List.setIfInBounds_toArray, List.set_cons_zero, List.set_cons_succ]
        obtain ⟨x0, x1, x2, x3, x4, xf, -⟩ := five_cells Fo
        have xf0 := xf 0
        have xf1 := xf 1
        have xf2 := xf 2
        have xf3 := xf 3
        have xf4 := xf 4
        have hgl1 := Fg.lt
        refine calm_one 13 (by kernel_rfl) rfl (fun K hK => ?_)
        go_simp
        obtain ⟨wz, hwz⟩ : ∃ wz, ((((wv5.setCell ⟨o, 0, none⟩ (.int .i64 wd)).setCell ⟨o, 1, none⟩ (.slice (some ⟨g, 0, none⟩) ms.length ms.length)).setCell ⟨o, 2, none⟩ (.int .i64 d)).setCell ⟨o, 3, none⟩ (.slice ta ts.length tc)).setCell ⟨o, 4, none⟩ (.int .i64 nx) = wz := ⟨_, rfl⟩
        have TZ : wz.heap[o]? = some (.cells #[.int .i64 wd, .slice (some ⟨g, 0, none⟩) ms.length ms.length, .int .i64 d, .slice ta ts.length tc, .int .i64 nx] 34) := by rw [← hwz]; exact five_all Fo
        have far : ∀ b, b ≠ o → wz.heap[b]? = wv5.heap[b]? := fun b hb => by rw [← hwz]; exact five_far hb
        have hsz : wz.heap.size = wv5.heap.size := by rw [← hwz]; simp [World.setCell]
        have hog : g ≠ o := by omega
        have hof : ¬ F o := fun hb => by have := hF1 _ hb; omega
        have Fg2 : FB wz g (ms.length * 2) zeroM 76 := Fg.same (far g hog)
        have Ft2 := Ft.sm (w' := wz) ⟨by omega, fun b hb => far b (fun e => hof (e ▸ hb))⟩
        have BZ : Below W.heap.size W wz := by
          have ho : W.heap.size ≤ o := by omega
          rw [← hwz]; exact ((((Bwv5.setCell (p := ⟨o, 0, none⟩) ho _).setCell (p := ⟨o, 1, none⟩) ho _).setCell (p := ⟨o, 2, none⟩) ho _).setCell (p := ⟨o, 3, none⟩) ho _).setCell (p := ⟨o, 4, none⟩) ho _
        rw [hwz]
        refine hK.out _ _ BZ (fun _ => ?_)
        clear hK K hwz x0 x1 x2 x3 x4 xf xf0 xf1 xf2 xf3 xf4
        refine wpAnyH_done (by kernel_rfl) ?_ _
        refine NoPanic.normal ?_
        try simp only [Exit.then]
        go_wp2_with fail
        go_meet
        exact ⟨o, g, ta, tc, F, rfl, TZ, Fg2, Ft2, by omega, by omega, hog.symm, fun hb => by have := hF1 _ hb; omega, hof, fun b hb => by have := hF1 b hb; omega, BZ⟩
    · go_simp
      refine (HTC.out wv0 Bwv0).mono ?_
      rintro e wv6 ⟨vt, rfl, Ft, LX⟩
      obtain ⟨ta, tc, rfl, -, -⟩ := Ft.view
      have swv6 : wv0.heap.size ≤ wv6.heap.size := LX.size
      have Bwv6 : Below W.heap.size W wv6 := chain Bwv0 LX
      obtain ⟨F, hF⟩ : ∃ F, Btw wv0.heap.size wv6.heap.size = F := ⟨_, rfl⟩
      have hF1 : ∀ b, F b → wv0.heap.size ≤ b ∧ b < wv6.heap.size := fun b hb => by rw [← hF] at hb; exact hb
      rw [hF] at Ft
      refine hK.out _ _ Bwv6 (fun _ => ?_)
      clear hK K LX hF
      refine calm_two14 5 12 (by kernel_rfl) rfl rfl (fun K hK => ?_) (fun K hK => ?_)
      · go_simp
        obtain ⟨wv7, hX⟩ : ∃ w0, wv6.alloc (.cells (madeCells #[.int .i64 0, .slice none 0 0] (ms.length * 2)) 76) = w0 := ⟨_, rfl⟩
        have LX : Below wv6.heap.size wv6 wv7 := by rw [← hX]; exact (Below.refl _ _).alloc (Nat.le_refl _) _
        have swv7 : wv6.heap.size < wv7.heap.size := by rw [← hX]; simp
        have Fg : FB wv7 wv6.heap.size (ms.length * 2) zeroM 76 := by rw [← hX]; exact FB.madeM wv6 _ _
        replace Ft := Ft.next LX
        have Bwv7 : Below W.heap.size W wv7 := chain Bwv6 LX
        obtain ⟨g, hg⟩ : ∃ q, wv6.heap.size = q := ⟨_, rfl⟩
        have hg1 : wv6.heap.size ≤ g := by omega
        have hg2 : g < wv7.heap.size := by omega
        rw [hX]
        rw [hg] at Fg ⊢
        refine hK.out _ _ Bwv7 (fun _ => ?_)
        clear hK K hX LX hg
        refine calm_more14 2 [11] (by kernel_rfl) (by kernel_rfl) (by kernel_rfl) Bwv7 ?_
        iterate 1
          refine ⟨_, rfl, ?_⟩
          apply Exists.intro
          refine ⟨Or.inl ⟨by rfl, fun w' hw' => ?_⟩, ?_⟩
          · first
            | (go_simp; done)
            | (go_simp; with_reducible rfl)
          simp only [Act.put, List.getElem_toArray, List.getElem_cons_succ, List.getElem_cons_zero, List.setIfInBounds_toArray, List.set_cons_zero, List.set_cons_succ]
        refine calm_one 12 (by kernel_rfl) rfl (fun K hK => ?_)
        go_simp
        refine hK.out _ _ (Bwv7.alloc Bwv7.size _) (fun _ => ?_)
        clear hK K
        refine calm_one 13 (by kernel_rfl) rfl (fun K hK => ?_)
        go_simp
        obtain ⟨wz, hwz⟩ : ∃ wz, wv7.alloc (.cells #[.int .i64 wd, .slice (some ⟨g, 0, none⟩) ms.length ms.length, .int .i64 d, .slice ta ts.length tc, .int .i64 nx] 34) = wz := ⟨_, rfl⟩
        have LZ : Below wv7.heap.size wv7 wz := by rw [← hwz]; exact (Below.refl _ _).alloc (Nat.le_refl _) _
        have TZ : wz.heap[wv7.heap.size]? = some (.cells #[.int .i64 wd, .slice (some ⟨g, 0, none⟩) ms.length ms.length, .int .i64 d, .slice ta ts.length tc, .int .i64 nx] 34) := by rw [← hwz]; exact heap_alloc_new wv7 _
        have hgl := Fg.lt
        rw [hwz]
        refine hK.out _ _ (chain Bwv7 LZ) (fun _ => ?_)
        clear hK K hwz
        refine wpAnyH_done (by kernel_rfl) ?_ _
        refine NoPanic.normal ?_
        try simp only [Exit.then]
        go_wp2_with fail
        go_meet
        exact ⟨wv7.heap.size, g, ta, tc, F, rfl, TZ, Fg.next LZ, Ft.next LZ, by have := Bwv7.size; omega, by omega, by omega, fun hb => by have := hF1 _ hb; omega, fun hb => by have := Ft.bnd _ hb; omega, fun b hb => by have := hF1 b hb; omega, chain Bwv7 LZ⟩
      · go_simp
        obtain ⟨wv9, hX⟩ : ∃ w0, wv6.alloc (.cells #[.int .i64 0, .slice none 0 0, .int .i64 0, .slice none 0 0, .int .i64 0] 34) = w0 := ⟨_, rfl⟩
        have LX : Below wv6.heap.size wv6 wv9 := by rw [← hX]; exact (Below.refl _ _).alloc (Nat.le_refl _) _
        have swv9 : wv6.heap.size < wv9.heap.size := by rw [← hX]; simp
        have Fo : wv9.heap[wv6.heap.size]? = some (.cells #[.int .i64 0, .slice none 0 0, .int .i64 0, .slice none 0 0, .int .i64 0] 34) := by rw [← hX]; exact heap_alloc_new wv6 _
        replace Ft := Ft.next LX
        have Bwv9 : Below W.heap.size W wv9 := chain Bwv6 LX
        obtain ⟨o, ho⟩ : ∃ q, wv6.heap.size = q := ⟨_, rfl⟩
        have ho1 : wv6.heap.size ≤ o := by omega
        have ho2 : o < wv9.heap.size := by omega
        have hol : o < wv9.heap.size := ho2
        rw [hX]
        rw [ho] at Fo ⊢
        refine hK.out _ _ Bwv9 (fun _ => ?_)
        clear hK K hX LX ho
        refine calm_one 5 (by kernel_rfl) rfl (fun K hK => ?_)
        go_simp
        obtain ⟨wv10, hX⟩ : ∃ w0, wv9.alloc (.cells (madeCells #[.int .i64 0, .slice none 0 0] (ms.length * 2)) 76) = w0 := ⟨_, rfl⟩
        have LX : Below wv9.heap.size wv9 wv10 := by rw [← hX]; exact (Below.refl _ _).alloc (Nat.le_refl _) _
        have swv10 : wv9.heap.size < wv10.heap.size := by rw [← hX]; simp
        have Fg : FB wv10 wv9.heap.size (ms.length * 2) zeroM 76 := by rw [← hX]; exact FB.madeM wv9 _ _
        replace Fo := (LX.block _ hol).trans Fo
        replace hol := Nat.lt_of_lt_of_le hol LX.size
        replace Ft := Ft.next LX
        have Bwv10 : Below W.heap.size W wv10 := chain Bwv9 LX
        obtain ⟨g, hg⟩ : ∃ q, wv9.heap.size = q := ⟨_, rfl⟩
        have hg1 : wv9.heap.size ≤ g := by omega
        have hg2 : g < wv10.heap.size := by omega
        rw [hX]
        rw [hg] at Fg ⊢
        refine hK.out _ _ Bwv10 (fun _ => ?_)
        clear hK K hX LX hg
        refine calm_more14 1 [11] (by kernel_rfl) (by kernel_rfl) (by kernel_rfl) Bwv10 ?_
        iterate 1
          refine ⟨_, rfl, ?_⟩
          apply Exists.intro
          refine ⟨Or.inl ⟨by rfl, fun w' hw' => ?_⟩, ?_⟩
          · first
            | (go_simp; done)
            | (go_simp; with_reducible rfl)
          simp only [Act.put, List.getElem_toArray, List.getElem_cons_succ, List.getElem_cons_zero, List.setIfInBounds_toArray, List.set_cons_zero, List.set_cons_succ]
        obtain ⟨x0, x1, x2, x3, x4, xf, -⟩ := five_cells Fo
        have xf0 := xf 0
        have xf1 := xf 1
        have xf2 := xf 2
        have xf3 := xf 3
        have xf4 := xf 4
        have hgl1 := Fg.lt
        refine calm_one 13 (by kernel_rfl) rfl (fun K hK => ?_)
        go_simp
        obtain ⟨wz, hwz⟩ : ∃ wz, ((((wv10.setCell ⟨o, 0, none⟩ (.int .i64 wd)).setCell ⟨o, 1, none⟩ (.slice (some ⟨g, 0, none⟩) ms.length ms.length)).setCell ⟨o, 2, none⟩ (.int .i64 d)).setCell ⟨o, 3, none⟩ (.slice ta ts.length tc)).setCell ⟨o, 4, none⟩ (.int .i64 nx) = wz := ⟨_, rfl⟩
        have TZ : wz.heap[o]? = some (.cells #[.int .i64 wd, .slice (some ⟨g, 0, none⟩) ms.length ms.length, .int .i64 d, .slice ta ts.length tc, .int .i64 nx] 34) := by rw [← hwz]; exact five_all Fo
        have far : ∀ b, b ≠ o → wz.heap[b]? = wv10.heap[b]? := fun b hb => by rw [← hwz]; exact five_far hb
        have hsz : wz.heap.size = wv10.heap.size := by rw [← hwz]; simp [World.setCell]
        have hog : g ≠ o := by omega
        have hof : ¬ F o := fun hb => by have := hF1 _ hb; omega
        have Fg2 : FB wz g (ms.length * 2) zeroM 76 := Fg.same (far g hog)
        have Ft2 := Ft.sm (w' := wz) ⟨by omega, fun b hb => far b (fun e => hof (e ▸ hb))⟩
        have BZ : Below W.heap.size W wz := by
          have ho : W.heap.size ≤ o := by omega
          rw [← hwz]; exact ((((Bwv10.setCell (p := ⟨o, 0, none⟩) ho _).setCell (p := ⟨o, 1, none⟩) ho _).setCell (p := ⟨o, 2, none⟩) ho _).setCell (p := ⟨o, 3, none⟩) ho _).setCell (p := ⟨o, 4, none⟩) ho _
        rw [hwz]
        refine hK.out _ _ BZ (fun _ => ?_)
        clear hK K hwz x0 x1 x2 x3 x4 xf xf0 xf1 xf2 xf3 xf4
        refine wpAnyH_done (by kernel_rfl) ?_ _
        refine NoPanic.normal ?_
        try simp only [Exit.then]
        go_wp2_with fail
        go_meet
        exact ⟨o, g, ta, tc, F, rfl, TZ, Fg2, Ft2, by omega, by omega, hog.symm, fun hb => by have := hF1 _ hb; omega, hof, fun b hb => by have := hF1 b hb; omega, BZ⟩
    · go_simp
      obtain ⟨wv11, hX⟩ : ∃ w0, wv0.alloc (.cells #[.int .i64 0, .slice none 0 0, .int .i64 0, .slice none 0 0, .int .i64 0] 34) = w0 := ⟨_, rfl⟩
      have LX : Below wv0.heap.size wv0 wv11 := by rw [← hX]; exact (Below.refl _ _).alloc (Nat.le_refl _) _
      have swv11 : wv0.heap.size < wv11.heap.size := by rw [← hX]; simp
      have Fo : wv11.heap[wv0.heap.size]? = some (.cells #[.int .i64 0, .slice none 0 0, .int .i64 0, .slice none 0 0, .int .i64 0] 34) := by rw [← hX]; exact heap_alloc_new wv0 _
      have Bwv11 : Below W.heap.size W wv11 := chain Bwv0 LX
      obtain ⟨o, ho⟩ : ∃ q, wv0.heap.size = q := ⟨_, rfl⟩
      have ho1 : wv0.heap.size ≤ o := by omega
      have ho2 : o < wv11.heap.size := by omega
      have hol : o < wv11.heap.size := ho2
      rw [hX]
      rw [ho] at Fo ⊢
      refine hK.out _ _ Bwv11 (fun _ => ?_)
      clear hK K hX LX ho
      refine calm_two14 5 8 (by kernel_rfl) rfl rfl (fun K hK => ?_) (fun K hK => ?_)
      · go_simp
        obtain ⟨wv12, hX⟩ : ∃ w0, wv11.alloc (.cells (madeCells #[.int .i64 0, .slice none 0 0] (ms.length * 2)) 76) = w0 := ⟨_, rfl⟩
        have LX : Below wv11.heap.size wv11 wv12 := by rw [← hX]; exact (Below.refl _ _).alloc (Nat.le_refl _) _
        have swv12 : wv11.heap.size < wv12.heap.size := by rw [← hX]; simp
        have Fg : FB wv12 wv11.heap.size (ms.length * 2) zeroM 76 := by rw [← hX]; exact FB.madeM wv11 _ _
        replace Fo := (LX.block _ hol).trans Fo
        replace hol := Nat.lt_of_lt_of_le hol LX.size
        have Bwv12 : Below W.heap.size W wv12 := chain Bwv11 LX
        obtain ⟨g, hg⟩ : ∃ q, wv11.heap.size = q := ⟨_, rfl⟩
        have hg1 : wv11.heap.size ≤ g := by omega
        have hg2 : g < wv12.heap.size := by omega
        rw [hX]
        rw [hg] at Fg ⊢
        refine hK.out _ _ Bwv12 (fun _ => ?_)
        clear hK K hX LX hg
        refine calm_one 8 (by kernel_rfl) rfl (fun K hK => ?_)
        go_simp
        refine (HTC.out wv12 Bwv12).mono ?_
        rintro e wv13 ⟨vt, rfl, Ft, LX⟩
        obtain ⟨ta, tc, rfl, -, -⟩ := Ft.view
        have swv13 : wv12.heap.size ≤ wv13.heap.size := LX.size
        replace Fg := Fg.next LX
        replace Fo := (LX.block _ hol).trans Fo
        replace hol := Nat.lt_of_lt_of_le hol LX.size
        have Bwv13 : Below W.heap.size W wv13 := chain Bwv12 LX
        obtain ⟨F, hF⟩ : ∃ F, Btw wv12.heap.size wv13.heap.size = F := ⟨_, rfl⟩
        have hF1 : ∀ b, F b → wv12.heap.size ≤ b ∧ b < wv13.heap.size := fun b hb => by rw [← hF] at hb; exact hb
        rw [hF] at Ft
        refine hK.out _ _ Bwv13 (fun _ => ?_)
        clear hK K LX hF
        refine calm_more14 1 [11] (by kernel_rfl) (by kernel_rfl) (by kernel_rfl) Bwv13 ?_
        iterate 1
          refine ⟨_, rfl, ?_⟩
          apply Exists.intro
          refine ⟨Or.inl ⟨by rfl, fun w' hw' => ?_⟩, ?_⟩
          · first
            | (go_simp; done)
            | (go_simp; with_reducible rfl)
          simp only [Act.put, List.getElem_toArray, List.getElem_cons_succ, List.getElem_cons_zero, List.setIfInBounds_toArray, List.set_cons_zero, List.set_cons_succ]
        obtain ⟨x0, x1, x2, x3, x4, xf, -⟩ := five_cells Fo
        have xf0 := xf 0
        have xf1 := xf 1
        have xf2 := xf 2
        have xf3 := xf 3
        have xf4 := xf 4
        have hgl1 := Fg.lt
        refine calm_one 13 (by kernel_rfl) rfl (fun K hK => ?_)
        go_simp
        obtain ⟨wz, hwz⟩ : ∃ wz, ((((wv13.setCell ⟨o, 0, none⟩ (.int .i64 wd)).setCell ⟨o, 1, none⟩ (.slice (some ⟨g, 0, none⟩) ms.length ms.length)).setCell ⟨o, 2, none⟩ (.int .i64 d)).setCell ⟨o, 3, none⟩ (.slice ta ts.length tc)).setCell ⟨o, 4, none⟩ (.int .i64 nx) = wz := ⟨_, rfl⟩
        have TZ : wz.heap[o]? = some (.cells #[.int .i64 wd, .slice (some ⟨g, 0, none⟩) ms.length ms.length, .int .i64 d, .slice ta ts.length tc, .int .i64 nx] 34) := by rw [← hwz]; exact five_all Fo
        have far : ∀ b, b ≠ o → wz.heap[b]? = wv13.heap[b]? := fun b hb => by rw [← hwz]; exact five_far hb
        have hsz : wz.heap.size = wv13.heap.size := by rw [← hwz]; simp [World.setCell]
        have hog : g ≠ o := by omega
        have hof : ¬ F o := fun hb => by have := hF1 _ hb; omega
        have Fg2 : FB wz g (ms.length * 2) zeroM 76 := Fg.same (far g hog)
        have Ft2 := Ft.sm (w' := wz) ⟨by omega, fun b hb => far b (fun e => hof (e ▸ hb))⟩
        have BZ : Below W.heap.size W wz := by
          have ho : W.heap.size ≤ o := by omega
          rw [← hwz]; exact ((((Bwv13.setCell (p := ⟨o, 0, none⟩) ho _).setCell (p := ⟨o, 1, none⟩) ho _).setCell (p := ⟨o, 2, none⟩) ho _).setCell (p := ⟨o, 3, none⟩) ho _).setCell (p := ⟨o, 4, none⟩) ho _
        rw [hwz]
        refine hK.out _ _ BZ (fun _ => ?_)
        clear hK K hwz x0 x1 x2 x3 x4 xf xf0 xf1 xf2 xf3 xf4
        refine wpAnyH_done (by kernel_rfl) ?_ _
        refine NoPanic.normal ?_
        try simp only [Exit.then]
        go_wp2_with fail
        go_meet
        exact ⟨o, g, ta, tc, F, rfl, TZ, Fg2, Ft2, by omega, by omega, hog.symm, fun hb => by have := hF1 _ hb; omega, hof, fun b hb => by have := hF1 b hb; omega, BZ⟩
      · go_simp
        refine (HTC.out wv11 Bwv11).mono ?_
        rintro e wv14 ⟨vt, rfl, Ft, LX⟩
        obtain ⟨ta, tc, rfl, -, -⟩ := Ft.view
        have swv14 : wv11.heap.size ≤ wv14.heap.size := LX.size
        replace Fo := (LX.block _ hol).trans Fo
        replace hol := Nat.lt_of_lt_of_le hol LX.size
        have Bwv14 : Below W.heap.size W wv14 := chain Bwv11 LX
        obtain ⟨F, hF⟩ : ∃ F, Btw wv11.heap.size wv14.heap.size = F := ⟨_, rfl⟩
        have hF1 : ∀ b, F b → wv11.heap.size ≤ b ∧ b < wv14.heap.size := fun b hb => by rw [← hF] at hb; exact hb
        rw [hF] at Ft
        refine hK.out _ _ Bwv14 (fun _ => ?_)
        clear hK K LX hF
        refine calm_one 5 (by kernel_rfl) rfl (fun K hK => ?_)
        go_simp
        obtain ⟨wv15, hX⟩ : ∃ w0, wv14.alloc (.cells (madeCells #[.int .i64 0, .slice none 0 0] (ms.length * 2)) 76) = w0 := ⟨_, rfl⟩
        have LX : Below wv14.heap.size wv14 wv15 := by rw [← hX]; exact (Below.refl _ _).alloc (Nat.le_refl _) _
        have swv15 : wv14.heap.size < wv15.heap.size := by rw [← hX]; simp
        have Fg : FB wv15 wv14.heap.size (ms.length * 2) zeroM 76 := by rw [← hX]; exact FB.madeM wv14 _ _
        replace Fo := (LX.block _ hol).trans Fo
        replace hol := Nat.lt_of_lt_of_le hol LX.size
        replace Ft := Ft.next LX
        have Bwv15 : Below W.heap.size W wv15 := chain Bwv14 LX
        obtain ⟨g, hg⟩ : ∃ q, wv14.heap.size = q := ⟨_, rfl⟩
        have hg1 : wv14.heap.size ≤ g := by omega
        have hg2 : g < wv15.heap.size := by omega
        rw [hX]
        rw [hg] at Fg ⊢
        refine hK.out _ _ Bwv15 (fun _ => ?_)
        clear hK K hX LX hg
        refine calm_more14 1 [11] (by kernel_rfl) (by kernel_rfl) (by kernel_rfl) Bwv15 ?_
        iterate 1
          refine ⟨_, rfl, ?_⟩
          apply Exists.intro
          refine ⟨Or.inl ⟨by rfl, fun w' hw' => ?_⟩, ?_⟩
          · first
            | (go_simp; done)
            | (go_simp; with_reducible rfl)
          simp only [Act.put, List.getElem_toArray, List.getElem_cons_succ, List.getElem_cons_zero, List.setIfInBounds_toArray, List.set_cons_zero, List.set_cons_succ]
        obtain ⟨x0, x1, x2, x3, x4, xf, -⟩ := five_cells Fo
        have xf0 := xf 0
        have xf1 := xf 1
        have xf2 := xf 2
        have xf3 := xf 3
        have xf4 := xf 4
        have hgl1 := Fg.lt
        refine calm_one 13 (by kernel_rfl) rfl (fun K hK => ?_)
        go_simp
        obtain ⟨wz, hwz⟩ : ∃ wz, ((((wv15.setCell ⟨o, 0, none⟩ (.int .i64 wd)).setCell ⟨o, 1, none⟩ (.slice (some ⟨g, 0, none⟩) ms.length ms.length)).setCell ⟨o, 2, none⟩ (.int .i64 d)).setCell ⟨o, 3, none⟩ (.slice ta ts.length tc)).setCell ⟨o, 4, none⟩ (.int .i64 nx) = wz := ⟨_, rfl⟩
        have TZ : wz.heap[o]? = some (.cells #[.int .i64 wd, .slice (some ⟨g, 0, none⟩) ms.length ms.length, .int .i64 d, .slice ta ts.length tc, .int .i64 nx] 34) := by rw [← hwz]; exact five_all Fo
        have far : ∀ b, b ≠ o → wz.heap[b]? = wv15.heap[b]? := fun b hb => by rw [← hwz]; exact five_far hb
        have hsz : wz.heap.size = wv15.heap.size := by rw [← hwz]; simp [World.setCell]
        have hog : g ≠ o := by omega
        have hof : ¬ F o := fun hb => by have := hF1 _ hb; omega
        have Fg2 : FB wz g (ms.length * 2) zeroM 76 := Fg.same (far g hog)
        have Ft2 := Ft.sm (w' := wz) ⟨by omega, fun b hb => far b (fun e => hof (e ▸ hb))⟩
        have BZ : Below W.heap.size W wz := by
          have ho : W.heap.size ≤ o := by omega
          rw [← hwz]; exact ((((Bwv15.setCell (p := ⟨o, 0, none⟩) ho _).setCell (p := ⟨o, 1, none⟩) ho _).setCell (p := ⟨o, 2, none⟩) ho _).setCell (p := ⟨o, 3, none⟩) ho _).setCell (p := ⟨o, 4, none⟩) ho _
        rw [hwz]
        refine hK.out _ _ BZ (fun _ => ?_)
        clear hK K hwz x0 x1 x2 x3 x4 xf xf0 xf1 xf2 xf3 xf4
        refine wpAnyH_done (by kernel_rfl) ?_ _
        refine NoPanic.normal ?_
        try simp only [Exit.then]
        go_wp2_with fail
        go_meet
        exact ⟨o, g, ta, tc, F, rfl, TZ, Fg2, Ft2, by omega, by omega, hog.symm, fun hb => by have := hF1 _ hb; omega, hof, fun b hb => by have := hF1 b hb; omega, BZ⟩
  case rest =>
    obtain ⟨o, g, ta, tc, F, rfl, hTo, hFg, hFt, ho, hg, hog, hFng, hFno, hFW, LW⟩ := hcut
    generalize hwc : wc = w1 at *
    clear hwc wc hmk BL HS
    have HLW := hidP LW
    have hI1 := HI.out.below LW
    have k0 := hI1.c1
    have HLO := hidP (OPart.start (base := w.heap.size) (ms := ms) hFg (by have := HSZ.out; omega))
    have HTO := hidP hTo
    have HFT := hidP hFt
    have HF1 : Hid (∀ b, F b → W.heap.size ≤ b ∧ b < w1.heap.size) := fun b hb => ⟨hFW b hb, hFt.bnd b hb⟩
    have hWs := HSZ.out.2
    have hol := (five_cells hTo).2.2.2.2.2.2
    have HNF := hidP (And.intro hFng hFno)
    clear hI1 hTo hFg LW hFt hFng hFno hFW
    go_wp2_with fail
    clear k0
    go_loopg [21] ms.length (fun gk iv wr => ∃ (k : Nat) (G cc : Nat → Nat) (hi : Nat), k ≤ ms.length ∧ ms.length - k ≤ gk ∧ iv = .int .i64 k ∧ OPart w.heap.size wr g k ms G cc w1.heap.size hi ∧ w1.heap.size ≤ wr.heap.size ∧ TsO true F wr (.slice ta ts.length tc) ts ∧ wr.heap[o]? = some (.cells #[.int .i64 wd, .slice (some ⟨g, 0, none⟩) ms.length ms.length, .int .i64 d, .slice ta ts.length tc, .int .i64 nx] 34) ∧ Below W.heap.size W wr)
    case atStart => exact ⟨0, _, _, _, Nat.zero_le _, Nat.sub_le _ _, rfl, HLO.out, Nat.le_refl _, HFT.out, HTO.out, HLW.out⟩
    case round =>
      obtain ⟨k, G, cc, hi, hk, hgk, rfl, hp, hsz, hft, hto, L⟩ := hrel
      have HP := hidP hp
      have HL := hidP L
      have HF := hidP hft
      have HT := hidP hto
      have hIr := HI.out.below L
      clear hp L hft hto
      by_cases hlt : k < ms.length
      · obtain ⟨mb, mo, rfl, hmb2, hms⟩ := mview_seg hIr.mv (by omega)
        have hms' := hms k hlt
        obtain ⟨c0, pa, pc, c1, hpv⟩ := hms'
        have hi0 : (0 : Int) ≤ (k : Int) := Int.natCast_nonneg _
        have hi1 : (k : Int) < (ms.length : Int) := by omega
        have hk60 : k < 61 := by have := marksB_len HMB.out; omega
        have hok := (mOkAt_iff _ _).1 (marksB_at HMB.out hlt)
        obtain ⟨V1, hV⟩ : ∃ V1, wr.alloc (.cells #[.int .i64 (mid ms k), .slice pa (mat ms k).length pc] 76) = V1 := ⟨_, rfl⟩
        have LV : Below wr.heap.size wr V1 := by rw [← hV]; exact (Below.refl _ _).alloc (Nat.le_refl _) _
        have hYl : wr.heap.size < V1.heap.size := by rw [← hV]; simp
        have y0 : V1.cell? ⟨wr.heap.size, 0, none⟩ = some (.int .i64 (mid ms k)) := by rw [← hV]; simp
        have y1 : V1.cell? ⟨wr.heap.size, 1, none⟩ = some (.slice pa (mat ms k).length pc) := by rw [← hV]; simp
        have LVd : Below wr.heap.size wr V1.drew := LV.drew
        have HTD := hidP ((LVd.block o (five_cells HT.out).2.2.2.2.2.2).trans HT.out)
        have hOV := (five_cells HTD.out).2.1
        have HPD := hidP (HP.out.next LVd)
        have HFD := hidP (HF.out.next LVd)
        have HLD := hidP (chain HL.out LVd)
        have HC := hidP (iOwn15 (mid ms k, pa, pc, mat ms k) V1.drew (hpv.next LVd) (okB_len hok.2.2.1).1 (HSM.out.1.2 k))
        have hol1 := (five_cells HTD.out).2.2.2.2.2.2
        have hgl1 := HPD.out.blk.lt
        have hszd : w1.heap.size ≤ V1.drew.heap.size := Nat.le_trans hsz LVd.size
        have hwb : w.heap.size ≤ V1.drew.heap.size := by have := HLD.out.size; have := HSZ.out; omega
        clear hms hpv hIr LV LVd hok
        have HSS : Hid (∀ W', Below V1.drew.heap.size V1.drew W' → W'.cell? ⟨o, 1, none⟩ = some (.slice (some ⟨g, 0, none⟩) ms.length ms.length) ∧ W'.cell? ⟨wr.heap.size, 0, none⟩ = some (.int .i64 (mid ms k)) ∧ W'.cell? ⟨wr.heap.size, 1, none⟩ = some (.slice pa (mat ms k).length pc)) := fun W' L' => ⟨(L'.cell (p := ⟨o, 1, none⟩) hol1).trans hOV, (L'.cell (p := ⟨wr.heap.size, 0, none⟩) hYl).trans y0, (L'.cell (p := ⟨wr.heap.size, 1, none⟩) hYl).trans y1⟩
        change wr.cell? ⟨mb, mo + k * 2, none⟩ = some (.int .i64 (mid ms k)) at c0
        change wr.cell? ⟨mb, mo + k * 2 + 1, none⟩ = some (.slice pa (mat ms k).length pc) at c1
        obtain ⟨id, hid⟩ : ∃ id, mid ms k = id := ⟨_, rfl⟩
        obtain ⟨xl, hxl⟩ : ∃ xl, (mat ms k).length = xl := ⟨_, rfl⟩
        have HID := hidP (And.intro hid hxl)
        simp only at HC
        rw [hid, hxl] at HC HSS
        rw [hxl] at y1
        rw [hid] at y0 c0
        rw [hxl] at c1
        rw [hid, hxl] at hV
        clear hid hxl hOV
        go_wp2_with fail
        clear hV c0 c1 y0 y1
        refine wp_region_calm (S := fun w' => w'.cell? ⟨o, 1, none⟩ = some (.slice (some ⟨g, 0, none⟩) ms.length ms.length) ∧ w'.cell? ⟨wr.heap.size, 0, none⟩ = some (.int .i64 id) ∧ w'.cell? ⟨wr.heap.size, 1, none⟩ = some (.slice pa xl pc)) (fuel := 2)
          [0, 1, 2, 3] _ rfl (by kernel_rfl) (by kernel_rfl) (by kernel_rfl) (by kernel_rfl) (by kernel_rfl) (by kernel_rfl) (by kernel_rfl) (HSS.out _ (Below.refl _ _)) (fun hS => ?_)
        iterate 4
          refine ⟨_, rfl, ?_⟩
          apply Exists.intro
          refine ⟨Or.inl ⟨by rfl, fun w' hw' => ?_⟩, ?_⟩
          · first
            | (go_simp; done)
            | (go_simp; with_reducible rfl)
          simp only [Act.put, List.setIfInBounds_toArray]
        refine calm_one 4 (by kernel_rfl) rfl (fun K hK => ?_)
        go_simp
        refine HC.out.mono ?_
        rintro e w3 ⟨h3, c3, rfl, hr3, L3⟩
        refine hK.out _ _ (HSS.out _ L3) (fun _ => ?_)
        clear hK K
        refine calm_one 5 (by kernel_rfl) rfl (fun K hK => ?_)
        go_simp
        refine hK.out _ _ (HSS.out _ L3) (fun _ => ?_)
        clear hK K hS
        have HST := hidP (HPD.out.step L3 hr3 hwb hszd)
        have hN := HPD.out.next L3
        have f0 := hN.blk.frozen (k * 2)
        have f1 := hN.blk.frozen (k * 2 + 1)
        have e0 := hN.blk.cell (i := k * 2) (by omega)
        have e1 := hN.blk.cell (i := k * 2 + 1) (by omega)
        have hgN := hN.blk.lt
        obtain ⟨hFng, hFno⟩ := HNF.out
        have far : ∀ b, b ≠ g → ((w3.setCell ⟨g, k * 2, none⟩ (.int .i64 id)).setCell ⟨g, k * 2 + 1, none⟩ (.slice (some ⟨h3, 0, none⟩) xl c3)).heap[b]? = w3.heap[b]? := fun b hb => (Below.heap_setCell _ ⟨g, k * 2 + 1, none⟩ _ b (fun e => hb e)).trans (Below.heap_setCell _ ⟨g, k * 2, none⟩ _ b (fun e => hb e))
        have HE : Hid (TsO true F ((w3.setCell ⟨g, k * 2, none⟩ (.int .i64 id)).setCell ⟨g, k * 2 + 1, none⟩ (.slice (some ⟨h3, 0, none⟩) xl c3)) (.slice ta ts.length tc) ts ∧ ((w3.setCell ⟨g, k * 2, none⟩ (.int .i64 id)).setCell ⟨g, k * 2 + 1, none⟩ (.slice (some ⟨h3, 0, none⟩) xl c3)).heap[o]? = some (.cells #[.int .i64 wd, .slice (some ⟨g, 0, none⟩) ms.length ms.length, .int .i64 d, .slice ta ts.length tc, .int .i64 nx] 34) ∧ Below W.heap.size W ((w3.setCell ⟨g, k * 2, none⟩ (.int .i64 id)).setCell ⟨g, k * 2 + 1, none⟩ (.slice (some ⟨h3, 0, none⟩) xl c3)) ∧ w1.heap.size ≤ ((w3.setCell ⟨g, k * 2, none⟩ (.int .i64 id)).setCell ⟨g, k * 2 + 1, none⟩ (.slice (some ⟨h3, 0, none⟩) xl c3)).heap.size) :=
          ⟨(HFD.out.next L3).sm ⟨by rw [setCell_size, setCell_size]; exact Nat.le_refl _, fun b hb => far b (fun e => hFng (e ▸ hb))⟩, (far o hog).trans ((L3.block o hol1).trans HTD.out), ((chain HLD.out L3).setCell (by show W.heap.size ≤ g; exact hg) _).setCell (by show W.heap.size ≤ g; exact hg) _, by rw [setCell_size, setCell_size]; exact Nat.le_trans hszd L3.size⟩
        rw [HID.out.1, HID.out.2] at HST
        clear hr3 L3 hN HPD HFD HTD HLD HC HSS far hFng hFno
        refine wpAnyH_done (by kernel_rfl) ?_ _
        simp only [Exit.then]
        go_wp2_with fail
        refine NoPanic.normal ?_
        go_wp2_with fail
        go_roundg (ms.length - (k + 1))
        case rel => exact ⟨k + 1, _, _, _, by omega, Nat.le_refl _, by go_num, HST.out, HE.out.2.2.2, HE.out.1, HE.out.2.1, HE.out.2.2.1⟩
        case measure => omega
      · obtain rfl : k = ms.length := by omega
        have hki : ¬ ((ms.length : Int) < (ms.length : Int)) := by omega
        have tR := (HL.out.block _ (five_cells HTR.out).2.2.2.2.2.2).trans HTR.out
        obtain ⟨r0, r1, r2, r3, r4, rf, hrl⟩ := five_cells tR
        have rf0 := rf 0
        have rf1 := rf 1
        have rf2 := rf 2
        have rf3 := rf 3
        have rf4 := rf 4
        obtain ⟨o0, o1, o2, o3, o4, -, -⟩ := five_cells HT.out
        have t3 : _ = some (Obj.cells #[.int .i64 wd, .slice (some ⟨g, 0, none⟩) ms.length ms.length, .int .i64 d, .slice ta ts.length tc, .int .i64 nx] 34) := five_all tR
        obtain ⟨q0, q1, q2, q3, q4, -, -⟩ := five_cells t3
        have hz := HL.out.size
        have hFb := HF1.out
        obtain ⟨hFng, hFno⟩ := HNF.out
        obtain ⟨wz, hwz⟩ : ∃ wz, ((((wr.setCell ⟨w.heap.size + 1, 0, none⟩ (.int .i64 wd)).setCell ⟨w.heap.size + 1, 1, none⟩ (.slice (some ⟨g, 0, none⟩) ms.length ms.length)).setCell ⟨w.heap.size + 1, 2, none⟩ (.int .i64 d)).setCell ⟨w.heap.size + 1, 3, none⟩ (.slice ta ts.length tc)).setCell ⟨w.heap.size + 1, 4, none⟩ (.int .i64 nx) = wz := ⟨_, rfl⟩
        have far : ∀ b, b ≠ w.heap.size + 1 → wz.heap[b]? = wr.heap[b]? := fun b hb => by rw [← hwz]; exact five_far hb
        have hsw : wz.heap.size = wr.heap.size := by rw [← hwz]; simp [World.setCell]
        have BZ : Below w.heap.size w wz := by
          have ho : w.heap.size ≤ w.heap.size + 1 := by omega
          rw [← hwz]; exact ((((((chain HB.out HL.out).setCell (p := ⟨w.heap.size + 1, 0, none⟩) ho _).setCell (p := ⟨w.heap.size + 1, 1, none⟩) ho _).setCell (p := ⟨w.heap.size + 1, 2, none⟩) ho _).setCell (p := ⟨w.heap.size + 1, 3, none⟩) ho _).setCell (p := ⟨w.heap.size + 1, 4, none⟩) ho _)
        have hw1 := HLW.out.size
        have hop : OPart w.heap.size wz g ms.length ms G cc w1.heap.size hi := ⟨HP.out.blk.same (far g (by omega)), fun i hi' => irow_same15 (HP.out.rows i hi') (far _ (by have := HP.out.within i hi'; omega)), HP.out.rise, HP.out.within, by rw [hsw]; exact HP.out.top, HP.out.ge, HP.out.out⟩
        have HE := hidP (And.intro (hop.raise (by rw [hsw]; exact HP.out.top) (Nat.le_refl _)) (And.intro (HF.out.sm (w' := wz) ⟨by omega, fun b hb => far b (fun e => by have := hFb b hb; omega)⟩) BZ))
        have HQ : Hid (∀ b, F b → w.heap.size ≤ b ∧ b < w1.heap.size) := fun b hb => by have := hFb b hb; omega
        have HWZ := hidP hwz
        clear hIr tR t3 HF HP HL HT hz rf far hsw BZ hw1 hop hFb hwz HSM
        go_wp2_with fail
        refine bodyPost_ret (v := .agg #[.int .i64 wd, .slice (some ⟨g, 0, none⟩) ms.length ms.length, .int .i64 d, .slice ta ts.length tc, .int .i64 nx]) (by simp [results, Try.results36, go_sem, q0, q1, q2, q3, q4]) rfl ?_
        rw [HWZ.out]
        exact ⟨g, _, rfl, ⟨G, cc, _, F, HE.out.1, HE.out.2.1, HQ.out, hFng⟩, HE.out.2.2⟩
end Go.Proofs.Ytbmljcpeonopmaa
namespace Go.Proofs.Ytbmljcpeonopmaa
open Go Go.RowKit

theorem mdnth_memG {l : List Dm} {i : Nat} (h : i < l.length) : mdnth l i ∈ l := by
  have e : mdnth l i = l[i] := by simp [mdnth, List.getD, h]
  rw [e]
  exact List.getElem_mem h
theorem mown_filter {base : Nat} {w : World} {g c g8 c8 : Nat} {ds : List Dm} {p : Dm → Bool} (h : MOwn base w g c ds) (ho : w.ownsRow base 76 2 (.slice (some ⟨g8, 0, none⟩) (ds.filter p).length c8) (ds.filter p).length (dCells (ds.filter p))) (hg : ∀ i, i < ds.length → (mdnth ds i).2.1 ≠ g8) : MOwn base w g8 c8 (ds.filter p) := by
  have hback : ∀ i, i < (ds.filter p).length → ∃ j, j < ds.length ∧ mdnth (ds.filter p) i = mdnth ds j := fun i hi => by
    have hm := (List.mem_filter.1 (mdnth_memG hi)).1
    obtain ⟨j, hj, e⟩ := List.getElem_of_mem hm
    exact ⟨j, hj, by rw [← e]; simp [mdnth, List.getD, hj]⟩
  have hpw : ds.Pairwise (fun a b => a.2.1 ≠ b.2.1) := by
    refine List.pairwise_iff_getElem.2 (fun i j hi hj hij => ?_)
    have := h.apart i j hi hj (by omega)
    simpa [mdnth, List.getD, hi, hj] using this
  have hpf := List.pairwise_iff_getElem.1 (hpw.filter p)
  refine ⟨ho, fun i hi => ?_, fun i hi => ?_, fun i j hi hj hne => ?_⟩
  · obtain ⟨j, hj, e⟩ := hback i hi
    rw [e]; exact h.rows j hj
  · obtain ⟨j, hj, e⟩ := hback i hi
    rw [e]; exact hg j hj
  · have ei : mdnth (ds.filter p) i = (ds.filter p)[i] := by simp [mdnth, List.getD, hi]
    have ej : mdnth (ds.filter p) j = (ds.filter p)[j] := by simp [mdnth, List.getD, hj]
    rw [ei, ej]
    rcases Nat.lt_or_ge i j with e | e
    · exact hpf i j hi hj e
    · exact fun e' => hpf j i hj hi (by omega) e'.symm

set_option maxRecDepth 100000 in
set_option maxHeartbeats 4000000 in
theorem iGone (am aw : Option Addr) (cm cw : Nat) (wd : Int) (ms : List Mk) (d : Int) (ts : List Wb) (nx id : Int) (w : World) (hm : MView w am ms) (hv : WbView true w aw ts) (hsm : StSmall ms ts) (hst : stB wd ms d ts nx = true) (hmb : marksB ms = true) (hok : towB d ts = true) :
    Calls Try.prog 10 #[.agg #[.int .i64 wd, .slice am ms.length cm, .int .i64 d, .slice aw ts.length cw, .int .i64 nx], .int .i64 id] w fun e w' => ∃ x, e = .returned (.tuple #[x, .bool (decide (0 ≤ zFind ms id))]) ∧ StO true (Btw w.heap.size w'.heap.size) w' x wd (goneL ms id) d ts nx ∧ Below w.heap.size w w' := by
  obtain ⟨W1, hW1⟩ : ∃ W, w.alloc (.cells #[.int .i64 wd, .slice am ms.length cm, .int .i64 d, .slice aw ts.length cw, .int .i64 nx] 34) = W := ⟨_, rfl⟩
  have hB1 : Below w.heap.size w W1 := by rw [← hW1]; exact (Below.refl _ _).alloc (Nat.le_refl _) _
  have hI1 : StIn true W1 w.heap.size am aw cm cw wd ms d ts nx := by rw [← hW1]; exact StIn.box hm hv
  obtain ⟨W2, hW2⟩ : ∃ W, W1.alloc (.cells #[.int .i64 id] 2) = W := ⟨_, rfl⟩
  have hB2 : Below W1.heap.size W1 W2 := by rw [← hW2]; exact (Below.refl _ _).alloc (Nat.le_refl _) _
  obtain ⟨W, hW⟩ : ∃ W, W2.alloc (.cells #[.int .i64 0, .slice none 0 0, .int .i64 0, .slice none 0 0, .int .i64 0] 34) = W := ⟨_, rfl⟩
  have hB3 : Below W2.heap.size W2 W := by rw [← hW]; exact (Below.refl _ _).alloc (Nat.le_refl _) _
  have s1 : W1.heap.size = w.heap.size + 1 := by rw [← hW1]; simp
  have s2 : W2.heap.size = w.heap.size + 1 + 1 := by rw [← hW2]; simp [s1]
  have s3 : W.heap.size = w.heap.size + 1 + 1 + 1 := by rw [← hW]; simp [s2]
  have TX : W.cell? ⟨w.heap.size + 1, 0, none⟩ = some (.int .i64 id) := by
    have : W2.cell? ⟨w.heap.size + 1, 0, none⟩ = some (.int .i64 id) := by rw [← hW2, ← s1]; simp
    exact (hB3.cell (p := ⟨w.heap.size + 1, 0, none⟩) (by show w.heap.size + 1 < _; omega)).trans this
  have TR : W.heap[w.heap.size + 1 + 1]? = some (.cells #[.int .i64 0, .slice none 0 0, .int .i64 0, .slice none 0 0, .int .i64 0] 34) := by rw [← hW, ← s2]; exact heap_alloc_new W2 _
  have hI := (hI1.below hB2).below hB3
  have HB := hidP (chain (chain hB1 hB2) hB3)
  have HI := hidP hI
  have HTR := hidP TR
  have HTX := hidP TX
  have HSZ := hidP s3
  have HC := hidP (iStateOk am aw cm cw wd ms d ts nx W hI.mv hI.wv hsm)
  rw [hst] at HC
  have HOS := hidP (fun (W' : World) (L : Below W.heap.size W W') => iOwnState true am aw cm cw wd ms d ts nx W' (hI.below L).mv (hI.below L).wv hmb hok hsm)
  have HMB := hidP hmb
  have k0 := hI.c0
  have k1 := hI.c1
  have k2 := hI.c2
  have k3 := hI.c3
  have k4 := hI.c4
  have HWW : Hid (((w.alloc (.cells #[.int .i64 wd, .slice am ms.length cm, .int .i64 d, .slice aw ts.length cw, .int .i64 nx] 34)).alloc (.cells #[.int .i64 id] 2)).alloc (.cells #[.int .i64 0, .slice none 0 0, .int .i64 0, .slice none 0 0, .int .i64 0] 34) = W) := by show _ = _; rw [hW1, hW2, hW]
  clear hm hv hB1 hI1 hB2 hB3 TX TR hI s1 s2 s3 hW hW1 hW2 hok hmb hsm hst
  go_enter Try.func10, Try.ntmps10
  go_upto_region 1 with fail
  rw [HWW.out]
  clear HWW
  go_wp2_with fail
  refine HC.out.mono ?_
  rintro e w1 ⟨rfl, L1⟩
  clear k0 k1 k2 k3 k4
  have hI1 := HI.out.below L1
  have k0 := hI1.c0
  have k1 := hI1.c1
  have k2 := hI1.c2
  have k3 := hI1.c3
  have k4 := hI1.c4
  have HO1 := hidP (HOS.out w1 L1)
  have HL1 := hidP L1
  clear hI1 L1
  go_wp2_with fail
  refine HO1.out.mono ?_
  rintro e w2 ⟨g, vt, rfl, ⟨G, cc, lo, F, hop, htw, hF, hFg⟩, L2⟩
  clear k0 k1 k2 k3 k4
  obtain ⟨ta, tc, rfl, -, -⟩ := htw.view
  obtain ⟨w3, hw3⟩ : ∃ w3, w2.alloc (.cells #[.int .i64 wd, .slice (some ⟨g, 0, none⟩) ms.length ms.length, .int .i64 d, .slice ta ts.length tc, .int .i64 nx] 34) = w3 := ⟨_, rfl⟩
  have L3 : Below w2.heap.size w2 w3 := by rw [← hw3]; exact (Below.refl _ _).alloc (Nat.le_refl _) _
  have hz3 : w3.heap.size = w2.heap.size + 1 := by rw [← hw3]; simp
  have t3 : w3.heap[w2.heap.size]? = some (.cells #[.int .i64 wd, .slice (some ⟨g, 0, none⟩) ms.length ms.length, .int .i64 d, .slice ta ts.length tc, .int .i64 nx] 34) := by rw [← hw3]; exact heap_alloc_new w2 _
  have h60 := marksB_len HMB.out
  have hmo := (hop.next L3).own (by unfold maxLen; omega)
  have hdl := dsOf_len ms G cc
  have hdm := dsOf_marks ms G cc
  have HBW : Hid (Below W.heap.size W w3) := chain (chain HL1.out L2) L3
  have hsz1 := HL1.out.size
  have hs3 := HSZ.out
  have hz2 := L2.size
  have HON := hidP (iOnlyM g ms.length (w.heap.size + 1) (dsOf ms G cc) id w3 (by have := hop.blk.lt; omega) (fun i hi => hmo.cells i hi) (by omega) (by omega) ((HBW.out.cell (p := ⟨w.heap.size + 1, 0, none⟩) (by show w.heap.size + 1 < _; omega)).trans HTX.out))
  rw [hdl] at HON
  have HGL : Hid (((dsOf ms G cc).filter (notId id)).length = (goneL ms id).length ∧ dMarks ((dsOf ms G cc).filter (notId id)) = goneL ms id) := by
    have h := dMarks_gone (dsOf ms G cc) id
    rw [hdm] at h
    exact ⟨by rw [← h, dMarks_length], h⟩
  rw [HGL.out.1] at HON
  have HMO := hidP hmo
  have HTW := hidP (htw.next L3)
  have HFF : Hid ((∀ b, F b → w1.heap.size ≤ b ∧ b < lo) ∧ ∀ i, i < ms.length → lo ≤ G i ∧ G i < w2.heap.size) := ⟨hF, fun i hi => hop.within i hi⟩
  have HLO : Hid (lo ≤ w2.heap.size ∨ ms.length = 0) := by
    rcases Nat.eq_zero_or_pos ms.length with h | h
    · exact Or.inr h
    · exact Or.inl (by have := hop.within 0 h; omega)
  have HFB : Hid (∀ b, F b → b < w2.heap.size) := fun b hb => htw.bnd b hb
  have HDL := hidP hdl
  have HW3 := hidP hw3
  have HT3 := hidP t3
  have HZ3 := hidP hz3
  have HZ2 := hidP hz2
  obtain ⟨j0, j1, j2, j3, j4, jf, hjl⟩ := five_cells t3
  have jf1 := jf 1
  clear hop htw hF hFg hmo hdl hdm L2 L3 t3 hw3 hz3 HO1 HOS jf hz2 h60
  go_upto_region 4 with fail
  rw [HW3.out]
  go_wp2_with fail
  refine HON.out.mono ?_
  rintro e w4 ⟨g8, c8, rfl, hrow, L4⟩
  have HROW := hidP hrow
  have HL4 := hidP L4
  have t4 := (L4.block _ hjl).trans HT3.out
  obtain ⟨j0, j1, j2, j3, j4, jf, hjl4⟩ := five_cells t4
  have jf1 := jf 1
  have t5 : (w4.setCell ⟨w2.heap.size, 1, none⟩ (.slice (some ⟨g8, 0, none⟩) (goneL ms id).length c8)).heap[w2.heap.size]? = _ := five_set1 t4
  obtain ⟨w5, hw5⟩ : ∃ w5, w4.setCell ⟨w2.heap.size, 1, none⟩ (.slice (some ⟨g8, 0, none⟩) (goneL ms id).length c8) = w5 := ⟨_, rfl⟩
  rw [hw5] at t5
  have far5 : ∀ b, b ≠ w2.heap.size → w5.heap[b]? = w4.heap[b]? := fun b hb => by rw [← hw5]; exact Below.heap_setCell w4 ⟨w2.heap.size, 1, none⟩ _ b (fun e => hb e)
  have z5 : w5.heap.size = w4.heap.size := by rw [← hw5]; simp [World.setCell]
  have HT5 := hidP t5
  have hI4 := (HI.out.below HBW.out).below L4
  have HX5 : Hid (w5.heap[w.heap.size]? = w4.heap[w.heap.size]?) := far5 _ (by have := HZ2.out; omega)
  have hm5 : w5.cell? ⟨w.heap.size, 1, none⟩ = some (.slice am ms.length cm) := (World.cell?_of_block (a := ⟨w.heap.size, 1, none⟩) HX5.out).trans hI4.c1
  have HFR := hidP (And.intro far5 z5)
  have HW5 := hidP hw5
  have HM5 := hidP hm5
  clear hrow L4 t4 jf t5 far5 z5 hI4 hw5 hm5 HON
  go_upto_region 5 with fail
  rw [HW5.out]
  clear j0 j1 j2 j3 j4 jf1
  obtain ⟨i0, i1, i2, i3, i4, -, hil⟩ := five_cells HT5.out
  have HCE : Hid (∀ W' : World, W'.heap[w2.heap.size]? = w5.heap[w2.heap.size]? → W'.heap[w.heap.size]? = w5.heap[w.heap.size]? → (W'.cell? ⟨w2.heap.size, 0, none⟩ = some (.int .i64 wd) ∧ W'.cell? ⟨w2.heap.size, 1, none⟩ = some (.slice (some ⟨g8, 0, none⟩) (goneL ms id).length c8) ∧ W'.cell? ⟨w2.heap.size, 2, none⟩ = some (.int .i64 d) ∧ W'.cell? ⟨w2.heap.size, 3, none⟩ = some (.slice ta ts.length tc) ∧ W'.cell? ⟨w2.heap.size, 4, none⟩ = some (.int .i64 nx)) ∧ W'.cell? ⟨w.heap.size, 1, none⟩ = some (.slice am ms.length cm)) := fun W' h1 h2 => ⟨⟨(World.cell?_of_block (a := ⟨w2.heap.size, 0, none⟩) h1).trans i0, (World.cell?_of_block (a := ⟨w2.heap.size, 1, none⟩) h1).trans i1, (World.cell?_of_block (a := ⟨w2.heap.size, 2, none⟩) h1).trans i2, (World.cell?_of_block (a := ⟨w2.heap.size, 3, none⟩) h1).trans i3, (World.cell?_of_block (a := ⟨w2.heap.size, 4, none⟩) h1).trans i4⟩, (World.cell?_of_block (a := ⟨w.heap.size, 1, none⟩) h2).trans HM5.out⟩
  clear i0 i1 i2 i3 i4
  refine wp_region_takes (S := fun W' => W'.heap[w2.heap.size]? = w5.heap[w2.heap.size]? ∧ W'.heap[w.heap.size]? = w5.heap[w.heap.size]?) (fuel := 2) [0, 1, 2, 3, 4, 5, 6, 7] (by kernel_rfl) (by kernel_rfl) (by kernel_rfl) (by kernel_rfl) ⟨rfl, rfl⟩ (fun _ => ?_)
  iterate 8
    refine ⟨_, rfl, ?_⟩
    apply Exists.intro
    refine ⟨Or.inl ⟨by rfl, fun w' hw' => ?_⟩, ?_⟩
    · obtain ⟨⟨e1, e2, e3, e4, e5⟩, e6⟩ := HCE.out w' hw'.1 hw'.2
      first
      | (go_simp; done)
      | (go_simp; with_reducible rfl)
    simp only [Act.put, List.getElem_toArray, List.getElem_cons_succ, List.getElem_cons_zero, List.setIfInBounds_toArray, List.set_cons_zero, List.set_cons_succ]
  obtain ⟨V, hV⟩ : ∃ V, w5.drew = V := ⟨_, rfl⟩
  have hVh : V.heap = w5.heap := by rw [← hV]; rfl
  have hVL : Below w5.heap.size w5 V := by rw [← hV]; exact (Below.refl _ _).drew
  rw [hV]
  clear hV
  have tr5 : V.heap[w.heap.size + 1 + 1]? = some (.cells #[.int .i64 0, .slice none 0 0, .int .i64 0, .slice none 0 0, .int .i64 0] 34) := by
    rw [hVh]
    have hz2 := HZ2.out
    have hz3 := HZ3.out
    exact (HFR.out.1 _ (by omega)).trans ((HL4.out.block _ (by omega)).trans ((HBW.out.block _ (by omega)).trans HTR.out))
  obtain ⟨r0, r1, r2, r3, r4, rf, hrl⟩ := five_cells tr5
  have rf0 := rf 0
  have rf1 := rf 1
  have rf2 := rf 2
  have rf3 := rf 3
  have rf4 := rf 4
  have t6 : _ = some (Obj.cells #[.int .i64 wd, .slice (some ⟨g8, 0, none⟩) (goneL ms id).length c8, .int .i64 d, .slice ta ts.length tc, .int .i64 nx] 34) := five_all tr5
  obtain ⟨q0, q1, q2, q3, q4, -, -⟩ := five_cells t6
  refine calm_one 8 (by kernel_rfl) rfl (fun K hK => ?_)
  go_simp
  obtain ⟨wz, hwz⟩ : ∃ wz, ((((V.setCell ⟨w.heap.size + 1 + 1, 0, none⟩ (.int .i64 wd)).setCell ⟨w.heap.size + 1 + 1, 1, none⟩ (.slice (some ⟨g8, 0, none⟩) (goneL ms id).length c8)).setCell ⟨w.heap.size + 1 + 1, 2, none⟩ (.int .i64 d)).setCell ⟨w.heap.size + 1 + 1, 3, none⟩ (.slice ta ts.length tc)).setCell ⟨w.heap.size + 1 + 1, 4, none⟩ (.int .i64 nx) = wz := ⟨_, rfl⟩
  have far : ∀ b, b ≠ w.heap.size + 1 + 1 → wz.heap[b]? = w5.heap[b]? := fun b hb => by rw [← hwz, ← hVh]; exact five_far hb
  have hsw : wz.heap.size = w5.heap.size := by rw [← hwz, ← hVh]; simp [World.setCell]
  have hz2 := HZ2.out
  have hz3 := HZ3.out
  have hz4 := HL4.out.size
  have hz5 := HFR.out.2
  have L5 : Below w.heap.size w w5 := by
    have h := (HB.out.trans (Below.mono HBW.out (by omega))).trans (Below.mono HL4.out (by omega))
    rw [← HW5.out]
    exact h.setCell (by show w.heap.size ≤ w2.heap.size; omega) _
  have BZ : Below w.heap.size w wz := by
    have ho : w.heap.size ≤ w.heap.size + 1 + 1 := by omega
    have hLV : Below w.heap.size w V := L5.trans (Below.mono hVL (by omega))
    rw [← hwz]; exact (((((hLV.setCell (p := ⟨w.heap.size + 1 + 1, 0, none⟩) ho _).setCell (p := ⟨w.heap.size + 1 + 1, 1, none⟩) ho _).setCell (p := ⟨w.heap.size + 1 + 1, 2, none⟩) ho _).setCell (p := ⟨w.heap.size + 1 + 1, 3, none⟩) ho _).setCell (p := ⟨w.heap.size + 1 + 1, 4, none⟩) ho _)
  have hg8 := World.ownsRow.lt HROW.out g8 rfl
  have hst : StO true (Btw w.heap.size wz.heap.size) wz (.agg #[.int .i64 wd, .slice (some ⟨g8, 0, none⟩) (goneL ms id).length c8, .int .i64 d, .slice ta ts.length tc, .int .i64 nx]) wd (goneL ms id) d ts nx := by
    have hff := HFF.out
    have hgl := HGL.out
    have hmo4 : MOwn w1.heap.size w4 g ms.length (dsOf ms G cc) := mown_sm HMO.out (Sta.below HL4.out (fun b hb => (mown_bnd HMO.out b hb).2))
    have hGlt : ∀ i, i < (dsOf ms G cc).length → (mdnth (dsOf ms G cc) i).2.1 < w2.heap.size ∧ lo ≤ (mdnth (dsOf ms G cc) i).2.1 := fun i hi => by
      rw [HDL.out] at hi
      rw [dsOf_at hi]
      exact ⟨(hff.2 i hi).2, (hff.2 i hi).1⟩
    have hrow4 : w4.ownsRow w1.heap.size 76 2 (.slice (some ⟨g8, 0, none⟩) ((dsOf ms G cc).filter (notId id)).length c8) ((dsOf ms G cc).filter (notId id)).length (dCells ((dsOf ms G cc).filter (notId id))) := by
      rw [hgl.1]
      exact ⟨HROW.out.1, HROW.out.2.imp (fun h => h) fun ⟨g', cap, cur, h1, h2, h3⟩ => ⟨g', cap, cur, h1, Nat.le_trans (by omega) h2, h3⟩⟩
    have hf4 := mown_filter hmo4 hrow4 (fun i hi e => by have := hGlt i hi; omega)
    have hfb : ∀ b, FtM g8 ((dsOf ms G cc).filter (notId id)) b → (b = g8 ∨ (lo ≤ b ∧ b < w2.heap.size)) := fun b hb => by
      rcases hb with rfl | ⟨i, hi, rfl⟩
      · exact Or.inl rfl
      · have hm := (List.mem_filter.1 (mdnth_memG hi)).1
        obtain ⟨j, hj, e⟩ := List.getElem_of_mem hm
        have e2 : mdnth ((dsOf ms G cc).filter (notId id)) i = mdnth (dsOf ms G cc) j := by rw [← e]; simp [mdnth, List.getD, hj]
        rw [e2]
        exact Or.inr ⟨(hGlt j hj).2, (hGlt j hj).1⟩
    have hlow : ∀ b, FtM g8 ((dsOf ms G cc).filter (notId id)) b → w1.heap.size ≤ b ∧ b < w4.heap.size := fun b hb => mown_bnd hf4 b hb
    have hfz : MOwn w1.heap.size wz g8 c8 ((dsOf ms G cc).filter (notId id)) := mown_sm hf4 ⟨by omega, fun b hb => by
      have h1 := hlow b hb
      have h2 := hfb b hb
      exact (far b (by omega)).trans (HFR.out.1 b (by omega))⟩
    have hat : ∀ x ∈ goneL ms id, x.2.length ≤ 4 := fun x hx => by
      have hx' := (List.mem_filter.1 hx).1
      obtain ⟨i, hi', rfl⟩ := List.getElem_of_mem hx'
      have := ((mOkAt_iff _ _).1 (marksB_at HMB.out hi')).2.2.1
      have h4 := (okB_len this).2
      simpa [mat, List.getD, hi'] using h4
    have h60 := marksB_len HMB.out
    have hgle := gone_len ms id
    have how := ow_marks hfz (by rw [hgl.1]; omega) (by rw [hgl.2]; exact hat)
    rw [hgl.1, hgl.2] at how
    have htz : TsO true F wz (.slice ta ts.length tc) ts := HTW.out.sm ⟨by omega, fun b hb => by
      have h1 := hff.1 b hb
      have h2 := HFB.out b hb
      exact (far b (by omega)).trans ((HFR.out.1 b (by omega)).trans (HL4.out.block b (by omega)))⟩
    have hcap : (goneL ms id).length ≤ c8 := by
      obtain ⟨-, ⟨x, -⟩ | ⟨g', cap, cur, x, -, -, hcc, -⟩⟩ := HROW.out
      · cases x
      · injection x with x1 x2 x3; omega
    refine StO.of wd d nx (fun _ => how) (Nat.le_trans (totM_le _ 60 4 (by omega) hat) (by omega)) hcap (fun w' hs => ?_) htz (fun b hb => hb.2) (fun b hb => ?_) (fun b hb => ?_) (fun b hb hb' => ?_)
    · have := (mown_sm hfz hs).view
      rw [hgl.2] at this
      exact this
    · have := hlow b hb
      exact ⟨by omega, by omega⟩
    · have h1 := hff.1 b hb
      have h2 := HFB.out b hb
      exact ⟨by omega, by omega⟩
    · have h1 := hfb b hb
      have h2 := hff.1 b hb'
      have h3 := HFB.out b hb'
      rcases h1 with e | h1
      · omega
      · omega
  have HST := hidP (And.intro hst BZ)
  have HLES : Hid (decide (((goneL ms id).length : Int) < (ms.length : Int)) = decide (0 ≤ zFind ms id)) := by
    show _ = _
    rw [← gone_less]
    simp
  have HQ : Hid (wz.cell? ⟨w.heap.size + 1 + 1, 0, none⟩ = some (.int .i64 wd) ∧ wz.cell? ⟨w.heap.size + 1 + 1, 1, none⟩ = some (.slice (some ⟨g8, 0, none⟩) (goneL ms id).length c8) ∧ wz.cell? ⟨w.heap.size + 1 + 1, 2, none⟩ = some (.int .i64 d) ∧ wz.cell? ⟨w.heap.size + 1 + 1, 3, none⟩ = some (.slice ta ts.length tc) ∧ wz.cell? ⟨w.heap.size + 1 + 1, 4, none⟩ = some (.int .i64 nx)) := by
    rw [hwz] at q0 q1 q2 q3 q4
    exact ⟨q0, q1, q2, q3, q4⟩
  have HSS : Hid (wz.heap[w2.heap.size]? = w5.heap[w2.heap.size]? ∧ wz.heap[w.heap.size]? = w5.heap[w.heap.size]?) := ⟨far _ (by omega), far _ (by omega)⟩
  rw [hwz]
  clear hst BZ far hsw hwz tr5 t6 rf rf0 rf1 rf2 rf3 rf4 r0 r1 r2 r3 r4 q0 q1 q2 q3 q4 hVh hVL L5 hg8
  refine hK.out _ _ HSS.out (fun _ => ?_)
  clear hK K
  refine calm_one 9 (by kernel_rfl) rfl (fun K hK => ?_)
  go_simp
  refine hK.out _ _ HSS.out (fun _ => ?_)
  clear hK K
  refine wpAnyH_done (by kernel_rfl) ?_ _
  refine NoPanic.normal ?_
  try simp only [Exit.then]
  obtain ⟨q0, q1, q2, q3, q4⟩ := HQ.out
  go_wp2_with fail
  refine bodyPost_ret (v := .tuple #[.agg #[.int .i64 wd, .slice (some ⟨g8, 0, none⟩) (goneL ms id).length c8, .int .i64 d, .slice ta ts.length tc, .int .i64 nx], .bool (decide (((goneL ms id).length : Int) < (ms.length : Int)))]) (by simp [results, Try.results10, go_sem, q0, q1, q2, q3, q4]) rfl ?_
  rw [HLES.out]
  exact ⟨_, rfl, HST.out.1, HST.out.2⟩

set_option maxRecDepth 100000 in
set_option maxHeartbeats 2000000 in
theorem iGone_no (am aw : Option Addr) (cm cw : Nat) (wd : Int) (ms : List Mk) (d : Int) (ts : List Wb) (nx id : Int) (w : World) (hm : MView w am ms) (hv : WbView true w aw ts) (hsm : StSmall ms ts) (hst : stB wd ms d ts nx = false) :
    Calls Try.prog 10 #[.agg #[.int .i64 wd, .slice am ms.length cm, .int .i64 d, .slice aw ts.length cw, .int .i64 nx], .int .i64 id] w fun e w' => e = .returned (.tuple #[.agg #[.int .i64 0, .slice none 0 0, .int .i64 0, .slice none 0 0, .int .i64 0], .bool false]) ∧ Below w.heap.size w w' := by
  obtain ⟨W1, hW1⟩ : ∃ W, w.alloc (.cells #[.int .i64 wd, .slice am ms.length cm, .int .i64 d, .slice aw ts.length cw, .int .i64 nx] 34) = W := ⟨_, rfl⟩
  have hB1 : Below w.heap.size w W1 := by rw [← hW1]; exact (Below.refl _ _).alloc (Nat.le_refl _) _
  have hI1 : StIn true W1 w.heap.size am aw cm cw wd ms d ts nx := by rw [← hW1]; exact StIn.box hm hv
  obtain ⟨W2, hW2⟩ : ∃ W, W1.alloc (.cells #[.int .i64 id] 2) = W := ⟨_, rfl⟩
  have hB2 : Below W1.heap.size W1 W2 := by rw [← hW2]; exact (Below.refl _ _).alloc (Nat.le_refl _) _
  obtain ⟨W, hW⟩ : ∃ W, W2.alloc (.cells #[.int .i64 0, .slice none 0 0, .int .i64 0, .slice none 0 0, .int .i64 0] 34) = W := ⟨_, rfl⟩
  have hB3 : Below W2.heap.size W2 W := by rw [← hW]; exact (Below.refl _ _).alloc (Nat.le_refl _) _
  have s1 : W1.heap.size = w.heap.size + 1 := by rw [← hW1]; simp
  have s2 : W2.heap.size = w.heap.size + 1 + 1 := by rw [← hW2]; simp [s1]
  have TR : W.heap[w.heap.size + 1 + 1]? = some (.cells #[.int .i64 0, .slice none 0 0, .int .i64 0, .slice none 0 0, .int .i64 0] 34) := by rw [← hW, ← s2]; exact heap_alloc_new W2 _
  have hI := (hI1.below hB2).below hB3
  have HB := hidP (chain (chain hB1 hB2) hB3)
  have HTR := hidP TR
  have HC := hidP (iStateOk am aw cm cw wd ms d ts nx W hI.mv hI.wv hsm)
  rw [hst] at HC
  have k0 := hI.c0
  have k1 := hI.c1
  have k2 := hI.c2
  have k3 := hI.c3
  have k4 := hI.c4
  have HWW : Hid (((w.alloc (.cells #[.int .i64 wd, .slice am ms.length cm, .int .i64 d, .slice aw ts.length cw, .int .i64 nx] 34)).alloc (.cells #[.int .i64 id] 2)).alloc (.cells #[.int .i64 0, .slice none 0 0, .int .i64 0, .slice none 0 0, .int .i64 0] 34) = W) := by show _ = _; rw [hW1, hW2, hW]
  clear hm hv hB1 hI1 hB2 hB3 TR hI s1 s2 hW hW1 hW2 hsm hst
  go_enter Try.func10, Try.ntmps10
  go_upto_region 1 with fail
  rw [HWW.out]
  clear HWW
  go_wp2_with fail
  refine HC.out.mono ?_
  rintro e w1 ⟨rfl, L1⟩
  obtain ⟨r0, r1, r2, r3, r4, rf, hrl⟩ := five_cells ((L1.block _ (five_cells HTR.out).2.2.2.2.2.2).trans HTR.out)
  have rf0 := rf 0
  have rf1 := rf 1
  have rf2 := rf 2
  have rf3 := rf 3
  have rf4 := rf 4
  have HB1 := hidP (chain HB.out L1)
  clear L1 rf k0 k1 k2 k3 k4
  go_wp2_with fail
  refine bodyPost_ret (v := .tuple #[.agg #[.int .i64 0, .slice none 0 0, .int .i64 0, .slice none 0 0, .int .i64 0], .bool false]) (by simp [results, Try.results10, go_sem, r0, r1, r2, r3, r4]) rfl ?_
  have ho : w.heap.size ≤ w.heap.size + 1 + 1 := by omega
  exact ⟨rfl, (((((HB1.out.setCell (p := ⟨w.heap.size + 1 + 1, 0, none⟩) ho _).setCell (p := ⟨w.heap.size + 1 + 1, 1, none⟩) ho _).setCell (p := ⟨w.heap.size + 1 + 1, 2, none⟩) ho _).setCell (p := ⟨w.heap.size + 1 + 1, 3, none⟩) ho _).setCell (p := ⟨w.heap.size + 1 + 1, 4, none⟩) ho _)⟩
end Go.Proofs.Ytbmljcpeonopmaa
