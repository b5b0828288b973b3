import Derived.Test.YtaaagmgglolibaaGreatSCellsZz
import Derived.Test.YtaaagmgglolibaaGreatFeWalkZz
import Derived.Deep.CutRange
import Derived.Deep.CutBlock
import Derived.Deep.LoopGhost
import Derived.Test.YtaaagmgglolibaaGreatFgRowZz
import Derived.Test.YtaaagmgglolibaaGreatFg0Zz
import Derived.Test.YtaaagmgglolibaaGreatHM9Zz
import Derived.Test.YtaaagmgglolibaaGreatMArgsZz
import Derived.Test.YtaaagmgglolibaaGreatFeHelpZz
import Derived.Test.YtaaagmgglolibaaGreatFeHmZz
import Derived.Test.YtaaagmgglolibaaGreatMMarkZz
import Derived.Test.YtaaagmgglolibaaGreatTwOkZz
set_option maxRecDepth 100000
set_option maxHeartbeats 20000000
namespace Go.Proofs.YtaaagmgglolibaaGreat
open Go Go.RowKit
theorem Zjd {P : Program} {md : Region.Mode} {Q : Exit -> Act -> World -> Prop} {ops : Array Oper} {S : World -> Prop} {fuel : Nat} {listed : Array Bool} {a : Act} {w : World} {o o2 o3 : Oper} (i j k : Nat) (hr : Region.ready md ops listed = [i, j, k]) (ho : ops[i]? = some o) (ho2 : ops[j]? = some o2) (ho3 : ops[k]? = some o3)
 (h : ∀ K : Act -> World -> Prop, Shut (∀ a w, S w -> (S w -> wpAnyH P md ops Q S fuel (listed.setIfInBounds i true) a w) -> K a w) -> if Region.wanted o (yielded ops a.tmps) = true then Oper.wp P o a w K Q else K (a.put o.dst undef) w)
 (h2 : ∀ K : Act -> World -> Prop, Shut (∀ a w, S w -> (S w -> wpAnyH P md ops Q S fuel (listed.setIfInBounds j true) a w) -> K a w) -> if Region.wanted o2 (yielded ops a.tmps) = true then Oper.wp P o2 a w K Q else K (a.put o2.dst undef) w)
 (h3 : ∀ K : Act -> World -> Prop, Shut (∀ a w, S w -> (S w -> wpAnyH P md ops Q S fuel (listed.setIfInBounds k true) a w) -> K a w) -> if Region.wanted o3 (yielded ops a.tmps) = true then Oper.wp P o3 a w K Q else K (a.put o3.dst undef) w) : wpAnyH P md ops Q S (fuel + 1) listed a w :=
 wpAnyH_ready hr (by simp) (AllReadyH.cons ho h (AllReadyH.cons ho2 h2 (AllReadyH.cons ho3 h3 AllReadyH.nil)))
def Zez (base : Nat) (w : World) (g gl : Nat) (ms : List Mk) (X : Nat -> List Int) (n : Nat) : Prop := ∃ G cc V lo hi, ZaJ base w g ms.length ms G cc lo hi /\ NM base w gl n V X hi /\ g ≠ gl /\ gl < lo
theorem Zj6 (am al : Option Addr) (cm cl : Nat) (ms : List Mk) (ls : List (List Int)) (w : World) (hm : ZA w am ms) (hl : ZW w al ls) (hmb : Zk ms = true) (hsm : ZU ms) (hcs : ZaE ls) :
 Calls Tryz.prog 181 #[.agg #[.slice am ms.length cm, .slice al ls.length cl]] w fun e w' => ∃ g gl, e = .returned (.agg #[.slice (some ⟨g, 0, none⟩) ms.length ms.length, .slice (some ⟨gl, 0, none⟩) ls.length ls.length]) /\ Zez w.heap.size w' g gl ms (cn ls) ls.length /\ Below w.heap.size w w' := by
 obtain ⟨W1, hW1⟩ : ∃ W, w.alloc (.cells #[.slice am ms.length cm, .slice al ls.length cl] 47) = W := ⟨_, rfl⟩
 have hB1 : Below w.heap.size w W1 := by rw [<- hW1]; exact (Below.refl _ _).alloc (Nat.le_refl _) _
 have hI1 : ZX W1 w.heap.size am cm ms al cl ls := by rw [<- hW1]; exact ZX.box hm hl
 obtain ⟨W, hW⟩ : ∃ W, W1.alloc (.cells #[.slice none 0 0, .slice none 0 0] 47) = W := ⟨_, rfl⟩
 have hB2 : Below W1.heap.size W1 W := by rw [<- hW]; exact (Below.refl _ _).alloc (Nat.le_refl _) _
 have TR : Two W W1.heap.size (.slice none 0 0) (.slice none 0 0) 47 := by rw [<- hW]; exact Two.new W1 _ _ _
 have s1 : W1.heap.size = w.heap.size + 1 := by rw [<- hW1]; simp
 have s2 : W.heap.size = w.heap.size + 2 := by rw [<- hW]; simp [s1]
 have hI := hI1.below hB2
 have HB := Za (Zb hB1 hB2)
 have HI := Za hI
 have HTR := Za TR
 have HMB := Za hmb
 have hml := ZM hmb
 have hll := hcs.1
 have hmkM : ∀ w0 : World, (Instr.makeSlice 44 (.int .i64 (ms.length : Int)) (.int .i64 (ms.length : Int))).run Tryz.prog w0 = .ok (.slice (some ⟨w0.heap.size, 0, none⟩) ms.length ms.length) (w0.alloc (.cells (madeCells #[.int .i64 0, .slice none 0 0] (ms.length * 2)) 29)) := fun w0 => ZaV (P := Tryz.prog) 44 29 (.agg #[.int .i64 0, .slice none 0 0]) 2 32 Tryz.underlying44 Tryz.info29 .i64 .i64 ms.length (by omega) (by omega) w0
 have hmkL : ∀ w0 : World, (Instr.makeSlice 45 (.int .i64 (ls.length : Int)) (.int .i64 (ls.length : Int))).run Tryz.prog w0 = .ok (.slice (some ⟨w0.heap.size, 0, none⟩) ls.length ls.length) (w0.alloc (.cells (madeCells #[.slice none 0 0] ls.length) 27)) := fun w0 => by have h := ZaV (P := Tryz.prog) 45 27 (.slice none 0 0) 1 24 Tryz.underlying45 Tryz.info27 .i64 .i64 ls.length (by omega) (by omega) w0; rw [Nat.mul_one] at h; exact h
 have HS : Hid (∀ W', Below W.heap.size W W' -> W'.cell? ⟨w.heap.size, 0, none⟩ = some (.slice am ms.length cm) /\ W'.cell? ⟨w.heap.size, 1, none⟩ = some (.slice al ls.length cl)) := fun W' L' => ⟨(HI.out.below L').c0, (HI.out.below L').c1⟩
 have HSZ := Za (And.intro s1 s2)
 have BL := Za ((Below.refl W.heap.size W).drew)
 have HWW : Hid ((w.alloc (.cells #[.slice am ms.length cm, .slice al ls.length cl] 47)).alloc (.cells #[.slice none 0 0, .slice none 0 0] 47) = W) := by show _ = _; rw [hW1, hW]
 clear hm hl hB1 hI1 hB2 TR hI s1 s2 hW hW1
 go_enter Tryz.func181, Tryz.ntmps181
 go_upto_region 1 with fail
 rw [HWW.out]
 clear HWW
 go_cut [3] from 8 to 17 (fun v wx => ∃ o g gl, v = .pointer (some ⟨o, 0, none⟩) /\ Two wx o (.slice (some ⟨g, 0, none⟩) ms.length ms.length) (.slice (some ⟨gl, 0, none⟩) ls.length ls.length) 47 /\ FB wx g (ms.length * 2) Zcm 29 /\ FB wx gl ls.length (fun _ => .slice none 0 0) 27 /\ W.heap.size <= o /\ W.heap.size <= g /\ W.heap.size <= gl /\ o ≠ g /\ o ≠ gl /\ g ≠ gl /\ Below W.heap.size W wx)
 case first =>
  refine Zm (S := fun W' => Below W.heap.size W W') (fuel := 5) [0, 1, 2, 4, 5, 6] (by kernel_rfl) (by kernel_rfl) (by kernel_rfl) (by kernel_rfl) BL.out (fun _ => ?_)
  iterate 6 (refine ⟨_, rfl, ?_⟩; apply Exists.intro; refine ⟨Or.inl ⟨by rfl, fun w' hw' => ?_⟩, ?_⟩; (focus (obtain ⟨e1, e2⟩ := HS.out w' hw'; first | (go_simp; done) | (go_simp; with_reducible rfl))); simp only [Act.put, List.getElem_toArray, List.getElem_cons_succ, List.getElem_cons_zero, List.setIfInBounds_toArray, List.set_cons_zero, List.set_cons_succ])
  obtain ⟨wv0, hv0⟩ : ∃ w0, W.drew = w0 := ⟨_, rfl⟩
  have Bwv0 : Below W.heap.size W wv0 := by rw [<- hv0]; exact BL.out
  have sv0 : W.heap.size <= wv0.heap.size := Bwv0.size
  rw [hv0]
  clear hv0
  refine Zjd 3 7 9 (by kernel_rfl) rfl rfl rfl (fun K hK => ?_) (fun K hK => ?_) (fun K hK => ?_)
  · go_simp
    obtain ⟨wv1, hX⟩ : ∃ w0, wv0.alloc (.cells (madeCells #[.int .i64 0, .slice none 0 0] (ms.length * 2)) 29) = w0 := ⟨_, rfl⟩
    have LX : Below wv0.heap.size wv0 wv1 := by rw [<- hX]; exact (Below.refl _ _).alloc (Nat.le_refl _) _
    have sX : wv0.heap.size < wv1.heap.size := by rw [<- hX]; simp
    have Fg : FB wv1 wv0.heap.size (ms.length * 2) Zcm 29 := by rw [<- hX]; exact FB.madeM wv0 _ _
    have Bwv1 : Below W.heap.size W wv1 := Zb Bwv0 LX
    obtain ⟨g, hg⟩ : ∃ q, wv0.heap.size = q := ⟨_, rfl⟩
    have hg1 : wv0.heap.size <= g := by omega
    have hg2 : g < wv1.heap.size := by omega
    rw [hX]
    rw [hg] at Fg ⊢
    refine hK.out _ _ Bwv1 (fun _ => ?_)
    clear hK K hX LX hg sX
    refine Z0 7 9 (by kernel_rfl) rfl rfl (fun K hK => ?_) (fun K hK => ?_)
    · go_simp
      obtain ⟨wv2, hX⟩ : ∃ w0, wv1.alloc (.cells (madeCells #[.slice none 0 0] ls.length) 27) = w0 := ⟨_, rfl⟩
      have LX : Below wv1.heap.size wv1 wv2 := by rw [<- hX]; exact (Below.refl _ _).alloc (Nat.le_refl _) _
      have sX : wv1.heap.size < wv2.heap.size := by rw [<- hX]; simp
      have Fl : FB wv2 wv1.heap.size ls.length (fun _ => .slice none 0 0) 27 := by rw [<- hX]; have := FB.madeL wv1 ls.length 27; rw [Nat.mul_one] at this; exact this
      replace Fg := Fg.next LX
      have Bwv2 : Below W.heap.size W wv2 := Zb Bwv1 LX
      obtain ⟨gl, hgl⟩ : ∃ q, wv1.heap.size = q := ⟨_, rfl⟩
      have hgl1 : wv1.heap.size <= gl := by omega
      have hgl2 : gl < wv2.heap.size := by omega
      rw [hX]
      rw [hgl] at Fl ⊢
      refine hK.out _ _ Bwv2 (fun _ => ?_)
      clear hK K hX LX hgl sX
      refine Zn 2 [8] (by kernel_rfl) (by kernel_rfl) (by kernel_rfl) Bwv2 ?_
      iterate 1
       refine ⟨_, rfl, ?_⟩
       apply Exists.intro
       refine ⟨Or.inl ⟨by rfl, fun w' hw' => ?_⟩, ?_⟩
       · first
         | (go_simp; done)
         | (go_simp; with_reducible rfl)
       simp only [Act.put, List.getElem_toArray, List.getElem_cons_succ, List.getElem_cons_zero, List.setIfInBounds_toArray, List.set_cons_zero, List.set_cons_succ]
      refine Zd 9 (by kernel_rfl) rfl (fun K hK => ?_)
      go_simp
      have oE : wv2.heap.size = wv2.heap.size := rfl
      refine hK.out _ _ (Bwv2.alloc Bwv2.size _) (fun _ => ?_)
      clear hK K
      refine Zd 10 (by kernel_rfl) rfl (fun K hK => ?_)
      go_simp
      obtain ⟨wz, hwz⟩ : ∃ wz, wv2.alloc (.cells #[.slice (some ⟨g, 0, none⟩) ms.length ms.length, .slice (some ⟨gl, 0, none⟩) ls.length ls.length] 47) = wz := ⟨_, rfl⟩
      have LZ : Below wv2.heap.size wv2 wz := by rw [<- hwz]; exact (Below.refl _ _).alloc (Nat.le_refl _) _
      have TZ : Two wz wv2.heap.size (.slice (some ⟨g, 0, none⟩) ms.length ms.length) (.slice (some ⟨gl, 0, none⟩) ls.length ls.length) 47 := by rw [<- hwz]; exact Two.new wv2 _ _ _
      have hgl1 := Fg.lt
      have hgl2 := Fl.lt
      rw [hwz]
      refine hK.out _ _ (Zb Bwv2 LZ) (fun _ => ?_)
      clear hK K hwz
      refine wpAnyH_done (by kernel_rfl) ?_ _
      refine NoPanic.normal ?_
      try simp only [Exit.then]
      go_wp2_with fail
      go_meet
      exact ⟨_, g, gl, rfl, TZ, Fg.next LZ, Fl.next LZ, by have := Bwv2.size; omega, by omega, by omega, by omega, by omega, by omega, Zb Bwv2 LZ⟩
    · go_simp
      obtain ⟨wv4, hX⟩ : ∃ w0, wv1.alloc (.cells #[.slice none 0 0, .slice none 0 0] 47) = w0 := ⟨_, rfl⟩
      have LX : Below wv1.heap.size wv1 wv4 := by rw [<- hX]; exact (Below.refl _ _).alloc (Nat.le_refl _) _
      have sX : wv1.heap.size < wv4.heap.size := by rw [<- hX]; simp
      have Fo : Two wv4 wv1.heap.size (.slice none 0 0) (.slice none 0 0) 47 := by rw [<- hX]; exact Two.new wv1 _ _ _
      replace Fg := Fg.next LX
      have Bwv4 : Below W.heap.size W wv4 := Zb Bwv1 LX
      obtain ⟨o, ho⟩ : ∃ q, wv1.heap.size = q := ⟨_, rfl⟩
      have ho1 : wv1.heap.size <= o := by omega
      have ho2 : o < wv4.heap.size := by omega
      rw [hX]
      rw [ho] at Fo ⊢
      refine hK.out _ _ Bwv4 (fun _ => ?_)
      clear hK K hX LX ho sX
      refine Zd 7 (by kernel_rfl) rfl (fun K hK => ?_)
      go_simp
      obtain ⟨wv5, hX⟩ : ∃ w0, wv4.alloc (.cells (madeCells #[.slice none 0 0] ls.length) 27) = w0 := ⟨_, rfl⟩
      have LX : Below wv4.heap.size wv4 wv5 := by rw [<- hX]; exact (Below.refl _ _).alloc (Nat.le_refl _) _
      have sX : wv4.heap.size < wv5.heap.size := by rw [<- hX]; simp
      have Fl : FB wv5 wv4.heap.size ls.length (fun _ => .slice none 0 0) 27 := by rw [<- hX]; have := FB.madeL wv4 ls.length 27; rw [Nat.mul_one] at this; exact this
      replace Fg := Fg.next LX
      replace Fo := Fo.below LX
      have Bwv5 : Below W.heap.size W wv5 := Zb Bwv4 LX
      obtain ⟨gl, hgl⟩ : ∃ q, wv4.heap.size = q := ⟨_, rfl⟩
      have hgl1 : wv4.heap.size <= gl := by omega
      have hgl2 : gl < wv5.heap.size := by omega
      rw [hX]
      rw [hgl] at Fl ⊢
      refine hK.out _ _ Bwv5 (fun _ => ?_)
      clear hK K hX LX hgl sX
      refine Zn 1 [8] (by kernel_rfl) (by kernel_rfl) (by kernel_rfl) Bwv5 ?_
      iterate 1
       refine ⟨_, rfl, ?_⟩
       apply Exists.intro
       refine ⟨Or.inl ⟨by rfl, fun w' hw' => ?_⟩, ?_⟩
       · first
         | (go_simp; done)
         | (go_simp; with_reducible rfl)
       simp only [Act.put, List.getElem_toArray, List.getElem_cons_succ, List.getElem_cons_zero, List.setIfInBounds_toArray, List.set_cons_zero, List.set_cons_succ]
      have x0 := Fo.c0
      have x1 := Fo.c1
      have xf0 := Fo.frozen 0
      have xf1 := Fo.frozen 1
      have hgl1 := Fg.lt
      have hgl2 := Fl.lt
      have hgl3 := Fo.lt
      refine Zd 10 (by kernel_rfl) rfl (fun K hK => ?_)
      go_simp
      obtain ⟨wz, hwz⟩ : ∃ wz, (wv5.setCell ⟨o, 0, none⟩ (.slice (some ⟨g, 0, none⟩) ms.length ms.length)).setCell ⟨o, 1, none⟩ (.slice (some ⟨gl, 0, none⟩) ls.length ls.length) = wz := ⟨_, rfl⟩
      have TZ : Two wz o (.slice (some ⟨g, 0, none⟩) ms.length ms.length) (.slice (some ⟨gl, 0, none⟩) ls.length ls.length) 47 := by rw [<- hwz]; exact (Fo.set0 _).set1 _
      have Fg2 : FB wz g (ms.length * 2) Zcm 29 := by rw [<- hwz]; exact (Fg.far (by omega) _ _).far (by omega) _ _
      have Fl2 : FB wz gl ls.length (fun _ => .slice none 0 0) 27 := by rw [<- hwz]; exact (Fl.far (by omega) _ _).far (by omega) _ _
      have BZ : Below W.heap.size W wz := by rw [<- hwz]; exact (Bwv5.setCell (by show W.heap.size <= o; omega) _).setCell (by show W.heap.size <= o; omega) _
      rw [hwz]
      refine hK.out _ _ BZ (fun _ => ?_)
      clear hK K hwz x0 x1 xf0 xf1
      refine wpAnyH_done (by kernel_rfl) ?_ _
      refine NoPanic.normal ?_
      try simp only [Exit.then]
      go_wp2_with fail
      go_meet
      exact ⟨o, g, gl, rfl, TZ, Fg2, Fl2, by omega, by omega, by omega, by omega, by omega, by omega, BZ⟩
  · go_simp
    obtain ⟨wv6, hX⟩ : ∃ w0, wv0.alloc (.cells (madeCells #[.slice none 0 0] ls.length) 27) = w0 := ⟨_, rfl⟩
    have LX : Below wv0.heap.size wv0 wv6 := by rw [<- hX]; exact (Below.refl _ _).alloc (Nat.le_refl _) _
    have sX : wv0.heap.size < wv6.heap.size := by rw [<- hX]; simp
    have Fl : FB wv6 wv0.heap.size ls.length (fun _ => .slice none 0 0) 27 := by rw [<- hX]; have := FB.madeL wv0 ls.length 27; rw [Nat.mul_one] at this; exact this
    have Bwv6 : Below W.heap.size W wv6 := Zb Bwv0 LX
    obtain ⟨gl, hgl⟩ : ∃ q, wv0.heap.size = q := ⟨_, rfl⟩
    have hgl1 : wv0.heap.size <= gl := by omega
    have hgl2 : gl < wv6.heap.size := by omega
    rw [hX]
    rw [hgl] at Fl ⊢
    refine hK.out _ _ Bwv6 (fun _ => ?_)
    clear hK K hX LX hgl sX
    refine Z0 3 9 (by kernel_rfl) rfl rfl (fun K hK => ?_) (fun K hK => ?_)
    · go_simp
      obtain ⟨wv7, hX⟩ : ∃ w0, wv6.alloc (.cells (madeCells #[.int .i64 0, .slice none 0 0] (ms.length * 2)) 29) = w0 := ⟨_, rfl⟩
      have LX : Below wv6.heap.size wv6 wv7 := by rw [<- hX]; exact (Below.refl _ _).alloc (Nat.le_refl _) _
      have sX : wv6.heap.size < wv7.heap.size := by rw [<- hX]; simp
      have Fg : FB wv7 wv6.heap.size (ms.length * 2) Zcm 29 := by rw [<- hX]; exact FB.madeM wv6 _ _
      replace Fl := Fl.next LX
      have Bwv7 : Below W.heap.size W wv7 := Zb Bwv6 LX
      obtain ⟨g, hg⟩ : ∃ q, wv6.heap.size = q := ⟨_, rfl⟩
      have hg1 : wv6.heap.size <= g := by omega
      have hg2 : g < wv7.heap.size := by omega
      rw [hX]
      rw [hg] at Fg ⊢
      refine hK.out _ _ Bwv7 (fun _ => ?_)
      clear hK K hX LX hg sX
      refine Zn 2 [8] (by kernel_rfl) (by kernel_rfl) (by kernel_rfl) Bwv7 ?_
      iterate 1
       refine ⟨_, rfl, ?_⟩
       apply Exists.intro
       refine ⟨Or.inl ⟨by rfl, fun w' hw' => ?_⟩, ?_⟩
       · first
         | (go_simp; done)
         | (go_simp; with_reducible rfl)
       simp only [Act.put, List.getElem_toArray, List.getElem_cons_succ, List.getElem_cons_zero, List.setIfInBounds_toArray, List.set_cons_zero, List.set_cons_succ]
      refine Zd 9 (by kernel_rfl) rfl (fun K hK => ?_)
      go_simp
      have oE : wv7.heap.size = wv7.heap.size := rfl
      refine hK.out _ _ (Bwv7.alloc Bwv7.size _) (fun _ => ?_)
      clear hK K
      refine Zd 10 (by kernel_rfl) rfl (fun K hK => ?_)
      go_simp
      obtain ⟨wz, hwz⟩ : ∃ wz, wv7.alloc (.cells #[.slice (some ⟨g, 0, none⟩) ms.length ms.length, .slice (some ⟨gl, 0, none⟩) ls.length ls.length] 47) = wz := ⟨_, rfl⟩
      have LZ : Below wv7.heap.size wv7 wz := by rw [<- hwz]; exact (Below.refl _ _).alloc (Nat.le_refl _) _
      have TZ : Two wz wv7.heap.size (.slice (some ⟨g, 0, none⟩) ms.length ms.length) (.slice (some ⟨gl, 0, none⟩) ls.length ls.length) 47 := by rw [<- hwz]; exact Two.new wv7 _ _ _
      have hgl1 := Fg.lt
      have hgl2 := Fl.lt
      rw [hwz]
      refine hK.out _ _ (Zb Bwv7 LZ) (fun _ => ?_)
      clear hK K hwz
      refine wpAnyH_done (by kernel_rfl) ?_ _
      refine NoPanic.normal ?_
      try simp only [Exit.then]
      go_wp2_with fail
      go_meet
      exact ⟨_, g, gl, rfl, TZ, Fg.next LZ, Fl.next LZ, by have := Bwv7.size; omega, by omega, by omega, by omega, by omega, by omega, Zb Bwv7 LZ⟩
    · go_simp
      obtain ⟨wv9, hX⟩ : ∃ w0, wv6.alloc (.cells #[.slice none 0 0, .slice none 0 0] 47) = w0 := ⟨_, rfl⟩
      have LX : Below wv6.heap.size wv6 wv9 := by rw [<- hX]; exact (Below.refl _ _).alloc (Nat.le_refl _) _
      have sX : wv6.heap.size < wv9.heap.size := by rw [<- hX]; simp
      have Fo : Two wv9 wv6.heap.size (.slice none 0 0) (.slice none 0 0) 47 := by rw [<- hX]; exact Two.new wv6 _ _ _
      replace Fl := Fl.next LX
      have Bwv9 : Below W.heap.size W wv9 := Zb Bwv6 LX
      obtain ⟨o, ho⟩ : ∃ q, wv6.heap.size = q := ⟨_, rfl⟩
      have ho1 : wv6.heap.size <= o := by omega
      have ho2 : o < wv9.heap.size := by omega
      rw [hX]
      rw [ho] at Fo ⊢
      refine hK.out _ _ Bwv9 (fun _ => ?_)
      clear hK K hX LX ho sX
      refine Zd 3 (by kernel_rfl) rfl (fun K hK => ?_)
      go_simp
      obtain ⟨wv10, hX⟩ : ∃ w0, wv9.alloc (.cells (madeCells #[.int .i64 0, .slice none 0 0] (ms.length * 2)) 29) = w0 := ⟨_, rfl⟩
      have LX : Below wv9.heap.size wv9 wv10 := by rw [<- hX]; exact (Below.refl _ _).alloc (Nat.le_refl _) _
      have sX : wv9.heap.size < wv10.heap.size := by rw [<- hX]; simp
      have Fg : FB wv10 wv9.heap.size (ms.length * 2) Zcm 29 := by rw [<- hX]; exact FB.madeM wv9 _ _
      replace Fl := Fl.next LX
      replace Fo := Fo.below LX
      have Bwv10 : Below W.heap.size W wv10 := Zb Bwv9 LX
      obtain ⟨g, hg⟩ : ∃ q, wv9.heap.size = q := ⟨_, rfl⟩
      have hg1 : wv9.heap.size <= g := by omega
      have hg2 : g < wv10.heap.size := by omega
      rw [hX]
      rw [hg] at Fg ⊢
      refine hK.out _ _ Bwv10 (fun _ => ?_)
      clear hK K hX LX hg sX
      refine Zn 1 [8] (by kernel_rfl) (by kernel_rfl) (by kernel_rfl) Bwv10 ?_
      iterate 1
       refine ⟨_, rfl, ?_⟩
       apply Exists.intro
       refine ⟨Or.inl ⟨by rfl, fun w' hw' => ?_⟩, ?_⟩
       · first
         | (go_simp; done)
         | (go_simp; with_reducible rfl)
       simp only [Act.put, List.getElem_toArray, List.getElem_cons_succ, List.getElem_cons_zero, List.setIfInBounds_toArray, List.set_cons_zero, List.set_cons_succ]
      have x0 := Fo.c0
      have x1 := Fo.c1
      have xf0 := Fo.frozen 0
      have xf1 := Fo.frozen 1
      have hgl1 := Fg.lt
      have hgl2 := Fl.lt
      have hgl3 := Fo.lt
      refine Zd 10 (by kernel_rfl) rfl (fun K hK => ?_)
      go_simp
      obtain ⟨wz, hwz⟩ : ∃ wz, (wv10.setCell ⟨o, 0, none⟩ (.slice (some ⟨g, 0, none⟩) ms.length ms.length)).setCell ⟨o, 1, none⟩ (.slice (some ⟨gl, 0, none⟩) ls.length ls.length) = wz := ⟨_, rfl⟩
      have TZ : Two wz o (.slice (some ⟨g, 0, none⟩) ms.length ms.length) (.slice (some ⟨gl, 0, none⟩) ls.length ls.length) 47 := by rw [<- hwz]; exact (Fo.set0 _).set1 _
      have Fg2 : FB wz g (ms.length * 2) Zcm 29 := by rw [<- hwz]; exact (Fg.far (by omega) _ _).far (by omega) _ _
      have Fl2 : FB wz gl ls.length (fun _ => .slice none 0 0) 27 := by rw [<- hwz]; exact (Fl.far (by omega) _ _).far (by omega) _ _
      have BZ : Below W.heap.size W wz := by rw [<- hwz]; exact (Bwv10.setCell (by show W.heap.size <= o; omega) _).setCell (by show W.heap.size <= o; omega) _
      rw [hwz]
      refine hK.out _ _ BZ (fun _ => ?_)
      clear hK K hwz x0 x1 xf0 xf1
      refine wpAnyH_done (by kernel_rfl) ?_ _
      refine NoPanic.normal ?_
      try simp only [Exit.then]
      go_wp2_with fail
      go_meet
      exact ⟨o, g, gl, rfl, TZ, Fg2, Fl2, by omega, by omega, by omega, by omega, by omega, by omega, BZ⟩
  · go_simp
    obtain ⟨wv11, hX⟩ : ∃ w0, wv0.alloc (.cells #[.slice none 0 0, .slice none 0 0] 47) = w0 := ⟨_, rfl⟩
    have LX : Below wv0.heap.size wv0 wv11 := by rw [<- hX]; exact (Below.refl _ _).alloc (Nat.le_refl _) _
    have sX : wv0.heap.size < wv11.heap.size := by rw [<- hX]; simp
    have Fo : Two wv11 wv0.heap.size (.slice none 0 0) (.slice none 0 0) 47 := by rw [<- hX]; exact Two.new wv0 _ _ _
    have Bwv11 : Below W.heap.size W wv11 := Zb Bwv0 LX
    obtain ⟨o, ho⟩ : ∃ q, wv0.heap.size = q := ⟨_, rfl⟩
    have ho1 : wv0.heap.size <= o := by omega
    have ho2 : o < wv11.heap.size := by omega
    rw [hX]
    rw [ho] at Fo ⊢
    refine hK.out _ _ Bwv11 (fun _ => ?_)
    clear hK K hX LX ho sX
    refine Z0 3 7 (by kernel_rfl) rfl rfl (fun K hK => ?_) (fun K hK => ?_)
    · go_simp
      obtain ⟨wv12, hX⟩ : ∃ w0, wv11.alloc (.cells (madeCells #[.int .i64 0, .slice none 0 0] (ms.length * 2)) 29) = w0 := ⟨_, rfl⟩
      have LX : Below wv11.heap.size wv11 wv12 := by rw [<- hX]; exact (Below.refl _ _).alloc (Nat.le_refl _) _
      have sX : wv11.heap.size < wv12.heap.size := by rw [<- hX]; simp
      have Fg : FB wv12 wv11.heap.size (ms.length * 2) Zcm 29 := by rw [<- hX]; exact FB.madeM wv11 _ _
      replace Fo := Fo.below LX
      have Bwv12 : Below W.heap.size W wv12 := Zb Bwv11 LX
      obtain ⟨g, hg⟩ : ∃ q, wv11.heap.size = q := ⟨_, rfl⟩
      have hg1 : wv11.heap.size <= g := by omega
      have hg2 : g < wv12.heap.size := by omega
      rw [hX]
      rw [hg] at Fg ⊢
      refine hK.out _ _ Bwv12 (fun _ => ?_)
      clear hK K hX LX hg sX
      refine Zd 7 (by kernel_rfl) rfl (fun K hK => ?_)
      go_simp
      obtain ⟨wv13, hX⟩ : ∃ w0, wv12.alloc (.cells (madeCells #[.slice none 0 0] ls.length) 27) = w0 := ⟨_, rfl⟩
      have LX : Below wv12.heap.size wv12 wv13 := by rw [<- hX]; exact (Below.refl _ _).alloc (Nat.le_refl _) _
      have sX : wv12.heap.size < wv13.heap.size := by rw [<- hX]; simp
      have Fl : FB wv13 wv12.heap.size ls.length (fun _ => .slice none 0 0) 27 := by rw [<- hX]; have := FB.madeL wv12 ls.length 27; rw [Nat.mul_one] at this; exact this
      replace Fo := Fo.below LX
      replace Fg := Fg.next LX
      have Bwv13 : Below W.heap.size W wv13 := Zb Bwv12 LX
      obtain ⟨gl, hgl⟩ : ∃ q, wv12.heap.size = q := ⟨_, rfl⟩
      have hgl1 : wv12.heap.size <= gl := by omega
      have hgl2 : gl < wv13.heap.size := by omega
      rw [hX]
      rw [hgl] at Fl ⊢
      refine hK.out _ _ Bwv13 (fun _ => ?_)
      clear hK K hX LX hgl sX
      refine Zn 1 [8] (by kernel_rfl) (by kernel_rfl) (by kernel_rfl) Bwv13 ?_
      iterate 1
       refine ⟨_, rfl, ?_⟩
       apply Exists.intro
       refine ⟨Or.inl ⟨by rfl, fun w' hw' => ?_⟩, ?_⟩
       · first
         | (go_simp; done)
         | (go_simp; with_reducible rfl)
       simp only [Act.put, List.getElem_toArray, List.getElem_cons_succ, List.getElem_cons_zero, List.setIfInBounds_toArray, List.set_cons_zero, List.set_cons_succ]
      have x0 := Fo.c0
      have x1 := Fo.c1
      have xf0 := Fo.frozen 0
      have xf1 := Fo.frozen 1
      have hgl1 := Fg.lt
      have hgl2 := Fl.lt
      have hgl3 := Fo.lt
      refine Zd 10 (by kernel_rfl) rfl (fun K hK => ?_)
      go_simp
      obtain ⟨wz, hwz⟩ : ∃ wz, (wv13.setCell ⟨o, 0, none⟩ (.slice (some ⟨g, 0, none⟩) ms.length ms.length)).setCell ⟨o, 1, none⟩ (.slice (some ⟨gl, 0, none⟩) ls.length ls.length) = wz := ⟨_, rfl⟩
      have TZ : Two wz o (.slice (some ⟨g, 0, none⟩) ms.length ms.length) (.slice (some ⟨gl, 0, none⟩) ls.length ls.length) 47 := by rw [<- hwz]; exact (Fo.set0 _).set1 _
      have Fg2 : FB wz g (ms.length * 2) Zcm 29 := by rw [<- hwz]; exact (Fg.far (by omega) _ _).far (by omega) _ _
      have Fl2 : FB wz gl ls.length (fun _ => .slice none 0 0) 27 := by rw [<- hwz]; exact (Fl.far (by omega) _ _).far (by omega) _ _
      have BZ : Below W.heap.size W wz := by rw [<- hwz]; exact (Bwv13.setCell (by show W.heap.size <= o; omega) _).setCell (by show W.heap.size <= o; omega) _
      rw [hwz]
      refine hK.out _ _ BZ (fun _ => ?_)
      clear hK K hwz x0 x1 xf0 xf1
      refine wpAnyH_done (by kernel_rfl) ?_ _
      refine NoPanic.normal ?_
      try simp only [Exit.then]
      go_wp2_with fail
      go_meet
      exact ⟨o, g, gl, rfl, TZ, Fg2, Fl2, by omega, by omega, by omega, by omega, by omega, by omega, BZ⟩
    · go_simp
      obtain ⟨wv14, hX⟩ : ∃ w0, wv11.alloc (.cells (madeCells #[.slice none 0 0] ls.length) 27) = w0 := ⟨_, rfl⟩
      have LX : Below wv11.heap.size wv11 wv14 := by rw [<- hX]; exact (Below.refl _ _).alloc (Nat.le_refl _) _
      have sX : wv11.heap.size < wv14.heap.size := by rw [<- hX]; simp
      have Fl : FB wv14 wv11.heap.size ls.length (fun _ => .slice none 0 0) 27 := by rw [<- hX]; have := FB.madeL wv11 ls.length 27; rw [Nat.mul_one] at this; exact this
      replace Fo := Fo.below LX
      have Bwv14 : Below W.heap.size W wv14 := Zb Bwv11 LX
      obtain ⟨gl, hgl⟩ : ∃ q, wv11.heap.size = q := ⟨_, rfl⟩
      have hgl1 : wv11.heap.size <= gl := by omega
      have hgl2 : gl < wv14.heap.size := by omega
      rw [hX]
      rw [hgl] at Fl ⊢
      refine hK.out _ _ Bwv14 (fun _ => ?_)
      clear hK K hX LX hgl sX
      refine Zd 3 (by kernel_rfl) rfl (fun K hK => ?_)
      go_simp
      obtain ⟨wv15, hX⟩ : ∃ w0, wv14.alloc (.cells (madeCells #[.int .i64 0, .slice none 0 0] (ms.length * 2)) 29) = w0 := ⟨_, rfl⟩
      have LX : Below wv14.heap.size wv14 wv15 := by rw [<- hX]; exact (Below.refl _ _).alloc (Nat.le_refl _) _
      have sX : wv14.heap.size < wv15.heap.size := by rw [<- hX]; simp
      have Fg : FB wv15 wv14.heap.size (ms.length * 2) Zcm 29 := by rw [<- hX]; exact FB.madeM wv14 _ _
      replace Fo := Fo.below LX
      replace Fl := Fl.next LX
      have Bwv15 : Below W.heap.size W wv15 := Zb Bwv14 LX
      obtain ⟨g, hg⟩ : ∃ q, wv14.heap.size = q := ⟨_, rfl⟩
      have hg1 : wv14.heap.size <= g := by omega
      have hg2 : g < wv15.heap.size := by omega
      rw [hX]
      rw [hg] at Fg ⊢
      refine hK.out _ _ Bwv15 (fun _ => ?_)
      clear hK K hX LX hg sX
      refine Zn 1 [8] (by kernel_rfl) (by kernel_rfl) (by kernel_rfl) Bwv15 ?_
      iterate 1
       refine ⟨_, rfl, ?_⟩
       apply Exists.intro
       refine ⟨Or.inl ⟨by rfl, fun w' hw' => ?_⟩, ?_⟩
       · first
         | (go_simp; done)
         | (go_simp; with_reducible rfl)
       simp only [Act.put, List.getElem_toArray, List.getElem_cons_succ, List.getElem_cons_zero, List.setIfInBounds_toArray, List.set_cons_zero, List.set_cons_succ]
      have x0 := Fo.c0
      have x1 := Fo.c1
      have xf0 := Fo.frozen 0
      have xf1 := Fo.frozen 1
      have hgl1 := Fg.lt
      have hgl2 := Fl.lt
      have hgl3 := Fo.lt
      refine Zd 10 (by kernel_rfl) rfl (fun K hK => ?_)
      go_simp
      obtain ⟨wz, hwz⟩ : ∃ wz, (wv15.setCell ⟨o, 0, none⟩ (.slice (some ⟨g, 0, none⟩) ms.length ms.length)).setCell ⟨o, 1, none⟩ (.slice (some ⟨gl, 0, none⟩) ls.length ls.length) = wz := ⟨_, rfl⟩
      have TZ : Two wz o (.slice (some ⟨g, 0, none⟩) ms.length ms.length) (.slice (some ⟨gl, 0, none⟩) ls.length ls.length) 47 := by rw [<- hwz]; exact (Fo.set0 _).set1 _
      have Fg2 : FB wz g (ms.length * 2) Zcm 29 := by rw [<- hwz]; exact (Fg.far (by omega) _ _).far (by omega) _ _
      have Fl2 : FB wz gl ls.length (fun _ => .slice none 0 0) 27 := by rw [<- hwz]; exact (Fl.far (by omega) _ _).far (by omega) _ _
      have BZ : Below W.heap.size W wz := by rw [<- hwz]; exact (Bwv15.setCell (by show W.heap.size <= o; omega) _).setCell (by show W.heap.size <= o; omega) _
      rw [hwz]
      refine hK.out _ _ BZ (fun _ => ?_)
      clear hK K hwz x0 x1 xf0 xf1
      refine wpAnyH_done (by kernel_rfl) ?_ _
      refine NoPanic.normal ?_
      try simp only [Exit.then]
      go_wp2_with fail
      go_meet
      exact ⟨o, g, gl, rfl, TZ, Fg2, Fl2, by omega, by omega, by omega, by omega, by omega, by omega, BZ⟩
 case rest =>
  obtain ⟨o, g, gl, rfl, hTo, hFg, hFl, ho, hg, hgl, hog, hogl, hggl, LW⟩ := hcut
  generalize hwc : wc = w1 at *
  clear hwc wc hmkM hmkL BL HS
  have HLW := Za LW
  have hI1 := HI.out.below LW
  have k0 := hI1.c0
  have HLO := Za (ZaJ.start (base := w.heap.size) (ms := ms) hFg (by have := HSZ.out; omega))
  have HFL := Za hFl
  have HTO := Za hTo
  have hgll := hFl.lt
  have hol := hTo.lt
  have hWs := HSZ.out.2
  have hgw : w.heap.size + 2 <= g := by omega
  have how : w.heap.size + 2 <= o := by omega
  have hglw : w.heap.size + 2 <= gl := by omega
  have HW1 := Za LW.size
  clear hI1 hTo hFg hFl LW hWs
  go_wp2_with fail
  clear k0
  go_loopg [20] ms.length (fun gk iv wr => ∃ (k : Nat) (G cc : Nat -> Nat) (hi : Nat), k <= ms.length /\ ms.length - k <= gk /\ iv = .int .i64 k /\ ZaJ w.heap.size wr g k ms G cc w1.heap.size hi /\ w1.heap.size <= wr.heap.size /\ FB wr gl ls.length (fun _ => .slice none 0 0) 27 /\ Two wr o (.slice (some ⟨g, 0, none⟩) ms.length ms.length) (.slice (some ⟨gl, 0, none⟩) ls.length ls.length) 47 /\ Below W.heap.size W wr)
  case atStart => exact ⟨0, _, _, _, Nat.zero_le _, Nat.sub_le _ _, rfl, HLO.out, Nat.le_refl _, HFL.out, HTO.out, HLW.out⟩
  case round =>
   obtain ⟨k, G, cc, hi, hk, hgk, rfl, hp, hsz, hfl, hto, L⟩ := hrel
   have HP := Za hp
   have HL := Za L
   have HF := Za hfl
   have HT := Za hto
   have hIr := HI.out.below L
   clear hp L hfl hto
   by_cases hlt : k < ms.length
   · obtain ⟨mb, mo, rfl, hmb2, hms⟩ := Zbe.seg hIr.mv (by omega)
     obtain ⟨c0, pa, pc, c1, hpv⟩ := hms.at (i := k) hlt
     have hi0 : (0 : Int) <= (k : Int) := Int.natCast_nonneg _
     have hi1 : (k : Int) < (ms.length : Int) := by omega
     have hok := (ZK _ _).1 (Z9 HMB.out hlt)
     obtain ⟨V1, hV⟩ : ∃ V1, wr.alloc (.cells #[.int .i64 (mid ms k), .slice pa (mat ms k).length pc] 29) = V1 := ⟨_, rfl⟩
     have LV : Below wr.heap.size wr V1 := by rw [<- hV]; exact (Below.refl _ _).alloc (Nat.le_refl _) _
     have hYl : wr.heap.size < V1.heap.size := by rw [<- hV]; simp
     have y0 : V1.cell? ⟨wr.heap.size, 0, none⟩ = some (.int .i64 (mid ms k)) := by rw [<- hV]; simp
     have y1 : V1.cell? ⟨wr.heap.size, 1, none⟩ = some (.slice pa (mat ms k).length pc) := by rw [<- hV]; simp
     have LVd : Below wr.heap.size wr V1.drew := LV.drew
     have hOV := (HT.out.below LVd).c0
     have HPD := Za (HP.out.next LVd)
     have HTD := Za (HT.out.below LVd)
     have HFD := Za (HF.out.next LVd)
     have HLD := Za (Zb HL.out LVd)
     have HC := Za (ZoJ (mid ms k, pa, pc, mat ms k) V1.drew (hpv.next LVd) (by have := ((ZK _ _).1 (Z9 HMB.out hlt)).2.2.1; exact (ZbS this).1) (hsm.2 k))
     have hol1 := HTD.out.lt
     have hgl1 := HPD.out.blk.lt
     have hszd : w1.heap.size <= V1.drew.heap.size := Nat.le_trans hsz LVd.size
     have hwb : w.heap.size <= V1.drew.heap.size := by have := HLD.out.size; have := HSZ.out; omega
     clear hms hpv hIr LV LVd hok
     have HSS : Hid (∀ W', Below V1.drew.heap.size V1.drew W' -> W'.cell? ⟨o, 0, none⟩ = some (.slice (some ⟨g, 0, none⟩) ms.length ms.length) /\ W'.cell? ⟨wr.heap.size, 0, none⟩ = some (.int .i64 (mid ms k)) /\ W'.cell? ⟨wr.heap.size, 1, none⟩ = some (.slice pa (mat ms k).length pc)) := fun W' L' => ⟨(L'.cell (p := ⟨o, 0, none⟩) hol1).trans hOV, (L'.cell (p := ⟨wr.heap.size, 0, none⟩) hYl).trans y0, (L'.cell (p := ⟨wr.heap.size, 1, none⟩) hYl).trans y1⟩
     obtain ⟨id, hid⟩ : ∃ id, mid ms k = id := ⟨_, rfl⟩
     obtain ⟨xl, hxl⟩ : ∃ xl, (mat ms k).length = xl := ⟨_, rfl⟩
     have HID := Za (And.intro hid hxl)
     simp only at HC
     rw [hid, hxl] at HC HSS
     rw [hxl] at y1
     rw [hid] at y0 c0
     rw [hxl] at c1
     rw [hid, hxl] at hV
     clear hid hxl hOV
     go_wp2_with fail
     clear hV c0 c1 y0 y1
     refine Z6 (S := fun w' => w'.cell? ⟨o, 0, none⟩ = some (.slice (some ⟨g, 0, none⟩) ms.length ms.length) /\ w'.cell? ⟨wr.heap.size, 0, none⟩ = some (.int .i64 id) /\ w'.cell? ⟨wr.heap.size, 1, none⟩ = some (.slice pa xl pc)) (fuel := 2)
      [0, 1, 2, 3] _ rfl (by kernel_rfl) (by kernel_rfl) (by kernel_rfl) (by kernel_rfl) (by kernel_rfl) (by kernel_rfl) (by kernel_rfl) (HSS.out _ (Below.refl _ _)) (fun hS => ?_)
     iterate 4
      refine ⟨_, rfl, ?_⟩
      apply Exists.intro
      refine ⟨Or.inl ⟨by rfl, fun w' hw' => ?_⟩, ?_⟩
      · first
        | (go_simp; done)
        | (go_simp; with_reducible rfl)
      simp only [Act.put, List.setIfInBounds_toArray]
     refine Zd 4 (by kernel_rfl) rfl (fun K hK => ?_)
     go_simp
     refine HC.out.mono ?_
     rintro e w3 ⟨h3, c3, rfl, hr3, L3⟩
     refine hK.out _ _ (HSS.out _ L3) (fun _ => ?_)
     clear hK K
     refine Zd 5 (by kernel_rfl) rfl (fun K hK => ?_)
     go_simp
     refine hK.out _ _ (HSS.out _ L3) (fun _ => ?_)
     clear hK K hS
     have HST := Za (HPD.out.step L3 hr3 hwb hszd)
     have hN := HPD.out.next L3
     have f0 := hN.blk.frozen (k * 2)
     have f1 := hN.blk.frozen (k * 2 + 1)
     have e0 := hN.blk.cell (i := k * 2) (by omega)
     have e1 := hN.blk.cell (i := k * 2 + 1) (by omega)
     have hgN := hN.blk.lt
     have HE : Hid (FB ((w3.setCell ⟨g, k * 2, none⟩ (.int .i64 id)).setCell ⟨g, k * 2 + 1, none⟩ (.slice (some ⟨h3, 0, none⟩) xl c3)) gl ls.length (fun _ => .slice none 0 0) 27 /\ Two ((w3.setCell ⟨g, k * 2, none⟩ (.int .i64 id)).setCell ⟨g, k * 2 + 1, none⟩ (.slice (some ⟨h3, 0, none⟩) xl c3)) o (.slice (some ⟨g, 0, none⟩) ms.length ms.length) (.slice (some ⟨gl, 0, none⟩) ls.length ls.length) 47 /\ Below W.heap.size W ((w3.setCell ⟨g, k * 2, none⟩ (.int .i64 id)).setCell ⟨g, k * 2 + 1, none⟩ (.slice (some ⟨h3, 0, none⟩) xl c3)) /\ w1.heap.size <= ((w3.setCell ⟨g, k * 2, none⟩ (.int .i64 id)).setCell ⟨g, k * 2 + 1, none⟩ (.slice (some ⟨h3, 0, none⟩) xl c3)).heap.size) :=
      ⟨((HFD.out.next L3).far (by omega) _ _).far (by omega) _ _, ((HTD.out.below L3).far (fun e => hog e.symm) _).far (fun e => hog e.symm) _, ((Zb HLD.out L3).setCell (by show W.heap.size <= g; exact hg) _).setCell (by show W.heap.size <= g; exact hg) _, by rw [Zc, Zc]; exact Nat.le_trans hszd L3.size⟩
     rw [HID.out.1, HID.out.2] at HST
     clear hr3 L3 hN HPD HFD HTD HLD HC HSS
     refine wpAnyH_done (by kernel_rfl) ?_ _
     simp only [Exit.then]
     go_wp2_with fail
     refine NoPanic.normal ?_
     go_wp2_with fail
     go_roundg (ms.length - (k + 1))
     case rel => exact ⟨k + 1, _, _, _, by omega, Nat.le_refl _, by go_num, HST.out, HE.out.2.2.2, HE.out.1, HE.out.2.1, HE.out.2.2.1⟩
     case measure => omega
   · obtain rfl : k = ms.length := by omega
     have hki : ¬ ((ms.length : Int) < (ms.length : Int)) := by omega
     have k1 := hIr.c1
     have HOP := Za (HP.out.raise HP.out.top (Nat.le_refl _))
     have HNM := Za (NM.start (base := w.heap.size) HF.out (by omega) (lo := wr.heap.size) (by have := HF.out.lt; omega) (Nat.le_refl _))
     have hglr := HF.out.lt
     have hgr := HP.out.blk.lt
     have HSR := Za (Nat.le_refl wr.heap.size)
     clear hIr HP HF
     go_wp2_with fail
     clear k1
     obtain ⟨H, hH⟩ : ∃ H, wr.heap.size = H := ⟨_, rfl⟩
     rw [hH] at HOP HNM HSR hglr hgr
     have HHW : Hid (w1.heap.size <= H) := by show _ <= _; omega
     clear hH
     go_loopw [35] (fun iv wq => ∃ (j : Nat) (V : Nat -> Value), j <= ls.length /\ iv = .int .i64 j /\ ZaJ w.heap.size wq g ms.length ms G cc w1.heap.size H /\ NM w.heap.size wq gl ls.length V (fun i => if i < j then cn ls i else []) H /\ (∀ i, j <= i -> V i = .slice none 0 0) /\ Two wq o (.slice (some ⟨g, 0, none⟩) ms.length ms.length) (.slice (some ⟨gl, 0, none⟩) ls.length ls.length) 47 /\ Below W.heap.size W wq) (fun iv _ => ls.length - (intOf iv).toNat)
     case atStart => exact ⟨0, _, Nat.zero_le _, rfl, HOP.out, HNM.out.congr (fun i _ => by rw [if_neg (by omega)]), fun _ _ => rfl, HT.out, HL.out⟩
     case round =>
      obtain ⟨j, V, hj, rfl, hop, hnm, hVn, hto, L⟩ := hrel
      generalize hwq : wr = wq at *
      clear hwq wr
      have HOQ := Za hop
      have HNQ := Za hnm
      have HVQ := Za hVn
      have HTQ := Za hto
      have HLQ := Za L
      have hIq := HI.out.below L
      clear hop hnm hVn hto L
      by_cases hjl : j < ls.length
      · obtain ⟨lb, lo2, rfl, hlb, hcsg⟩ := hIq.cv.seg (by omega)
        obtain ⟨a, c, lk, hlv⟩ := hcsg j hjl
        have hj0 : (0 : Int) <= (j : Int) := Int.natCast_nonneg _
        have hj1 : (j : Int) < (ls.length : Int) := by omega
        have LD : Below wq.heap.size wq wq.drew := (Below.refl _ _).drew
        have HC := Za (ZnB a c (cn ls j) wq.drew (hlv.next LD) (hcs.2 j))
        have hoc := HTQ.out.c1
        have hol2 := HTQ.out.lt
        have HSS : Hid (∀ W', Below wq.drew.heap.size wq.drew W' -> W'.cell? ⟨o, 1, none⟩ = some (.slice (some ⟨gl, 0, none⟩) ls.length ls.length)) := fun W' L' => (L'.cell (p := ⟨o, 1, none⟩) hol2).trans hoc
        clear hcsg hlv hIq hoc
        go_wp2_with fail
        clear lk
        refine Z6 (S := fun w' => w'.cell? ⟨o, 1, none⟩ = some (.slice (some ⟨gl, 0, none⟩) ls.length ls.length)) (fuel := 2)
         [0, 1, 2, 3] _ rfl (by kernel_rfl) (by kernel_rfl) (by kernel_rfl) (by kernel_rfl) (by kernel_rfl) (by kernel_rfl) (by kernel_rfl) (HSS.out _ (Below.refl _ _)) (fun hS => ?_)
        iterate 4
         refine ⟨_, rfl, ?_⟩
         apply Exists.intro
         refine ⟨Or.inl ⟨by rfl, fun w' hw' => ?_⟩, ?_⟩
         · first
           | (go_simp; done)
           | (go_simp; with_reducible rfl)
         simp only [Act.put, List.setIfInBounds_toArray]
        refine Zd 4 (by kernel_rfl) rfl (fun K hK => ?_)
        go_simp
        refine HC.out.mono ?_
        rintro e w3 ⟨v3, rfl, ho3, L3⟩
        refine hK.out _ _ (HSS.out _ L3) (fun _ => ?_)
        clear hK K
        refine Zd 5 (by kernel_rfl) rfl (fun K hK => ?_)
        go_simp
        refine hK.out _ _ (HSS.out _ L3) (fun _ => ?_)
        clear hK K hS
        obtain ⟨a3, c3, rfl, -⟩ := Zcn ho3
        have L3' : Below wq.heap.size wq w3 := Zb LD L3
        have hsq : wq.drew.heap.size = wq.heap.size := rfl
        rw [hsq] at ho3
        have HPT := Za (HNQ.out.put hjl (w' := w3) (Zje ho3 HNQ.out.top) ⟨L3'.os, L3'.tape, L3'.output, L3'.size, fun k hk _ => L3'.block k hk⟩ (by
         rcases eq : (Value.slice a3 (cn ls j).length c3).ownBlock with _ | q
         · exact Or.inl rfl
         · exact Or.inr (Or.inr ⟨q, rfl, (Zar ho3 eq).1⟩)))
        have f0 := (HNQ.out.next L3').blk.frozen j
        have e0 := (HNQ.out.next L3').blk.cell (i := j) hjl
        rw [HVQ.out j (Nat.le_refl _)] at e0
        have HE : Hid (ZaJ w.heap.size (w3.setCell ⟨gl, j, none⟩ (.slice a3 (cn ls j).length c3)) g ms.length ms G cc w1.heap.size H /\ Two (w3.setCell ⟨gl, j, none⟩ (.slice a3 (cn ls j).length c3)) o (.slice (some ⟨g, 0, none⟩) ms.length ms.length) (.slice (some ⟨gl, 0, none⟩) ls.length ls.length) 47 /\ Below W.heap.size W (w3.setCell ⟨gl, j, none⟩ (.slice a3 (cn ls j).length c3))) :=
         ⟨(HOQ.out.next L3').far (by omega) (Or.inl hgll) _ _, (HTQ.out.below L3').far (fun e => hogl e.symm) _, (Zb HLQ.out L3').setCell (by show W.heap.size <= gl; exact hgl) _⟩
        clear ho3 L3 L3' LD HOQ HNQ HTQ HLQ HC HSS hsq
        refine wpAnyH_done (by kernel_rfl) ?_ _
        simp only [Exit.then]
        go_wp2_with fail
        refine NoPanic.normal ?_
        go_wp2_with fail
        go_roundw
        case rel => exact ⟨j + 1, _, by omega, by go_num, HE.out.1, HPT.out.congr (fun i _ => by
         simp only [ZeA]
         by_cases e : i = j
         · rw [if_pos e, if_pos (by omega), e]
         · rw [if_neg e]
           by_cases e2 : i < j
           · rw [if_pos e2, if_pos (by omega)]
           · rw [if_neg e2, if_neg (by omega)]), fun i hi' => by
         unfold ZaX
         rw [if_neg (by omega)]
         exact HVQ.out i (by omega), HE.out.2.1, HE.out.2.2⟩
        case measure => simp [intOf]; omega
      · obtain rfl : j = ls.length := by omega
        have hji : ¬ ((ls.length : Int) < (ls.length : Int)) := by omega
        have hz := HSZ.out
        have tR := HTR.out.below HLQ.out
        rw [hz.1] at tR
        have r0 := tR.c0
        have r1 := tR.c1
        have rf0 := tR.frozen 0
        have rf1 := tR.frozen 1
        have o0 := HTQ.out.c0
        have o1 := HTQ.out.c1
        have t3 := (tR.set0 (.slice (some ⟨g, 0, none⟩) ms.length ms.length)).set1 (.slice (some ⟨gl, 0, none⟩) ls.length ls.length)
        have q0 := t3.c0
        have q1 := t3.c1
        have HNF := Za (HNQ.out.congr (Y := cn ls) (fun i hi' => by rw [if_pos hi']))
        have hHw := HHW.out
        have HE : Hid (ZaJ w.heap.size ((wq.setCell ⟨w.heap.size + 1, 0, none⟩ (.slice (some ⟨g, 0, none⟩) ms.length ms.length)).setCell ⟨w.heap.size + 1, 1, none⟩ (.slice (some ⟨gl, 0, none⟩) ls.length ls.length)) g ms.length ms G cc w1.heap.size H /\ NM w.heap.size ((wq.setCell ⟨w.heap.size + 1, 0, none⟩ (.slice (some ⟨g, 0, none⟩) ms.length ms.length)).setCell ⟨w.heap.size + 1, 1, none⟩ (.slice (some ⟨gl, 0, none⟩) ls.length ls.length)) gl ls.length V (cn ls) H /\ Below w.heap.size w ((wq.setCell ⟨w.heap.size + 1, 0, none⟩ (.slice (some ⟨g, 0, none⟩) ms.length ms.length)).setCell ⟨w.heap.size + 1, 1, none⟩ (.slice (some ⟨gl, 0, none⟩) ls.length ls.length))) :=
         ⟨(HOQ.out.far (by omega) (Or.inl (by omega)) _ _).far (by omega) (Or.inl (by omega)) _ _, (HNF.out.far (by omega) (by omega) _ _).far (by omega) (by omega) _ _, ((Zb HB.out HLQ.out).setCell (by show w.heap.size <= w.heap.size + 1; omega) _).setCell (by show w.heap.size <= w.heap.size + 1; omega) _⟩
        clear hIq HOQ HNQ HTQ HLQ hz tR t3 HNF hHw
        go_wp2_with fail
        refine bodyPost_ret (v := .agg #[.slice (some ⟨g, 0, none⟩) ms.length ms.length, .slice (some ⟨gl, 0, none⟩) ls.length ls.length]) (by simp [results, Tryz.results181, go_sem, q0, q1]) rfl ?_
        exact ⟨g, gl, rfl, ⟨G, cc, V, _, _, HE.out.1, HE.out.2.1, hggl, hgll⟩, HE.out.2.2⟩
structure ZbA (gl n : Nat) (V V' : Nat -> Value) (w w' : World) : Prop where
 os : w'.os = w.os
 tape : w'.tape = w.tape
 output : w'.output = w.output
 size : w.heap.size <= w'.heap.size
 block : ∀ b, b < w.heap.size -> b ≠ gl -> (∀ i, i < n -> (V i).ownBlock ≠ some b) -> w'.heap[b]? = w.heap[b]?
 fresh : ∀ i, i < n -> ∀ q, (V' i).ownBlock = some q -> (∃ k, k < n /\ (V k).ownBlock = some q) \/ w.heap.size <= q
theorem Zh5 {xs : List Int} {x : Int} (hx : x ∉ xs) : (xs.map (Value.int .i64)).take (Zc7 x xs) ++ Value.int .i64 x :: (xs.map (Value.int .i64)).drop (Zc7 x xs) = (ZaB xs x).map (Value.int .i64) := by
 rw [Zl3 x hx, List.map_append, List.map_cons, List.map_take, List.map_drop]
theorem Zoc (base gl n cl cm lo : Nat) (am : Option Addr) (ms : List Mk) (V : Nat -> Value) (X : Nat -> List Int) (id other : Int) (w : World) (hm : ZA w am ms) (hmb : Zk ms = true) (hf : 0 <= Zr ms id) (hn : NM base w gl n V X lo) (hj : Zs ms id < n) (hr : (X (Zs ms id)).Pairwise (fun a b => a < b)) (hx : other ∉ X (Zs ms id)) (hl : (X (Zs ms id)).length <= 1000) :
 Calls Tryz.prog 187 #[.agg #[.slice am ms.length cm, .slice (some ⟨gl, 0, none⟩) n cl], .int .i64 id, .int .i64 other] w fun e w' => e = .returned (.tuple #[]) /\ (∃ V', NM base w' gl n V' (ZeA X (Zs ms id) (ZaB (X (Zs ms id)) other)) lo /\ ZbA gl n V V' w w') := by
 obtain ⟨W, hW⟩ : ∃ W, w.alloc (.cells #[.slice am ms.length cm, .slice (some ⟨gl, 0, none⟩) n cl] 47) = W := ⟨_, rfl⟩
 have hB : Below w.heap.size w W := by rw [<- hW]; exact (Below.refl _ _).alloc (Nat.le_refl _) _
 have x0 : W.cell? ⟨w.heap.size, 0, none⟩ = some (.slice am ms.length cm) := by rw [<- hW]; simp
 have x1 : W.cell? ⟨w.heap.size, 1, none⟩ = some (.slice (some ⟨gl, 0, none⟩) n cl) := by rw [<- hW]; simp
 have hXl : w.heap.size < W.heap.size := by rw [<- hW]; simp
 have HP := Za (Zfs am (some ⟨gl, 0, none⟩) cm n cl ms id W (hm.next hB) hmb)
 have hpi := Ze3 hmb hf
 rw [hpi, decide_eq_true hf] at HP
 obtain ⟨j, hjj⟩ : ∃ j, Zs ms id = j := ⟨_, rfl⟩
 rw [hjj] at HP hj hr hx hl ⊢
 have HN := Za (hn.next hB)
 have HB := Za hB
 have HPW := Za hr
 have HNX := Za hx
 have hj0 : (0 : Int) <= (j : Int) := Int.natCast_nonneg _
 have hj1 : (j : Int) < (n : Int) := by omega
 have hlow := hn.top
 have HVB : Hid (∀ q, (V j).ownBlock = some q -> lo <= q /\ q < w.heap.size) := fun q e => Zar (hn.own j hj) e
 clear hm hmb hf hn hB hpi hjj hr hx
 go_enter Tryz.func187, Tryz.ntmps187
 go_wp2_with fail
 refine HP.out.mono ?_
 rintro e w1 ⟨rfl, L1⟩
 replace x0 := (L1.cell (p := ⟨w.heap.size, 0, none⟩) hXl).trans x0
 replace x1 := (L1.cell (p := ⟨w.heap.size, 1, none⟩) hXl).trans x1
 have hXl1 : w.heap.size < w1.heap.size := Nat.lt_of_lt_of_le hXl L1.size
 have hN1 := HN.out.next L1
 obtain ⟨a, c, ev, hvw⟩ := Zcn (hN1.own j hj)
 have c1 := hN1.blk.cell hj
 rw [ev] at c1
 have HEV := Za ev
 have HN1 := Za hN1
 have HL1 := Za (Zb HB.out L1)
 have HBS := Za (iBsI a c (X j) other w1 hvw HPW.out (by omega))
 have hgl1 := hN1.blk.lt
 clear L1 hN1 hvw ev HP HN hW hXl
 go_wp2_with fail
 refine HBS.out.mono ?_
 rintro e w2 ⟨⟨fb, rfl⟩, L2⟩
 replace x0 := (L2.cell (p := ⟨w.heap.size, 0, none⟩) hXl1).trans x0
 replace x1 := (L2.cell (p := ⟨w.heap.size, 1, none⟩) hXl1).trans x1
 have hXl2 : w.heap.size < w2.heap.size := Nat.lt_of_lt_of_le hXl1 L2.size
 have HN2 := Za (HN1.out.next L2)
 have HL2 := Za (Zb HL1.out L2)
 replace c1 := (L2.cell (p := ⟨gl, j, none⟩) hgl1).trans c1
 have hpl := ZjX other (X j)
 clear L2 HN1 HL1 HBS hXl1 hgl1
 generalize hpp : Zc7 other (X j) = pp at *
 have HPP := Za hpp
 clear hpp
 obtain ⟨xl, hxl⟩ : ∃ xl, (X j).length = xl := ⟨_, rfl⟩
 have HXL := Za hxl
 rw [hxl] at c1 hpl hl HEV
 clear hxl
 go_wp2_with fail
 have HSS : Hid (∀ W', w2.grownBy W' (V j).ownBlock -> W'.cell? ⟨w.heap.size, 1, none⟩ = some (.slice (some ⟨gl, 0, none⟩) n cl) /\ W'.cell? ⟨gl, j, none⟩ = some (.slice a xl c)) := fun W' hg => by
  have hgl2 := HN2.out.blk.lt
  have hout := HN2.out.out
  exact ⟨(World.cell?_of_block (a := ⟨w.heap.size, 1, none⟩) (hg.block w.heap.size hXl2 (fun e => by have := HVB.out _ e.symm; omega))).trans x1, (World.cell?_of_block (a := ⟨gl, j, none⟩) (hg.block gl hgl2 (fun e => by have := HVB.out _ e.symm; omega))).trans c1⟩
 have LD : Below w2.heap.size w2 w2.drew := (Below.refl _ _).drew
 have GD : w2.grownBy w2.drew (V j).ownBlock := ⟨LD.os, LD.tape, LD.output, LD.size, fun k hk _ => LD.block k hk⟩
 obtain ⟨w3, hw3⟩ : ∃ w3, w2.drew.alloc (.cells #[.int .i64 other] 2) = w3 := ⟨_, rfl⟩
 have L3 : Below w2.heap.size w2 w3 := by rw [<- hw3]; exact LD.alloc (by show w2.heap.size <= w2.drew.heap.size; exact Nat.le_refl _) _
 have G3 : w2.grownBy w3 (V j).ownBlock := ⟨L3.os, L3.tape, L3.output, L3.size, fun k hk _ => L3.block k hk⟩
 have hO : One w3 w2.heap.size (.int .i64 other) 2 := by rw [<- hw3]; exact heap_alloc_new w2.drew _
 have hs3 : w2.heap.size < w3.heap.size := by rw [<- hw3]; simp
 have HN3 := Za (HN2.out.next L3)
 have hown := HN3.out.own j hj
 rw [HEV.out] at hown
 have HIN := Za (Zl1 lo c pp w2.heap.size a ((X j).map (Value.int .i64)) (.int .i64 other) w3 (fun v hv => by obtain ⟨y, -, rfl⟩ := List.mem_map.1 hv; rfl) rfl (by rw [List.length_map, HXL.out]; rw [HXL.out] at hown; exact hown) hO (by rw [List.length_map, HXL.out, <- HEV.out]; exact fun e => by have := HVB.out _ e; omega) (by rw [List.length_map, HXL.out]; exact hpl) (by rw [List.length_map, HXL.out]; omega) HN3.out.top)
 rw [List.length_map, HXL.out, <- HEV.out] at HIN
 have HIN2 : Hid (Calls Tryz.prog 241 #[.slice a xl c, .int .i64 pp, .slice (some ⟨w2.heap.size, 0, none⟩) 1 1] w3 fun e w' => ∃ g G, e = .returned (.slice (some ⟨g, 0, none⟩) (xl + 1) G) /\ Zbp lo w' g G (((X j).map (Value.int .i64)).take pp ++ Value.int .i64 other :: ((X j).map (Value.int .i64)).drop pp) /\ w3.grownBy w' (V j).ownBlock /\ ((V j).ownBlock = some g \/ g = w3.heap.size)) := by
  have h := HIN.out
  rw [HEV.out] at h
  rw [HEV.out]
  exact h
 clear hown HIN LD hO
 refine Z6 (S := fun w' => w'.cell? ⟨w.heap.size, 1, none⟩ = some (.slice (some ⟨gl, 0, none⟩) n cl) /\ w'.cell? ⟨gl, j, none⟩ = some (.slice a xl c)) (fuel := 3)
  [0, 1, 2, 3, 4, 5, 6, 7, 8, 9] _ rfl (by kernel_rfl) (by kernel_rfl) (by kernel_rfl) (by kernel_rfl) (by kernel_rfl) (by kernel_rfl) (by kernel_rfl) (HSS.out _ GD) (fun hS => ?_)
 iterate 10
  refine ⟨_, rfl, ?_⟩
  apply Exists.intro
  refine ⟨Or.inl ⟨by rfl, fun w' hw' => ?_⟩, ?_⟩
  · first
    | (go_simp; done)
    | (go_simp; with_reducible rfl)
  simp only [Act.put, List.setIfInBounds_toArray]
 refine Zd 10 (by kernel_rfl) rfl (fun K hK => ?_)
 go_simp
 refine hK.out _ _ (HSS.out _ G3) (fun _ => ?_)
 clear hK K
 refine Zd 11 (by kernel_rfl) rfl (fun K hK => ?_)
 go_simp
 refine HIN2.out.mono ?_
 rintro e w4 ⟨g4, c4, rfl, hv4, G4, hat4⟩
 have G24 : w2.grownBy w4 (V j).ownBlock := ⟨G4.os.trans G3.os, G4.tape.trans G3.tape, G4.output.trans G3.output, Nat.le_trans G3.size G4.size, fun k hk hne => (G4.block k (Nat.lt_of_lt_of_le hk G3.size) hne).trans (G3.block k hk hne)⟩
 refine hK.out _ _ (HSS.out _ G24) (fun _ => ?_)
 clear hK K
 refine Zd 12 (by kernel_rfl) rfl (fun K hK => ?_)
 go_simp
 refine hK.out _ _ (HSS.out _ G24) (fun _ => ?_)
 clear hK K hS
 have hlen : (ZaB (X j) other).length = xl + 1 := by
  have h := congrArg List.length (Zh5 HNX.out)
  rw [HPP.out] at h
  simp only [List.length_append, List.length_cons, List.length_take, List.length_drop, List.length_map] at h
  have := HXL.out
  omega
 have ho4 : w4.ownsRow lo 2 1 (.slice (some ⟨g4, 0, none⟩) (xl + 1) c4) (ZaB (X j) other).length ((ZaB (X j) other).map (Value.int .i64)) := by
  have h := hv4
  unfold Zbp at h
  rw [<- HPP.out, Zh5 HNX.out, List.length_map, hlen] at h
  rw [hlen]
  exact h
 have HPT := Za (HN3.out.put hj ho4 G4 (by
  rcases hat4 with e | e
  · exact Or.inr (Or.inl (by rw [e]; rfl))
  · exact Or.inr (Or.inr ⟨g4, rfl, by omega⟩)))
 have hb4 := HN3.out.blk.same (G4.block gl HN3.out.blk.lt (fun e => by have := HVB.out _ e.symm; have := HN3.out.out; omega))
 have f0 := hb4.frozen j
 have e0 := (HSS.out _ G24).2
 have HCH : Hid (ZbA gl n V (ZaX V j (.slice (some ⟨g4, 0, none⟩) (xl + 1) c4)) w (w4.setCell ⟨gl, j, none⟩ (.slice (some ⟨g4, 0, none⟩) (xl + 1) c4))) := by
  have hsz := HL2.out.size
  refine ⟨G24.os.trans HL2.out.os, G24.tape.trans HL2.out.tape, G24.output.trans HL2.out.output, by rw [Zc]; exact Nat.le_trans hsz G24.size, fun b hb h1 h2 => ?_, fun i hi q hq => ?_⟩
  · exact (Below.heap_setCell w4 ⟨gl, j, none⟩ _ b (fun e => h1 e)).trans ((G24.block b (by omega) (fun e => h2 j hj e.symm)).trans (HL2.out.block b hb))
  · unfold ZaX at hq
    by_cases e : i = j
    · rw [if_pos e] at hq
      have hq' : g4 = q := by injection hq
      rcases hat4 with h | h
      · exact Or.inl ⟨j, hj, by rw [h, hq']⟩
      · right; omega
    · rw [if_neg e] at hq
      exact Or.inl ⟨i, hi, hq⟩
 clear hv4 G4 G24 G3 GD L3 hat4 ho4 hb4 HIN2 HSS HN3 HN2 hw3 x0 x1 c1
 refine wpAnyH_done (by kernel_rfl) ?_ _
 simp only [Exit.then]
 go_wp2_with fail
 refine NoPanic.normal ?_
 go_wp2_with fail
 exact bodyPost_end (v := .tuple #[]) (by simp [results, Tryz.results187, go_sem]) rfl ⟨rfl, _, HPT.out, HCH.out⟩
end Go.Proofs.YtaaagmgglolibaaGreat
namespace Go.Proofs.YtaaagmgglolibaaGreat
open Go Go.RowKit Go.Deep
theorem Zmo {w : World} {am : Option Addr} {ms : List Mk} (h : ZA w am ms) : ∃ ss : List Sm, ZdI w am ss /\ Zbi ss = ms /\ ZgA w ss /\ ss.length = ms.length := by
 rcases h with rfl | ⟨b, off, rfl, hb, hs⟩
 · exact ⟨[], Or.inl rfl, rfl, (fun x hx => by cases hx), rfl⟩
 · have each : ∀ i, i < ms.length -> ∃ q : Sm, w.cell? ⟨b, off + i * 2, none⟩ = some (.int .i64 q.1) /\ w.cell? ⟨b, off + i * 2 + 1, none⟩ = some (.slice q.2.1 q.2.2.2.length q.2.2.1) /\ Zq w q.2.1 q.2.2.2 /\ Zha q = ZS ms i := by
    intro i hi
    obtain ⟨c0, ao, ca, c1, hv⟩ := hs.at (i := i) hi
    exact ⟨(mid ms i, ao, ca, mat ms i), c0, c1, hv, rfl⟩
   obtain ⟨q, hq⟩ := choose_lt each
   have hl : ((List.range ms.length).map q).length = ms.length := by simp
   have hat : ∀ i, i < ms.length -> Zdc ((List.range ms.length).map q) i = q i := fun i hi => by simp [Zdc, List.getD, hi]
   refine ⟨(List.range ms.length).map q, Or.inr ⟨b, off, rfl, hb, fun i hi => ?_⟩, ?_, ?_, hl⟩
   · rw [hl] at hi
     rw [hat i hi]
     exact ⟨(hq i hi).1, (hq i hi).2.1⟩
   · refine List.ext_getElem (by simp [Zbi]) (fun i h1 h2 => ?_)
     have := (hq i h2).2.2.2
     simp only [Zbi, List.getElem_map, List.getElem_range]
     rw [this]
     simp [ZS, List.getD, h2]
   · intro x hx
     obtain ⟨i, hi, rfl⟩ := List.mem_map.1 hx
     exact (hq i (List.mem_range.1 hi)).2.2.1
def ZoK (base : Nat) (w : World) (v : Value) (ms : List Mk) (ls : List (List Int)) (m : Mk) (most : Int) : Prop :=
 (ZaS ms ls m most = false /\ v = .agg #[.slice none 0 0, .slice none 0 0]) \/ (ZaS ms ls m most = true /\ ∃ g gl, v = .agg #[.slice (some ⟨g, 0, none⟩) (ms.length + 1) (ms.length + 1), .slice (some ⟨gl, 0, none⟩) (ms.length + 1) (ms.length + 1)] /\ Zez base w g gl (ms ++ [m]) (cn (ZcN ms ls (Zb4 ms m.2 most) m.1)) (ms.length + 1))
theorem Zjf {w : World} {al : Option Addr} {ls : List (List Int)} (h : ZW w al ls) : ∃ vs : List Value, vs.length = ls.length /\ Zan w 1 al vs.length vs /\ (∀ a, al = some a -> vs ≠ [] -> a.block < w.heap.size) /\ ∀ i, i < ls.length -> ∃ a c, vs[i]? = some (.slice a (cn ls i).length c) /\ Zq w a (cn ls i) := by
 rcases h with rfl | ⟨b, off, rfl, hb, hs⟩
 · exact ⟨[], rfl, ⟨rfl, (fun u hu => by cases hu), Or.inl rfl⟩, (fun a _ h => absurd rfl h), fun i hi => by simp at hi⟩
 · have each : ∀ i, i < ls.length -> ∃ v : Value, w.cell? ⟨b, off + i, none⟩ = some v /\ v.oneCell' = true /\ ∃ a c, v = .slice a (cn ls i).length c /\ Zq w a (cn ls i) := by
    intro i hi
    obtain ⟨a, c, h1, h2⟩ := hs i hi
    exact ⟨_, h1, rfl, a, c, rfl, h2⟩
   obtain ⟨f, hf⟩ := choose_lt each
   refine ⟨(List.range ls.length).map f, by simp, ⟨by simp, fun u hu => ?_, Or.inr ⟨_, rfl, fun j u hu => ?_⟩⟩, fun a e _ => by injection e with e; rw [<- e]; exact hb, fun i hi => ?_⟩
   · obtain ⟨i, hi, rfl⟩ := List.mem_map.1 hu
     exact (hf i (List.mem_range.1 hi)).2.1
   · rw [Go.WideShapes.add_plain]
     have hj : j < ls.length := by
      rcases Nat.lt_or_ge j ls.length with h1 | h1
      · exact h1
      · rw [List.getElem?_eq_none (by simp; exact h1)] at hu; cases hu
     rw [List.getElem?_map, List.getElem?_range hj] at hu
     injection hu with hu
     rw [<- hu]
     exact (hf j hj).1
   · obtain ⟨h1, h2, a, c, h3, h4⟩ := hf i hi
     exact ⟨a, c, by rw [List.getElem?_map, List.getElem?_range hi]; show some (f i) = _; rw [h3], h4⟩
theorem Zmp {base : Nat} {w : World} {g c : Nat} {vs : List Value} {ls : List (List Int)} (h : VR base w g c (vs ++ [.slice none 0 0])) (hl : vs.length = ls.length) (hv : ∀ i, i < ls.length -> ∃ a c, vs[i]? = some (.slice a (cn ls i).length c) /\ Zq w a (cn ls i)) : ZW w (some ⟨g, 0, none⟩) (ls ++ [[]]) := by
 refine Or.inr ⟨g, 0, rfl, h.lt.2, fun i hi => ?_⟩
 have hi' : i < ls.length + 1 := by simpa using hi
 rw [Nat.zero_add, World.ownsRow.cellAt h i (by simp; omega)]
 rcases Nat.lt_or_ge i ls.length with e | e
 · obtain ⟨a, c, h1, h2⟩ := hv i e
   have ec : cn (ls ++ [[]]) i = cn ls i := by simp [cn, List.getD, List.getElem?_append_left e]
   rw [ec, List.getElem?_append_left (by omega)]
   exact ⟨a, c, h1, h2⟩
 · obtain rfl : i = ls.length := by omega
   have ec : cn (ls ++ [[]]) ls.length = [] := by simp [cn, List.getD]
   rw [ec, <- hl]
   exact ⟨none, 0, by simp, Or.inl rfl⟩
theorem ZbA.trans {gl n : Nat} {V V1 V2 : Nat -> Value} {w w1 w2 : World} (h : ZbA gl n V V1 w w1) (k : ZbA gl n V1 V2 w1 w2) : ZbA gl n V V2 w w2 := by
 refine ⟨k.os.trans h.os, k.tape.trans h.tape, k.output.trans h.output, Nat.le_trans h.size k.size, fun b hb h1 h2 => ?_, fun i hi q hq => ?_⟩
 · refine (k.block b (Nat.lt_of_lt_of_le hb h.size) h1 (fun i hi e => ?_)).trans (h.block b hb h1 h2)
   rcases h.fresh i hi b e with ⟨j, hj, e2⟩ | e2
   · exact h2 j hj e2
   · omega
 · rcases k.fresh i hi q hq with ⟨j, hj, e2⟩ | e2
   · rcases h.fresh j hj q e2 with h3 | h3
     · exact Or.inl h3
     · exact Or.inr h3
   · exact Or.inr (Nat.le_trans h.size e2)
theorem ZbA.below {gl n : Nat} {V V1 : Nat -> Value} {w w1 w2 : World} (h : ZbA gl n V V1 w w1) (L : Below w1.heap.size w1 w2) : ZbA gl n V V1 w w2 :=
 ⟨L.os.trans h.os, L.tape.trans h.tape, L.output.trans h.output, Nat.le_trans h.size L.size, fun b hb h1 h2 => (L.block b (Nat.lt_of_lt_of_le hb h.size)).trans (h.block b hb h1 h2), h.fresh⟩
theorem ZbA.refl (gl n : Nat) (V : Nat -> Value) (w : World) : ZbA gl n V V w w := ⟨rfl, rfl, rfl, Nat.le_refl _, fun _ _ _ _ => rfl, fun i hi _ hq => Or.inl ⟨i, hi, hq⟩⟩
theorem ZaJ.chg {base : Nat} {w w' : World} {g gl n : Nat} {ms : List Mk} {G cc : Nat -> Nat} {V V1 : Nat -> Value} {lo hi : Nat} (h : ZaJ base w g ms.length ms G cc lo hi) (k : ZbA gl n V V1 w w') (hg : g ≠ gl) (hgl : gl < lo) (hV : ∀ i, i < n -> ∀ q, (V i).ownBlock = some q -> hi <= q) (hgh : g < hi) : ZaJ base w' g ms.length ms G cc lo hi :=
 ⟨h.blk.same (k.block g h.blk.lt hg (fun i hi' e => by have := hV i hi' g e; omega)), fun i hi' => by
  have hw := h.within i hi'
  have hr := h.rows i hi'
  have e := k.block (G i) hr.lt.2 (by omega) (fun j hj e => by have := hV j hj _ e; omega)
  obtain ⟨h1, h2 | ⟨g', c', cur, e1, h3, h4, h5⟩⟩ := hr
  · exact ⟨h1, Or.inl h2⟩
  · refine ⟨h1, Or.inr ⟨g', c', cur, e1, h3, ?_, h5⟩⟩
    injection e1 with e1 e2 e3
    injection e1 with e1
    injection e1 with e1
    rw [<- e1, e, e1]
    exact h4, h.rise, h.within, Nat.le_trans h.top k.size, h.ge, h.out⟩
theorem ZaJ.low {base base' : Nat} {w : World} {g k : Nat} {ms : List Mk} {G cc : Nat -> Nat} {lo hi : Nat} (h : ZaJ base w g k ms G cc lo hi) (hb : base' <= base) : ZaJ base' w g k ms G cc lo hi :=
 ⟨h.blk, fun i hi' => (h.rows i hi').mono hb, h.rise, h.within, h.top, Nat.le_trans hb h.ge, h.out⟩
theorem NM.low {base base' : Nat} {w : World} {g n : Nat} {V : Nat -> Value} {X : Nat -> List Int} {lo : Nat} (h : NM base w g n V X lo) (hb : base' <= base) : NM base' w g n V X lo :=
 ⟨h.blk, h.own, h.apart, Nat.le_trans hb h.ge, h.out, h.top⟩
theorem Zdt {gl n b : Nat} {V V1 : Nat -> Value} {w w' : World} {x y : Value} {t : TypeId} (h : Two w b x y t) (k : ZbA gl n V V1 w w') (h1 : b ≠ gl) (h2 : ∀ i, i < n -> (V i).ownBlock ≠ some b) : Two w' b x y t := (k.block b h.lt h1 h2).trans h
theorem ZnC (am al ao : Option Addr) (cm cl ca : Nat) (ms : List Mk) (ls : List (List Int)) (m : Mk) (most : Int) (w : World) (hm : ZA w am ms) (hl : ZW w al ls) (hsm : ZU ms) (hcs : ZaE ls) (hcm : ms.length <= cm) (hcl : ls.length <= cl) (hv : Zq w ao m.2) (hn : m.2.length <= 1048576) :
 Calls Tryz.prog 104 #[.agg #[.slice am ms.length cm, .slice al ls.length cl], .agg #[.int .i64 m.1, .slice ao m.2.length ca], .int .i64 most] w fun e w' => ∃ v, e = .returned (.tuple #[v, .bool (ZaS ms ls m most)]) /\ ZoK w.heap.size w' v ms ls m most /\ Below w.heap.size w w' := by
 obtain ⟨W1, hW1⟩ : ∃ W, w.alloc (.cells #[.slice am ms.length cm, .slice al ls.length cl] 47) = W := ⟨_, rfl⟩
 obtain ⟨W2, hW2⟩ : ∃ W, W1.alloc (.cells #[.int .i64 m.1, .slice ao m.2.length ca] 29) = W := ⟨_, rfl⟩
 obtain ⟨W3, hW3⟩ : ∃ W, W2.alloc (.cells #[.slice none 0 0, .slice none 0 0] 47) = W := ⟨_, rfl⟩
 obtain ⟨W4, hW4⟩ : ∃ W, W3.alloc (.cells #[.int .i64 m.1, .slice ao m.2.length ca] 29) = W := ⟨_, rfl⟩
 have s1 : W1.heap.size = w.heap.size + 1 := by rw [<- hW1]; simp
 have s2 : W2.heap.size = w.heap.size + 1 + 1 := by rw [<- hW2]; simp [s1]
 have s3 : W3.heap.size = w.heap.size + 1 + 1 + 1 := by rw [<- hW3]; simp [s2]
 have s4 : W4.heap.size = w.heap.size + 1 + 1 + 1 + 1 := by rw [<- hW4]; simp [s3]
 obtain ⟨W, hW⟩ : ∃ W, W4.alloc (.cells #[.slice am ms.length cm, .slice (some ⟨w.heap.size + 1 + 1 + 1, 0, none⟩) 1 1] 44) = W := ⟨_, rfl⟩
 have b1 : Below w.heap.size w W1 := by rw [<- hW1]; exact (Below.refl _ _).alloc (Nat.le_refl _) _
 have b2 : Below W1.heap.size W1 W2 := by rw [<- hW2]; exact (Below.refl _ _).alloc (Nat.le_refl _) _
 have b3 : Below W2.heap.size W2 W3 := by rw [<- hW3]; exact (Below.refl _ _).alloc (Nat.le_refl _) _
 have b4 : Below W3.heap.size W3 W4 := by rw [<- hW4]; exact (Below.refl _ _).alloc (Nat.le_refl _) _
 have b5 : Below W4.heap.size W4 W := by rw [<- hW]; exact (Below.refl _ _).alloc (Nat.le_refl _) _
 have hI : ZX W w.heap.size am cm ms al cl ls := by
  have h1 : ZX W1 w.heap.size am cm ms al cl ls := by rw [<- hW1]; exact ZX.box hm hl
  exact (((h1.below b2).below b3).below b4).below b5
 have TM : Two W (w.heap.size + 1) (.int .i64 m.1) (.slice ao m.2.length ca) 29 := by
  have h1 : Two W2 (w.heap.size + 1) (.int .i64 m.1) (.slice ao m.2.length ca) 29 := by rw [<- hW2, <- s1]; exact Two.new W1 _ _ _
  exact ((h1.below b3).below b4).below b5
 have TR : Two W (w.heap.size + 1 + 1) (.slice none 0 0) (.slice none 0 0) 47 := by
  have h1 : Two W3 (w.heap.size + 1 + 1) (.slice none 0 0) (.slice none 0 0) 47 := by rw [<- hW3, <- s2]; exact Two.new W2 _ _ _
  exact (h1.below b4).below b5
 have TA : Two W (w.heap.size + 1 + 1 + 1) (.int .i64 m.1) (.slice ao m.2.length ca) 29 := by
  have h1 : Two W4 (w.heap.size + 1 + 1 + 1) (.int .i64 m.1) (.slice ao m.2.length ca) 29 := by rw [<- hW4, <- s3]; exact Two.new W3 _ _ _
  exact h1.below b5
 have TB : Two W (w.heap.size + 1 + 1 + 1 + 1) (.slice am ms.length cm) (.slice (some ⟨w.heap.size + 1 + 1 + 1, 0, none⟩) 1 1) 44 := by rw [<- hW, <- s4]; exact Two.new W4 _ _ _
 have hB : Below w.heap.size w W := Zb (Zb (Zb (Zb b1 b2) b3) b4) b5
 have sW : w.heap.size + 1 + 1 + 1 + 1 < W.heap.size := TB.lt
 obtain ⟨ss, hss, hsmk, hsl, hslen⟩ := Zmo hI.mv
 have HCT := Za (Zmq (w.heap.size + 1 + 1 + 1 + 1) 2 [(am, cm, ss), (some ⟨w.heap.size + 1 + 1 + 1, 0, none⟩, 1, [(m.1, ao, ca, m.2)])] W sW
  (fun i hi => by
    have hi2 : i < 2 := hi
    rcases (show i = 0 \/ i = 1 by omega) with rfl | rfl
    · show W.cell? _ = some (.slice am ss.length cm); rw [hslen]; exact TB.c0
    · exact TB.c1)
  (fun i hi => by
    have hi2 : i < 2 := hi
    rcases (show i = 0 \/ i = 1 by omega) with rfl | rfl
    · exact hss
    · exact Or.inr ⟨_, 0, rfl, TA.lt, fun k hk => by
       have hk1 : k = 0 := by simpa using hk
       subst hk1
       exact ⟨TA.c0, TA.c1⟩⟩)
  (by simp) (by have := hsm.1; simp [Zbs]; omega) (by simp [Zbs]))
 have hcat : Zbs [(am, cm, ss), (some ⟨w.heap.size + 1 + 1 + 1, 0, none⟩, 1, [(m.1, ao, ca, m.2)])] = ss ++ [(m.1, ao, ca, m.2)] := by simp [Zbs]
 rw [hcat] at HCT
 have HMK : Hid (Zbi (ss ++ [(m.1, ao, ca, m.2)]) = ms ++ [m]) := by show _ = _; rw [Zhb, hsmk]
 have HLI : Hid (ZgA W (ss ++ [(m.1, ao, ca, m.2)])) := hsl.snoc (hv.next hB)
 have hlen2 : (ss ++ [(m.1, ao, ca, m.2)]).length = ms.length + 1 := by rw [List.length_append, hslen]; rfl
 rw [hlen2] at HCT
 have HWW : Hid (((((w.alloc (.cells #[.slice am ms.length cm, .slice al ls.length cl] 47)).alloc (.cells #[.int .i64 m.1, .slice ao m.2.length ca] 29)).alloc (.cells #[.slice none 0 0, .slice none 0 0] 47)).alloc (.cells #[.int .i64 m.1, .slice ao m.2.length ca] 29)).alloc (.cells #[.slice am ms.length cm, .slice (some ⟨w.heap.size + 1 + 1 + 1, 0, none⟩) 1 1] 44) = W) := by show _ = _; rw [hW1, hW2, hW3, hW4, hW]
 have HB := Za hB
 have HI := Za hI
 have HTM := Za TM
 have HTR := Za TR
 have HSW := Za sW
 have HVM := Za (hv.next hB)
 have HSM := Za hsm
 have HCS := Za hcs
 clear hm hl hv s1 s2 s3 s4 b1 b2 b3 b4 b5 hW1 hW2 hW3 hW4 hW hI TM TR TA TB hB sW hss hsmk hsl hcat hsm hcs
 go_enter Tryz.func104, Tryz.ntmps104
 go_wp2_with fail
 rw [HWW.out]
 refine HCT.out.mono ?_
 rintro e w1 ⟨g1, c1, rfl, hr1, L1⟩
 have hmv1 := hr1.view HLI.out L1
 rw [HMK.out] at hmv1
 have HMV1 := Za hmv1
 have hI1 := HI.out.below L1
 have HTR1 := Za (HTR.out.below L1)
 have HTM1 := Za (HTM.out.below L1)
 have HVM1 := Za (HVM.out.next L1)
 have HB1 := Za (Zb HB.out L1)
 have HI1 := Za hI1
 have k0 := hI1.c0
 have k1 := hI1.c1
 have HWE := Za (Zft am cm ms al cl ls w1 hI1.mv hI1.cv HSM.out HCS.out hcm hcl)
 have HSW1 : Hid (w.heap.size + 1 + 1 + 1 + 1 < w1.heap.size) := Nat.lt_of_lt_of_le HSW.out L1.size
 clear hr1 L1 hmv1 hI1 HCT HWW HI HTR HTM HVM HB HLI HMK hlen2 hslen HSW
 by_cases hm1 : most < 1
 · have HLB : Hid (ZaS ms ls m most = false) := by show _ = _; unfold ZaS ZgB; rw [decide_eq_false (show ¬ 1 <= most by omega)]; simp
   have tR := HTR1.out
   have r0 := tR.c0
   have r1 := tR.c1
   have rf0 := tR.frozen 0
   have rf1 := tR.frozen 1
   have t3 := (tR.set0 (.slice none 0 0)).set1 (.slice none 0 0)
   have q0 := t3.c0
   have q1 := t3.c1
   have HBF : Hid (Below w.heap.size w ((w1.setCell ⟨w.heap.size + 1 + 1, 0, none⟩ (.slice none 0 0)).setCell ⟨w.heap.size + 1 + 1, 1, none⟩ (.slice none 0 0))) := ((HB1.out).setCell (by show w.heap.size <= w.heap.size + 1 + 1; omega) _).setCell (by show w.heap.size <= w.heap.size + 1 + 1; omega) _
   clear tR t3
   go_wp2_with fail
   refine bodyPost_ret (v := .tuple #[.agg #[.slice none 0 0, .slice none 0 0], .bool false]) (by simp [results, Tryz.results104, go_sem, q0, q1]) rfl ?_
   exact ⟨_, by rw [HLB.out], Or.inl ⟨HLB.out, rfl⟩, HBF.out⟩
 by_cases hm8 : most > 8
 · have HLB : Hid (ZaS ms ls m most = false) := by show _ = _; unfold ZaS ZgB; rw [decide_eq_false (show ¬ most <= 8 by omega)]; simp
   have tR := HTR1.out
   have r0 := tR.c0
   have r1 := tR.c1
   have rf0 := tR.frozen 0
   have rf1 := tR.frozen 1
   have t3 := (tR.set0 (.slice none 0 0)).set1 (.slice none 0 0)
   have q0 := t3.c0
   have q1 := t3.c1
   have HBF : Hid (Below w.heap.size w ((w1.setCell ⟨w.heap.size + 1 + 1, 0, none⟩ (.slice none 0 0)).setCell ⟨w.heap.size + 1 + 1, 1, none⟩ (.slice none 0 0))) := ((HB1.out).setCell (by show w.heap.size <= w.heap.size + 1 + 1; omega) _).setCell (by show w.heap.size <= w.heap.size + 1 + 1; omega) _
   clear tR t3
   go_wp2_with fail
   refine bodyPost_ret (v := .tuple #[.agg #[.slice none 0 0, .slice none 0 0], .bool false]) (by simp [results, Tryz.results104, go_sem, q0, q1]) rfl ?_
   exact ⟨_, by rw [HLB.out], Or.inl ⟨HLB.out, rfl⟩, HBF.out⟩
 have HMO : Hid (ZgB most = true) := by show _ = _; unfold ZgB; rw [decide_eq_true (show 1 <= most by omega), decide_eq_true (show most <= 8 by omega)]; rfl
 rcases hwb : ZR ms ls with _ | _
 · have HLB : Hid (ZaS ms ls m most = false) := by show _ = _; unfold ZaS; rw [hwb]; simp
   rw [hwb] at HWE
   clear hwb
   go_wp2_with fail
   refine HWE.out.mono ?_
   rintro e w2 ⟨rfl, L2⟩
   have tR := HTR1.out.below L2
   have r0 := tR.c0
   have r1 := tR.c1
   have rf0 := tR.frozen 0
   have rf1 := tR.frozen 1
   have t3 := (tR.set0 (.slice none 0 0)).set1 (.slice none 0 0)
   have q0 := t3.c0
   have q1 := t3.c1
   have HBF : Hid (Below w.heap.size w ((w2.setCell ⟨w.heap.size + 1 + 1, 0, none⟩ (.slice none 0 0)).setCell ⟨w.heap.size + 1 + 1, 1, none⟩ (.slice none 0 0))) := ((Zb HB1.out L2).setCell (by show w.heap.size <= w.heap.size + 1 + 1; omega) _).setCell (by show w.heap.size <= w.heap.size + 1 + 1; omega) _
   clear tR t3
   clear L2
   go_wp2_with fail
   refine bodyPost_ret (v := .tuple #[.agg #[.slice none 0 0, .slice none 0 0], .bool false]) (by simp [results, Tryz.results104, go_sem, q0, q1]) rfl ?_
   exact ⟨_, by rw [HLB.out], Or.inl ⟨HLB.out, rfl⟩, HBF.out⟩
 rw [hwb] at HWE
 have HWB := Za hwb
 have h60 := ZM (Zt hwb)
 have HMS2 : Hid (ZU (ms ++ [m])) := ⟨by simp; omega, fun i => by
  rcases Nat.lt_or_ge i ms.length with e | e
  · rw [ZhD e]; exact HSM.out.2 i
  · rcases Nat.lt_or_ge ms.length i with e2 | e2
    · simp [mat, List.getD, show ms.length + 1 <= i by omega]
    · rw [show i = ms.length by omega, ZhE]; exact hn⟩
 clear hwb
 go_wp2_with fail
 refine HWE.out.mono ?_
 rintro e w2 ⟨rfl, L2⟩
 have hmk2 := ZiS (some ⟨g1, 0, none⟩) c1 (ms ++ [m]) w2 (HMV1.out.next L2) HMS2.out
 rw [show (ms ++ [m]).length = ms.length + 1 by simp] at hmk2
 have HMK2 := Za hmk2
 clear hmk2
 rcases hmb : Zk (ms ++ [m]) with _ | _
 · have HLB : Hid (ZaS ms ls m most = false) := by show _ = _; unfold ZaS; rw [hmb]; simp
   rw [hmb] at HMK2
   clear hmb
   have HL2 := Za L2
   clear L2 k0 k1
   go_wp2_with fail
   refine HMK2.out.mono ?_
   rintro e w3 ⟨rfl, L3⟩
   have tR := (HTR1.out.below HL2.out).below L3
   have r0 := tR.c0
   have r1 := tR.c1
   have rf0 := tR.frozen 0
   have rf1 := tR.frozen 1
   have t3 := (tR.set0 (.slice none 0 0)).set1 (.slice none 0 0)
   have q0 := t3.c0
   have q1 := t3.c1
   have HBF : Hid (Below w.heap.size w ((w3.setCell ⟨w.heap.size + 1 + 1, 0, none⟩ (.slice none 0 0)).setCell ⟨w.heap.size + 1 + 1, 1, none⟩ (.slice none 0 0))) := ((Zb (Zb HB1.out HL2.out) L3).setCell (by show w.heap.size <= w.heap.size + 1 + 1; omega) _).setCell (by show w.heap.size <= w.heap.size + 1 + 1; omega) _
   clear tR t3
   clear L3
   go_wp2_with fail
   refine bodyPost_ret (v := .tuple #[.agg #[.slice none 0 0, .slice none 0 0], .bool false]) (by simp [results, Tryz.results104, go_sem, q0, q1]) rfl ?_
   exact ⟨_, by rw [HLB.out], Or.inl ⟨HLB.out, rfl⟩, HBF.out⟩
 rw [hmb] at HMK2
 have HMB := Za hmb
 have HLB : Hid (ZaS ms ls m most = true) := by show _ = _; unfold ZaS; rw [HWB.out, HMO.out, hmb]; rfl
 have HL2 := Za L2
 clear hmb L2 k0 k1 HWE
 go_wp2_with fail
 refine HMK2.out.mono ?_
 rintro e w3 ⟨rfl, L3⟩
 have L13 := Zb HL2.out L3
 have hI3 := HI1.out.below L13
 have HI3 := Za hI3
 have HTR3 := Za (HTR1.out.below L13)
 have HTM3 := Za (HTM1.out.below L13)
 have HVM3 := Za (HVM1.out.next L13)
 have HMV3 := Za (HMV1.out.next L13)
 have HB3 := Za (Zb HB1.out L13)
 have k0 := hI3.c0
 have k1 := hI3.c1
 have HSW3 : Hid (w.heap.size + 1 + 1 + 1 + 1 < w3.heap.size) := Nat.lt_of_lt_of_le HSW1.out L13.size
 clear L3 L13 hI3 HI1 HTR1 HTM1 HVM1 HMV1 HB1 HSW1 HMK2 HL2
 have hll := Zag HWB.out
 obtain ⟨vs, hvl, hsrc, hsb, hvv⟩ := Zjf HI3.out.cv
 obtain ⟨V1, hV1⟩ : ∃ V1, w3.alloc (.cells #[.slice none 0 0] 27) = V1 := ⟨_, rfl⟩
 obtain ⟨V2, hV2⟩ : ∃ V2, V1.alloc (.cells #[.slice al ls.length cl, .slice (some ⟨w3.heap.size, 0, none⟩) 1 1] 45) = V2 := ⟨_, rfl⟩
 have sv1 : V1.heap.size = w3.heap.size + 1 := by rw [<- hV1]; simp
 have LV1 : Below w3.heap.size w3 V1 := by rw [<- hV1]; exact (Below.refl _ _).alloc (Nat.le_refl _) _
 have LV2 : Below V1.heap.size V1 V2 := by rw [<- hV2]; exact (Below.refl _ _).alloc (Nat.le_refl _) _
 have LV := Zb LV1 LV2
 have OA : One V2 w3.heap.size (.slice none 0 0) 27 := by
  have h1 : One V1 w3.heap.size (.slice none 0 0) 27 := by rw [<- hV1]; exact One.new w3 _ _
  exact h1.below LV2
 have TB : Two V2 (w3.heap.size + 1) (.slice al ls.length cl) (.slice (some ⟨w3.heap.size, 0, none⟩) 1 1) 45 := by rw [<- hV2, <- sv1]; exact Two.new V1 _ _ _
 have HCL := Za (Zmr (w3.heap.size + 1) 2 [(al, cl, vs), (some ⟨w3.heap.size, 0, none⟩, 1, [.slice none 0 0])] V2 TB.lt
  (fun i hi => by
    have hi2 : i < 2 := hi
    rcases (show i = 0 \/ i = 1 by omega) with rfl | rfl
    · show V2.cell? _ = some (.slice al vs.length cl); rw [hvl]; exact TB.c0
    · exact TB.c1)
  (fun i hi => by
    have hi2 : i < 2 := hi
    rcases (show i = 0 \/ i = 1 by omega) with rfl | rfl
    · exact ⟨ZgC hsrc hsb LV, fun a e h => Nat.lt_of_lt_of_le (hsb a e h) LV.size⟩
    · refine ⟨⟨rfl, fun u hu => by simp at hu; subst hu; rfl, Or.inr ⟨_, rfl, World.news_of_block (cs := #[.slice none 0 0]) OA⟩⟩, fun a e _ => by injection e with e; rw [<- e]; exact OA.lt⟩)
  (by simp) (by have := HCS.out.1; simp [Zbt]; omega) (by simp [Zbt]))
 have hcat : Zbt [(al, cl, vs), (some ⟨w3.heap.size, 0, none⟩, 1, [.slice none 0 0])] = vs ++ [.slice none 0 0] := by simp [Zbt]
 rw [hcat] at HCL
 rw [show (vs ++ [Value.slice none 0 0]).length = ms.length + 1 by simp; omega] at HCL
 have HLV := Za LV
 have HVW : Hid ((w3.alloc (.cells #[.slice none 0 0] 27)).alloc (.cells #[.slice al ls.length cl, .slice (some ⟨w3.heap.size, 0, none⟩) 1 1] 45) = V2) := by show _ = _; rw [hV1, hV2]
 have HVV := Za (And.intro hvl hvv)
 have HLLN := Za hll
 clear hsrc hsb hvl hvv sv1 LV1 LV2 LV OA TB hcat hV1 hV2 hll
 go_wp2_with fail
 rw [HVW.out]
 refine HCL.out.mono ?_
 rintro e w4 ⟨g4, c4, rfl, hr4, L4⟩
 have L34 := Zb HLV.out L4
 have hcv4 := Zmp hr4 HVV.out.1 (fun i hi => by obtain ⟨a, c, h1, h2⟩ := HVV.out.2 i hi; exact ⟨a, c, h1, h2.next L34⟩)
 have HCS2 : Hid (ZaE (ls ++ [[]])) := ⟨by have := HLLN.out; simp; omega, fun i => by
  rcases Nat.lt_or_ge i ls.length with e | e
  · have ec : cn (ls ++ [[]]) i = cn ls i := by simp [cn, List.getD, List.getElem?_append_left e]
    rw [ec]; exact HCS.out.2 i
  · rcases Nat.lt_or_ge ls.length i with e2 | e2
    · simp [cn, List.getD, show ls.length + 1 <= i by omega]
    · rw [show i = ls.length by omega]; simp [cn, List.getD]⟩
 have how := Zj6 (some ⟨g1, 0, none⟩) (some ⟨g4, 0, none⟩) c1 c4 (ms ++ [m]) (ls ++ [[]]) w4 (HMV3.out.next L34) hcv4 HMB.out HMS2.out HCS2.out
 rw [show (ms ++ [m]).length = ms.length + 1 by simp, show (ls ++ ([[]] : List (List Int))).length = ms.length + 1 by have := HLLN.out; simp; omega] at how
 have HOW := Za how
 have HL34 := Za L34
 clear hr4 L4 L34 hcv4 how HCL HVW HVV HLV
 go_wp2_with fail
 refine HOW.out.mono ?_
 rintro e w5 ⟨g, gl, rfl, hown, L5⟩
 obtain ⟨G, cc, V, lo, hi, hop, hnm, hggl, hgllo⟩ := hown
 have HVlt : Hid (∀ i, i < ms.length + 1 -> ∀ q, (V i).ownBlock = some q -> hi <= q /\ q < w5.heap.size) := fun i hi' q hq => Zar (hnm.own i hi') hq
 have hge1 := hop.ge
 have hge2 := hnm.ge
 have hout1 := hop.out
 have hout2 := hnm.out
 have hw0 := hop.within 0 (by simp)
 have hgl5 := hnm.blk.lt
 obtain ⟨w6, hw6⟩ : ∃ w6, w5.alloc (.cells #[.slice (some ⟨g, 0, none⟩) (ms.length + 1) (ms.length + 1), .slice (some ⟨gl, 0, none⟩) (ms.length + 1) (ms.length + 1)] 47) = w6 := ⟨_, rfl⟩
 have L6 : Below w5.heap.size w5 w6 := by rw [<- hw6]; exact (Below.refl _ _).alloc (Nat.le_refl _) _
 have TO : Two w6 w5.heap.size (.slice (some ⟨g, 0, none⟩) (ms.length + 1) (ms.length + 1)) (.slice (some ⟨gl, 0, none⟩) (ms.length + 1) (ms.length + 1)) 47 := by rw [<- hw6]; exact Two.new w5 _ _ _
 have L36 := Zb (Zb HL34.out L5) L6
 have hI6 := HI3.out.below L36
 have HNE := Za (iNear am ao cm ca ms m.2 most w6 hI6.mv (HVM3.out.next L36) HSM.out hn)
 have k6 := hI6.c0
 have tm := HTM3.out.below L36
 have t0 := tm.c0
 have t1 := tm.c1
 have HOP6 := Za (hop.next L6)
 have HNM6 := Za (hnm.next L6)
 have hO6 := TO.lt
 have HTO := Za TO
 have HL36 := Za L36
 have HL5 := Za L5
 have HTM6 := Za tm
 have HTR6 := Za (HTR3.out.below L36)
 have HB6 := Za (Zb HB3.out L36)
 have hw4s : w.heap.size + 1 + 1 + 1 + 1 < w4.heap.size := Nat.lt_of_lt_of_le HSW3.out HL34.out.size
 have h45 := L5.size
 clear hop hnm L5 L6 L36 hI6 tm TO HOW HCS2 k0 k1
 go_wp2_with fail
 clear hw6
 refine HNE.out.mono ?_
 rintro e w7 ⟨v7, rfl, hh7, L7⟩
 obtain ⟨ah, ch, rfl, hhv⟩ := hh7.view
 have HHB : Hid (∀ b off, ah = some ⟨b, off, none⟩ -> Zau ms m.2 most ≠ [] -> w6.heap.size <= b) := fun b off e hne => by
  rcases hh7 with ⟨-, h0⟩ | ⟨g', c', e', hr⟩
  · exact absurd h0 hne
  · injection e' with e1
    rw [e] at e1
    injection e1 with e1
    injection e1 with e1
    rw [e1]
    exact hr.lt.1
 have HOP7 := Za (HOP6.out.next L7)
 have HNM7 := Za (HNM6.out.next L7)
 have HTO7 := Za (HTO.out.below L7)
 have HTM7 := Za (HTM6.out.below L7)
 have HTR7 := Za (HTR6.out.below L7)
 have HB7 := Za (Zb HB6.out L7)
 have h67 := L7.size
 have hnear := Zfk ms m.2 most
 obtain ⟨hs, hhs⟩ : ∃ hs, Zau ms m.2 most = hs := ⟨_, rfl⟩
 rw [hhs] at hhv hnear HHB ⊢
 obtain ⟨ids, hids⟩ : ∃ ids, Zb4 ms m.2 most = ids := ⟨_, rfl⟩
 have HIDL : Hid (ids.length = hs.length) := by show _ = _; rw [<- hids, <- hhs]; simp [Zb4]
 have HIDT : Hid (∀ t, t < hs.length -> nth ids t = (Zg hs t).1) := fun t ht => by
  rw [<- hids]; unfold Zb4; rw [hhs]; simp [nth, Zg, List.getD, ht]
 have HNOD : Hid (ids.Nodup) := by show ids.Nodup; rw [<- hids]; exact ZeN (Zt HWB.out) _ _
 have HFI : Hid (∀ y ∈ ids, 0 <= Zr ms y) := by show ∀ y ∈ ids, _; rw [<- hids]; exact Zck (Zt HWB.out)
 have HIDS := Za hids
 have HHV := Za hhv
 obtain ⟨O, hO⟩ : ∃ O, w5.heap.size = O := ⟨_, rfl⟩
 rw [hO] at HTO7 HVlt hgl5 h45 hO6 ⊢
 have hOw : w4.heap.size <= O := h45
 clear hids hhs hh7 L7 HOP6 HNM6 HTO HTM6 HTR6 HB6 k6 t0 t1 hhv HNE hO
 go_wp2_with fail
 go_loopw [50] (fun iv wr => ∃ (t : Nat) (V' : Nat -> Value), t <= hs.length /\ iv = .int .i64 t /\ NM w4.heap.size wr gl (ms.length + 1) V' (lkX ms ls ids m.1 t) hi /\ ZbA gl (ms.length + 1) V V' w7 wr) (fun iv _ => hs.length - (intOf iv).toNat)
 case atStart => exact ⟨0, V, Nat.zero_le _, rfl, HNM7.out.congr (fun i hi' => ZkT HLLN.out ids m.1 hi'), ZbA.refl _ _ _ _⟩
 case round =>
  obtain ⟨t, V', ht, rfl, hnm, hk⟩ := hrel
  have HNMr := Za hnm
  have HKr := Za hk
  have hop := HOP7.out.chg hk hggl hgllo (fun i hi' q hq => (HVlt.out i hi' q hq).1) (by omega)
  have hto := Zdt HTO7.out hk (by omega) (fun i hi' e => by have := HVlt.out i hi' _ e; omega)
  have htm := Zdt HTM7.out hk (by omega) (fun i hi' e => by have := HVlt.out i hi' _ e; omega)
  have htr := Zdt HTR7.out hk (by omega) (fun i hi' e => by have := HVlt.out i hi' _ e; omega)
  have hszr := hk.size
  clear hnm hk
  by_cases htl : t < hs.length
  · obtain ⟨hb, ho, rfl, hbl, hsg⟩ : ∃ b off, ah = some ⟨b, off, none⟩ /\ b < w7.heap.size /\ Zc9 w7 b off hs := by
     rcases HHV.out with h | h
     · rw [h] at htl; simp at htl
     · exact h
    have hb6 := HHB.out hb ho rfl (fun e => by rw [e] at htl; simp at htl)
    have eb := HKr.out.block hb hbl (by omega) (fun i hi' e => by have := HVlt.out i hi' _ e; omega)
    obtain ⟨j, hj, hij, hxj, hpw, hnm1, hl1, hpo, hno, hl2, hstep⟩ := Zms HWB.out HMB.out HNOD.out HFI.out (t := t) (by rw [HIDL.out]; exact htl)
    have c0 := (World.cell?_of_block (a := ⟨hb, ho + t * 2, none⟩) eb).trans (hsg t htl).1
    have c1 := (World.cell?_of_block (a := ⟨hb, ho + t * 2 + 1, none⟩) eb).trans (hsg t htl).2
    rw [<- HIDT.out t htl] at c0
    obtain ⟨y, hy⟩ : ∃ y, nth ids t = y := ⟨_, rfl⟩
    obtain ⟨d, hd⟩ : ∃ d, (Zg hs t).2 = d := ⟨_, rfl⟩
    rw [hy] at c0 hij hno hstep
    rw [hd] at c1
    obtain ⟨V1, hV1⟩ : ∃ V1, wr.alloc (.cells #[.int .i64 y, .int .i64 d] 66) = V1 := ⟨_, rfl⟩
    have LZ : Below wr.heap.size wr V1 := by rw [<- hV1]; exact (Below.refl _ _).alloc (Nat.le_refl _) _
    have tz : Two V1 wr.heap.size (.int .i64 y) (.int .i64 d) 66 := by rw [<- hV1]; exact Two.new wr _ _ _
    have hto1 := hto.below LZ
    have htm1 := htm.below LZ
    have hop1 := hop.next LZ
    have hnm1' := HNMr.out.next LZ
    have o0 := hto1.c0
    have o1 := hto1.c1
    have m0 := htm1.c0
    have z0 := tz.c0
    have hfd := ZkU HMB.out hj
    rw [<- hij] at hfd
    have hmv : ZA V1 (some ⟨g, 0, none⟩) (ms ++ [m]) := by have := (hop1.own (by simp [maxLen]; omega)).view; rw [ZdW] at this; exact this
    have hlk1 := Zoc w4.heap.size gl (ms.length + 1) (ms.length + 1) (ms.length + 1) hi (some ⟨g, 0, none⟩) (ms ++ [m]) V' (lkX ms ls ids m.1 t) y m.1 V1 hmv HMB.out hfd.1 hnm1' (by rw [hfd.2]; omega) (by rw [hfd.2, hxj]; exact hpw) (by rw [hfd.2, hxj]; exact hnm1) (by rw [hfd.2, hxj]; omega)
    rw [hfd.2, hxj, show (ms ++ [m]).length = ms.length + 1 by simp] at hlk1
    have HLK1 := Za hlk1
    have HV'lt : Hid (∀ i, i < ms.length + 1 -> ∀ q, (V' i).ownBlock = some q -> hi <= q /\ q < wr.heap.size) := fun i hi' q hq => Zar (HNMr.out.own i hi') hq
    have HV'n : Hid (∀ b, b < w7.heap.size -> (∀ i, i < ms.length + 1 -> (V i).ownBlock ≠ some b) -> ∀ i, i < ms.length + 1 -> (V' i).ownBlock ≠ some b) := fun b hb' hv i hi' e => by
     rcases HKr.out.fresh i hi' b e with ⟨k, hk, e2⟩ | e2
     · exact hv k hk e2
     · omega
    have HTO1 := Za hto1
    have HTM1 := Za htm1
    have HOP1 := Za hop1
    have HTZ := Za tz
    have HK1 := Za (HKr.out.below LZ)
    have HXJ := Za (And.intro hxj hij)
    have HPO := Za (And.intro hpo hno)
    have HSTP := Za hstep
    have HYY := Za hy
    have ht0 : (0 : Int) <= (t : Int) := Int.natCast_nonneg _
    have ht1 : (t : Int) < (hs.length : Int) := by omega
    clear hop hto htm htr hto1 htm1 hop1 hnm1' tz hmv hlk1 hsg eb hfd hxj hpw hnm1 hl1 hpo hno hstep hy hd hij
    go_wp2_with fail
    refine HLK1.out.mono ?_
    rintro e w8 ⟨rfl, V8, hnm8, hk8⟩
    have hto8 := Zdt HTO1.out hk8 (by omega) (HV'n.out O (by omega) (fun i hi' e => by have := HVlt.out i hi' _ e; omega))
    have htm8 := Zdt HTM1.out hk8 (by omega) (HV'n.out _ (by omega) (fun i hi' e => by have := HVlt.out i hi' _ e; omega))
    have htz8 := Zdt HTZ.out hk8 (by have := HNMr.out.blk.lt; omega) (fun i hi' e => by have := HV'lt.out i hi' _ e; omega)
    have hop8 := HOP1.out.chg hk8 hggl hgllo (fun i hi' q hq => (HV'lt.out i hi' q hq).1) (by omega)
    have o0 := hto8.c0
    have o1 := hto8.c1
    have m0 := htm8.c0
    have z0 := htz8.c0
    have hmv8 : ZA w8 (some ⟨g, 0, none⟩) (ms ++ [m]) := by have := (hop8.own (by simp [maxLen]; omega)).view; rw [ZdW] at this; exact this
    have hla := ZkV HMB.out
    have hxn : ZeA (lkX ms ls ids m.1 t) j (ZaB (cn ls j) m.1) ms.length = Zc0 (ids.take t) := by unfold ZeA lkX; rw [if_neg (by omega), if_neg (by omega)]
    have hlk2 := Zoc w4.heap.size gl (ms.length + 1) (ms.length + 1) (ms.length + 1) hi (some ⟨g, 0, none⟩) (ms ++ [m]) V8 (ZeA (lkX ms ls ids m.1 t) j (ZaB (cn ls j) m.1)) m.1 y w8 hmv8 HMB.out hla.1 hnm8 (by rw [hla.2]; omega) (by rw [hla.2, hxn]; exact HPO.out.1) (by rw [hla.2, hxn]; exact HPO.out.2) (by rw [hla.2, hxn]; omega)
    rw [hla.2, hxn, show (ms ++ [m]).length = ms.length + 1 by simp] at hlk2
    have HLK2 := Za hlk2
    have HK8 := Za (HK1.out.trans hk8)
    clear hto8 htm8 htz8 hop8 hmv8 hla hxn hlk2 hk8 hnm8 HLK1 HTO1 HTM1 HOP1 HTZ HK1 hV1
    go_wp2_with fail
    refine HLK2.out.mono ?_
    rintro e w9 ⟨rfl, V9, hnm9, hk9⟩
    have HN9 := Za (hnm9.congr (Y := lkX ms ls ids m.1 (t + 1)) (fun i hi' => by
     rcases HSTP.out i with h | h
     · exact h
     · omega))
    have HK9 := Za (HK8.out.trans hk9)
    clear hnm9 hk9 HLK2 HK8 o0 o1 m0 z0
    go_wp2_with fail
    go_roundw
    case rel => exact ⟨t + 1, V9, by omega, by go_num, HN9.out, HK9.out⟩
    case measure => simp [intOf]; omega
  · obtain rfl : t = hs.length := by omega
    have hti : ¬ ((hs.length : Int) < (hs.length : Int)) := by omega
    have o0 := hto.c0
    have o1 := hto.c1
    have r0 := htr.c0
    have r1 := htr.c1
    have rf0 := htr.frozen 0
    have rf1 := htr.frozen 1
    have t3 := (htr.set0 (.slice (some ⟨g, 0, none⟩) (ms.length + 1) (ms.length + 1))).set1 (.slice (some ⟨gl, 0, none⟩) (ms.length + 1) (ms.length + 1))
    have q0 := t3.c0
    have q1 := t3.c1
    have HNF := Za (HNMr.out.congr (Y := cn (ZcN ms ls ids m.1)) (fun i hi' => by rw [<- HIDL.out]; exact ZnD ms ls ids m.1 hi'))
    have HBr : Hid (Below w.heap.size w wr) := by
     refine ⟨HKr.out.os.trans HB7.out.os, HKr.out.tape.trans HB7.out.tape, HKr.out.output.trans HB7.out.output, Nat.le_trans HB7.out.size hszr, fun b hb => (HKr.out.block b (by have := HB7.out.size; omega) (by omega) (fun i hi' e => by have := HVlt.out i hi' _ e; omega)).trans (HB7.out.block b hb)⟩
    have HE : Hid (Zez w.heap.size ((wr.setCell ⟨w.heap.size + 1 + 1, 0, none⟩ (.slice (some ⟨g, 0, none⟩) (ms.length + 1) (ms.length + 1))).setCell ⟨w.heap.size + 1 + 1, 1, none⟩ (.slice (some ⟨gl, 0, none⟩) (ms.length + 1) (ms.length + 1))) g gl (ms ++ [m]) (cn (ZcN ms ls ids m.1)) (ms.length + 1) /\ Below w.heap.size w ((wr.setCell ⟨w.heap.size + 1 + 1, 0, none⟩ (.slice (some ⟨g, 0, none⟩) (ms.length + 1) (ms.length + 1))).setCell ⟨w.heap.size + 1 + 1, 1, none⟩ (.slice (some ⟨gl, 0, none⟩) (ms.length + 1) (ms.length + 1)))) :=
     ⟨⟨G, cc, V', lo, hi, (((hop.far (by omega) (Or.inl (by omega)) _ _).far (by omega) (Or.inl (by omega)) _ _).low (by omega)), (((HNF.out.far (by omega) (by omega) _ _).far (by omega) (by omega) _ _).low (by omega)), hggl, hgllo⟩, ((HBr.out.setCell (by show w.heap.size <= w.heap.size + 1 + 1; omega) _).setCell (by show w.heap.size <= w.heap.size + 1 + 1; omega) _)⟩
    clear hop hto htm htr t3 HNF
    go_wp2_with fail
    refine bodyPost_ret (v := .tuple #[.agg #[.slice (some ⟨g, 0, none⟩) (ms.length + 1) (ms.length + 1), .slice (some ⟨gl, 0, none⟩) (ms.length + 1) (ms.length + 1)], .bool true]) (by simp [results, Tryz.results104, go_sem, q0, q1]) rfl ?_
    exact ⟨_, by rw [HLB.out], Or.inr ⟨HLB.out, g, gl, rfl, by rw [HIDS.out]; exact HE.out.1⟩, HE.out.2⟩
end Go.Proofs.YtaaagmgglolibaaGreat
namespace Go.Proofs.YtaaagmgglolibaaGreat
open Go Go.RowKit
def mkX (k0 : Int) (X : Nat -> List Int) (i : Nat) : List Int := ZaW (fun t => k0 + (tot (fun j => (X j).length) i : Nat) + t) (X i).length
theorem ZnE (k0 : Int) (X : Nat -> List Int) (i : Nat) : (mkX k0 X i).length = (X i).length := by unfold mkX; rw [ZC]
theorem NM.over {base : Nat} {w w' : World} {g n : Nat} {V : Nat -> Value} {X : Nat -> List Int} {lo : Nat} (h : NM base w g n V X lo) {m : Nat} (hm : m < n) {xs : List Int} (ho : w'.ownsRow lo 2 1 (V m) xs.length (xs.map (Value.int .i64)))
 (hg : w.grownBy w' (V m).ownBlock) : NM base w' g n V (ZeA X m xs) lo := by
 have hgl := h.blk.lt
 have hout := h.out
 have hVm : ∀ q, (V m).ownBlock = some q -> lo <= q /\ q < w.heap.size := fun q e => Zar (h.own m hm) e
 refine ⟨h.blk.same (hg.block g hgl (fun e => by have := hVm g e.symm; omega)), fun i hi => ?_, h.apart, h.ge, hout, Nat.le_trans h.top hg.size⟩
 unfold ZeA
 by_cases e : i = m
 · rw [if_pos e, e]; exact ho
 · rw [if_neg e]
   refine ZbO (h.own i hi) (fun q eq => ?_)
   have hq := Zar (h.own i hi) eq
   refine hg.block q hq.2 (fun e' => ?_)
   rcases h.apart i m hi hm e with h1 | h1
   · rw [h1] at eq; cases eq
   · exact h1 (eq.trans e')
theorem ZkW {w : World} {b : Nat} {v : Value} {xs : List Int} (h : w.ownsRow b 2 1 v xs.length (xs.map (Value.int .i64))) : ZgU b w v xs := by
 obtain ⟨h1, ⟨rfl, h2⟩ | ⟨g, cap, cur, rfl, h3⟩⟩ := h
 · exact Or.inl ⟨rfl, List.length_eq_zero_iff.1 h2⟩
 · exact Or.inr ⟨g, cap, rfl, ⟨h1, Or.inr ⟨g, cap, cur, rfl, h3⟩⟩⟩
theorem ZkX {w : World} {b : Nat} {v : Value} {xs : List Int} (h : ZgU b w v xs) : w.ownsRow b 2 1 v xs.length (xs.map (Value.int .i64)) := by
 rcases h with ⟨rfl, rfl⟩ | ⟨g, c, rfl, hr⟩
 · exact ⟨rfl, Or.inl ⟨rfl, rfl⟩⟩
 · exact hr
theorem ZoL (base lo gl n cap : Nat) (V : Nat -> Value) (X : Nat -> List Int) (k0 : Int) (w : World) (h : NM base w gl n V X lo) (hn : n <= 61) (hx : ∀ i, i < n -> (X i).length <= 1000) (h0 : 1 <= k0) (h1 : k0 <= 1000000) :
 Calls Tryz.prog 231 #[.slice (some ⟨gl, 0, none⟩) n cap, .int .i64 k0] w fun e w' => e = .returned (.int .i64 (k0 + (tot (fun j => (X j).length) n : Nat))) /\ NM base w' gl n V (mkX k0 X) lo /\ ZbA gl n V V w w' := by
 have HX := Za hx
 have HNM := Za h
 have HTB : Hid (∀ k, k <= n -> tot (fun j => (X j).length) k <= 1000 * k) := fun k => by
  induction k with
  | zero => intro _; simp [tot]
  | succ k ih => intro hk; have := ih (by omega); have := hx k (by omega); simp only [tot]; omega
 clear h hx
 go_enter Tryz.func231, Tryz.ntmps231
 go_wp2
 go_loopw [1, 5] (fun kk i wr => ∃ k : Nat, k <= n /\ i = .int .i64 k /\ kk = .int .i64 (k0 + (tot (fun j => (X j).length) k : Nat)) /\ NM base wr gl n V (fun i => if i < k then mkX k0 X i else X i) lo /\ ZbA gl n V V w wr) (fun _ i _ => n - (intOf i).toNat)
 case atStart => exact ⟨0, Nat.zero_le _, rfl, by simp [tot], HNM.out.congr (fun i _ => by rw [if_neg (by omega)]), ZbA.refl _ _ _ _⟩
 case round =>
  obtain ⟨k, hk, rfl, rfl, hnm, hch⟩ := hrel
  have htb := HTB.out k hk
  obtain ⟨T, hT⟩ : ∃ T : Nat, tot (fun j => (X j).length) k = T := ⟨_, rfl⟩
  rw [hT] at htb ⊢
  have HTT := Za hT
  clear hT
  by_cases hlt : k < n
  · have hxk := HX.out k hlt
    have hown := hnm.own k hlt
    rw [if_neg (by omega)] at hown
    obtain ⟨a, c, ev, -⟩ := Zcn hown
    have cc := hnm.blk.cell hlt
    rw [ev] at cc
    have ho := ZkW hown
    rw [ev] at ho
    have HM := Za (markO lo c a (k0 + T) (X k) wr ho (by omega) (by omega) (by omega))
    have HN := Za hnm
    have HC := Za hch
    have HEV := Za ev
    have hi0 : (0 : Int) <= (k : Int) := Int.natCast_nonneg _
    have hi1 : (k : Int) < (n : Int) := by omega
    clear hnm hch hown ho ev
    go_wp2_with fail
    refine HM.out.mono ?_
    rintro e w1 ⟨rfl, hio, hchv, -⟩
    have hio2 : w1.ownsRow lo 2 1 (V k) (mkX k0 X k).length ((mkX k0 X k).map (Value.int .i64)) := by
     have h2 := ZkX hio
     rw [ZC, <- HEV.out] at h2
     have e2 : mkX k0 X k = ZaW (fun i => k0 + T + i) (X k).length := by unfold mkX; rw [HTT.out]
     rw [e2, ZC]
     exact h2
    have hg1 : wr.grownBy w1 (V k).ownBlock := ⟨hchv.1, hchv.2.1, hchv.2.2.1, hchv.2.2.2.1, fun b hb hne => hchv.2.2.2.2 b hb (fun p n' c' e => by
     intro eb
     apply hne
     have h3 := (HN.out.own k hlt)
     rw [HEV.out]
     injection e with e1 e2 e3
     rcases h3 with ⟨-, ⟨e4, -⟩ | ⟨g4, c4, cur4, e4, -⟩⟩
     · rw [HEV.out] at e4
       injection e4 with e5
       rw [e5] at e1; cases e1
     · rw [HEV.out] at e4
       injection e4 with e5
       rw [e1] at e5
       injection e5 with e5
       rw [eb, e1, e5]
       rfl)⟩
    have HN2 := Za ((HN.out.over hlt hio2 hg1).congr (Y := fun i => if i < k + 1 then mkX k0 X i else X i) (fun i hi' => by
     simp only [ZeA]
     by_cases e : i = k
     · rw [if_pos e, if_pos (by omega), e]
     · rw [if_neg e]
       by_cases e2 : i < k
       · rw [if_pos e2, if_pos (by omega)]
       · rw [if_neg e2, if_neg (by omega)]))
    have HC2 := Za (HC.out.trans (⟨hg1.os, hg1.tape, hg1.output, hg1.size, fun b hb _ h2 => hg1.block b hb (fun e => h2 k hlt e.symm), fun i hi' q hq => Or.inl ⟨i, hi', hq⟩⟩ : ZbA gl n V V wr w1))
    have HTS : Hid (tot (fun j => (X j).length) (k + 1) = T + (X k).length) := by show tot (fun j => (X j).length) k + (X k).length = _; rw [HTT.out]
    clear hio hchv hio2 hg1 HM HN HC
    go_wp2_with fail
    go_roundw
    case rel => exact ⟨k + 1, by omega, by go_num, by rw [HTS.out]; congr 1; omega, HN2.out, HC2.out⟩
    case measure => simp [intOf]; omega
  · obtain rfl : k = n := by omega
    have HF := Za (And.intro (hnm.congr (Y := mkX k0 X) (fun i hi' => by rw [if_pos hi'])) hch)
    clear hnm hch
    go_wp2
    go_ret
    exact ⟨ZH (by rw [HTT.out]), HF.out.1, HF.out.2⟩
theorem ZoM (gl n cap : Nat) (X : Nat -> List Int) (k0 : Int) (w : World) (h : ∀ i, i < n -> ∃ a c, w.cell? ⟨gl, i, none⟩ = some (.slice a (X i).length c) /\ Zq w a (mkX k0 X i)) (hn : n <= 61) (hx : ∀ i, i < n -> (X i).length <= 1000) (h0 : 1 <= k0) (h1 : k0 <= 1000000) :
 Calls Tryz.prog 232 #[.slice (some ⟨gl, 0, none⟩) n cap, .int .i64 k0] w fun e w' => e = .returned (.int .i64 (k0 + (tot (fun j => (X j).length) n : Nat))) /\ w' = w := by
 have HX := Za hx
 have HH := Za h
 have HTB : Hid (∀ k, k <= n -> tot (fun j => (X j).length) k <= 1000 * k) := fun k => by
  induction k with
  | zero => intro _; simp [tot]
  | succ k ih => intro hk; have := ih (by omega); have := hx k (by omega); simp only [tot]; omega
 clear h hx
 go_enter Tryz.func232, Tryz.ntmps232
 go_wp2
 go_loopw [1, 5] (fun kk i wr => ∃ k : Nat, k <= n /\ i = .int .i64 k /\ kk = .int .i64 (k0 + (tot (fun j => (X j).length) k : Nat)) /\ wr = w) (fun _ i _ => n - (intOf i).toNat)
 case atStart => exact ⟨0, Nat.zero_le _, rfl, by simp [tot], rfl⟩
 case round =>
  obtain ⟨k, hk, rfl, rfl, hwr⟩ := hrel
  subst hwr
  have htb := HTB.out k hk
  obtain ⟨T, hT⟩ : ∃ T : Nat, tot (fun j => (X j).length) k = T := ⟨_, rfl⟩
  rw [hT] at htb ⊢
  have HTT := Za hT
  clear hT
  by_cases hlt : k < n
  · have hxk := HX.out k hlt
    obtain ⟨a, c, cc, hv⟩ := HH.out k hlt
    unfold mkX at hv
    rw [HTT.out] at hv
    have HM := Za (Zn5 a c (X k).length (k0 + T) wr hv (by omega) (by omega) (by omega))
    have HTS : Hid (tot (fun j => (X j).length) (k + 1) = T + (X k).length) := by show tot (fun j => (X j).length) k + (X k).length = _; rw [HTT.out]
    have hi0 : (0 : Int) <= (k : Int) := Int.natCast_nonneg _
    have hi1 : (k : Int) < (n : Int) := by omega
    clear hv
    go_wp2_with fail
    refine HM.out.mono ?_
    rintro e w1 ⟨rfl, hw1⟩
    subst hw1
    go_wp2_with fail
    go_roundw
    case rel => exact ⟨k + 1, by omega, by go_num, by rw [HTS.out]; congr 1; omega, by first | trivial | rfl⟩
    case measure => simp [intOf]; omega
  · obtain rfl : k = n := by omega
    go_wp2
    go_ret
    exact ⟨ZH (by rw [HTT.out]), rfl⟩
theorem NM.same {base : Nat} {w w' : World} {g n : Nat} {V : Nat -> Value} {X : Nat -> List Int} {lo : Nat} (h : NM base w g n V X lo) (hs : w.heap.size <= w'.heap.size) (e0 : w'.heap[g]? = w.heap[g]?) (e : ∀ i, i < n -> ∀ q, (V i).ownBlock = some q -> w'.heap[q]? = w.heap[q]?) : NM base w' g n V X lo :=
 ⟨h.blk.same e0, fun i hi => ZbO (h.own i hi) (fun q eq => e i hi q eq), h.apart, h.ge, h.out, Nat.le_trans h.top hs⟩
theorem Zh6 {base : Nat} {w w' : World} {g c : Nat} {xs : List Int} (h : ZL base w g c xs) (e : w'.heap[g]? = w.heap[g]?) : ZL base w' g c xs := by
 obtain ⟨h1, h2 | ⟨g', c', cur, e1, h3, h4, h5⟩⟩ := h
 · exact ⟨h1, Or.inl h2⟩
 · refine ⟨h1, Or.inr ⟨g', c', cur, e1, h3, ?_, h5⟩⟩
   injection e1 with e1 e2 e3
   injection e1 with e1
   injection e1 with e1
   rw [<- e1, e, e1]
   exact h4
theorem Zcz.same15 {base : Nat} {w w' : World} {g c : Nat} {ds : List Dm} (h : Zcz base w g c ds) (e0 : w'.heap[g]? = w.heap[g]?) (e : ∀ i, i < ds.length -> w'.heap[(Zo ds i).2.1]? = w.heap[(Zo ds i).2.1]?) : Zcz base w' g c ds := by
 refine ⟨?_, fun i hi => Zh6 (h.rows i hi) (e i hi), h.off, h.apart⟩
 obtain ⟨h1, h2 | ⟨g', c', cur, e1, h3, h4, h5⟩⟩ := h.row
 · exact ⟨h1, Or.inl h2⟩
 · refine ⟨h1, Or.inr ⟨g', c', cur, e1, h3, ?_, h5⟩⟩
   injection e1 with e1 e2 e3
   injection e1 with e1
   injection e1 with e1
   rw [<- e1, e0, e1]
   exact h4
def FtM (g : Nat) (ds : List Dm) (b : Nat) : Prop := b = g \/ ∃ i, i < ds.length /\ b = (Zo ds i).2.1
theorem Zj7 {base : Nat} {w w' : World} {g c : Nat} {ds : List Dm} (h : Zcz base w g c ds) (k : Sta (FtM g ds) w w') : Zcz base w' g c ds :=
 h.same15 (k.2 g (Or.inl rfl)) (fun i hi => k.2 _ (Or.inr ⟨i, hi, rfl⟩))
theorem Zh7 {base : Nat} {w : World} {g c : Nat} {ds : List Dm} (h : Zcz base w g c ds) (b : Nat) (hb : FtM g ds b) : base <= b /\ b < w.heap.size := by
 rcases hb with rfl | ⟨i, hi, rfl⟩
 · exact h.lt
 · exact (h.rows i hi).lt
theorem Zmt {base : Nat} {w : World} {g c : Nat} {ds : List Dm} (h : Zcz base w g c ds) (hn : ds.length <= 60) (hat : ∀ x ∈ Zw ds, x.2.length <= 4) :
 Ow 170 171 (FtM g ds) w (.slice (some ⟨g, 0, none⟩) ds.length c) (Zap (Zw ds)) := by
 refine ⟨fun b hb => (Zh7 h b hb).2, fun w' hs k0 h0 h1 => ?_⟩
 refine (Zov base g c ds k0 w' (Zj7 h hs) hn hat h0 (by omega)).mono ?_
 rintro e w2 ⟨rfl, ⟨es, hes, hel, hem, heb⟩, hch⟩
 refine ⟨rfl, ⟨hch.os, hch.tape, hch.output, hch.size, fun b hb hS => hch.block b hb (fun e => hS (Or.inl e)) (fun i hi e => hS (Or.inr ⟨i, hi, e⟩))⟩, fun W hW => ?_⟩
 have hv := (hes.same15 (w' := W) (hW.2 g (Or.inl rfl)) (fun i hi => hW.2 _ (Or.inr ⟨i, by omega, heb i (by omega)⟩))).view
 rw [hem] at hv
 have hh := Zos (some ⟨g, 0, none⟩) c (Zw ds) k0 W hv (by rw [ZF]; exact hn) hat h0 (by omega)
 rw [ZF] at hh
 exact hh.mono (fun e W' ⟨e1, e2⟩ => ⟨e1, by rw [e2]; exact Below.refl _ _⟩)
theorem ZnF (cap : Nat) (k : Int) (w : World) : Calls Tryz.prog 170 #[.slice none 0 cap, .int .i64 k] w fun e w' => e = .returned (.int .i64 k) /\ w' = w := by
 go_enter Tryz.func170, Tryz.ntmps170
 go_wp2
 refine wp_loop_rounds 1 ?_
 rw [rounds_succ]
 go_wp2
 go_ret
 exact ⟨rfl, rfl⟩
theorem ZnG (cap : Nat) (k : Int) (w : World) : Calls Tryz.prog 171 #[.slice none 0 cap, .int .i64 k] w fun e w' => e = .returned (.int .i64 k) /\ w' = w := by
 go_enter Tryz.func171, Tryz.ntmps171
 go_wp2
 refine wp_loop_rounds 1 ?_
 rw [rounds_succ]
 go_wp2
 go_ret
 exact ⟨rfl, rfl⟩
theorem ZkY (cap : Nat) (w : World) : Ow 170 171 (fun _ => False) w (.slice none 0 cap) 0 :=
 ⟨fun _ h => h.elim, fun w' _ k0 _ _ => (ZnF cap k0 w').mono (by
  rintro e w2 ⟨rfl, rfl⟩
  exact ⟨by simp, Cgd.refl _ _, fun W _ => (ZnG cap k0 W).mono (by rintro e W' ⟨rfl, rfl⟩; exact ⟨by simp, Below.refl _ _⟩)⟩)⟩
def FtL (gl n : Nat) (V : Nat -> Value) (b : Nat) : Prop := b = gl \/ ∃ i, i < n /\ (V i).ownBlock = some b
theorem Zmu {base : Nat} {w w' : World} {g n : Nat} {V : Nat -> Value} {X : Nat -> List Int} {lo : Nat} (h : NM base w g n V X lo) (k : Sta (FtL g n V) w w') : NM base w' g n V X lo :=
 h.same k.1 (k.2 g (Or.inl rfl)) (fun i hi q e => k.2 q (Or.inr ⟨i, hi, e⟩))
theorem Zmv {base : Nat} {w : World} {g n : Nat} {V : Nat -> Value} {X : Nat -> List Int} {lo : Nat} (h : NM base w g n V X lo) (b : Nat) (hb : FtL g n V b) : base <= b /\ b < w.heap.size := by
 have h1 := h.ge
 have h2 := h.out
 rcases hb with rfl | ⟨i, hi, e⟩
 · exact ⟨h.ge, h.blk.lt⟩
 · have := Zar (h.own i hi) e
   omega
theorem Zmw {base : Nat} {w : World} {g n : Nat} {V : Nat -> Value} {X : Nat -> List Int} {lo : Nat} (cap : Nat) (h : NM base w g n V X lo) (hn : n <= 61) (hx : ∀ i, i < n -> (X i).length <= 1000) :
 Ow 231 232 (FtL g n V) w (.slice (some ⟨g, 0, none⟩) n cap) (tot (fun j => (X j).length) n) := by
 refine ⟨fun b hb => (Zmv h b hb).2, fun w' hs k0 h0 h1 => ?_⟩
 refine (ZoL base lo g n cap V X k0 w' (Zmu h hs) hn hx h0 (by omega)).mono ?_
 rintro e w2 ⟨rfl, hm, hch⟩
 refine ⟨rfl, ⟨hch.os, hch.tape, hch.output, hch.size, fun b hb hS => hch.block b hb (fun e => hS (Or.inl e)) (fun i hi e => hS (Or.inr ⟨i, hi, e⟩))⟩, fun W hW => ?_⟩
 have hm' := Zmu hm hW
 exact (ZoM g n cap X k0 W (fun i hi => by
  obtain ⟨a, c, e, hv⟩ := Zcn (hm'.own i hi)
  have hc := hm'.blk.cell hi
  rw [e, ZnE] at hc
  exact ⟨a, c, hc, hv⟩) hn hx h0 (by omega)).mono (fun e W' ⟨e1, e2⟩ => ⟨e1, by rw [e2]; exact Below.refl _ _⟩)
theorem ZnH (cap : Nat) (k : Int) (w : World) : Calls Tryz.prog 231 #[.slice none 0 cap, .int .i64 k] w fun e w' => e = .returned (.int .i64 k) /\ w' = w := by
 go_enter Tryz.func231, Tryz.ntmps231
 go_wp2
 refine wp_loop_rounds 1 ?_
 rw [rounds_succ]
 go_wp2
 go_ret
 exact ⟨rfl, rfl⟩
theorem ZnI (cap : Nat) (k : Int) (w : World) : Calls Tryz.prog 232 #[.slice none 0 cap, .int .i64 k] w fun e w' => e = .returned (.int .i64 k) /\ w' = w := by
 go_enter Tryz.func232, Tryz.ntmps232
 go_wp2
 refine wp_loop_rounds 1 ?_
 rw [rounds_succ]
 go_wp2
 go_ret
 exact ⟨rfl, rfl⟩
theorem ZkZ (cap : Nat) (w : World) : Ow 231 232 (fun _ => False) w (.slice none 0 cap) 0 :=
 ⟨fun _ h => h.elim, fun w' _ k0 _ _ => (ZnH cap k0 w').mono (by
  rintro e w2 ⟨rfl, rfl⟩
  exact ⟨by simp, Cgd.refl _ _, fun W _ => (ZnI cap k0 W).mono (by rintro e W' ⟨rfl, rfl⟩; exact ⟨by simp, Below.refl _ _⟩)⟩)⟩
def ZeX (ls : List (List Int)) : Nat := tot (fun j => (cn ls j).length) ls.length
structure OwW (o : Bool) (S : Nat -> Prop) (w : World) (vm vl : Value) (ms : List Mk) (ls : List (List Int)) : Prop where
 bnd : ∀ b, S b -> b < w.heap.size
 rows : o = true -> ∃ (F G : Nat -> Prop), Ow 170 171 F w vm (Zap ms) /\ Ow 231 232 G w vl (ZeX ls) /\ (∀ b, F b -> S b) /\ (∀ b, G b -> S b) /\ (∀ b, F b -> ¬ G b) /\ Zap ms + ZeX ls <= 100000
 view : ∃ am cm al cl, vm = .slice am ms.length cm /\ vl = .slice al ls.length cl /\ ms.length <= cm /\ ls.length <= cl /\ ∀ w', Sta S w w' -> ZA w' am ms /\ ZW w' al ls
theorem OwW.sm {o : Bool} {S : Nat -> Prop} {w w' : World} {vm vl : Value} {ms : List Mk} {ls : List (List Int)} (h : OwW o S w vm vl ms ls) (k : Sta S w w') : OwW o S w' vm vl ms ls := by
 obtain ⟨am, cm, al, cl, e1, e2, c1, c2, hv⟩ := h.view
 exact ⟨fun b hb => Nat.lt_of_lt_of_le (h.bnd b hb) k.1, fun ho => by obtain ⟨F, G, h1, h2, h3, h4, h5, h6⟩ := h.rows ho; exact ⟨F, G, h1.sm (k.mono h3), h2.sm (k.mono h4), h3, h4, h5, h6⟩, ⟨am, cm, al, cl, e1, e2, c1, c2, fun w2 k2 => hv w2 (k.trans k2)⟩⟩
theorem OwW.next {o : Bool} {S : Nat -> Prop} {w w' : World} {vm vl : Value} {ms : List Mk} {ls : List (List Int)} (h : OwW o S w vm vl ms ls) (L : Below w.heap.size w w') : OwW o S w' vm vl ms ls := h.sm (Sta.below L h.bnd)
theorem OwW.zero (o : Bool) (w : World) : OwW o (fun _ => False) w (.slice none 0 0) (.slice none 0 0) [] [] :=
 ⟨fun _ h => h.elim, fun _ => ⟨fun _ => False, fun _ => False, ZkY 0 w, ZkZ 0 w, fun _ h => h, fun _ h => h, fun _ h => h.elim, by decide⟩, ⟨none, 0, none, 0, rfl, rfl, Nat.le_refl _, Nat.le_refl _, fun _ _ => ⟨Or.inl rfl, Or.inl rfl⟩⟩⟩
theorem Zez.ow {base : Nat} {w : World} {g gl : Nat} {ms : List Mk} {ls : List (List Int)} (h : Zez base w g gl ms (cn ls) ls.length) (hm : Zk ms = true) (hml : ms.length = ls.length) (hl : ls.length <= 61) (hx : ∀ i, (cn ls i).length <= 1000) :
 OwW true (Btw base w.heap.size) w (.slice (some ⟨g, 0, none⟩) ms.length ms.length) (.slice (some ⟨gl, 0, none⟩) ls.length ls.length) ms ls := by
 obtain ⟨G, cc, V, lo, hi, ho, hn, h1, h2⟩ := h
 have h60 := ZM hm
 have hmo := ho.own (by unfold maxLen; omega)
 have hdl := Zco ms G cc
 have hdm := ZdW ms G cc
 have hat : ∀ x ∈ ms, x.2.length <= 4 := fun x hx' => by
  obtain ⟨i, hi', rfl⟩ := List.getElem_of_mem hx'
  have := ((ZK _ _).1 (Z9 hm hi')).2.2.1
  have h4 := (ZbS this).2
  simpa [mat, List.getD, hi'] using h4
 have o1 := Zmt hmo (by omega) (by rw [hdm]; exact hat)
 rw [hdl, hdm] at o1
 have o2 := Zmw ls.length hn hl (fun i _ => hx i)
 have hb1 : ∀ b, FtM g (ZeY ms G cc) b -> base <= b /\ b < w.heap.size := fun b hb => Zh7 hmo b hb
 have hb2 : ∀ b, FtL gl ls.length V b -> base <= b /\ b < w.heap.size := fun b hb => Zmv hn b hb
 have htm := ZgZ ms 60 4 h60 hat
 have htl : tot (fun j => (cn ls j).length) ls.length <= 61000 := by
  have : ∀ k, tot (fun j => (cn ls j).length) k <= 1000 * k := by
   intro k
   induction k with
   | zero => simp [tot]
   | succ k ih => have := hx k; simp only [tot]; omega
  have := this ls.length
  omega
 refine ⟨fun b hb => hb.2, fun _ => ⟨_, _, o1, o2, fun b hb => hb1 b hb, fun b hb => hb2 b hb, fun b hb hb' => ?_, by unfold ZeX; omega⟩, ⟨_, _, _, _, rfl, rfl, Nat.le_refl _, Nat.le_refl _, fun w' hs => ⟨?_, ?_⟩⟩⟩
 · have hgt := ho.out
   have hgo := hn.out
   rcases hb with rfl | ⟨i, hi', rfl⟩
   · rcases hb' with e | ⟨j, hj, e⟩
     · exact h1 e
     · have := Zar (hn.own j hj) e
       have := ho.out
       have := ho.within 0 (by omega)
       omega
   · rw [hdl] at hi'
     rw [Zdu hi'] at hb'
     have hw := ho.within i hi'
     rcases hb' with e | ⟨j, hj, e⟩
     · have e' : G i = gl := e
       omega
     · have := Zar (hn.own j hj) e
       have e' : hi <= G i := this.1
       omega
 · have := (Zj7 hmo (hs.mono hb1)).view
   rw [hdm] at this
   exact this
 · have := (Zmu hn (hs.mono hb2)).view
   have e : (List.range ls.length).map (cn ls) = ls := by
    refine List.ext_getElem (by simp) (fun i h1 h2 => ?_)
    simp [cn, List.getD, h2]
   rw [e] at this
   exact this
def HdW (S : Nat -> Prop) (w : World) (vm vl : Value) (ms : List Mk) (ls : List (List Int)) (k : Int) : Prop :=
 ∃ F G : Nat -> Prop, Hd 171 F w vm k (k + Zap ms) /\ Hd 232 G w vl (k + Zap ms) (k + Zap ms + ZeX ls) /\ (∀ b, F b -> S b) /\ (∀ b, G b -> S b)
theorem HdW.sm {S : Nat -> Prop} {w w' : World} {vm vl : Value} {ms : List Mk} {ls : List (List Int)} {k : Int} (h : HdW S w vm vl ms ls k) (e : Sta S w w') : HdW S w' vm vl ms ls k := by
 obtain ⟨F, G, h1, h2, h3, h4⟩ := h
 exact ⟨F, G, h1.sm (e.mono h3), h2.sm (e.mono h4), h3, h4⟩
def wsz (x : Wb) : Nat := Zap x.1 + ZeX x.2
def FtW (g n : Nat) (S : Nat -> Nat -> Prop) (b : Nat) : Prop := b = g \/ ∃ i, i < n /\ S i b
structure ZeB (o : Bool) (g n : Nat) (S : Nat -> Nat -> Prop) (w : World) (vm vl : Nat -> Value) (T : Nat -> Wb) : Prop where
 lt : g < w.heap.size
 cells : ∀ i, i < n -> w.cell? ⟨g, i * 2, none⟩ = some (vm i) /\ w.cell? ⟨g, i * 2 + 1, none⟩ = some (vl i)
 webs : ∀ i, i < n -> OwW o (S i) w (vm i) (vl i) (T i).1 (T i).2
 off : ∀ i, i < n -> ¬ S i g
 apart : ∀ i j, i < n -> j < n -> i ≠ j -> ∀ b, S i b -> ¬ S j b
 four : n <= 4
theorem ZeB.sm {o : Bool} {g n : Nat} {S : Nat -> Nat -> Prop} {w w' : World} {vm vl : Nat -> Value} {T : Nat -> Wb} (h : ZeB o g n S w vm vl T) (k : Sta (FtW g n S) w w') : ZeB o g n S w' vm vl T :=
 ⟨Nat.lt_of_lt_of_le h.lt k.1, fun i hi => ⟨(k.cell (Or.inl rfl) _).trans (h.cells i hi).1, (k.cell (Or.inl rfl) _).trans (h.cells i hi).2⟩, fun i hi => (h.webs i hi).sm (k.mono (fun _ hb => Or.inr ⟨i, hi, hb⟩)), h.off, h.apart, h.four⟩
theorem ZeB.bnd {o : Bool} {g n : Nat} {S : Nat -> Nat -> Prop} {w : World} {vm vl : Nat -> Value} {T : Nat -> Wb} (h : ZeB o g n S w vm vl T) (b : Nat) (hb : FtW g n S b) : b < w.heap.size := by
 rcases hb with rfl | ⟨i, hi, hs⟩
 · exact h.lt
 · exact (h.webs i hi).bnd b hs
theorem ZeB.size {g n : Nat} {S : Nat -> Nat -> Prop} {w : World} {vm vl : Nat -> Value} {T : Nat -> Wb} (h : ZeB true g n S w vm vl T) (k : Nat) (hk : k <= n) : tot (fun i => wsz (T i)) k <= 100000 * k := by
 induction k with
 | zero => simp [tot]
 | succ k ih =>
   have h1 := ih (by omega)
   obtain ⟨F, G, -, -, -, -, -, h6⟩ := (h.webs k (by omega)).rows rfl
   simp only [tot, wsz] at h1 ⊢
   omega
theorem Zh8 (f : Nat -> Nat) {a b : Nat} (h : a <= b) : tot f a <= tot f b := by
 induction b with
 | zero => rw [show a = 0 by omega]; exact Nat.le_refl _
 | succ b ih =>
   rcases Nat.lt_or_ge a (b + 1) with e | e
   · exact Nat.le_trans (ih (by omega)) (Nat.le_add_right _ _)
   · rw [show a = b + 1 by omega]; exact Nat.le_refl _
structure Zk0 (g n : Nat) (S : Nat -> Nat -> Prop) (w wr : World) (vm vl : Nat -> Value) (T : Nat -> Wb) (k0 : Int) (k : Nat) : Prop where
 done : ∀ j, j < k -> HdW (S j) wr (vm j) (vl j) (T j).1 (T j).2 (k0 + (tot (fun i => wsz (T i)) j : Nat))
 rest : ∀ j, k <= j -> j < n -> OwW true (S j) wr (vm j) (vl j) (T j).1 (T j).2
 chg : Cgd (fun b => ∃ i, i < n /\ S i b) w wr
theorem Zk0.step {g n : Nat} {S : Nat -> Nat -> Prop} {w wr w2 w3 : World} {vm vl : Nat -> Value} {T : Nat -> Wb} {k0 : Int} {k : Nat} (I : Zk0 g n S w wr vm vl T k0 k) (hb : ∀ i, i < n -> ∀ b, S i b -> b < w.heap.size) (hap : ∀ i j, i < n -> j < n -> i ≠ j -> ∀ b, S i b -> ¬ S j b) (hk : k < n) {F G : Nat -> Prop}
 (hF : ∀ b, F b -> S k b) (hG : ∀ b, G b -> S k b) (hFG : ∀ b, F b -> ¬ G b) (c1 : Cgd F wr w2) (c2 : Cgd G w2 w3)
 (d1 : Hd 171 F w2 (vm k) (k0 + (tot (fun i => wsz (T i)) k : Nat)) (k0 + (tot (fun i => wsz (T i)) k : Nat) + Zap (T k).1))
 (d2 : Hd 232 G w3 (vl k) (k0 + (tot (fun i => wsz (T i)) k : Nat) + Zap (T k).1) (k0 + (tot (fun i => wsz (T i)) k : Nat) + Zap (T k).1 + ZeX (T k).2)) :
 Zk0 g n S w w3 vm vl T k0 (k + 1) := by
 have hs0 := I.chg.2.2.2.1
 have hs1 := c1.2.2.2.1
 have cc : Cgd (S k) wr w3 := (c1.mono hF).trans (c2.mono hG)
 have keep : ∀ j, j < n -> j ≠ k -> Sta (S j) wr w3 := fun j hj hne => cc.sm (fun b hbj => Nat.lt_of_lt_of_le (hb j hj b hbj) hs0) (fun b hbj => hap j k hj hk hne b hbj)
 refine ⟨fun j hj => ?_, fun j hj hjn => (I.rest j (by omega) hjn).sm (keep j hjn (by omega)), I.chg.trans (cc.mono (fun b hb => ⟨k, hk, hb⟩))⟩
 rcases Nat.lt_or_ge j k with e | e
 · exact (I.done j e).sm (keep j (by omega) (by omega))
 · obtain rfl : j = k := by omega
   exact ⟨F, G, d1.sm (c2.sm (fun b hbF => Nat.lt_of_lt_of_le (hb j hk b (hF b hbF)) (Nat.le_trans hs0 hs1)) (fun b hbF => hFG b hbF)), d2, hF, hG⟩
theorem ZnJ (g n cap : Nat) (S : Nat -> Nat -> Prop) (vm vl : Nat -> Value) (T : Nat -> Wb) (k0 : Int) (w : World) (h : ZeB true g n S w vm vl T) (h0 : 1 <= k0) (h1 : k0 + (tot (fun i => wsz (T i)) n : Nat) <= 1000000) :
 Calls Tryz.prog 165 #[.slice (some ⟨g, 0, none⟩) n cap, .int .i64 k0] w fun e w' => e = .returned (.int .i64 (k0 + (tot (fun i => wsz (T i)) n : Nat))) /\ Zk0 g n S w w' vm vl T k0 n := by
 have HT := Za h
 have HB : Hid (∀ i, i < n -> ∀ b, S i b -> b < w.heap.size) := fun i hi b hb => (h.webs i hi).bnd b hb
 have HKE : Hid (∀ k : Nat, tot (fun j => wsz (T j)) (k + 1) = tot (fun j => wsz (T j)) k + (Zap (T k).1 + ZeX (T k).2)) := fun k => rfl
 have HLE : Hid (∀ k, k <= n -> k0 + (tot (fun j => wsz (T j)) k : Nat) <= 1000000) := fun k hk => by have := Zh8 (fun j => wsz (T j)) hk; omega
 clear h h1
 go_enter Tryz.func165, Tryz.ntmps165
 go_wp2
 go_loopw [1, 5] (fun kk i wr => ∃ (k : Nat), k <= n /\ i = .int .i64 k /\ kk = .int .i64 (k0 + (tot (fun j => wsz (T j)) k : Nat)) /\ Zk0 g n S w wr vm vl T k0 k) (fun _ i _ => n - (intOf i).toNat)
 case atStart => exact ⟨0, Nat.zero_le _, rfl, by simp [tot], fun j hj => absurd hj (by omega), fun j _ hj => HT.out.webs j hj, Cgd.refl _ _⟩
 case round =>
  obtain ⟨k, hk, rfl, rfl, hI⟩ := hrel
  by_cases hlt : k < n
  · have h4 := HT.out.four
    have hle := HLE.out (k + 1) (by omega)
    have hke := HKE.out k
    obtain ⟨F, G, o1, o2, hF, hG, hFG, -⟩ := (hI.rest k (Nat.le_refl _) hlt).rows rfl
    have hgs : wr.heap[g]? = w.heap[g]? := hI.chg.2.2.2.2 g HT.out.lt (fun ⟨i, hi, hb⟩ => HT.out.off i hi hb)
    have c0r := (World.cell?_of_block (a := ⟨g, k * 2, none⟩) hgs).trans (HT.out.cells k hlt).1
    have c1w := (HT.out.cells k hlt).2
    have HGS := Za (And.intro hgs c1w)
    have HM := Za (o1.act wr (Sta.refl _ _) (k0 + (tot (fun j => wsz (T j)) k : Nat)) (by omega) (by omega))
    have HL := Za o2
    have HF := Za (And.intro hF (And.intro hG hFG))
    have HI := Za hI
    clear hgs c1w o1 o2 hF hG hFG hI
    obtain ⟨K, hK⟩ : ∃ K : Int, k0 + (tot (fun j => wsz (T j)) k : Nat) = K := ⟨_, rfl⟩
    have hK1 : 1 <= K := by omega
    have hK2 : K + Zap (T k).1 + ZeX (T k).2 <= 1000000 := by omega
    rw [hK] at HM ⊢
    have HKK := Za (And.intro hK (And.intro hle hke))
    clear hK hle hke
    obtain ⟨nm, hnm⟩ : ∃ nm : Nat, Zap (T k).1 = nm := ⟨_, rfl⟩
    obtain ⟨nl, hnl⟩ : ∃ nl : Nat, ZeX (T k).2 = nl := ⟨_, rfl⟩
    rw [hnm, hnl] at hK2
    rw [hnm] at HM
    rw [hnl] at HL
    have HNN := Za (And.intro hnm hnl)
    clear hnm hnl
    obtain ⟨a, ha⟩ : ∃ a, vm k = a := ⟨_, rfl⟩
    obtain ⟨b, hb⟩ : ∃ b, vl k = b := ⟨_, rfl⟩
    rw [ha] at HM c0r
    rw [hb] at HL
    have HAB := Za (And.intro ha hb)
    clear ha hb
    go_wp2_with fail
    refine HM.out.mono ?_
    rintro e w2 ⟨rfl, c1, d1⟩
    have hg2 : w2.heap[g]? = wr.heap[g]? := c1.2.2.2.2 g (by have := HI.out.chg.2.2.2.1; have := HT.out.lt; omega) (fun hb => HT.out.off k hlt (HF.out.1 g hb))
    have c1r := (World.cell?_of_block (a := ⟨g, k * 2 + 1, none⟩) (hg2.trans HGS.out.1)).trans HGS.out.2
    rw [HAB.out.2] at c1r
    have hso : Sta G wr w2 := c1.sm (fun b hb => by have := HB.out k hlt b (HF.out.2.1 b hb); have := HI.out.chg.2.2.2.1; omega) (fun b hb hb' => HF.out.2.2 b hb' hb)
    have HL2 := Za (HL.out.act w2 hso (K + nm) (by omega) (by omega))
    have HC := Za (And.intro c1 d1)
    clear c1 d1 hg2 hso c0r HM HL
    go_wp2_with fail
    refine HL2.out.mono ?_
    rintro e w3 ⟨rfl, c2, d2⟩
    have HW : Hid (Zk0 g n S w w3 vm vl T k0 (k + 1)) := by
     obtain ⟨e1, e2⟩ := HNN.out
     obtain ⟨a1, a2⟩ := HAB.out
     refine HI.out.step HB.out HT.out.apart hlt HF.out.1 HF.out.2.1 HF.out.2.2 HC.out.1 c2 ?_ ?_
     · rw [HKK.out.1, e1, a1]; exact HC.out.2
     · rw [HKK.out.1, e1, e2, a2]; exact d2
    clear c2 d2 c1r HL2
    go_wp2_with fail
    go_roundw
    case rel => exact ⟨k + 1, by omega, by go_num, by rw [HKK.out.2.2, <- HKK.out.1, HNN.out.1, HNN.out.2]; congr 1; omega, HW.out⟩
    case measure => simp [intOf]; omega
  · obtain rfl : k = n := by omega
    have HI := Za hI
    clear hI
    go_wp2
    go_ret
    exact ⟨rfl, HI.out⟩
theorem ZnK (g n cap : Nat) (S : Nat -> Nat -> Prop) (vm vl : Nat -> Value) (T : Nat -> Wb) (k0 : Int) (w : World) (h4 : n <= 4) (hg : g < w.heap.size) (hc : ∀ i, i < n -> w.cell? ⟨g, i * 2, none⟩ = some (vm i) /\ w.cell? ⟨g, i * 2 + 1, none⟩ = some (vl i))
 (hd : ∀ j, j < n -> HdW (S j) w (vm j) (vl j) (T j).1 (T j).2 (k0 + (tot (fun i => wsz (T i)) j : Nat))) (hb : ∀ i, i < n -> ∀ b, S i b -> b < w.heap.size) (h0 : 1 <= k0) (h1 : k0 + (tot (fun i => wsz (T i)) n : Nat) <= 1000000) :
 Calls Tryz.prog 166 #[.slice (some ⟨g, 0, none⟩) n cap, .int .i64 k0] w fun e w' => e = .returned (.int .i64 (k0 + (tot (fun i => wsz (T i)) n : Nat))) /\ Below w.heap.size w w' := by
 have HC := Za hc
 have HD := Za hd
 have HB := Za hb
 have HKE : Hid (∀ k : Nat, tot (fun j => wsz (T j)) (k + 1) = tot (fun j => wsz (T j)) k + (Zap (T k).1 + ZeX (T k).2)) := fun k => rfl
 have HLE : Hid (∀ k, k <= n -> k0 + (tot (fun j => wsz (T j)) k : Nat) <= 1000000) := fun k hk => by have := Zh8 (fun j => wsz (T j)) hk; omega
 clear hc hd hb h1
 go_enter Tryz.func166, Tryz.ntmps166
 go_wp2
 go_loopw [1, 5] (fun kk i wr => ∃ (k : Nat), k <= n /\ i = .int .i64 k /\ kk = .int .i64 (k0 + (tot (fun j => wsz (T j)) k : Nat)) /\ Below w.heap.size w wr) (fun _ i _ => n - (intOf i).toNat)
 case atStart => exact ⟨0, Nat.zero_le _, rfl, by simp [tot], Below.refl _ _⟩
 case round =>
  obtain ⟨k, hk, rfl, rfl, hI⟩ := hrel
  have HI := Za hI
  by_cases hlt : k < n
  · have hle := HLE.out (k + 1) (by omega)
    have hke := HKE.out k
    have hst : Sta (S k) w wr := Sta.below hI (HB.out k hlt)
    obtain ⟨F, G, d1, d2, hF, hG⟩ := (HD.out k hlt).sm hst
    have c0r := (hI.cell (p := ⟨g, k * 2, none⟩) hg).trans (HC.out k hlt).1
    have c1w := (HC.out k hlt).2
    have HM := Za (d1 wr (Sta.refl _ _))
    have HL := Za d2
    have HF := Za (And.intro hF hG)
    have HC1 := Za c1w
    clear hI hst d1 d2 hF hG c1w
    obtain ⟨K, hK⟩ : ∃ K : Int, k0 + (tot (fun j => wsz (T j)) k : Nat) = K := ⟨_, rfl⟩
    have hK1 : 1 <= K := by omega
    rw [hK] at HM HL ⊢
    have hK2 : K + Zap (T k).1 + ZeX (T k).2 <= 1000000 := by omega
    have HKK := Za (And.intro hK (And.intro hle hke))
    clear hK hle hke
    obtain ⟨nm, hnm⟩ : ∃ nm : Nat, Zap (T k).1 = nm := ⟨_, rfl⟩
    obtain ⟨nl, hnl⟩ : ∃ nl : Nat, ZeX (T k).2 = nl := ⟨_, rfl⟩
    rw [hnm, hnl] at hK2
    rw [hnm] at HM
    rw [hnm, hnl] at HL
    have HNN := Za (And.intro hnm hnl)
    clear hnm hnl
    obtain ⟨a, ha⟩ : ∃ a, vm k = a := ⟨_, rfl⟩
    obtain ⟨b, hb⟩ : ∃ b, vl k = b := ⟨_, rfl⟩
    rw [ha] at HM c0r
    rw [hb] at HL HC1
    clear ha hb
    go_wp2_with fail
    refine HM.out.mono ?_
    rintro e w2 ⟨rfl, L2⟩
    have hL2 := HI.out.trans (L2.mono HI.out.size)
    have c1r := (hL2.cell (p := ⟨g, k * 2 + 1, none⟩) hg).trans HC1.out
    have hso : Sta G wr w2 := Sta.below L2 (fun b hb => by have := HB.out k hlt b (HF.out.2 b hb); have := HI.out.size; omega)
    have HL2 := Za (HL.out w2 hso)
    have HB2 := Za hL2
    clear L2 hL2 hso c0r HM HL
    go_wp2_with fail
    refine HL2.out.mono ?_
    rintro e w3 ⟨rfl, L3⟩
    have HB3 := Za (HB2.out.trans (L3.mono HB2.out.size))
    clear L3 c1r HL2
    go_wp2_with fail
    go_roundw
    case rel => exact ⟨k + 1, by omega, by go_num, by rw [HKK.out.2.2, <- HKK.out.1, HNN.out.1, HNN.out.2]; congr 1; omega, HB3.out⟩
    case measure => simp [intOf]; omega
  · obtain rfl : k = n := by omega
    clear hI
    go_wp2
    go_ret
    exact ⟨rfl, HI.out⟩
theorem ZnL {g n : Nat} (cap : Nat) {S : Nat -> Nat -> Prop} {w : World} {vm vl : Nat -> Value} {T : Nat -> Wb} (h : ZeB true g n S w vm vl T) :
 Ow 165 166 (FtW g n S) w (.slice (some ⟨g, 0, none⟩) n cap) (tot (fun i => wsz (T i)) n) := by
 refine ⟨h.bnd, fun w' hs k0 h0 h1 => ?_⟩
 have h' := h.sm hs
 refine (ZnJ g n cap S vm vl T k0 w' h' h0 h1).mono ?_
 rintro e w2 ⟨rfl, hI⟩
 refine ⟨rfl, hI.chg.mono (fun b hb => Or.inr hb), fun W hW => ?_⟩
 have hgs : w2.heap[g]? = w'.heap[g]? := hI.chg.2.2.2.2 g h'.lt (fun ⟨i, hi, hb⟩ => h'.off i hi hb)
 have hgW : W.heap[g]? = w'.heap[g]? := (hW.2 g (Or.inl rfl)).trans hgs
 have hsz : w'.heap.size <= W.heap.size := Nat.le_trans hI.chg.2.2.2.1 hW.1
 exact ZnK g n cap S vm vl T k0 W h'.four (Nat.lt_of_lt_of_le h'.lt hsz) (fun i hi => ⟨(World.cell?_of_block (a := ⟨g, i * 2, none⟩) hgW).trans (h'.cells i hi).1, (World.cell?_of_block (a := ⟨g, i * 2 + 1, none⟩) hgW).trans (h'.cells i hi).2⟩)
  (fun j hj => (hI.done j hj).sm (hW.mono (fun b hb => Or.inr ⟨j, hj, hb⟩))) (fun i hi b hb => Nat.lt_of_lt_of_le ((h'.webs i hi).bnd b hb) hsz) h0 h1
theorem Zmx (cap : Nat) (k : Int) (w : World) : Calls Tryz.prog 165 #[.slice none 0 cap, .int .i64 k] w fun e w' => e = .returned (.int .i64 k) /\ w' = w := by
 go_enter Tryz.func165, Tryz.ntmps165
 go_wp2
 refine wp_loop_rounds 1 ?_
 rw [rounds_succ]
 go_wp2
 go_ret
 exact ⟨rfl, rfl⟩
theorem Zmy (cap : Nat) (k : Int) (w : World) : Calls Tryz.prog 166 #[.slice none 0 cap, .int .i64 k] w fun e w' => e = .returned (.int .i64 k) /\ w' = w := by
 go_enter Tryz.func166, Tryz.ntmps166
 go_wp2
 refine wp_loop_rounds 1 ?_
 rw [rounds_succ]
 go_wp2
 go_ret
 exact ⟨rfl, rfl⟩
theorem Zmz (cap : Nat) (w : World) : Ow 165 166 (fun _ => False) w (.slice none 0 cap) 0 :=
 ⟨fun _ h => h.elim, fun w' _ k0 h0 _ => (Zmx cap k0 w').mono (by
  rintro e w2 ⟨rfl, rfl⟩
  exact ⟨by simp, Cgd.refl _ _, fun W _ => (Zmy cap k0 W).mono (by rintro e W' ⟨rfl, rfl⟩; exact ⟨by simp, Below.refl _ _⟩)⟩)⟩
def Za5 (vm vl : Nat -> Value) (j : Nat) : Value := if j % 2 = 0 then vm (j / 2) else vl (j / 2)
theorem FB.madeW (w : World) (n : Nat) (t : TypeId) : FB (w.alloc (.cells (madeCells #[.slice none 0 0, .slice none 0 0] (n * 2)) t)) w.heap.size (n * 2) (Za5 (fun _ => .slice none 0 0) (fun _ => .slice none 0 0)) t := by
 have e : madeCells #[.slice none 0 0, .slice none 0 0] (n * 2) = ((List.range (n * 2)).map (Za5 (fun _ => .slice none 0 0) (fun _ => .slice none 0 0))).toArray := by
  apply Array.ext
  · simp [size_madeCells]
  · intro i h1 h2
    have h3 : i % 2 = 0 \/ i % 2 = 1 := Nat.mod_two_eq_zero_or_one i
    rcases h3 with h3 | h3 <;> simp [madeCells, Za5, h3]
 unfold FB
 rw [e]
 show (w.heap.push _)[w.heap.size]? = _
 simp
structure Zcs (o : Bool) (g n : Nat) (S : Nat -> Nat -> Prop) (w : World) (vm vl : Nat -> Value) (T : Nat -> Wb) : Prop where
 blk : FB w g (n * 2) (Za5 vm vl) 47
 webs : ∀ i, i < n -> OwW o (S i) w (vm i) (vl i) (T i).1 (T i).2
 off : ∀ i, i < n -> ¬ S i g
 apart : ∀ i j, i < n -> j < n -> i ≠ j -> ∀ b, S i b -> ¬ S j b
 four : n <= 4
theorem Zcs.cells {o : Bool} {g n : Nat} {S : Nat -> Nat -> Prop} {w : World} {vm vl : Nat -> Value} {T : Nat -> Wb} (h : Zcs o g n S w vm vl T) (i : Nat) (hi : i < n) : w.cell? ⟨g, i * 2, none⟩ = some (vm i) /\ w.cell? ⟨g, i * 2 + 1, none⟩ = some (vl i) := by
 have e0 := h.blk.cell (i := i * 2) (by omega)
 have e1 := h.blk.cell (i := i * 2 + 1) (by omega)
 have a0 : Za5 vm vl (i * 2) = vm i := by unfold Za5; rw [if_pos (by omega), show i * 2 / 2 = i by omega]
 have a1 : Za5 vm vl (i * 2 + 1) = vl i := by unfold Za5; rw [if_neg (by omega), show (i * 2 + 1) / 2 = i by omega]
 rw [a0] at e0
 rw [a1] at e1
 exact ⟨e0, e1⟩
theorem Zcs.ts {o : Bool} {g n : Nat} {S : Nat -> Nat -> Prop} {w : World} {vm vl : Nat -> Value} {T : Nat -> Wb} (h : Zcs o g n S w vm vl T) : ZeB o g n S w vm vl T := ⟨h.blk.lt, h.cells, h.webs, h.off, h.apart, h.four⟩
theorem Zcs.sm {o : Bool} {g n : Nat} {S : Nat -> Nat -> Prop} {w w' : World} {vm vl : Nat -> Value} {T : Nat -> Wb} (h : Zcs o g n S w vm vl T) (k : Sta (FtW g n S) w w') : Zcs o g n S w' vm vl T :=
 ⟨h.blk.same (k.2 g (Or.inl rfl)), fun i hi => (h.webs i hi).sm (k.mono (fun _ hb => Or.inr ⟨i, hi, hb⟩)), h.off, h.apart, h.four⟩
theorem Zcs.next {o : Bool} {g n : Nat} {S : Nat -> Nat -> Prop} {w w' : World} {vm vl : Nat -> Value} {T : Nat -> Wb} (h : Zcs o g n S w vm vl T) (L : Below w.heap.size w w') : Zcs o g n S w' vm vl T := h.sm (Sta.below L h.ts.bnd)
theorem Zcs.start {o : Bool} {g n : Nat} {w : World} (h : FB w g (n * 2) (Za5 (fun _ => .slice none 0 0) (fun _ => .slice none 0 0)) 47) (hn : n <= 4) : Zcs o g n (fun _ _ => False) w (fun _ => .slice none 0 0) (fun _ => .slice none 0 0) (fun _ => ([], [])) :=
 ⟨h, fun _ _ => OwW.zero o w, fun _ _ h => h, fun _ _ _ _ _ _ h => h.elim, hn⟩
def Zb2 (f : Nat -> Nat -> Prop) (m : Nat) (v : Nat -> Prop) (i : Nat) : Nat -> Prop := if i = m then v else f i
def updW (f : Nat -> Wb) (m : Nat) (v : Wb) (i : Nat) : Wb := if i = m then v else f i
theorem Zcs.put {o : Bool} {g n : Nat} {S : Nat -> Nat -> Prop} {w w' : World} {vm vl : Nat -> Value} {T : Nat -> Wb} (h : Zcs o g n S w vm vl T) (L : Below w.heap.size w w') {k : Nat} {F : Nat -> Prop} {xm xl : Value} {t : Wb} (hw : OwW o F w' xm xl t.1 t.2) (hF : ∀ b, F b -> w.heap.size <= b) :
 Zcs o g n (Zb2 S k F) ((w'.setCell ⟨g, k * 2, none⟩ xm).setCell ⟨g, k * 2 + 1, none⟩ xl) (ZaX vm k xm) (ZaX vl k xl) (updW T k t) := by
 have hg := h.blk.lt
 have h' := h.next L
 have far : ∀ b, b ≠ g -> ((w'.setCell ⟨g, k * 2, none⟩ xm).setCell ⟨g, k * 2 + 1, none⟩ xl).heap[b]? = w'.heap[b]? := fun b hb => (Below.heap_setCell _ ⟨g, k * 2 + 1, none⟩ xl b (fun e => hb e)).trans (Below.heap_setCell _ ⟨g, k * 2, none⟩ xm b (fun e => hb e))
 have sz : w'.heap.size <= ((w'.setCell ⟨g, k * 2, none⟩ xm).setCell ⟨g, k * 2 + 1, none⟩ xl).heap.size := by rw [Zc, Zc]; exact Nat.le_refl _
 refine ⟨((h'.blk.set (k * 2) xm).set (k * 2 + 1) xl).congr (fun j hj => ?_), fun i hi => ?_, fun i hi => ?_, fun i j hi hj hne b => ?_, h.four⟩
 · unfold ZaX Za5
   by_cases e1 : j = k * 2 + 1
   · rw [if_pos e1, if_neg (by omega)]
     show xl = if j / 2 = k then xl else vl (j / 2)
     rw [if_pos (by omega)]
   · rw [if_neg e1]
     by_cases e0 : j = k * 2
     · rw [if_pos e0, if_pos (by omega)]
       show xm = if j / 2 = k then xm else vm (j / 2)
       rw [if_pos (by omega)]
     · rw [if_neg e0]
       by_cases e2 : j % 2 = 0
       · rw [if_pos e2, if_pos e2]
         show vm (j / 2) = if j / 2 = k then xm else vm (j / 2)
         rw [if_neg (by omega)]
       · rw [if_neg e2, if_neg e2]
         show vl (j / 2) = if j / 2 = k then xl else vl (j / 2)
         rw [if_neg (by omega)]
 · unfold Zb2 ZaX updW
   by_cases e : i = k
   · rw [if_pos e, if_pos e, if_pos e, if_pos e]
     exact hw.sm ⟨sz, fun b hb => far b (fun eq => by have := hF b hb; omega)⟩
   · rw [if_neg e, if_neg e, if_neg e, if_neg e]
     exact (h'.webs i hi).sm ⟨sz, fun b hb => far b (fun eq => h.off i hi (eq ▸ hb))⟩
 · unfold Zb2
   by_cases e : i = k
   · rw [if_pos e]
     exact fun hb => by have := hF g hb; omega
   · rw [if_neg e]
     exact h.off i hi
 · unfold Zb2
   by_cases e : i = k
   · rw [if_pos e, if_neg (by omega)]
     exact fun hb hb' => by have := hF b hb; have := (h.webs j hj).bnd b hb'; omega
   · rw [if_neg e]
     by_cases e' : j = k
     · rw [if_pos e']
       exact fun hb hb' => by have := hF b hb'; have := (h.webs i hi).bnd b hb; omega
     · rw [if_neg e']
       exact h.apart i j hi hj hne b
theorem Zcs.as {o : Bool} {g n : Nat} {S : Nat -> Nat -> Prop} {w : World} {vm vl : Nat -> Value} {T U : Nat -> Wb} (h : Zcs o g n S w vm vl T) (e : ∀ i, i < n -> T i = U i) : Zcs o g n S w vm vl U :=
 ⟨h.blk, fun i hi => by rw [<- e i hi]; exact h.webs i hi, h.off, h.apart, h.four⟩
def ZbZ (vm vl : Nat -> Value) (n : Nat) : List Value := (List.range (n * 2)).map (Za5 vm vl)
theorem Zhc {vm vl : Nat -> Value} {n j : Nat} (h : j < n * 2) : (ZbZ vm vl n)[j]? = some (Za5 vm vl j) := by simp [ZbZ, h]
theorem Zk1 (vm vl : Nat -> Value) (n : Nat) (xm xl : Value) : ZbZ (ZaX vm n xm) (ZaX vl n xl) (n + 1) = ZbZ vm vl n ++ [xm, xl] := by
 refine List.ext_getElem (by simp [ZbZ]; omega) (fun j h1 h2 => ?_)
 have hj : j < (n + 1) * 2 := by simpa [ZbZ] using h1
 have e1 : (ZbZ (ZaX vm n xm) (ZaX vl n xl) (n + 1))[j] = Za5 (ZaX vm n xm) (ZaX vl n xl) j := by simp [ZbZ]
 rw [e1]
 unfold Za5 ZaX
 by_cases hl : j < n * 2
 · rw [List.getElem_append_left (by simpa [ZbZ] using hl)]
   simp only [ZbZ, List.getElem_map, List.getElem_range, Za5]
   have hne : ¬ (j / 2 = n) := by omega
   by_cases e : j % 2 = 0
   · rw [if_pos e, if_pos e]; simp [hne]
   · rw [if_neg e, if_neg e]; simp [hne]
 · rw [List.getElem_append_right (by simp [ZbZ]; omega)]
   have hlen : (ZbZ vm vl n).length = n * 2 := by simp [ZbZ]
   have hd : j / 2 = n := by omega
   by_cases e : j % 2 = 0
   · have : j - (ZbZ vm vl n).length = 0 := by omega
     rw [if_pos e]; simp [this, hd]
   · have : j - (ZbZ vm vl n).length = 1 := by omega
     rw [if_neg e]; simp [this, hd]
structure TsR (o : Bool) (base : Nat) (w : World) (v : Value) (ts : List Wb) (S : Nat -> Nat -> Prop) (vm vl : Nat -> Value) : Prop where
 row : w.ownsRow base 47 2 v ts.length (ZbZ vm vl ts.length)
 webs : ∀ i, i < ts.length -> OwW o (S i) w (vm i) (vl i) (Ze ts i).1 (Ze ts i).2
 off : ∀ i, i < ts.length -> ∀ g, v.ownBlock = some g -> ¬ S i g
 apart : ∀ i j, i < ts.length -> j < ts.length -> i ≠ j -> ∀ b, S i b -> ¬ S j b
 four : ts.length <= 4
 low : ∀ i b, i < ts.length -> S i b -> base <= b
theorem TsR.start (o : Bool) (base : Nat) (w : World) : TsR o base w (.slice none 0 0) [] (fun _ _ => False) (fun _ => .slice none 0 0) (fun _ => .slice none 0 0) :=
 ⟨⟨rfl, Or.inl ⟨rfl, rfl⟩⟩, fun i hi => absurd hi (by simp), fun i hi => absurd hi (by simp), fun i j hi => absurd hi (by simp), by simp, fun i b hi => absurd hi (by simp)⟩
def FtR (v : Value) (n : Nat) (S : Nat -> Nat -> Prop) (b : Nat) : Prop := v.ownBlock = some b \/ ∃ i, i < n /\ S i b
theorem Zh9 {base : Nat} {w w' : World} {e : TypeId} {size n : Nat} {v : Value} {xs : List Value} (h : w.ownsRow base e size v n xs) (k : ∀ g, v.ownBlock = some g -> w'.heap[g]? = w.heap[g]?) : w'.ownsRow base e size v n xs := by
 obtain ⟨h1, h2 | ⟨g, cap, cur, rfl, hb, hg, h3⟩⟩ := h
 · exact ⟨h1, Or.inl h2⟩
 · exact ⟨h1, Or.inr ⟨g, cap, cur, rfl, hb, (k g rfl).trans hg, h3⟩⟩
theorem TsR.sm {o : Bool} {base : Nat} {w w' : World} {v : Value} {ts : List Wb} {S : Nat -> Nat -> Prop} {vm vl : Nat -> Value} (h : TsR o base w v ts S vm vl) (k : Sta (FtR v ts.length S) w w') : TsR o base w' v ts S vm vl :=
 ⟨Zh9 h.row (fun g e => k.2 g (Or.inl e)), fun i hi => (h.webs i hi).sm (k.mono (fun _ hb => Or.inr ⟨i, hi, hb⟩)), h.off, h.apart, h.four, h.low⟩
theorem TsR.bnd {o : Bool} {base : Nat} {w : World} {v : Value} {ts : List Wb} {S : Nat -> Nat -> Prop} {vm vl : Nat -> Value} (h : TsR o base w v ts S vm vl) (b : Nat) (hb : FtR v ts.length S b) : base <= b /\ b < w.heap.size := by
 rcases hb with e | ⟨i, hi, hs⟩
 · exact World.ownsRow.lt h.row b e
 · exact ⟨h.low i b hi hs, (h.webs i hi).bnd b hs⟩
theorem TsR.next {o : Bool} {base : Nat} {w w' : World} {v : Value} {ts : List Wb} {S : Nat -> Nat -> Prop} {vm vl : Nat -> Value} (h : TsR o base w v ts S vm vl) (L : Below w.heap.size w w') : TsR o base w' v ts S vm vl := h.sm (Sta.below L (fun b hb => (h.bnd b hb).2))
theorem TsR.form {o : Bool} {base : Nat} {w : World} {v : Value} {ts : List Wb} {S : Nat -> Nat -> Prop} {vm vl : Nat -> Value} (h : TsR o base w v ts S vm vl) : ∃ a c, v = .slice a ts.length c /\ ts.length <= c /\ ZG true w a ts := by
 obtain ⟨h1, ⟨rfl, h2⟩ | ⟨g, cap, cur, rfl, hb, hg, hc, h3⟩⟩ := h.row
 · exact ⟨none, 0, by rw [h2], by omega, Or.inl (List.length_eq_zero_iff.1 h2)⟩
 · have hr := h.row
   refine ⟨some ⟨g, 0, none⟩, cap, rfl, hc, Or.inr ⟨g, 0, rfl, (World.ownsRow.lt hr g rfl).2, fun i hi => ?_⟩⟩
   obtain ⟨am, cm, al, cl, e1, e2, l1, l2, hv⟩ := (h.webs i hi).view
   have c0 := World.ownsRow.cellAt hr (i * 2) (by omega)
   have c1 := World.ownsRow.cellAt hr (i * 2 + 1) (by omega)
   rw [Zhc (by omega)] at c0 c1
   have a0 : Za5 vm vl (i * 2) = vm i := by unfold Za5; rw [if_pos (by omega), show i * 2 / 2 = i by omega]
   have a1 : Za5 vm vl (i * 2 + 1) = vl i := by unfold Za5; rw [if_neg (by omega), show (i * 2 + 1) / 2 = i by omega]
   rw [a0, e1] at c0
   rw [a1, e2] at c1
   obtain ⟨v1, v2⟩ := hv w (Sta.refl _ _)
   rw [Nat.zero_add]
   exact ⟨am, cm, al, cl, c0, c1, v1, v2, fun _ => ⟨l1, l2⟩⟩
theorem TsR.snoc {o : Bool} {base : Nat} {w w8 : World} {v : Value} {ts : List Wb} {S : Nat -> Nat -> Prop} {vm vl : Nat -> Value} (h : TsR o base w v ts S vm vl) {gg cc : Nat} {F : Nat -> Prop} {xm xl : Value} {t : Wb}
 (hown : w8.ownsRow base 47 2 (.slice (some ⟨gg, 0, none⟩) (ts.length + 1) cc) (ts.length + 1) (ZbZ vm vl ts.length ++ [xm, xl])) (hsz : w.heap.size <= w8.heap.size) (hsame : ∀ b, b < w.heap.size -> v.ownBlock ≠ some b -> w8.heap[b]? = w.heap[b]?)
 (hw : OwW o F w8 xm xl t.1 t.2) (hF : ∀ b, F b -> w.heap.size <= b /\ b ≠ gg) (hg : v.ownBlock = some gg \/ w.heap.size <= gg) (hb : base <= w.heap.size) (h4 : ts.length + 1 <= 4) :
 TsR o base w8 (.slice (some ⟨gg, 0, none⟩) (ts.length + 1) cc) (ts ++ [t]) (Zb2 S ts.length F) (ZaX vm ts.length xm) (ZaX vl ts.length xl) := by
 have hlen : (ts ++ [t]).length = ts.length + 1 := by simp
 have hnew : Ze (ts ++ [t]) ts.length = t := by simp [Ze, List.getD]
 have hold : ∀ i, i < ts.length -> Ze (ts ++ [t]) i = Ze ts i := fun i hi => by simp [Ze, List.getD, List.getElem?_append_left hi]
 refine ⟨by rw [hlen, Zk1]; exact hown, fun i hi => ?_, fun i hi g e => ?_, fun i j hi hj hne b => ?_, by rw [hlen]; exact h4, fun i b hi hs => ?_⟩
 · rw [hlen] at hi
   unfold Zb2 ZaX
   by_cases e : i = ts.length
   · rw [if_pos e, if_pos e, if_pos e, e, hnew]; exact hw
   · rw [if_neg e, if_neg e, if_neg e, hold i (by omega)]
     exact (h.webs i (by omega)).sm ⟨hsz, fun b hb => hsame b ((h.webs i (by omega)).bnd b hb) (fun e' => h.off i (by omega) b e' hb)⟩
 · rw [hlen] at hi
   have e' : g = gg := by simpa [Value.ownBlock] using e.symm
   unfold Zb2
   by_cases e2 : i = ts.length
   · rw [if_pos e2]; exact fun hb => (hF g hb).2 e'
   · rw [if_neg e2]
     intro hb
     have hbb := (h.webs i (by omega)).bnd g hb
     rcases hg with h1 | h1
     · exact h.off i (by omega) g (by rw [e']; exact h1) hb
     · omega
 · rw [hlen] at hi hj
   unfold Zb2
   by_cases e : i = ts.length
   · rw [if_pos e, if_neg (by omega)]
     exact fun hb hb' => by have := hF b hb; have := (h.webs j (by omega)).bnd b hb'; omega
   · rw [if_neg e]
     by_cases e2 : j = ts.length
     · rw [if_pos e2]
       exact fun hb hb' => by have := hF b hb'; have := (h.webs i (by omega)).bnd b hb; omega
     · rw [if_neg e2]
       exact h.apart i j (by omega) (by omega) hne b
 · rw [hlen] at hi
   unfold Zb2 at hs
   by_cases e : i = ts.length
   · rw [if_pos e] at hs; have := hF b hs; omega
   · rw [if_neg e] at hs; exact h.low i b (by omega) hs
structure TsO (o : Bool) (S : Nat -> Prop) (w : World) (v : Value) (ts : List Wb) : Prop where
 bnd : ∀ b, S b -> b < w.heap.size
 ow : o = true -> ∃ N, N <= 400000 /\ Ow 165 166 S w v N
 view : ∃ a c, v = .slice a ts.length c /\ ts.length <= c /\ ∀ w', Sta S w w' -> ZG true w' a ts
theorem TsO.mono {o : Bool} {S T : Nat -> Prop} {w : World} {v : Value} {ts : List Wb} (h : TsO o S w v ts) (ht : ∀ b, T b -> b < w.heap.size) (k : ∀ b, S b -> T b) : TsO o T w v ts := by
 obtain ⟨a, c, e, hc, hv⟩ := h.view
 exact ⟨ht, fun hq => by obtain ⟨N, hN, ho⟩ := h.ow hq; exact ⟨N, hN, ho.mono ht k⟩, ⟨a, c, e, hc, fun w2 k2 => hv w2 (k2.mono k)⟩⟩
theorem TsO.zero (o : Bool) (w : World) : TsO o (fun _ => False) w (.slice none 0 0) [] :=
 ⟨fun _ h => h.elim, fun _ => ⟨0, by omega, Zmz 0 w⟩, ⟨none, 0, rfl, Nat.le_refl _, fun _ _ => Or.inl rfl⟩⟩
theorem ZeB.out {o : Bool} {g : Nat} {S : Nat -> Nat -> Prop} {w : World} {vm vl : Nat -> Value} {ts : List Wb} (cap : Nat) (hc : ts.length <= cap) (h : ZeB o g ts.length S w vm vl (Ze ts)) : TsO o (FtW g ts.length S) w (.slice (some ⟨g, 0, none⟩) ts.length cap) ts := by
 refine ⟨h.bnd, fun ho => ?_, ⟨_, cap, rfl, hc, fun w' hs => ?_⟩⟩
 · subst ho
   refine ⟨_, ?_, ZnL cap h⟩
   have := h.size ts.length (Nat.le_refl _)
   have := h.four
   omega
 · have h' := h.sm hs
   refine Or.inr ⟨g, 0, rfl, h'.lt, fun i hi => ?_⟩
   obtain ⟨am, cm, al, cl, e1, e2, l1, l2, hv⟩ := (h'.webs i hi).view
   have c0 := (h'.cells i hi).1
   have c1 := (h'.cells i hi).2
   obtain ⟨v1, v2⟩ := hv w' (Sta.refl _ _)
   rw [e1] at c0
   rw [e2] at c1
   rw [Nat.zero_add]
   exact ⟨am, cm, al, cl, c0, c1, v1, v2, fun _ => ⟨l1, l2⟩⟩
end Go.Proofs.YtaaagmgglolibaaGreat
