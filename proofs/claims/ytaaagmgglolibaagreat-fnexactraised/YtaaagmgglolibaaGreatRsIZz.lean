/-
  The program's Raised.
  Both Raised at every tower: what they hand out, as the law uses it.
  The walk of FnExactRaised (written by gen_rswk.py).
-/
import Derived.Test.YtaaagmgglolibaaGreatGnCpyZz
import Derived.Test.YtaaagmgglolibaaGreatMMarkZz
import Derived.Test.YtaaagmgglolibaaGreatTwOkZz
import Derived.Test.YtaaagmgglolibaaGreatFeHelpZz
import Derived.Test.YtaaagmgglolibaaGreatLastZz
import Derived.Deep.CutRange
namespace Go.Proofs.YtaaagmgglolibaaGreat
open Go Go.RowKit

theorem calm_three18 {P : Program} {md : Region.Mode} {Q : Exit → Act → World → Prop} {ops : Array Oper} {S : World → Prop} {fuel : Nat} {listed : Array Bool} {a : Act} {w : World} {o o2 o3 : Oper} (i j l : Nat) (hr : Region.ready md ops listed = [i, j, l]) (ho : ops[i]? = some o) (ho2 : ops[j]? = some o2) (ho3 : ops[l]? = some o3)
    (h : ∀ K : Act → World → Prop, Shut (∀ a w, S w → (S w → wpAnyH P md ops Q S fuel (listed.setIfInBounds i true) a w) → K a w) → if Region.wanted o (yielded ops a.tmps) = true then Oper.wp P o a w K Q else K (a.put o.dst undef) w)
    (h2 : ∀ K : Act → World → Prop, Shut (∀ a w, S w → (S w → wpAnyH P md ops Q S fuel (listed.setIfInBounds j true) a w) → K a w) → if Region.wanted o2 (yielded ops a.tmps) = true then Oper.wp P o2 a w K Q else K (a.put o2.dst undef) w)
    (h3 : ∀ K : Act → World → Prop, Shut (∀ a w, S w → (S w → wpAnyH P md ops Q S fuel (listed.setIfInBounds l true) a w) → K a w) → if Region.wanted o3 (yielded ops a.tmps) = true then Oper.wp P o3 a w K Q else K (a.put o3.dst undef) w) : wpAnyH P md ops Q S (fuel + 1) listed a w :=
  wpAnyH_ready hr (by simp) (AllReadyH.cons ho h (AllReadyH.cons ho2 h2 (AllReadyH.cons ho3 h3 AllReadyH.nil)))

/-- A look at the throw. -/
theorem iRolledO (o : Bool) (b : Nat) (d : Int) (w : World) (ht : Thr w b o (if o then rolV d else d)) :
    Calls Tryz.prog 103 #[.pointer (some ⟨b, 0, none⟩)] w fun e w' => e = .returned (.int .i64 (rolV d)) ∧ Thr w' b true (rolV d) ∧ Cgd (fun i => i = b) w w' := by
  cases o
  · exact iRolled1 b d w ht
  · exact (iRolled2 b (rolV d) w ht).mono (fun _ _ ⟨e, L⟩ => ⟨e, Thr.sm ht (L.block b (Thr.lt ht)), Cgd.of L⟩)

set_option maxRecDepth 100000 in
set_option maxHeartbeats 16000000 in
theorem iRaisedG (aw at' : Option Addr) (cw ct : Nat) (d : Int) (ts : List Wb) (m : Mk) (w : World) (hv : WbView true w aw ts) (ha : View w at' m.2) (hal : m.2.length ≤ 1048576) (hok : towB d ts = true) (hsm : WbSmall ts) :
    Calls Tryz.prog 14 #[.agg #[.int .i64 d, .slice aw ts.length cw], .agg #[.int .i64 m.1, .slice at' m.2.length ct]] w fun e w' => ∃ vt, e = .returned (.tuple #[.agg #[.int .i64 (raiD m ts d), vt], .bool (raiR m ts d)]) ∧ (∃ S vm vl, TsR true w.heap.size w' vt (raiS m ts d) S vm vl) ∧ Below w.heap.size w w' := by
  obtain ⟨W1, hW1⟩ : ∃ W, w.alloc (.cells #[.int .i64 d, .slice aw ts.length cw] 26) = W := ⟨_, rfl⟩
  obtain ⟨W2, hW2⟩ : ∃ W, W1.alloc (.cells #[.int .i64 m.1, .slice at' m.2.length ct] 29) = W := ⟨_, rfl⟩
  obtain ⟨W, hW⟩ : ∃ W, W2.alloc (.cells #[.int .i64 0, .slice none 0 0] 26) = W := ⟨_, rfl⟩
  have s1 : W1.heap.size = w.heap.size + 1 := by rw [← hW1]; simp
  have s2 : W2.heap.size = w.heap.size + 1 + 1 := by rw [← hW2]; simp [s1]
  have s3 : W.heap.size = w.heap.size + 1 + 1 + 1 := by rw [← hW]; simp [s2]
  have b1 : Below w.heap.size w W1 := by rw [← hW1]; exact (Below.refl _ _).alloc (Nat.le_refl _) _
  have b2 : Below W1.heap.size W1 W2 := by rw [← hW2]; exact (Below.refl _ _).alloc (Nat.le_refl _) _
  have b3 : Below W2.heap.size W2 W := by rw [← hW]; exact (Below.refl _ _).alloc (Nat.le_refl _) _
  have t0 : Two W w.heap.size (.int .i64 d) (.slice aw ts.length cw) 26 := by
    have : Two W1 w.heap.size (.int .i64 d) (.slice aw ts.length cw) 26 := by rw [← hW1]; exact Two.new w _ _ _
    exact (this.below b2).below b3
  have t1 : Two W (w.heap.size + 1) (.int .i64 m.1) (.slice at' m.2.length ct) 29 := by
    have : Two W2 (w.heap.size + 1) (.int .i64 m.1) (.slice at' m.2.length ct) 29 := by rw [← hW2, ← s1]; exact Two.new W1 _ _ _
    exact this.below b3
  have t2 : Two W (w.heap.size + 1 + 1) (.int .i64 0) (.slice none 0 0) 26 := by rw [← hW, ← s2]; exact Two.new W2 _ _ _
  have hB := chain (chain b1 b2) b3
  have HB := hidP hB
  have HV := hidP (fun W' (L : Below W.heap.size W W') => hv.next (chain hB L))
  have HM := hidP (fun W' (L : Below W.heap.size W W') => (ha.below (Nat.le_refl _) hB).below (Nat.le_refl _) L)
  have HT0 := hidP t0
  have HT1 := hidP t1
  have HT2 := hidP t2
  have HSZ := hidP s3
  have HOK := hidP (And.intro hok (And.intro hsm hal))
  obtain ⟨hlv, hn1, hn4⟩ := rai_lev (tow_in hok)
  have H4 : Hid (ts.length = 4) := (tow_at hok).1
  have HLV := hidP hlv
  have HCT := hidP (fun W' (L : Below W.heap.size W W') => iOwnTowerR true aw cw d ts W' (hv.next (chain hB L)) hok hsm)
  have HOKT := hidP (iTowerOk aw cw d ts W (hv.next hB) hsm)
  rw [hok] at HOKT
  have k0 := t0.c0
  have k1 := t0.c1
  have HWW : Hid (((w.alloc (.cells #[.int .i64 d, .slice aw ts.length cw] 26)).alloc (.cells #[.int .i64 m.1, .slice at' m.2.length ct] 29)).alloc (.cells #[.int .i64 0, .slice none 0 0] 26) = W) := by show _ = _; rw [hW1, hW2, hW]
  obtain ⟨N, hN⟩ : ∃ N, raiN d = N := ⟨_, rfl⟩
  have HN := hidP hN
  rw [hN] at hlv hn1 hn4 HLV
  clear hv ha hok hsm hal hB b1 b2 b3 t0 t1 t2 s1 s2 s3 hW hW1 hW2 hN hlv
  go_enter Tryz.func14, Tryz.ntmps14
  go_upto_region 1 with fail
  rw [HWW.out]
  clear HWW
  go_wp2_with fail
  refine HOKT.out.mono ?_
  rintro e W0 ⟨rfl, L0⟩
  clear k0 k1 HOKT
  go_upto_region 3 with fail
  go_cut [6, 7] from 11 to 20 (fun v b wx => ∃ Rb Tb g c S0 vm0 vl0, v = .pointer (some ⟨Rb, 0, none⟩) ∧ b = .pointer (some ⟨Tb, 0, none⟩) ∧ Two wx Rb (.int .i64 d) (.slice (some ⟨g, 0, none⟩) ts.length c) 26 ∧ Thr wx Tb false d ∧ TsR true W.heap.size wx (.slice (some ⟨g, 0, none⟩) ts.length c) ts S0 vm0 vl0 ∧ (∀ b, FtR (.slice (some ⟨g, 0, none⟩) ts.length c) ts.length S0 b → b ≠ Rb ∧ b ≠ Tb) ∧ Rb ≠ Tb ∧ W.heap.size ≤ Rb ∧ W.heap.size ≤ Tb ∧ Tb < wx.heap.size ∧ Rb < wx.heap.size ∧ Below W.heap.size W wx)
  case first =>
    have BLo := hidP (L0.drew)
    have HSo : Hid (∀ W', Below W.heap.size W W' → W'.cell? ⟨w.heap.size, 0, none⟩ = some (.int .i64 d) ∧ W'.cell? ⟨w.heap.size, 1, none⟩ = some (.slice aw ts.length cw)) := fun W' L' => ⟨(HT0.out.below L').c0, (HT0.out.below L').c1⟩
    refine wp_region_takes (S := fun W' => Below W.heap.size W W') (fuel := 5) [0, 2, 3, 4] (by kernel_rfl) (by kernel_rfl) (by kernel_rfl) (by kernel_rfl) BLo.out (fun _ => ?_)
    iterate 4
      refine ⟨_, rfl, ?_⟩
      apply Exists.intro
      refine ⟨Or.inl ⟨by rfl, fun w' hw' => ?_⟩, ?_⟩
      · obtain ⟨e1, e2⟩ := HSo.out w' hw'
        first
        | (go_simp; done)
        | (go_simp; with_reducible rfl)
      simp only [Act.put, List.getElem_toArray, List.getElem_cons_succ, List.getElem_cons_zero, List.setIfInBounds_toArray, List.set_cons_zero, List.set_cons_succ]
    obtain ⟨wv0, hv0⟩ : ∃ w0, W0.drew = w0 := ⟨_, rfl⟩
    have Bwv0 : Below W.heap.size W wv0 := by rw [← hv0]; exact BLo.out
    have swv0 : W.heap.size ≤ wv0.heap.size := Bwv0.size
    rw [hv0]
    clear hv0
    refine calm_three18 1 5 6 (by kernel_rfl) rfl rfl rfl (fun K hK => ?_) (fun K hK => ?_) (fun K hK => ?_)
    · go_simp
      refine (HCT.out wv0 Bwv0).mono ?_
      rintro e u1 ⟨vt, rfl, ⟨S0, vm0, vl0, ht⟩, Lu1⟩
      obtain ⟨g, c, rfl, hg1, hg2, hgc, -⟩ := ht.nonil (by have := H4.out; omega)
      have hft : ∀ b, FtR (.slice (some ⟨g, 0, none⟩) ts.length c) ts.length S0 b → wv0.heap.size ≤ b ∧ b < u1.heap.size := fun b hb => ht.bnd b hb
      have su1 := Lu1.size
      have Bu1 := chain Bwv0 Lu1
      refine hK.out _ _ Bu1 (fun _ => ?_)
      clear hK K
      refine calm_two14 5 6 (by kernel_rfl) rfl rfl (fun K hK => ?_) (fun K hK => ?_)
      · go_simp
        obtain ⟨u2, hu2⟩ : ∃ w0, u1.alloc (.cells #[.int .u32 0, .int .i32 0, .int .u32 0, .int .i64 d] 151) = w0 := ⟨_, rfl⟩
        have Lu2 : Below u1.heap.size u1 u2 := by rw [← hu2]; exact (Below.refl _ _).alloc (Nat.le_refl _) _
        obtain ⟨Tb, hTb⟩ : ∃ q, u1.heap.size = q := ⟨_, rfl⟩
        have hT : Thr u2 Tb false d := by rw [← hu2, ← hTb]; exact heap_alloc_new u1 _
        have sT := hT.lt
        first | rw [hu2] | skip
        first | rw [hTb] | skip
        have su2 := Lu2.size
        replace ht := ht.next Lu2
        have Bu2 := chain Bu1 Lu2
        refine hK.out _ _ Bu2 (fun _ => ?_)
        clear hK K hu2
        refine calm_one 6 (by kernel_rfl) rfl (fun K hK => ?_)
        · go_simp
          obtain ⟨u3, hu3⟩ : ∃ w0, u2.alloc (.cells #[.int .i64 0, .slice none 0 0] 26) = w0 := ⟨_, rfl⟩
          have Lu3 : Below u2.heap.size u2 u3 := by rw [← hu3]; exact (Below.refl _ _).alloc (Nat.le_refl _) _
          obtain ⟨Rb, hRb⟩ : ∃ q, u2.heap.size = q := ⟨_, rfl⟩
          have hR : Two u3 Rb (.int .i64 0) (.slice none 0 0) 26 := by rw [← hu3, ← hRb]; exact Two.new u2 _ _ _
          have sR := hR.lt
          first | rw [hu3] | skip
          first | rw [hRb] | skip
          have su3 := Lu3.size
          replace ht := ht.next Lu3
          replace hT := hT.sm (Lu3.block _ hT.lt)
          have Bu3 := chain Bu2 Lu3
          refine hK.out _ _ Bu3 (fun _ => ?_)
          clear hK K hu3
          have x0 := hR.c0
          have x1 := hR.c1
          have xf0 := hR.frozen 0
          have xf1 := hR.frozen 1
          refine calm_one 7 (by kernel_rfl) rfl (fun K hK => ?_)
          · go_simp
            obtain ⟨u4, hu4⟩ : ∃ wz, (u3.setCell ⟨Rb, 0, none⟩ (.int .i64 d)).setCell ⟨Rb, 1, none⟩ (.slice (some ⟨g, 0, none⟩) ts.length c) = wz := ⟨_, rfl⟩
            have far : ∀ b, b ≠ Rb → u4.heap[b]? = u3.heap[b]? := fun b hb => by rw [← hu4]; exact (Below.heap_setCell _ ⟨Rb, 1, none⟩ _ b (fun e => hb e)).trans (Below.heap_setCell _ ⟨Rb, 0, none⟩ _ b (fun e => hb e))
            have su4 : u3.heap.size = u4.heap.size := by rw [← hu4, setCell_size, setCell_size]
            replace ht := ht.sm (w' := u4) ⟨by omega, fun b hb => far b (by have := hft b hb; omega)⟩
            have Bu4 : Below W.heap.size W u4 := by rw [← hu4]; exact (Bu3.setCell (by show W.heap.size ≤ Rb; omega) _).setCell (by show W.heap.size ≤ Rb; omega) _
            replace hR : Two u4 Rb (.int .i64 d) (.slice (some ⟨g, 0, none⟩) ts.length c) 26 := by rw [← hu4]; exact (hR.set0 _).set1 _
            first | rw [hu4] | skip
            replace hT := hT.sm (w' := u4) (far Tb (by omega))
            refine hK.out _ _ Bu4 (fun _ => ?_)
            clear hK K hu4 far x0 x1 xf0 xf1
            refine calm_rest [8] rfl (by kernel_rfl) (by kernel_rfl) (by kernel_rfl) Bu4 ?_
            iterate 1
              refine ⟨_, rfl, ?_⟩
              apply Exists.intro
              refine ⟨Or.inl ⟨by rfl, fun w' hw' => ?_⟩, ?_⟩
              · skip
                first
                | (go_simp; done)
                | (go_simp; with_reducible rfl)
              simp only [Act.put, List.getElem_toArray, List.getElem_cons_succ, List.getElem_cons_zero, List.setIfInBounds_toArray, List.set_cons_zero, List.set_cons_succ]
            refine NoPanic.normal (NoPanic.normal ?_)
            have hTl := hT.lt
            have hRl := hR.lt
            go_wp2_with fail
            go_meet
            exact ⟨Rb, Tb, g, c, S0, vm0, vl0, rfl, rfl, hR, hT, ht.lowm (by omega), fun b hb => by have := hft b hb; omega, by omega, by omega, by omega, by omega, by omega, Bu4⟩
      · go_simp
        obtain ⟨u2, hu2⟩ : ∃ w0, u1.alloc (.cells #[.int .i64 0, .slice none 0 0] 26) = w0 := ⟨_, rfl⟩
        have Lu2 : Below u1.heap.size u1 u2 := by rw [← hu2]; exact (Below.refl _ _).alloc (Nat.le_refl _) _
        obtain ⟨Rb, hRb⟩ : ∃ q, u1.heap.size = q := ⟨_, rfl⟩
        have hR : Two u2 Rb (.int .i64 0) (.slice none 0 0) 26 := by rw [← hu2, ← hRb]; exact Two.new u1 _ _ _
        have sR := hR.lt
        first | rw [hu2] | skip
        first | rw [hRb] | skip
        have su2 := Lu2.size
        replace ht := ht.next Lu2
        have Bu2 := chain Bu1 Lu2
        refine hK.out _ _ Bu2 (fun _ => ?_)
        clear hK K hu2
        have x0 := hR.c0
        have x1 := hR.c1
        have xf0 := hR.frozen 0
        have xf1 := hR.frozen 1
        refine calm_two14 5 7 (by kernel_rfl) rfl rfl (fun K hK => ?_) (fun K hK => ?_)
        · go_simp
          obtain ⟨u3, hu3⟩ : ∃ w0, u2.alloc (.cells #[.int .u32 0, .int .i32 0, .int .u32 0, .int .i64 d] 151) = w0 := ⟨_, rfl⟩
          have Lu3 : Below u2.heap.size u2 u3 := by rw [← hu3]; exact (Below.refl _ _).alloc (Nat.le_refl _) _
          obtain ⟨Tb, hTb⟩ : ∃ q, u2.heap.size = q := ⟨_, rfl⟩
          have hT : Thr u3 Tb false d := by rw [← hu3, ← hTb]; exact heap_alloc_new u2 _
          have sT := hT.lt
          first | rw [hu3] | skip
          first | rw [hTb] | skip
          have su3 := Lu3.size
          replace ht := ht.next Lu3
          replace hR := hR.below Lu3
          have Bu3 := chain Bu2 Lu3
          refine hK.out _ _ Bu3 (fun _ => ?_)
          clear hK K hu3 x0 x1 xf0 xf1
          have x0 := hR.c0
          have x1 := hR.c1
          have xf0 := hR.frozen 0
          have xf1 := hR.frozen 1
          refine calm_one 7 (by kernel_rfl) rfl (fun K hK => ?_)
          · go_simp
            obtain ⟨u4, hu4⟩ : ∃ wz, (u3.setCell ⟨Rb, 0, none⟩ (.int .i64 d)).setCell ⟨Rb, 1, none⟩ (.slice (some ⟨g, 0, none⟩) ts.length c) = wz := ⟨_, rfl⟩
            have far : ∀ b, b ≠ Rb → u4.heap[b]? = u3.heap[b]? := fun b hb => by rw [← hu4]; exact (Below.heap_setCell _ ⟨Rb, 1, none⟩ _ b (fun e => hb e)).trans (Below.heap_setCell _ ⟨Rb, 0, none⟩ _ b (fun e => hb e))
            have su4 : u3.heap.size = u4.heap.size := by rw [← hu4, setCell_size, setCell_size]
            replace ht := ht.sm (w' := u4) ⟨by omega, fun b hb => far b (by have := hft b hb; omega)⟩
            have Bu4 : Below W.heap.size W u4 := by rw [← hu4]; exact (Bu3.setCell (by show W.heap.size ≤ Rb; omega) _).setCell (by show W.heap.size ≤ Rb; omega) _
            replace hR : Two u4 Rb (.int .i64 d) (.slice (some ⟨g, 0, none⟩) ts.length c) 26 := by rw [← hu4]; exact (hR.set0 _).set1 _
            first | rw [hu4] | skip
            replace hT := hT.sm (w' := u4) (far Tb (by omega))
            refine hK.out _ _ Bu4 (fun _ => ?_)
            clear hK K hu4 far x0 x1 xf0 xf1
            refine calm_rest [8] rfl (by kernel_rfl) (by kernel_rfl) (by kernel_rfl) Bu4 ?_
            iterate 1
              refine ⟨_, rfl, ?_⟩
              apply Exists.intro
              refine ⟨Or.inl ⟨by rfl, fun w' hw' => ?_⟩, ?_⟩
              · skip
                first
                | (go_simp; done)
                | (go_simp; with_reducible rfl)
              simp only [Act.put, List.getElem_toArray, List.getElem_cons_succ, List.getElem_cons_zero, List.setIfInBounds_toArray, List.set_cons_zero, List.set_cons_succ]
            refine NoPanic.normal (NoPanic.normal ?_)
            have hTl := hT.lt
            have hRl := hR.lt
            go_wp2_with fail
            go_meet
            exact ⟨Rb, Tb, g, c, S0, vm0, vl0, rfl, rfl, hR, hT, ht.lowm (by omega), fun b hb => by have := hft b hb; omega, by omega, by omega, by omega, by omega, by omega, Bu4⟩
        · go_simp
          obtain ⟨u3, hu3⟩ : ∃ wz, (u2.setCell ⟨Rb, 0, none⟩ (.int .i64 d)).setCell ⟨Rb, 1, none⟩ (.slice (some ⟨g, 0, none⟩) ts.length c) = wz := ⟨_, rfl⟩
          have far : ∀ b, b ≠ Rb → u3.heap[b]? = u2.heap[b]? := fun b hb => by rw [← hu3]; exact (Below.heap_setCell _ ⟨Rb, 1, none⟩ _ b (fun e => hb e)).trans (Below.heap_setCell _ ⟨Rb, 0, none⟩ _ b (fun e => hb e))
          have su3 : u2.heap.size = u3.heap.size := by rw [← hu3, setCell_size, setCell_size]
          replace ht := ht.sm (w' := u3) ⟨by omega, fun b hb => far b (by have := hft b hb; omega)⟩
          have Bu3 : Below W.heap.size W u3 := by rw [← hu3]; exact (Bu2.setCell (by show W.heap.size ≤ Rb; omega) _).setCell (by show W.heap.size ≤ Rb; omega) _
          replace hR : Two u3 Rb (.int .i64 d) (.slice (some ⟨g, 0, none⟩) ts.length c) 26 := by rw [← hu3]; exact (hR.set0 _).set1 _
          first | rw [hu3] | skip
          refine hK.out _ _ Bu3 (fun _ => ?_)
          clear hK K hu3 far x0 x1 xf0 xf1
          refine calm_one 5 (by kernel_rfl) rfl (fun K hK => ?_)
          · go_simp
            obtain ⟨u4, hu4⟩ : ∃ w0, u3.alloc (.cells #[.int .u32 0, .int .i32 0, .int .u32 0, .int .i64 d] 151) = w0 := ⟨_, rfl⟩
            have Lu4 : Below u3.heap.size u3 u4 := by rw [← hu4]; exact (Below.refl _ _).alloc (Nat.le_refl _) _
            obtain ⟨Tb, hTb⟩ : ∃ q, u3.heap.size = q := ⟨_, rfl⟩
            have hT : Thr u4 Tb false d := by rw [← hu4, ← hTb]; exact heap_alloc_new u3 _
            have sT := hT.lt
            first | rw [hu4] | skip
            first | rw [hTb] | skip
            have su4 := Lu4.size
            replace ht := ht.next Lu4
            replace hR := hR.below Lu4
            have Bu4 := chain Bu3 Lu4
            refine hK.out _ _ Bu4 (fun _ => ?_)
            clear hK K hu4
            refine calm_rest [8] rfl (by kernel_rfl) (by kernel_rfl) (by kernel_rfl) Bu4 ?_
            iterate 1
              refine ⟨_, rfl, ?_⟩
              apply Exists.intro
              refine ⟨Or.inl ⟨by rfl, fun w' hw' => ?_⟩, ?_⟩
              · skip
                first
                | (go_simp; done)
                | (go_simp; with_reducible rfl)
              simp only [Act.put, List.getElem_toArray, List.getElem_cons_succ, List.getElem_cons_zero, List.setIfInBounds_toArray, List.set_cons_zero, List.set_cons_succ]
            refine NoPanic.normal (NoPanic.normal ?_)
            have hTl := hT.lt
            have hRl := hR.lt
            go_wp2_with fail
            go_meet
            exact ⟨Rb, Tb, g, c, S0, vm0, vl0, rfl, rfl, hR, hT, ht.lowm (by omega), fun b hb => by have := hft b hb; omega, by omega, by omega, by omega, by omega, by omega, Bu4⟩
    · go_simp
      obtain ⟨u1, hu1⟩ : ∃ w0, wv0.alloc (.cells #[.int .u32 0, .int .i32 0, .int .u32 0, .int .i64 d] 151) = w0 := ⟨_, rfl⟩
      have Lu1 : Below wv0.heap.size wv0 u1 := by rw [← hu1]; exact (Below.refl _ _).alloc (Nat.le_refl _) _
      obtain ⟨Tb, hTb⟩ : ∃ q, wv0.heap.size = q := ⟨_, rfl⟩
      have hT : Thr u1 Tb false d := by rw [← hu1, ← hTb]; exact heap_alloc_new wv0 _
      have sT := hT.lt
      first | rw [hu1] | skip
      first | rw [hTb] | skip
      have su1 := Lu1.size
      have Bu1 := chain Bwv0 Lu1
      refine hK.out _ _ Bu1 (fun _ => ?_)
      clear hK K hu1
      refine calm_two14 1 6 (by kernel_rfl) rfl rfl (fun K hK => ?_) (fun K hK => ?_)
      · go_simp
        refine (HCT.out u1 Bu1).mono ?_
        rintro e u2 ⟨vt, rfl, ⟨S0, vm0, vl0, ht⟩, Lu2⟩
        obtain ⟨g, c, rfl, hg1, hg2, hgc, -⟩ := ht.nonil (by have := H4.out; omega)
        have hft : ∀ b, FtR (.slice (some ⟨g, 0, none⟩) ts.length c) ts.length S0 b → u1.heap.size ≤ b ∧ b < u2.heap.size := fun b hb => ht.bnd b hb
        have su2 := Lu2.size
        replace hT := hT.sm (Lu2.block _ hT.lt)
        have Bu2 := chain Bu1 Lu2
        refine hK.out _ _ Bu2 (fun _ => ?_)
        clear hK K
        refine calm_one 6 (by kernel_rfl) rfl (fun K hK => ?_)
        · go_simp
          obtain ⟨u3, hu3⟩ : ∃ w0, u2.alloc (.cells #[.int .i64 0, .slice none 0 0] 26) = w0 := ⟨_, rfl⟩
          have Lu3 : Below u2.heap.size u2 u3 := by rw [← hu3]; exact (Below.refl _ _).alloc (Nat.le_refl _) _
          obtain ⟨Rb, hRb⟩ : ∃ q, u2.heap.size = q := ⟨_, rfl⟩
          have hR : Two u3 Rb (.int .i64 0) (.slice none 0 0) 26 := by rw [← hu3, ← hRb]; exact Two.new u2 _ _ _
          have sR := hR.lt
          first | rw [hu3] | skip
          first | rw [hRb] | skip
          have su3 := Lu3.size
          replace ht := ht.next Lu3
          replace hT := hT.sm (Lu3.block _ hT.lt)
          have Bu3 := chain Bu2 Lu3
          refine hK.out _ _ Bu3 (fun _ => ?_)
          clear hK K hu3
          have x0 := hR.c0
          have x1 := hR.c1
          have xf0 := hR.frozen 0
          have xf1 := hR.frozen 1
          refine calm_one 7 (by kernel_rfl) rfl (fun K hK => ?_)
          · go_simp
            obtain ⟨u4, hu4⟩ : ∃ wz, (u3.setCell ⟨Rb, 0, none⟩ (.int .i64 d)).setCell ⟨Rb, 1, none⟩ (.slice (some ⟨g, 0, none⟩) ts.length c) = wz := ⟨_, rfl⟩
            have far : ∀ b, b ≠ Rb → u4.heap[b]? = u3.heap[b]? := fun b hb => by rw [← hu4]; exact (Below.heap_setCell _ ⟨Rb, 1, none⟩ _ b (fun e => hb e)).trans (Below.heap_setCell _ ⟨Rb, 0, none⟩ _ b (fun e => hb e))
            have su4 : u3.heap.size = u4.heap.size := by rw [← hu4, setCell_size, setCell_size]
            replace ht := ht.sm (w' := u4) ⟨by omega, fun b hb => far b (by have := hft b hb; omega)⟩
            have Bu4 : Below W.heap.size W u4 := by rw [← hu4]; exact (Bu3.setCell (by show W.heap.size ≤ Rb; omega) _).setCell (by show W.heap.size ≤ Rb; omega) _
            replace hR : Two u4 Rb (.int .i64 d) (.slice (some ⟨g, 0, none⟩) ts.length c) 26 := by rw [← hu4]; exact (hR.set0 _).set1 _
            first | rw [hu4] | skip
            replace hT := hT.sm (w' := u4) (far Tb (by omega))
            refine hK.out _ _ Bu4 (fun _ => ?_)
            clear hK K hu4 far x0 x1 xf0 xf1
            refine calm_rest [8] rfl (by kernel_rfl) (by kernel_rfl) (by kernel_rfl) Bu4 ?_
            iterate 1
              refine ⟨_, rfl, ?_⟩
              apply Exists.intro
              refine ⟨Or.inl ⟨by rfl, fun w' hw' => ?_⟩, ?_⟩
              · skip
                first
                | (go_simp; done)
                | (go_simp; with_reducible rfl)
              simp only [Act.put, List.getElem_toArray, List.getElem_cons_succ, List.getElem_cons_zero, List.setIfInBounds_toArray, List.set_cons_zero, List.set_cons_succ]
            refine NoPanic.normal (NoPanic.normal ?_)
            have hTl := hT.lt
            have hRl := hR.lt
            go_wp2_with fail
            go_meet
            exact ⟨Rb, Tb, g, c, S0, vm0, vl0, rfl, rfl, hR, hT, ht.lowm (by omega), fun b hb => by have := hft b hb; omega, by omega, by omega, by omega, by omega, by omega, Bu4⟩
      · go_simp
        obtain ⟨u2, hu2⟩ : ∃ w0, u1.alloc (.cells #[.int .i64 0, .slice none 0 0] 26) = w0 := ⟨_, rfl⟩
        have Lu2 : Below u1.heap.size u1 u2 := by rw [← hu2]; exact (Below.refl _ _).alloc (Nat.le_refl _) _
        obtain ⟨Rb, hRb⟩ : ∃ q, u1.heap.size = q := ⟨_, rfl⟩
        have hR : Two u2 Rb (.int .i64 0) (.slice none 0 0) 26 := by rw [← hu2, ← hRb]; exact Two.new u1 _ _ _
        have sR := hR.lt
        first | rw [hu2] | skip
        first | rw [hRb] | skip
        have su2 := Lu2.size
        replace hT := hT.sm (Lu2.block _ hT.lt)
        have Bu2 := chain Bu1 Lu2
        refine hK.out _ _ Bu2 (fun _ => ?_)
        clear hK K hu2
        refine calm_one 1 (by kernel_rfl) rfl (fun K hK => ?_)
        · go_simp
          refine (HCT.out u2 Bu2).mono ?_
          rintro e u3 ⟨vt, rfl, ⟨S0, vm0, vl0, ht⟩, Lu3⟩
          obtain ⟨g, c, rfl, hg1, hg2, hgc, -⟩ := ht.nonil (by have := H4.out; omega)
          have hft : ∀ b, FtR (.slice (some ⟨g, 0, none⟩) ts.length c) ts.length S0 b → u2.heap.size ≤ b ∧ b < u3.heap.size := fun b hb => ht.bnd b hb
          have su3 := Lu3.size
          replace hT := hT.sm (Lu3.block _ hT.lt)
          replace hR := hR.below Lu3
          have Bu3 := chain Bu2 Lu3
          refine hK.out _ _ Bu3 (fun _ => ?_)
          clear hK K
          have x0 := hR.c0
          have x1 := hR.c1
          have xf0 := hR.frozen 0
          have xf1 := hR.frozen 1
          refine calm_one 7 (by kernel_rfl) rfl (fun K hK => ?_)
          · go_simp
            obtain ⟨u4, hu4⟩ : ∃ wz, (u3.setCell ⟨Rb, 0, none⟩ (.int .i64 d)).setCell ⟨Rb, 1, none⟩ (.slice (some ⟨g, 0, none⟩) ts.length c) = wz := ⟨_, rfl⟩
            have far : ∀ b, b ≠ Rb → u4.heap[b]? = u3.heap[b]? := fun b hb => by rw [← hu4]; exact (Below.heap_setCell _ ⟨Rb, 1, none⟩ _ b (fun e => hb e)).trans (Below.heap_setCell _ ⟨Rb, 0, none⟩ _ b (fun e => hb e))
            have su4 : u3.heap.size = u4.heap.size := by rw [← hu4, setCell_size, setCell_size]
            replace ht := ht.sm (w' := u4) ⟨by omega, fun b hb => far b (by have := hft b hb; omega)⟩
            have Bu4 : Below W.heap.size W u4 := by rw [← hu4]; exact (Bu3.setCell (by show W.heap.size ≤ Rb; omega) _).setCell (by show W.heap.size ≤ Rb; omega) _
            replace hR : Two u4 Rb (.int .i64 d) (.slice (some ⟨g, 0, none⟩) ts.length c) 26 := by rw [← hu4]; exact (hR.set0 _).set1 _
            first | rw [hu4] | skip
            replace hT := hT.sm (w' := u4) (far Tb (by omega))
            refine hK.out _ _ Bu4 (fun _ => ?_)
            clear hK K hu4 far x0 x1 xf0 xf1
            refine calm_rest [8] rfl (by kernel_rfl) (by kernel_rfl) (by kernel_rfl) Bu4 ?_
            iterate 1
              refine ⟨_, rfl, ?_⟩
              apply Exists.intro
              refine ⟨Or.inl ⟨by rfl, fun w' hw' => ?_⟩, ?_⟩
              · skip
                first
                | (go_simp; done)
                | (go_simp; with_reducible rfl)
              simp only [Act.put, List.getElem_toArray, List.getElem_cons_succ, List.getElem_cons_zero, List.setIfInBounds_toArray, List.set_cons_zero, List.set_cons_succ]
            refine NoPanic.normal (NoPanic.normal ?_)
            have hTl := hT.lt
            have hRl := hR.lt
            go_wp2_with fail
            go_meet
            exact ⟨Rb, Tb, g, c, S0, vm0, vl0, rfl, rfl, hR, hT, ht.lowm (by omega), fun b hb => by have := hft b hb; omega, by omega, by omega, by omega, by omega, by omega, Bu4⟩
    · go_simp
      obtain ⟨u1, hu1⟩ : ∃ w0, wv0.alloc (.cells #[.int .i64 0, .slice none 0 0] 26) = w0 := ⟨_, rfl⟩
      have Lu1 : Below wv0.heap.size wv0 u1 := by rw [← hu1]; exact (Below.refl _ _).alloc (Nat.le_refl _) _
      obtain ⟨Rb, hRb⟩ : ∃ q, wv0.heap.size = q := ⟨_, rfl⟩
      have hR : Two u1 Rb (.int .i64 0) (.slice none 0 0) 26 := by rw [← hu1, ← hRb]; exact Two.new wv0 _ _ _
      have sR := hR.lt
      first | rw [hu1] | skip
      first | rw [hRb] | skip
      have su1 := Lu1.size
      have Bu1 := chain Bwv0 Lu1
      refine hK.out _ _ Bu1 (fun _ => ?_)
      clear hK K hu1
      refine calm_two14 1 5 (by kernel_rfl) rfl rfl (fun K hK => ?_) (fun K hK => ?_)
      · go_simp
        refine (HCT.out u1 Bu1).mono ?_
        rintro e u2 ⟨vt, rfl, ⟨S0, vm0, vl0, ht⟩, Lu2⟩
        obtain ⟨g, c, rfl, hg1, hg2, hgc, -⟩ := ht.nonil (by have := H4.out; omega)
        have hft : ∀ b, FtR (.slice (some ⟨g, 0, none⟩) ts.length c) ts.length S0 b → u1.heap.size ≤ b ∧ b < u2.heap.size := fun b hb => ht.bnd b hb
        have su2 := Lu2.size
        replace hR := hR.below Lu2
        have Bu2 := chain Bu1 Lu2
        refine hK.out _ _ Bu2 (fun _ => ?_)
        clear hK K
        have x0 := hR.c0
        have x1 := hR.c1
        have xf0 := hR.frozen 0
        have xf1 := hR.frozen 1
        refine calm_two14 5 7 (by kernel_rfl) rfl rfl (fun K hK => ?_) (fun K hK => ?_)
        · go_simp
          obtain ⟨u3, hu3⟩ : ∃ w0, u2.alloc (.cells #[.int .u32 0, .int .i32 0, .int .u32 0, .int .i64 d] 151) = w0 := ⟨_, rfl⟩
          have Lu3 : Below u2.heap.size u2 u3 := by rw [← hu3]; exact (Below.refl _ _).alloc (Nat.le_refl _) _
          obtain ⟨Tb, hTb⟩ : ∃ q, u2.heap.size = q := ⟨_, rfl⟩
          have hT : Thr u3 Tb false d := by rw [← hu3, ← hTb]; exact heap_alloc_new u2 _
          have sT := hT.lt
          first | rw [hu3] | skip
          first | rw [hTb] | skip
          have su3 := Lu3.size
          replace ht := ht.next Lu3
          replace hR := hR.below Lu3
          have Bu3 := chain Bu2 Lu3
          refine hK.out _ _ Bu3 (fun _ => ?_)
          clear hK K hu3 x0 x1 xf0 xf1
          have x0 := hR.c0
          have x1 := hR.c1
          have xf0 := hR.frozen 0
          have xf1 := hR.frozen 1
          refine calm_one 7 (by kernel_rfl) rfl (fun K hK => ?_)
          · go_simp
            obtain ⟨u4, hu4⟩ : ∃ wz, (u3.setCell ⟨Rb, 0, none⟩ (.int .i64 d)).setCell ⟨Rb, 1, none⟩ (.slice (some ⟨g, 0, none⟩) ts.length c) = wz := ⟨_, rfl⟩
            have far : ∀ b, b ≠ Rb → u4.heap[b]? = u3.heap[b]? := fun b hb => by rw [← hu4]; exact (Below.heap_setCell _ ⟨Rb, 1, none⟩ _ b (fun e => hb e)).trans (Below.heap_setCell _ ⟨Rb, 0, none⟩ _ b (fun e => hb e))
            have su4 : u3.heap.size = u4.heap.size := by rw [← hu4, setCell_size, setCell_size]
            replace ht := ht.sm (w' := u4) ⟨by omega, fun b hb => far b (by have := hft b hb; omega)⟩
            have Bu4 : Below W.heap.size W u4 := by rw [← hu4]; exact (Bu3.setCell (by show W.heap.size ≤ Rb; omega) _).setCell (by show W.heap.size ≤ Rb; omega) _
            replace hR : Two u4 Rb (.int .i64 d) (.slice (some ⟨g, 0, none⟩) ts.length c) 26 := by rw [← hu4]; exact (hR.set0 _).set1 _
            first | rw [hu4] | skip
            replace hT := hT.sm (w' := u4) (far Tb (by omega))
            refine hK.out _ _ Bu4 (fun _ => ?_)
            clear hK K hu4 far x0 x1 xf0 xf1
            refine calm_rest [8] rfl (by kernel_rfl) (by kernel_rfl) (by kernel_rfl) Bu4 ?_
            iterate 1
              refine ⟨_, rfl, ?_⟩
              apply Exists.intro
              refine ⟨Or.inl ⟨by rfl, fun w' hw' => ?_⟩, ?_⟩
              · skip
                first
                | (go_simp; done)
                | (go_simp; with_reducible rfl)
              simp only [Act.put, List.getElem_toArray, List.getElem_cons_succ, List.getElem_cons_zero, List.setIfInBounds_toArray, List.set_cons_zero, List.set_cons_succ]
            refine NoPanic.normal (NoPanic.normal ?_)
            have hTl := hT.lt
            have hRl := hR.lt
            go_wp2_with fail
            go_meet
            exact ⟨Rb, Tb, g, c, S0, vm0, vl0, rfl, rfl, hR, hT, ht.lowm (by omega), fun b hb => by have := hft b hb; omega, by omega, by omega, by omega, by omega, by omega, Bu4⟩
        · go_simp
          obtain ⟨u3, hu3⟩ : ∃ wz, (u2.setCell ⟨Rb, 0, none⟩ (.int .i64 d)).setCell ⟨Rb, 1, none⟩ (.slice (some ⟨g, 0, none⟩) ts.length c) = wz := ⟨_, rfl⟩
          have far : ∀ b, b ≠ Rb → u3.heap[b]? = u2.heap[b]? := fun b hb => by rw [← hu3]; exact (Below.heap_setCell _ ⟨Rb, 1, none⟩ _ b (fun e => hb e)).trans (Below.heap_setCell _ ⟨Rb, 0, none⟩ _ b (fun e => hb e))
          have su3 : u2.heap.size = u3.heap.size := by rw [← hu3, setCell_size, setCell_size]
          replace ht := ht.sm (w' := u3) ⟨by omega, fun b hb => far b (by have := hft b hb; omega)⟩
          have Bu3 : Below W.heap.size W u3 := by rw [← hu3]; exact (Bu2.setCell (by show W.heap.size ≤ Rb; omega) _).setCell (by show W.heap.size ≤ Rb; omega) _
          replace hR : Two u3 Rb (.int .i64 d) (.slice (some ⟨g, 0, none⟩) ts.length c) 26 := by rw [← hu3]; exact (hR.set0 _).set1 _
          first | rw [hu3] | skip
          refine hK.out _ _ Bu3 (fun _ => ?_)
          clear hK K hu3 far x0 x1 xf0 xf1
          refine calm_one 5 (by kernel_rfl) rfl (fun K hK => ?_)
          · go_simp
            obtain ⟨u4, hu4⟩ : ∃ w0, u3.alloc (.cells #[.int .u32 0, .int .i32 0, .int .u32 0, .int .i64 d] 151) = w0 := ⟨_, rfl⟩
            have Lu4 : Below u3.heap.size u3 u4 := by rw [← hu4]; exact (Below.refl _ _).alloc (Nat.le_refl _) _
            obtain ⟨Tb, hTb⟩ : ∃ q, u3.heap.size = q := ⟨_, rfl⟩
            have hT : Thr u4 Tb false d := by rw [← hu4, ← hTb]; exact heap_alloc_new u3 _
            have sT := hT.lt
            first | rw [hu4] | skip
            first | rw [hTb] | skip
            have su4 := Lu4.size
            replace ht := ht.next Lu4
            replace hR := hR.below Lu4
            have Bu4 := chain Bu3 Lu4
            refine hK.out _ _ Bu4 (fun _ => ?_)
            clear hK K hu4
            refine calm_rest [8] rfl (by kernel_rfl) (by kernel_rfl) (by kernel_rfl) Bu4 ?_
            iterate 1
              refine ⟨_, rfl, ?_⟩
              apply Exists.intro
              refine ⟨Or.inl ⟨by rfl, fun w' hw' => ?_⟩, ?_⟩
              · skip
                first
                | (go_simp; done)
                | (go_simp; with_reducible rfl)
              simp only [Act.put, List.getElem_toArray, List.getElem_cons_succ, List.getElem_cons_zero, List.setIfInBounds_toArray, List.set_cons_zero, List.set_cons_succ]
            refine NoPanic.normal (NoPanic.normal ?_)
            have hTl := hT.lt
            have hRl := hR.lt
            go_wp2_with fail
            go_meet
            exact ⟨Rb, Tb, g, c, S0, vm0, vl0, rfl, rfl, hR, hT, ht.lowm (by omega), fun b hb => by have := hft b hb; omega, by omega, by omega, by omega, by omega, by omega, Bu4⟩
      · go_simp
        obtain ⟨u2, hu2⟩ : ∃ w0, u1.alloc (.cells #[.int .u32 0, .int .i32 0, .int .u32 0, .int .i64 d] 151) = w0 := ⟨_, rfl⟩
        have Lu2 : Below u1.heap.size u1 u2 := by rw [← hu2]; exact (Below.refl _ _).alloc (Nat.le_refl _) _
        obtain ⟨Tb, hTb⟩ : ∃ q, u1.heap.size = q := ⟨_, rfl⟩
        have hT : Thr u2 Tb false d := by rw [← hu2, ← hTb]; exact heap_alloc_new u1 _
        have sT := hT.lt
        first | rw [hu2] | skip
        first | rw [hTb] | skip
        have su2 := Lu2.size
        replace hR := hR.below Lu2
        have Bu2 := chain Bu1 Lu2
        refine hK.out _ _ Bu2 (fun _ => ?_)
        clear hK K hu2
        refine calm_one 1 (by kernel_rfl) rfl (fun K hK => ?_)
        · go_simp
          refine (HCT.out u2 Bu2).mono ?_
          rintro e u3 ⟨vt, rfl, ⟨S0, vm0, vl0, ht⟩, Lu3⟩
          obtain ⟨g, c, rfl, hg1, hg2, hgc, -⟩ := ht.nonil (by have := H4.out; omega)
          have hft : ∀ b, FtR (.slice (some ⟨g, 0, none⟩) ts.length c) ts.length S0 b → u2.heap.size ≤ b ∧ b < u3.heap.size := fun b hb => ht.bnd b hb
          have su3 := Lu3.size
          replace hT := hT.sm (Lu3.block _ hT.lt)
          replace hR := hR.below Lu3
          have Bu3 := chain Bu2 Lu3
          refine hK.out _ _ Bu3 (fun _ => ?_)
          clear hK K
          have x0 := hR.c0
          have x1 := hR.c1
          have xf0 := hR.frozen 0
          have xf1 := hR.frozen 1
          refine calm_one 7 (by kernel_rfl) rfl (fun K hK => ?_)
          · go_simp
            obtain ⟨u4, hu4⟩ : ∃ wz, (u3.setCell ⟨Rb, 0, none⟩ (.int .i64 d)).setCell ⟨Rb, 1, none⟩ (.slice (some ⟨g, 0, none⟩) ts.length c) = wz := ⟨_, rfl⟩
            have far : ∀ b, b ≠ Rb → u4.heap[b]? = u3.heap[b]? := fun b hb => by rw [← hu4]; exact (Below.heap_setCell _ ⟨Rb, 1, none⟩ _ b (fun e => hb e)).trans (Below.heap_setCell _ ⟨Rb, 0, none⟩ _ b (fun e => hb e))
            have su4 : u3.heap.size = u4.heap.size := by rw [← hu4, setCell_size, setCell_size]
            replace ht := ht.sm (w' := u4) ⟨by omega, fun b hb => far b (by have := hft b hb; omega)⟩
            have Bu4 : Below W.heap.size W u4 := by rw [← hu4]; exact (Bu3.setCell (by show W.heap.size ≤ Rb; omega) _).setCell (by show W.heap.size ≤ Rb; omega) _
            replace hR : Two u4 Rb (.int .i64 d) (.slice (some ⟨g, 0, none⟩) ts.length c) 26 := by rw [← hu4]; exact (hR.set0 _).set1 _
            first | rw [hu4] | skip
            replace hT := hT.sm (w' := u4) (far Tb (by omega))
            refine hK.out _ _ Bu4 (fun _ => ?_)
            clear hK K hu4 far x0 x1 xf0 xf1
            refine calm_rest [8] rfl (by kernel_rfl) (by kernel_rfl) (by kernel_rfl) Bu4 ?_
            iterate 1
              refine ⟨_, rfl, ?_⟩
              apply Exists.intro
              refine ⟨Or.inl ⟨by rfl, fun w' hw' => ?_⟩, ?_⟩
              · skip
                first
                | (go_simp; done)
                | (go_simp; with_reducible rfl)
              simp only [Act.put, List.getElem_toArray, List.getElem_cons_succ, List.getElem_cons_zero, List.setIfInBounds_toArray, List.set_cons_zero, List.set_cons_succ]
            refine NoPanic.normal (NoPanic.normal ?_)
            have hTl := hT.lt
            have hRl := hR.lt
            go_wp2_with fail
            go_meet
            exact ⟨Rb, Tb, g, c, S0, vm0, vl0, rfl, rfl, hR, hT, ht.lowm (by omega), fun b hb => by have := hft b hb; omega, by omega, by omega, by omega, by omega, by omega, Bu4⟩
  case rest =>
    obtain ⟨R, T, g, c, S0, vm0, vl0, rfl, rfl, hR, hT, hS, hft, hRT, hWR, hWT, -, -, LW⟩ := hcut
    generalize hwc : wc = w3 at *
    clear hwc wc L0
    obtain ⟨g0, c0, hgg, hg1, hg2, hgc, -⟩ := hS.nonil (by have := H4.out; omega)
    obtain rfl : g = g0 := by injection hgg with h1 h2 h3; injection h1 with h1; injection h1
    clear hgg hgc
    have HTS3 := hidP hS
    have HTO3 := hidP hR
    have HTH3 := hidP hT
    have HL3 := hidP LW
    have HRT := hidP hRT
    have HS0 : Hid ((∀ i b, i < ts.length → S0 i b → b ≠ R ∧ b ≠ T) ∧ g ≠ R ∧ g ≠ T) := ⟨fun i b hi hb => hft b (Or.inr ⟨i, hi, hb⟩), hft g (Or.inl rfl)⟩
    clear hS hR hT LW hft hRT
    go_wp2_with fail
    go_loopg [8] N (fun gk iv wr => ∃ (k : Nat) (S : Nat → Nat → Prop) (vm vl : Nat → Value) (o : Bool), k ≤ N ∧ N - k ≤ gk ∧ iv = .int .i64 k ∧ raiB m ts k = true ∧ TsR true W.heap.size wr (.slice (some ⟨g, 0, none⟩) ts.length c) (raiT m ts k) S vm vl ∧ (∀ i b, i < ts.length → S i b → b ≠ R ∧ b ≠ T) ∧ Two wr R (.int .i64 d) (.slice (some ⟨g, 0, none⟩) ts.length c) 26 ∧ Thr wr T o (if o then rolV d else d) ∧ Below W.heap.size W wr)
    case atStart => exact ⟨0, _, _, _, false, Nat.zero_le _, Nat.sub_le _ _, rfl, rfl, HTS3.out, HS0.out.1, HTO3.out, HTH3.out, HL3.out⟩
    case round =>
      obtain ⟨k, S, vm, vl, o, hk, hgk, rfl, hrb, hp, hsb, hto, hth, L⟩ := hrel
      have HRO := hidP (iRolledO o T d wr hth)
      have HP0 := hidP hp
      have HT00 := hidP hto
      have HL0 := hidP L
      have HSB := hidP hsb
      have HRB := hidP hrb
      clear hp hto L hsb hrb hth
      go_wp2_with fail
      refine HRO.out.mono ?_
      rintro e wp ⟨rfl, hth, hcg⟩
      have HTH := hidP hth
      have HL : Hid (Below W.heap.size W wp) := HL0.out.trans (hcg.below HL0.out.size (fun i e => by have e' : i = T := e; omega))
      have HP := hidP (HP0.out.sm (hcg.sm (fun b hb => (HP0.out.bnd b hb).2) (fun b hb e => by
        have e' : b = T := e
        rcases hb with hb | ⟨i, hi, hb⟩
        · injection hb with hb; exact HS0.out.2.2 (hb.trans e')
        · exact (HSB.out i b (by rw [raiT_len] at hi; exact hi) hb).2 e')))
      have HT : Hid (Two wp R (.int .i64 d) (.slice (some ⟨g, 0, none⟩) ts.length c) 26) := (hcg.2.2.2.2 R HT00.out.lt (fun e => HRT.out e)).trans HT00.out
      have HLE := hidP (iLevel (rolV d) wp)
      rw [HLV.out] at HLE
      clear hth hcg HRO HP0 HT00 HL0
      by_cases hlt : k < N
      · have hcond : ((k : Int) ≤ (N : Int) - 1) := by omega
        go_wp2_with fail
        refine HLE.out.mono ?_
        rintro e wo ⟨rfl, hwo⟩
        subst hwo
        have hVr := HV.out wo HL.out
        have hkt : k < ts.length := by have := H4.out; omega
        obtain ⟨wb, wof, am, cm, al, cl, rfl, hwb, c0, c1, hmv, hcv, hcap⟩ := hVr.web hkt
        have hweb := tow_web HOK.out.1 (n := k) (by omega)
        have BLo := hidP ((Below.refl wo.heap.size wo).drew)
        have HCo := hidP (fun W' (L' : Below wo.heap.size wo W') => iLnkC am al at' cm cl ct (wnth ts k) m W' (hmv.next L') (hcv.next L') (HM.out W' (chain HL.out L')) HOK.out.2.2 (hcap rfl).1 (hcap rfl).2 (HOK.out.2.1.2 k).1 (HOK.out.2.1.2 k).2 hweb)
        have hB0l := (HT0.out.below HL.out).lt
        have hB1l := (HT1.out.below HL.out).lt
        have HSo : Hid (∀ W', Below wo.heap.size wo W' → W'.cell? ⟨w.heap.size, 1, none⟩ = some (.slice (some ⟨wb, wof, none⟩) ts.length cw) ∧ W'.cell? ⟨wb, wof + k * 2, none⟩ = some (.slice am (wnth ts k).1.length cm) ∧ W'.cell? ⟨wb, wof + k * 2 + 1, none⟩ = some (.slice al (wnth ts k).2.length cl) ∧ W'.cell? ⟨w.heap.size + 1, 0, none⟩ = some (.int .i64 m.1) ∧ W'.cell? ⟨w.heap.size + 1, 1, none⟩ = some (.slice at' m.2.length ct) ∧ (0 : Int) ≤ (k : Int) ∧ (k : Int) < (ts.length : Int)) := fun W' L' => ⟨((HT0.out.below HL.out).below L').c1, (L'.cell (p := ⟨wb, wof + k * 2, none⟩) hwb).trans c0, (L'.cell (p := ⟨wb, wof + k * 2 + 1, none⟩) hwb).trans c1, ((HT1.out.below HL.out).below L').c0, ((HT1.out.below HL.out).below L').c1, Int.natCast_nonneg _, by omega⟩
        obtain ⟨ml, hml⟩ : ∃ ml, (wnth ts k).1.length = ml := ⟨_, rfl⟩
        obtain ⟨ll, hll⟩ : ∃ ll, (wnth ts k).2.length = ll := ⟨_, rfl⟩
        rw [hml, hll] at HCo HSo
        clear hVr hmv hcv c0 c1 hcap hweb hml hll hwb
        go_wp2_with fail
        go_cut [9, 10] from 21 to 46 (fun v b wx => ∃ X a1 l1 c1 a2 l2 c2 F, v = .pointer (some ⟨X, 0, none⟩) ∧ b = .bool (marksB ((wnth ts k).1 ++ [m])) ∧ Two wx X (.slice a1 l1 c1) (.slice a2 l2 c2) 47 ∧ (marksB ((wnth ts k).1 ++ [m]) = true → OwW true F wx (.slice a1 l1 c1) (.slice a2 l2 c2) (raiW m (wnth ts k)).1 (raiW m (wnth ts k)).2) ∧ (∀ b, F b → wo.heap.size ≤ b) ∧ wo.heap.size ≤ X ∧ Below wo.heap.size wo wx)
        case first =>
          refine wp_region_takes (S := fun W' => Below wo.heap.size wo W') (fuel := 7) [0, 1, 2, 3, 4, 5] (by kernel_rfl) (by kernel_rfl) (by kernel_rfl) (by kernel_rfl) BLo.out (fun _ => ?_)
          iterate 6
            refine ⟨_, rfl, ?_⟩
            apply Exists.intro
            refine ⟨Or.inl ⟨by rfl, fun w' hw' => ?_⟩, ?_⟩
            · obtain ⟨e1, e2, e3, e4, e5, e6⟩ := HSo.out w' hw'
              first
              | (go_simp; done)
              | (go_simp; with_reducible rfl)
            simp only [Act.put, List.getElem_toArray, List.getElem_cons_succ, List.getElem_cons_zero, List.setIfInBounds_toArray, List.set_cons_zero, List.set_cons_succ]
          obtain ⟨wv0, hv0⟩ : ∃ w0, wo.drew = w0 := ⟨_, rfl⟩
          have B0 : Below wo.heap.size wo wv0 := by rw [← hv0]; exact BLo.out
          have s0 : wo.heap.size ≤ wv0.heap.size := B0.size
          rw [hv0]
          clear hv0
          refine calm_two14 6 10 (by kernel_rfl) rfl rfl (fun K hK => ?_) (fun K hK => ?_)
          · go_simp
            refine (HCo.out wv0 B0).mono ?_
            rintro e w2 ⟨a1, l1, c1, a2, l2, c2, F, rfl, how, hF, L2⟩
            have LA := chain B0 L2
            refine hK.out _ _ LA (fun hS4 => ?_)
            clear hK K
            refine calm_more14 3 [7, 8, 9] (by kernel_rfl) (by kernel_rfl) (by kernel_rfl) hS4 ?_
            iterate 3
              refine ⟨_, rfl, ?_⟩
              apply Exists.intro
              refine ⟨Or.inl ⟨by rfl, fun w' hw' => ?_⟩, ?_⟩
              · skip
                first
                | (go_simp; done)
                | (go_simp; with_reducible rfl)
              simp only [Act.put, List.getElem_toArray, List.getElem_cons_succ, List.getElem_cons_zero, List.setIfInBounds_toArray, List.set_cons_zero, List.set_cons_succ]
            refine calm_one 10 (by kernel_rfl) rfl (fun K hK => ?_)
            go_simp
            refine hK.out _ _ (LA.alloc LA.size _) (fun _ => ?_)
            clear hK K
            refine calm_one 11 (by kernel_rfl) rfl (fun K hK => ?_)
            go_simp
            obtain ⟨wz, hwz⟩ : ∃ wz, w2.alloc (.cells #[(.slice a1 l1 c1), (.slice a2 l2 c2)] 47) = wz := ⟨_, rfl⟩
            have LZ : Below w2.heap.size w2 wz := by rw [← hwz]; exact (Below.refl _ _).alloc (Nat.le_refl _) _
            have HLZ := hidP (chain LA LZ)
            have HTZ : Hid (Two wz w2.heap.size (.slice a1 l1 c1) (.slice a2 l2 c2) 47) := by show Two _ _ _ _ _; rw [← hwz]; exact Two.new w2 _ _ _
            have HOZ := hidP (fun h => (how h).next LZ)
            have HFZ : Hid ((∀ b, F b → wo.heap.size ≤ b) ∧ wo.heap.size ≤ w2.heap.size) := ⟨fun b hb => by have := (hF b hb).1; omega, LA.size⟩
            rw [hwz]
            refine hK.out _ _ HLZ.out (fun hS9 => ?_)
            clear hK K hwz how hF LA L2 LZ
            refine calm_rest [12] rfl (by kernel_rfl) (by kernel_rfl) (by kernel_rfl) hS9 ?_
            iterate 1
              refine ⟨_, rfl, ?_⟩
              apply Exists.intro
              refine ⟨Or.inl ⟨by rfl, fun w' hw' => ?_⟩, ?_⟩
              · skip
                first
                | (go_simp; done)
                | (go_simp; with_reducible rfl)
              simp only [Act.put, List.getElem_toArray, List.getElem_cons_succ, List.getElem_cons_zero, List.setIfInBounds_toArray, List.set_cons_zero, List.set_cons_succ]
            refine NoPanic.normal (NoPanic.normal ?_)
            go_wp2_with fail
            go_meet
            exact ⟨_, a1, l1, c1, a2, l2, c2, F, rfl, rfl, HTZ.out, HOZ.out, HFZ.out.1, HFZ.out.2, HLZ.out⟩
          · go_simp
            obtain ⟨Wx, hWx⟩ : ∃ W', wv0.alloc (.cells #[.slice none 0 0, .slice none 0 0] 47) = W' := ⟨_, rfl⟩
            obtain ⟨Xb, hXb⟩ : ∃ q, wv0.heap.size = q := ⟨_, rfl⟩
            have LX : Below wo.heap.size wo Wx := by rw [← hWx]; exact B0.alloc s0 _
            have hTX : Two Wx Xb (.slice none 0 0) (.slice none 0 0) 47 := by rw [← hWx, ← hXb]; exact Two.new wv0 _ _ _
            have hXo : wo.heap.size ≤ Xb := by omega
            have hXl := hTX.lt
            first | rw [hWx] | skip
            first | rw [hXb] | skip
            refine hK.out _ _ LX (fun _ => ?_)
            clear hK K hWx
            refine calm_one 6 (by kernel_rfl) rfl (fun K hK => ?_)
            go_simp
            refine (HCo.out Wx LX).mono ?_
            rintro e w2 ⟨a1, l1, c1, a2, l2, c2, F, rfl, how, hF, L2⟩
            have LA := chain LX L2
            have hT4 := hTX.below L2
            refine hK.out _ _ LA (fun hS4 => ?_)
            clear hK K
            refine calm_more14 2 [7, 8, 9] (by kernel_rfl) (by kernel_rfl) (by kernel_rfl) hS4 ?_
            iterate 3
              refine ⟨_, rfl, ?_⟩
              apply Exists.intro
              refine ⟨Or.inl ⟨by rfl, fun w' hw' => ?_⟩, ?_⟩
              · skip
                first
                | (go_simp; done)
                | (go_simp; with_reducible rfl)
              simp only [Act.put, List.getElem_toArray, List.getElem_cons_succ, List.getElem_cons_zero, List.setIfInBounds_toArray, List.set_cons_zero, List.set_cons_succ]
            have x0 := hT4.c0
            have x1 := hT4.c1
            have xf0 := hT4.frozen 0
            have xf1 := hT4.frozen 1
            refine calm_one 11 (by kernel_rfl) rfl (fun K hK => ?_)
            go_simp
            have HLZ := hidP ((LA.setCell (by show wo.heap.size ≤ Xb; exact hXo) (.slice a1 l1 c1) : Below wo.heap.size wo (w2.setCell ⟨Xb, 0, none⟩ (.slice a1 l1 c1))).setCell (by show wo.heap.size ≤ Xb; exact hXo) (.slice a2 l2 c2) : Below wo.heap.size wo ((w2.setCell ⟨Xb, 0, none⟩ (.slice a1 l1 c1)).setCell ⟨Xb, 1, none⟩ (.slice a2 l2 c2)))
            have HTZ := hidP ((hT4.set0 (.slice a1 l1 c1)).set1 (.slice a2 l2 c2))
            have HOZ := hidP (fun h => (how h).sm (w' := (w2.setCell ⟨Xb, 0, none⟩ (.slice a1 l1 c1)).setCell ⟨Xb, 1, none⟩ (.slice a2 l2 c2)) ⟨by rw [setCell_size, setCell_size]; exact Nat.le_refl _, fun b hb => (Below.heap_setCell _ ⟨Xb, 1, none⟩ _ b (fun e => by have e' : b = Xb := e; have := (hF b hb).1; omega)).trans (Below.heap_setCell _ ⟨Xb, 0, none⟩ _ b (fun e => by have e' : b = Xb := e; have := (hF b hb).1; omega))⟩)
            have HFZ : Hid (∀ b, F b → wo.heap.size ≤ b) := fun b hb => by have := (hF b hb).1; omega
            clear how hF
            generalize (w2.setCell ⟨Xb, 0, none⟩ (.slice a1 l1 c1)).setCell ⟨Xb, 1, none⟩ (.slice a2 l2 c2) = wz at *
            refine hK.out _ _ HLZ.out (fun hS9 => ?_)
            clear hK K x0 x1 xf0 xf1 LA L2 hT4
            refine calm_rest [12] rfl (by kernel_rfl) (by kernel_rfl) (by kernel_rfl) hS9 ?_
            iterate 1
              refine ⟨_, rfl, ?_⟩
              apply Exists.intro
              refine ⟨Or.inl ⟨by rfl, fun w' hw' => ?_⟩, ?_⟩
              · skip
                first
                | (go_simp; done)
                | (go_simp; with_reducible rfl)
              simp only [Act.put, List.getElem_toArray, List.getElem_cons_succ, List.getElem_cons_zero, List.setIfInBounds_toArray, List.set_cons_zero, List.set_cons_succ]
            refine NoPanic.normal (NoPanic.normal ?_)
            go_wp2_with fail
            go_meet
            exact ⟨Xb, a1, l1, c1, a2, l2, c2, F, rfl, rfl, HTZ.out, HOZ.out, HFZ.out, hXo, HLZ.out⟩
        case rest =>
          obtain ⟨X, a1, l1, c1, a2, l2, c2, F, rfl, rfl, hTX, hOW, hFX, hXW, LW⟩ := hcut
          generalize hwc : wc = w5 at *
          clear hwc wc HCo HSo BLo HLE
          have HL5 := hidP (chain HL.out LW)
          have HP5 := hidP (HP.out.next LW)
          have HT5 := hidP (HT.out.below LW)
          have HTH5 := hidP (HTH.out.sm (LW.block T HTH.out.lt))
          rcases hmb : marksB ((wnth ts k).1 ++ [m]) with _ | _
          · have t05 := HT0.out.below HL5.out
            have k0 := t05.c0
            have k1 := t05.c1
            have HCY5 := hidP (HCT.out w5 HL5.out)
            have HNO : Hid (raiR m ts d = false) := raiB_no hmb (by rw [HN.out]; exact hlt)
            clear hOW hTX t05
            go_wp2_with fail
            refine HCY5.out.mono ?_
            rintro e w6 ⟨vt, rfl, hcp, L6⟩
            obtain ⟨va, vc, rfl⟩ : ∃ va vc, vt = .slice va ts.length vc := by obtain ⟨_, _, _, h⟩ := hcp; obtain ⟨a, c, e, -⟩ := h.form; exact ⟨a, c, e⟩
            have t26 := HT2.out.below (chain HL5.out L6)
            have r0 := t26.c0
            have r1 := t26.c1
            have rf0 := t26.frozen 0
            have rf1 := t26.frozen 1
            have t27 := (t26.set0 (.int .i64 d)).set1 (.slice va ts.length vc)
            have q0 := t27.c0
            have q1 := t27.c1
            obtain ⟨S1, vm1, vl1, hts1⟩ := hcp
            have hz5 := HL5.out.size
            have hsz := HSZ.out
            have HTF := hidP ((hts1.sm (w' := (w6.setCell ⟨w.heap.size + 1 + 1, 0, none⟩ (.int .i64 d)).setCell ⟨w.heap.size + 1 + 1, 1, none⟩ (.slice va ts.length vc)) ⟨by rw [setCell_size, setCell_size]; exact Nat.le_refl _, fun b hb => (Below.heap_setCell _ ⟨w.heap.size + 1 + 1, 1, none⟩ _ b (fun e => by have e' : b = w.heap.size + 1 + 1 := e; have := (hts1.bnd b hb).1; omega)).trans (Below.heap_setCell _ ⟨w.heap.size + 1 + 1, 0, none⟩ _ b (fun e => by have e' : b = w.heap.size + 1 + 1 := e; have := (hts1.bnd b hb).1; omega))⟩).lowm (base' := w.heap.size) (by omega))
            have HLF := hidP (((chain HB.out (chain HL5.out L6)).setCell (by show w.heap.size ≤ w.heap.size + 1 + 1; omega) (.int .i64 d)).setCell (by show w.heap.size ≤ w.heap.size + 1 + 1; omega) (.slice va ts.length vc) : Below w.heap.size w ((w6.setCell ⟨w.heap.size + 1 + 1, 0, none⟩ (.int .i64 d)).setCell ⟨w.heap.size + 1 + 1, 1, none⟩ (.slice va ts.length vc)))
            clear hts1 t26 t27 L6 k0 k1
            go_wp2_with fail
            refine bodyPost_ret (v := .tuple #[.agg #[.int .i64 d, (.slice va ts.length vc)], .bool false]) (by simp [results, Tryz.results14, go_sem, q0, q1]) rfl ?_
            refine ⟨(.slice va ts.length vc), ?_, ⟨S1, vm1, vl1, ?_⟩, HLF.out⟩
            · unfold raiD; rw [HNO.out]; rfl
            · unfold raiS; rw [HNO.out]; exact HTF.out
          · have HOW := hidP (hOW hmb)
            have HMB := hidP hmb
            have hRL := raiT_len m ts k
            have hPL := HP.out
            rw [← hRL] at hPL
            have HPU := hidP (hPL.put LW (k := k) (by rw [hRL]; exact hkt) HOW.out hFX HL.out.size)
            rw [hRL] at HPU
            have hcl : ∀ i, i < (raiT m ts k).length → w5.cell? ⟨g, i * 2, none⟩ = some (vm i) ∧ w5.cell? ⟨g, i * 2 + 1, none⟩ = some (vl i) ∧ ∀ j, w5.frozen? ⟨g, j, none⟩ = false := by
              obtain ⟨g', c', hge, -, -, -, hcl⟩ := (HP5.out).nonil (by rw [hRL]; omega)
              injection hge with h1 h2 h3
              injection h1 with h1
              injection h1 with h1
              subst h1
              exact hcl
            obtain ⟨e0, e1, ef⟩ := hcl k (by rw [hRL]; exact hkt)
            have f0 := ef (k * 2)
            have f1 := ef (k * 2 + 1)
            have o1 := HT5.out.c1
            have x0 := hTX.c0
            have x1 := hTX.c1
            have hi0 : (0 : Int) ≤ (k : Int) := Int.natCast_nonneg _
            have hi1 : (k : Int) < (ts.length : Int) := by omega
            have hgo : g ≠ R := HS0.out.2.1
            have hgT : g ≠ T := HS0.out.2.2
            have HTH6 : Hid (Thr ((w5.setCell ⟨g, k * 2, none⟩ (.slice a1 l1 c1)).setCell ⟨g, k * 2 + 1, none⟩ (.slice a2 l2 c2)) T true (rolV d)) := HTH5.out.sm ((Below.heap_setCell _ ⟨g, k * 2 + 1, none⟩ _ T (fun e => hgT e.symm)).trans (Below.heap_setCell _ ⟨g, k * 2, none⟩ _ T (fun e => hgT e.symm)))
            have HE : Hid (Two ((w5.setCell ⟨g, k * 2, none⟩ (.slice a1 l1 c1)).setCell ⟨g, k * 2 + 1, none⟩ (.slice a2 l2 c2)) R (.int .i64 d) (.slice (some ⟨g, 0, none⟩) ts.length c) 26 ∧ Below W.heap.size W ((w5.setCell ⟨g, k * 2, none⟩ (.slice a1 l1 c1)).setCell ⟨g, k * 2 + 1, none⟩ (.slice a2 l2 c2))) :=
              ⟨(HT5.out.far hgo _).far hgo _, (HL5.out.setCell (by show W.heap.size ≤ g; exact hg1) _).setCell (by show W.heap.size ≤ g; exact hg1) _⟩
            have hOl := HT.out.lt
            have hTl := HTH.out.lt
            have HSN : Hid (∀ i b, i < ts.length → updS S k F i b → b ≠ R ∧ b ≠ T) := fun i b hi hb => by
              unfold updS at hb
              by_cases e : i = k
              · rw [if_pos e] at hb; have := hFX b hb; omega
              · rw [if_neg e] at hb; exact HSB.out i b hi hb
            have HRN := hidP (raiB_yes HRB.out hmb)
            clear hPL hRL hcl ef hOW hTX HP HT HL HP5 HT5 HL5 LW
            go_wp2_with fail
            go_roundg (N - (k + 1))
            case rel => exact ⟨k + 1, _, _, _, true, by omega, Nat.le_refl _, by go_num, HRN.out, HPU.out, HSN.out, HE.out.1, HTH6.out, HE.out.2⟩
            case measure => omega
      · obtain rfl : k = N := by omega
        have hcond : ¬ ((k : Int) ≤ (k : Int) - 1) := by omega
        have HYES : Hid (raiR m ts d = true) := by show raiB m ts (raiN d) = true; rw [HN.out]; exact HRB.out
        have HRL := hidP (iRolledO true T d wp HTH.out)
        go_wp2_with fail
        refine HLE.out.mono ?_
        rintro e wo ⟨rfl, hwo⟩
        subst hwo
        clear HLE
        go_wp2_with fail
        refine HRL.out.mono ?_
        rintro e wq ⟨rfl, hth, hcg⟩
        have hLq : Below W.heap.size W wq := HL.out.trans (hcg.below HL.out.size (fun i e => by have e' : i = T := e; omega))
        have hPq := HP.out.sm (hcg.sm (fun b hb => (HP.out.bnd b hb).2) (fun b hb e => by
          have e' : b = T := e
          rcases hb with hb | ⟨i, hi, hb⟩
          · injection hb with hb; exact HS0.out.2.2 (hb.trans e')
          · exact (HSB.out i b (by rw [raiT_len] at hi; exact hi) hb).2 e'))
        have hTq : Two wq R (.int .i64 d) (.slice (some ⟨g, 0, none⟩) ts.length c) 26 := (hcg.2.2.2.2 R HT.out.lt (fun e => HRT.out e)).trans HT.out
        have y0 := hTq.c0
        have yf := hTq.frozen 0
        have t2 := HT2.out.below hLq
        obtain ⟨wr2, hwr2⟩ : ∃ wr2, wq.setCell ⟨R, 0, none⟩ (.int .i64 (rolV d)) = wr2 := ⟨_, rfl⟩
        have hz := hLq.size
        have hsz := HSZ.out
        have hR2 : Two wr2 R (.int .i64 (rolV d)) (.slice (some ⟨g, 0, none⟩) ts.length c) 26 := by rw [← hwr2]; exact hTq.set0 _
        have hL2 : Below W.heap.size W wr2 := by rw [← hwr2]; exact hLq.setCell (by show W.heap.size ≤ R; exact hWR) _
        have hP2 : TsR true W.heap.size wr2 (.slice (some ⟨g, 0, none⟩) ts.length c) (raiT m ts k) S vm vl := hPq.sm (by
          rw [← hwr2]
          refine ⟨by rw [setCell_size]; exact Nat.le_refl _, fun b hb => Below.heap_setCell _ ⟨R, 0, none⟩ _ b (fun e => ?_)⟩
          have e' : b = R := e
          rcases hb with hb | ⟨i, hi, hb⟩
          · injection hb with hb; exact HS0.out.2.1 (hb.trans e')
          · exact (HSB.out i b (by rw [raiT_len] at hi; exact hi) hb).1 e')
        have t2 := HT2.out.below hL2
        have r0 := t2.c0
        have r1 := t2.c1
        have rf0 := t2.frozen 0
        have rf1 := t2.frozen 1
        have x0 := hR2.c0
        have x1 := hR2.c1
        have t3 := (t2.set0 (.int .i64 (rolV d))).set1 (.slice (some ⟨g, 0, none⟩) ts.length c)
        have q0 := t3.c0
        have q1 := t3.c1
        have hz2 := hL2.size
        have HTF := hidP ((hP2.sm (w' := (wr2.setCell ⟨w.heap.size + 1 + 1, 0, none⟩ (.int .i64 (rolV d))).setCell ⟨w.heap.size + 1 + 1, 1, none⟩ (.slice (some ⟨g, 0, none⟩) ts.length c)) ⟨by rw [setCell_size, setCell_size]; exact Nat.le_refl _, fun b hb => (Below.heap_setCell _ ⟨w.heap.size + 1 + 1, 1, none⟩ _ b (fun e => by have e' : b = w.heap.size + 1 + 1 := e; have := (hP2.bnd b hb).1; omega)).trans (Below.heap_setCell _ ⟨w.heap.size + 1 + 1, 0, none⟩ _ b (fun e => by have e' : b = w.heap.size + 1 + 1 := e; have := (hP2.bnd b hb).1; omega))⟩).lowm (base' := w.heap.size) (by omega))
        have HLF := hidP (((chain HB.out hL2).setCell (by show w.heap.size ≤ w.heap.size + 1 + 1; omega) (.int .i64 (rolV d))).setCell (by show w.heap.size ≤ w.heap.size + 1 + 1; omega) (.slice (some ⟨g, 0, none⟩) ts.length c) : Below w.heap.size w ((wr2.setCell ⟨w.heap.size + 1 + 1, 0, none⟩ (.int .i64 (rolV d))).setCell ⟨w.heap.size + 1 + 1, 1, none⟩ (.slice (some ⟨g, 0, none⟩) ts.length c)))
        clear t2 t3 hth hcg hLq hPq hTq hR2 hL2 hP2 HP HT HL
        go_wp2_with fail
        try rw [hwr2]
        go_wp2_with fail
        refine bodyPost_ret (v := .tuple #[.agg #[.int .i64 (rolV d), .slice (some ⟨g, 0, none⟩) ts.length c], .bool true]) (by simp [results, Tryz.results14, go_sem, q0, q1]) rfl ?_
        refine ⟨.slice (some ⟨g, 0, none⟩) ts.length c, ?_, ⟨S, vm, vl, ?_⟩, HLF.out⟩
        · unfold raiD; rw [HYES.out]; rfl
        · unfold raiS; rw [HYES.out, HN.out]; exact HTF.out
  end Go.Proofs.YtaaagmgglolibaaGreat
namespace Go.Proofs.YtaaagmgglolibaaGreat
open Go Go.RowKit

def rB (m : Mk) (ts : List Wb) (d : Int) : Bool := towB d ts && raiR m ts d
def rD (m : Mk) (ts : List Wb) (d : Int) : Int := if towB d ts = true then raiD m ts d else 0
def rT (m : Mk) (ts : List Wb) (d : Int) : List Wb := if towB d ts = true then raiS m ts d else []
theorem web_wee {x : Wb} (h : webB x.1 x.2 = true) : MSmall x.1 ∧ CSmall x.2 := by
  obtain ⟨h1, h2, h3, h4⟩ := web_small h
  exact ⟨⟨by omega, fun i => by have := h2 i; omega⟩, ⟨by omega, fun i => by have := h4 i; omega⟩⟩
theorem rai_at {m : Mk} {ts : List Wb} : ∀ {n : Nat}, raiB m ts n = true → ∀ k, k < n → marksB ((wnth ts k).1 ++ [m]) = true
  | 0, _, k, hk => by omega
  | n + 1, h, k, hk => by
    unfold raiB at h
    rw [Bool.and_eq_true] at h
    rcases Nat.lt_or_ge k n with h1 | h1
    · exact rai_at h.1 k h1
    · obtain rfl : k = n := by omega
      exact h.2
theorem rai_web {m : Mk} {ts : List Wb} {d : Int} (hok : towB d ts = true) (i : Nat) (hi : i < 4) : webB (wnth (raiS m ts d) i).1 (wnth (raiS m ts d) i).2 = true := by
  have hw := tow_web hok (n := i) hi
  unfold raiS
  by_cases h : raiR m ts d = true
  · rw [if_pos h]
    obtain ⟨-, -, hn⟩ := rai_lev (tow_in hok)
    rw [raiT_at m ts _ (by have := (tow_at hok).1; omega)]
    by_cases e : i < raiN d
    · rw [if_pos e]
      exact linked_web hw (rai_at h i e) (nearI_find (web_marks hw))
    · rw [if_neg e]; exact hw
  · rw [if_neg h]; exact hw
theorem rT_len (m : Mk) (ts : List Wb) (d : Int) : (rT m ts d).length ≤ 4 := by
  unfold rT
  by_cases h : towB d ts = true
  · rw [if_pos h]
    have := (tow_at h).1
    unfold raiS
    by_cases h2 : raiR m ts d = true
    · rw [if_pos h2, raiT_len]; omega
    · rw [if_neg h2]; omega
  · rw [if_neg h]; simp
theorem rT_wee (m : Mk) (ts : List Wb) (d : Int) : WbSmall (rT m ts d) := by
  refine ⟨by have := rT_len m ts d; omega, fun i => ?_⟩
  have hz : MSmall (([], []) : Wb).1 ∧ CSmall (([], []) : Wb).2 := ⟨⟨by simp, fun i => by simp [mat]⟩, ⟨by simp, fun i => by simp [cn]⟩⟩
  unfold rT
  by_cases h : towB d ts = true
  · rw [if_pos h]
    rcases Nat.lt_or_ge i 4 with h1 | h1
    · exact web_wee (rai_web h i h1)
    · have hl : (raiS m ts d).length ≤ i := by have := rT_len m ts d; unfold rT at this; rw [if_pos h] at this; omega
      have : wnth (raiS m ts d) i = ([], []) := by unfold wnth; rw [List.getD_eq_getElem?_getD, List.getElem?_eq_none hl]; rfl
      rw [this]; exact hz
  · rw [if_neg h]
    have : wnth [] i = ([], []) := by simp [wnth]
    rw [this]; exact hz

/-- A row of webs reads as told behind whatever leaves the blocks from base on. -/
def KeptT (base : Nat) (w : World) (a : Option Addr) (ts : List Wb) : Prop := ∀ w' : World, w.heap.size ≤ w'.heap.size → (∀ b, base ≤ b → b < w.heap.size → w'.heap[b]? = w.heap[b]?) → WbView true w' a ts
theorem TsR.kept {o : Bool} {base : Nat} {w : World} {a : Option Addr} {n c : Nat} {ts : List Wb} {S : Nat → Nat → Prop} {vm vl : Nat → Value} (h : TsR o base w (.slice a n c) ts S vm vl) : KeptT base w a ts := fun w' hs e => by
  obtain ⟨a', c', e', -, hv⟩ := (h.sm (w' := w') ⟨hs, fun b hb => e b (h.bnd b hb).1 (h.bnd b hb).2⟩).form
  injection e' with e1 e2 e3
  subst e1
  exact hv

set_option maxRecDepth 100000 in
set_option maxHeartbeats 4000000 in
theorem gotSR (aw at' : Option Addr) (cw ct : Nat) (d : Int) (ts : List Wb) (m : Mk) (w : World) (hv : WbView true w aw ts) (ha : View w at' m.2) (hsm : WbSmall ts) (hal : m.2.length ≤ 1048576) :
    Calls Tryz.prog 17 #[.agg #[.int .i64 d, .slice aw ts.length cw], .agg #[.int .i64 m.1, .slice at' m.2.length ct]] w fun e w' => ∃ a1 c1, e = .returned (.tuple #[.agg #[.int .i64 (rD m ts d), .slice a1 (rT m ts d).length c1], .bool (rB m ts d)]) ∧ KeptT w.heap.size w' a1 (rT m ts d) ∧ Below w.heap.size w w' := by
  obtain ⟨W1, hW1⟩ : ∃ W, w.alloc (.cells #[.int .i64 d, .slice aw ts.length cw] 26) = W := ⟨_, rfl⟩
  obtain ⟨W2, hW2⟩ : ∃ W, W1.alloc (.cells #[.int .i64 m.1, .slice at' m.2.length ct] 29) = W := ⟨_, rfl⟩
  obtain ⟨W, hW⟩ : ∃ W, W2.alloc (.cells #[.int .i64 0, .slice none 0 0] 26) = W := ⟨_, rfl⟩
  have s1 : W1.heap.size = w.heap.size + 1 := by rw [← hW1]; simp
  have s2 : W2.heap.size = w.heap.size + 1 + 1 := by rw [← hW2]; simp [s1]
  have s3 : W.heap.size = w.heap.size + 1 + 1 + 1 := by rw [← hW]; simp [s2]
  have b1 : Below w.heap.size w W1 := by rw [← hW1]; exact (Below.refl _ _).alloc (Nat.le_refl _) _
  have b2 : Below W1.heap.size W1 W2 := by rw [← hW2]; exact (Below.refl _ _).alloc (Nat.le_refl _) _
  have b3 : Below W2.heap.size W2 W := by rw [← hW]; exact (Below.refl _ _).alloc (Nat.le_refl _) _
  have t0 : Two W w.heap.size (.int .i64 d) (.slice aw ts.length cw) 26 := by
    have : Two W1 w.heap.size (.int .i64 d) (.slice aw ts.length cw) 26 := by rw [← hW1]; exact Two.new w _ _ _
    exact (this.below b2).below b3
  have t1 : Two W (w.heap.size + 1) (.int .i64 m.1) (.slice at' m.2.length ct) 29 := by
    have : Two W2 (w.heap.size + 1) (.int .i64 m.1) (.slice at' m.2.length ct) 29 := by rw [← hW2, ← s1]; exact Two.new W1 _ _ _
    exact this.below b3
  have t2 : Two W (w.heap.size + 1 + 1) (.int .i64 0) (.slice none 0 0) 26 := by rw [← hW, ← s2]; exact Two.new W2 _ _ _
  have hB := chain (chain b1 b2) b3
  have HB := hidP hB
  have HT0 := hidP t0
  have HT1 := hidP t1
  have HT2 := hidP t2
  have HSZ := hidP s3
  have HOKT := hidP (sTowerOk true aw cw d ts W (hv.next hB) hsm)
  have HG := hidP (fun (W' : World) (L : Below W.heap.size W W') (hok : towB d ts = true) => sRaisedG aw at' cw ct d ts m W' (hv.next (chain hB L)) ((ha.below (Nat.le_refl _) hB).below (Nat.le_refl _) L) hal hok hsm)
  have k0 := t0.c0
  have k1 := t0.c1
  have HWW : Hid (((w.alloc (.cells #[.int .i64 d, .slice aw ts.length cw] 26)).alloc (.cells #[.int .i64 m.1, .slice at' m.2.length ct] 29)).alloc (.cells #[.int .i64 0, .slice none 0 0] 26) = W) := by show _ = _; rw [hW1, hW2, hW]
  clear hv ha hsm hal hB b1 b2 b3 t0 t1 t2 s1 s2 s3 hW hW1 hW2
  rcases hok : towB d ts with _ | _
  · rw [hok] at HOKT
    have HR : Hid (rD m ts d = 0 ∧ rT m ts d = [] ∧ rB m ts d = false) := by unfold rD rT rB; rw [hok]; exact ⟨rfl, rfl, rfl⟩
    clear hok
    go_enter Tryz.func17, Tryz.ntmps17
    go_upto_region 1 with fail
    rw [HWW.out]
    clear HWW
    go_wp2_with fail
    refine HOKT.out.mono ?_
    rintro e W0 ⟨rfl, L0⟩
    have t2 := HT2.out.below L0
    have r0 := t2.c0
    have r1 := t2.c1
    have rf0 := t2.frozen 0
    have rf1 := t2.frozen 1
    have t3 := (t2.set0 (.int .i64 0)).set1 (.slice none 0 0)
    have q0 := t3.c0
    have q1 := t3.c1
    have HLF := hidP (((chain HB.out L0).setCell (by show w.heap.size ≤ w.heap.size + 1 + 1; omega) (.int .i64 0)).setCell (by show w.heap.size ≤ w.heap.size + 1 + 1; omega) (.slice none 0 0) : Below w.heap.size w ((W0.setCell ⟨w.heap.size + 1 + 1, 0, none⟩ (.int .i64 0)).setCell ⟨w.heap.size + 1 + 1, 1, none⟩ (.slice none 0 0)))
    clear k0 k1 HOKT t2 t3 L0
    go_wp2_with fail
    refine bodyPost_ret (v := .tuple #[.agg #[.int .i64 0, .slice none 0 0], .bool false]) (by simp [results, Tryz.results17, go_sem, q0, q1]) rfl ?_
    obtain ⟨h1, h2, h3⟩ := HR.out
    rw [h1, h2, h3]
    exact ⟨none, 0, rfl, fun _ _ _ => Or.inl rfl, HLF.out⟩
  · rw [hok] at HOKT
    have HGG := hidP (fun (W' : World) (L : Below W.heap.size W W') => HG.out W' L hok)
    have HR : Hid (rD m ts d = raiD m ts d ∧ rT m ts d = raiS m ts d ∧ rB m ts d = raiR m ts d) := by unfold rD rT rB; rw [hok]; exact ⟨rfl, rfl, by simp⟩
    clear hok HG
    go_enter Tryz.func17, Tryz.ntmps17
    go_upto_region 1 with fail
    rw [HWW.out]
    clear HWW
    go_wp2_with fail
    refine HOKT.out.mono ?_
    rintro e W0 ⟨rfl, L0⟩
    have HG0 := hidP (HGG.out W0 L0)
    have HL0 := hidP L0
    clear k0 k1 HOKT
    have k0 := (HT0.out.below L0).c0
    have k1 := (HT0.out.below L0).c1
    have m0 := (HT1.out.below L0).c0
    have m1 := (HT1.out.below L0).c1
    clear L0 HGG
    go_wp2_with fail
    refine HG0.out.mono ?_
    rintro e W3 ⟨vt, rfl, ⟨S, vm, vl, ht⟩, L3⟩
    obtain ⟨va, vc, rfl, -⟩ := ht.form
    have LL := chain HL0.out L3
    have t2 := HT2.out.below LL
    have r0 := t2.c0
    have r1 := t2.c1
    have rf0 := t2.frozen 0
    have rf1 := t2.frozen 1
    have t3 := (t2.set0 (.int .i64 (raiD m ts d))).set1 (.slice va (raiS m ts d).length vc)
    have q0 := t3.c0
    have q1 := t3.c1
    have hz0 := HL0.out.size
    have hsz := HSZ.out
    have HTF := hidP ((ht.sm (w' := (W3.setCell ⟨w.heap.size + 1 + 1, 0, none⟩ (.int .i64 (raiD m ts d))).setCell ⟨w.heap.size + 1 + 1, 1, none⟩ (.slice va (raiS m ts d).length vc)) ⟨by rw [setCell_size, setCell_size]; exact Nat.le_refl _, fun b hb => (Below.heap_setCell _ ⟨w.heap.size + 1 + 1, 1, none⟩ _ b (fun e => by have e' : b = w.heap.size + 1 + 1 := e; have := (ht.bnd b hb).1; omega)).trans (Below.heap_setCell _ ⟨w.heap.size + 1 + 1, 0, none⟩ _ b (fun e => by have e' : b = w.heap.size + 1 + 1 := e; have := (ht.bnd b hb).1; omega))⟩).lowm (base' := w.heap.size) (by omega)).kept
    have HLF := hidP (((chain HB.out LL).setCell (by show w.heap.size ≤ w.heap.size + 1 + 1; omega) (.int .i64 (raiD m ts d))).setCell (by show w.heap.size ≤ w.heap.size + 1 + 1; omega) (.slice va (raiS m ts d).length vc) : Below w.heap.size w ((W3.setCell ⟨w.heap.size + 1 + 1, 0, none⟩ (.int .i64 (raiD m ts d))).setCell ⟨w.heap.size + 1 + 1, 1, none⟩ (.slice va (raiS m ts d).length vc)))
    clear k0 k1 m0 m1 t2 t3 L3 LL ht
    go_wp2_with fail
    refine bodyPost_ret (v := .tuple #[.agg #[.int .i64 (raiD m ts d), .slice va (raiS m ts d).length vc], .bool (raiR m ts d)]) (by simp [results, Tryz.results17, go_sem, q0, q1]) rfl ?_
    obtain ⟨h1, h2, h3⟩ := HR.out
    rw [h1, h2, h3]
    exact ⟨va, vc, rfl, HTF.out, HLF.out⟩

set_option maxRecDepth 100000 in
set_option maxHeartbeats 4000000 in
theorem iRaised_no (aw at' : Option Addr) (cw ct : Nat) (d : Int) (ts : List Wb) (m : Mk) (w : World) (hv : WbView true w aw ts) (hsm : WbSmall ts) (hno : towB d ts = false) :
    Calls Tryz.prog 14 #[.agg #[.int .i64 d, .slice aw ts.length cw], .agg #[.int .i64 m.1, .slice at' m.2.length ct]] w fun e w' => e = .returned (.tuple #[.agg #[.int .i64 0, .slice none 0 0], .bool false]) ∧ Below w.heap.size w w' := by
  obtain ⟨W1, hW1⟩ : ∃ W, w.alloc (.cells #[.int .i64 d, .slice aw ts.length cw] 26) = W := ⟨_, rfl⟩
  obtain ⟨W2, hW2⟩ : ∃ W, W1.alloc (.cells #[.int .i64 m.1, .slice at' m.2.length ct] 29) = W := ⟨_, rfl⟩
  obtain ⟨W, hW⟩ : ∃ W, W2.alloc (.cells #[.int .i64 0, .slice none 0 0] 26) = W := ⟨_, rfl⟩
  have s1 : W1.heap.size = w.heap.size + 1 := by rw [← hW1]; simp
  have s2 : W2.heap.size = w.heap.size + 1 + 1 := by rw [← hW2]; simp [s1]
  have b1 : Below w.heap.size w W1 := by rw [← hW1]; exact (Below.refl _ _).alloc (Nat.le_refl _) _
  have b2 : Below W1.heap.size W1 W2 := by rw [← hW2]; exact (Below.refl _ _).alloc (Nat.le_refl _) _
  have b3 : Below W2.heap.size W2 W := by rw [← hW]; exact (Below.refl _ _).alloc (Nat.le_refl _) _
  have t0 : Two W w.heap.size (.int .i64 d) (.slice aw ts.length cw) 26 := by
    have : Two W1 w.heap.size (.int .i64 d) (.slice aw ts.length cw) 26 := by rw [← hW1]; exact Two.new w _ _ _
    exact (this.below b2).below b3
  have t2 : Two W (w.heap.size + 1 + 1) (.int .i64 0) (.slice none 0 0) 26 := by rw [← hW, ← s2]; exact Two.new W2 _ _ _
  have hB := chain (chain b1 b2) b3
  have HB := hidP hB
  have HT2 := hidP t2
  have HOKT := hidP (iTowerOk aw cw d ts W (hv.next hB) hsm)
  rw [hno] at HOKT
  have k0 := t0.c0
  have k1 := t0.c1
  have HWW : Hid (((w.alloc (.cells #[.int .i64 d, .slice aw ts.length cw] 26)).alloc (.cells #[.int .i64 m.1, .slice at' m.2.length ct] 29)).alloc (.cells #[.int .i64 0, .slice none 0 0] 26) = W) := by show _ = _; rw [hW1, hW2, hW]
  clear hv hsm hB b1 b2 b3 t0 t2 s1 s2 hW hW1 hW2 hno
  go_enter Tryz.func14, Tryz.ntmps14
  go_upto_region 1 with fail
  rw [HWW.out]
  clear HWW
  go_wp2_with fail
  refine HOKT.out.mono ?_
  rintro e W0 ⟨rfl, L0⟩
  have t2 := HT2.out.below L0
  have r0 := t2.c0
  have r1 := t2.c1
  have rf0 := t2.frozen 0
  have rf1 := t2.frozen 1
  have t3 := (t2.set0 (.int .i64 0)).set1 (.slice none 0 0)
  have q0 := t3.c0
  have q1 := t3.c1
  have HLF := hidP (((chain HB.out L0).setCell (by show w.heap.size ≤ w.heap.size + 1 + 1; omega) (.int .i64 0)).setCell (by show w.heap.size ≤ w.heap.size + 1 + 1; omega) (.slice none 0 0) : Below w.heap.size w ((W0.setCell ⟨w.heap.size + 1 + 1, 0, none⟩ (.int .i64 0)).setCell ⟨w.heap.size + 1 + 1, 1, none⟩ (.slice none 0 0)))
  clear k0 k1 HOKT t2 t3 L0
  go_wp2_with fail
  refine bodyPost_ret (v := .tuple #[.agg #[.int .i64 0, .slice none 0 0], .bool false]) (by simp [results, Tryz.results14, go_sem, q0, q1]) rfl ?_
  exact ⟨rfl, HLF.out⟩

/-- What the program hands out: it reads as told, and may be marked. -/
theorem gotFR (aw at' : Option Addr) (cw ct : Nat) (d : Int) (ts : List Wb) (m : Mk) (w : World) (hv : WbView true w aw ts) (ha : View w at' m.2) (hsm : WbSmall ts) (hal : m.2.length ≤ 1048576) :
    Calls Tryz.prog 14 #[.agg #[.int .i64 d, .slice aw ts.length cw], .agg #[.int .i64 m.1, .slice at' m.2.length ct]] w fun e w' => ∃ a1 c1, e = .returned (.tuple #[.agg #[.int .i64 (rD m ts d), .slice a1 (rT m ts d).length c1], .bool (rB m ts d)]) ∧ TsO true (Btw w.heap.size w'.heap.size) w' (.slice a1 (rT m ts d).length c1) (rT m ts d) ∧ Below w.heap.size w w' := by
  rcases hok : towB d ts with _ | _
  · refine (iRaised_no aw at' cw ct d ts m w hv hsm hok).mono ?_
    rintro e w' ⟨rfl, L⟩
    have h : rD m ts d = 0 ∧ rT m ts d = [] ∧ rB m ts d = false := by unfold rD rT rB; rw [hok]; exact ⟨rfl, rfl, rfl⟩
    rw [h.1, h.2.1, h.2.2]
    exact ⟨none, 0, rfl, (TsO.zero true w').mono (fun b hb => hb.2) (fun b hb => hb.elim), L⟩
  · refine (iRaisedG aw at' cw ct d ts m w hv ha hal hok hsm).mono ?_
    rintro e w' ⟨vt, rfl, ⟨S, vm, vl, ht⟩, L⟩
    obtain ⟨va, vc, rfl, -⟩ := ht.form
    have h : rD m ts d = raiD m ts d ∧ rT m ts d = raiS m ts d ∧ rB m ts d = raiR m ts d := by unfold rD rT rB; rw [hok]; exact ⟨rfl, rfl, by simp⟩
    rw [h.1, h.2.1, h.2.2]
    exact ⟨va, vc, rfl, ht.out, L⟩
theorem gotIR (aw at' : Option Addr) (cw ct : Nat) (d : Int) (ts : List Wb) (m : Mk) (w : World) (hv : WbView true w aw ts) (ha : View w at' m.2) (hsm : WbSmall ts) (hal : m.2.length ≤ 1048576) :
    Calls Tryz.prog 14 #[.agg #[.int .i64 d, .slice aw ts.length cw], .agg #[.int .i64 m.1, .slice at' m.2.length ct]] w fun e w' => ∃ a1 c1, e = .returned (.tuple #[.agg #[.int .i64 (rD m ts d), .slice a1 (rT m ts d).length c1], .bool (rB m ts d)]) ∧ KeptT w.heap.size w' a1 (rT m ts d) ∧ Below w.heap.size w w' := by
  refine (gotFR aw at' cw ct d ts m w hv ha hsm hal).mono ?_
  rintro e w' ⟨a1, c1, rfl, h, L⟩
  refine ⟨a1, c1, rfl, fun w2 hs e => ?_, L⟩
  obtain ⟨a, c, e', -, hv⟩ := h.view
  injection e' with e1 e2 e3
  subst e1
  exact hv w2 ⟨hs, fun b hb => e b hb.1 hb.2⟩
end Go.Proofs.YtaaagmgglolibaaGreat
namespace Go.Proofs.YtaaagmgglolibaaGreat
open Go Go.RowKit

/-- A tower in memory. -/
structure TwI (s : Bool) (w : World) (X : Nat) (a : Option Addr) (c : Nat) (d : Int) (ts : List Wb) : Prop where
  lt : X < w.heap.size
  c0 : w.cell? ⟨X, 0, none⟩ = some (.int .i64 d)
  c1 : w.cell? ⟨X, 1, none⟩ = some (.slice a ts.length c)
  wv : WbView s w a ts
theorem TwI.below {s : Bool} {w w' : World} {X : Nat} {a : Option Addr} {c : Nat} {d : Int} {ts : List Wb} (h : TwI s w X a c d ts) (L : Below w.heap.size w w') : TwI s w' X a c d ts :=
  ⟨Nat.lt_of_lt_of_le h.lt L.size, (L.cell (p := ⟨X, 0, none⟩) h.lt).trans h.c0, (L.cell (p := ⟨X, 1, none⟩) h.lt).trans h.c1, h.wv.next L⟩
theorem TwI.box {s : Bool} {w : World} {a : Option Addr} {c : Nat} {d : Int} {ts : List Wb} {t : TypeId} (h : WbView s w a ts) : TwI s (w.alloc (.cells #[.int .i64 d, .slice a ts.length c] t)) w.heap.size a c d ts :=
  ⟨by simp, by simp, by simp, h.next ((Below.refl _ _).alloc (Nat.le_refl _) _)⟩
theorem tow_put {wo w4 : World} {X base : Nat} {u v : Value} {t : TypeId} {a1 : Option Addr} {c1 : Nat} {LD : Int} {LT : List Wb} (LA : Below wo.heap.size wo w4) (hX : wo.heap.size ≤ X) (hT : Two w4 X u v t) (hXb : X < base) (kp : KeptT base w4 a1 LT) :
    Below wo.heap.size wo ((w4.setCell ⟨X, 0, none⟩ (.int .i64 LD)).setCell ⟨X, 1, none⟩ (.slice a1 LT.length c1)) ∧ TwI true ((w4.setCell ⟨X, 0, none⟩ (.int .i64 LD)).setCell ⟨X, 1, none⟩ (.slice a1 LT.length c1)) X a1 c1 LD LT := by
  obtain ⟨wy, hwy⟩ : ∃ wy, wy = (w4.setCell ⟨X, 0, none⟩ (.int .i64 LD)).setCell ⟨X, 1, none⟩ (.slice a1 LT.length c1) := ⟨_, rfl⟩
  have hoth : ∀ b, b ≠ X → wy.heap[b]? = w4.heap[b]? := fun b hb => by
    rw [hwy, Below.heap_setCell _ ⟨X, 1, none⟩ _ b hb, Below.heap_setCell _ ⟨X, 0, none⟩ _ b hb]
  have hys : wy.heap.size = w4.heap.size := by rw [hwy, setCell_size, setCell_size]
  have hTZ : Two wy X (.int .i64 LD) (.slice a1 LT.length c1) t := by rw [hwy]; exact (hT.set0 _).set1 _
  rw [← hwy]
  have g1 := kp wy (by omega) (fun b hb _ => hoth b (by omega))
  refine ⟨⟨?_, ?_, ?_, by rw [hys]; exact LA.size, fun b hb => (hoth b (by omega)).trans (LA.block b hb)⟩, hTZ.lt, hTZ.c0, hTZ.c1, g1⟩
  · rw [hwy]; exact LA.os
  · rw [hwy]; exact LA.tape
  · rw [hwy]; exact LA.output

structure WkR (wc : World) (b5 bx bq bY bo Z : Nat) (lo5 : Nat → Nat) (ts : List Wb) (d : Int) (m : Mk) (LD : Int) (LT : List Wb) (ga1 : Option Addr) (gc1 : Nat) (w : World) : Prop where
  low : Below wc.heap.size wc w
  part : WbPart w b5 ts.length ts.length ts lo5
  box : TwI true w bx (some ⟨b5, 0, none⟩) ts.length d ts
  own : Own w bq m.2
  mbox : Two w bY (.int .i64 m.1) (.slice (some ⟨bq, 0, none⟩) m.2.length m.2.length) 29
  out : TsO true (Btw Z bo) w (.slice ga1 LT.length gc1) LT
  obox : Two w bo (.int .i64 LD) (.slice ga1 LT.length gc1) 26
theorem WkR.next {wc w w' : World} {b5 bx bq bY bo Z : Nat} {lo5 : Nat → Nat} {ts : List Wb} {d : Int} {m : Mk} {LD : Int} {LT : List Wb} {ga1 : Option Addr} {gc1 : Nat} (h : WkR wc b5 bx bq bY bo Z lo5 ts d m LD LT ga1 gc1 w) (L : Below w.heap.size w w') : WkR wc b5 bx bq bY bo Z lo5 ts d m LD LT ga1 gc1 w' :=
  ⟨chain h.low L, h.part.next L, h.box.below L, h.own.below h.own.lt L, h.mbox.below L, h.out.next L, h.obox.below L⟩
theorem tso_kept {S : Nat → Prop} {w : World} {a : Option Addr} {n c : Nat} {ts : List Wb} (h : TsO true S w (.slice a n c) ts) : WbView true w a ts := by
  obtain ⟨a', c', e', -, hv⟩ := h.view
  injection e' with e1 e2 e3
  subst e1
  exact hv w (Sta.refl _ _)
set_option maxRecDepth 100000 in
set_option maxHeartbeats 8000000 in
theorem walkRaised (ao aq : Option Addr) (cap ca : Nat) (d : Int) (ts : List Wb) (m : Mk) (w : World) (hv : WbView false w ao ts) (hf : WbFit ts) (ha : View w aq m.2) (hn : m.2.length ≤ maxLen) :
    Calls Tryz.prog 8 #[.agg #[.int .i64 d, .slice ao ts.length cap], .agg #[.int .i64 m.1, .slice aq m.2.length ca]] w fun e w' => e = .returned (.bool true) ∧ Below w.heap.size w w' := by
  obtain ⟨W1, hW1⟩ : ∃ W, w.alloc (.cells #[.int .i64 d, .slice ao ts.length cap] 92) = W := ⟨_, rfl⟩
  obtain ⟨W, hW⟩ : ∃ W, W1.alloc (.cells #[.int .i64 m.1, .slice aq m.2.length ca] 93) = W := ⟨_, rfl⟩
  have s1 : W1.heap.size = w.heap.size + 1 := by rw [← hW1]; simp
  have b1 : Below w.heap.size w W1 := by rw [← hW1]; exact (Below.refl _ _).alloc (Nat.le_refl _) _
  have b2 : Below W1.heap.size W1 W := by rw [← hW]; exact (Below.refl _ _).alloc (Nat.le_refl _) _
  have hB : Below w.heap.size w W := chain b1 b2
  have hI : TwI false W w.heap.size ao cap d ts := (show TwI false W1 w.heap.size ao cap d ts by rw [← hW1]; exact TwI.box hv).below b2
  have t2 : Two W (w.heap.size + 1) (.int .i64 m.1) (.slice aq m.2.length ca) 93 := by rw [← hW, ← s1]; exact Two.new W1 _ _ _
  have HB := hidP hB
  have HW := hidP hI
  have HT := hidP t2
  have HV := hidP (View.next ha hB)
  have HS := hidP (szTw false ao cap d ts 1048576 W hI.wv (by omega) (by omega) hf.1 hf.2)
  have HS2 := hidP (fun (W' : World) (r : Int) (h0 : 0 ≤ r) (h1 : r ≤ 1048576) => szM m aq ca r W' hn h0 h1)
  have KC := hidP (fun W' (L : Below W.heap.size W W') => And.intro (And.intro (HW.out.below L).c0 (HW.out.below L).c1) (And.intro (HT.out.below L).c0 (HT.out.below L).c1))
  obtain ⟨⟨k0, k1⟩, k2, k3⟩ := KC.out W (Below.refl _ _)
  clear hv ha hB hI b1 b2 t2 hf hn
  go_enter Tryz.func8, Tryz.ntmps8
  go_wp2_with fail
  refine HS.out.mono ?_
  rintro e w1 ⟨r, rfl, hr0, hr, L1⟩
  by_cases hneg : r < 0
  · go_wp2_with fail
    go_ret
    exact ⟨rfl, chain HB.out L1⟩
  obtain ⟨hsm, htot⟩ : WbSmall ts ∧ (ttot ts : Int) + r = 1048576 := by rcases hr with h | h; exact absurd h hneg; exact h
  have HM := hidP hsm
  have HTT : Hid (ttot ts ≤ 1048576) := by show _ ≤ _; omega
  obtain ⟨-, j2, j3⟩ := KC.out w1 L1
  have HL1 := hidP L1
  have HC1 := hidP (HS2.out w1 r (by omega) hr0)
  have hcv : ¬ cutV r m.2.length < 0 → m.2.length ≤ 1048576 := fun h => cutV_small hr0 (by omega)
  have HCV := hidP hcv
  obtain ⟨r2, hr2⟩ : ∃ r2, cutV r m.2.length = r2 := ⟨_, rfl⟩
  rw [hr2] at HC1 HCV
  clear hr hsm htot L1 HS k0 k1 k2 k3 hW hW1 hcv hr2 s1
  go_wp2_with fail
  refine HC1.out.mono ?_
  rintro e wo ⟨rfl, L2⟩
  by_cases hneg2 : r2 < 0
  · go_wp2_with fail
    go_ret
    exact ⟨rfl, chain HB.out (chain HL1.out L2)⟩
  have hml := HCV.out (by omega)
  have HML := hidP hml
  have HLo := hidP (chain HL1.out L2)
  clear L2 HC1 HL1 HS2 hml j2 j3 HCV
  have TW := hidP (fun W' (L : Below W.heap.size W W') => toTw false ao cap d ts W' (HW.out.below L).wv HM.out)
  have TM := hidP (fun W' (L : Below W.heap.size W W') => toM m aq ca W' (View.next HV.out L) HML.out)
  have CS := hidP (fun (W' : World) (x z : Nat) (h1 : WbView true W' (some ⟨x, 0, none⟩) ts) (h2 : View W' (some ⟨z, 0, none⟩) m.2) => gotSR (some ⟨x, 0, none⟩) (some ⟨z, 0, none⟩) ts.length m.2.length d ts m W' h1 h2 HM.out HML.out)
  have CI := hidP (fun (W' : World) (x z : Nat) (h1 : WbView true W' (some ⟨x, 0, none⟩) ts) (h2 : View W' (some ⟨z, 0, none⟩) m.2) => gotIR (some ⟨x, 0, none⟩) (some ⟨z, 0, none⟩) ts.length m.2.length d ts m W' h1 h2 HM.out HML.out)
  have CF := hidP (fun (W' : World) (x z : Nat) (h1 : WbView true W' (some ⟨x, 0, none⟩) ts) (h2 : View W' (some ⟨z, 0, none⟩) m.2) => gotFR (some ⟨x, 0, none⟩) (some ⟨z, 0, none⟩) ts.length m.2.length d ts m W' h1 h2 HM.out HML.out)
  have HSML := hidP (rT_wee m ts d)
  obtain ⟨LD, hLD⟩ : ∃ L, rD m ts d = L := ⟨_, rfl⟩
  obtain ⟨LT, hLT⟩ : ∃ L, rT m ts d = L := ⟨_, rfl⟩
  obtain ⟨lb, hlb⟩ : ∃ b, rB m ts d = b := ⟨_, rfl⟩
  rw [hLD, hLT, hlb] at CS CI CF
  rw [hLT] at HSML
  clear hLD hLT hlb
  have BLo := hidP ((Below.refl wo.heap.size wo).drew)
  have TWo := hidP (fun W' (L : Below wo.heap.size wo W') => TW.out W' (chain HLo.out L))
  have TMo := hidP (fun W' (L : Below wo.heap.size wo W') => TM.out W' (chain HLo.out L))
  have HSo := hidP (fun W' (L : Below wo.heap.size wo W') => KC.out W' (chain HLo.out L))
  have CLo := CS
  go_upto_region 8 with fail
  go_cut [6, 7] from 27 to 34 (fun v b wx => ∃ X a1' c1', v = .pointer (some ⟨X, 0, none⟩) ∧ b = .bool lb ∧ Below wo.heap.size wo wx ∧ TwI true wx X a1' c1' LD LT)
  case first =>
    refine wp_region_takes (S := fun W' => Below wo.heap.size wo W') (fuel := 9) [0, 2] (by kernel_rfl) (by kernel_rfl) (by kernel_rfl) (by kernel_rfl) BLo.out (fun _ => ?_)
    iterate 2
      refine ⟨_, rfl, ?_⟩
      apply Exists.intro
      refine ⟨Or.inl ⟨by rfl, fun w' hw' => ?_⟩, ?_⟩
      · obtain ⟨⟨e1, e2⟩, e3, e4⟩ := HSo.out w' hw'
        first
        | (go_simp; done)
        | (go_simp; with_reducible rfl)
      simp only [Act.put, List.getElem_toArray, List.getElem_cons_succ, List.getElem_cons_zero, List.setIfInBounds_toArray, List.set_cons_zero, List.set_cons_succ]
    refine calm_two14 1 8 (by kernel_rfl) rfl rfl (fun K hK => ?_) (fun K hK => ?_)
    · go_simp
      refine (TWo.out _ BLo.out).mono ?_
      rintro e wt2 ⟨bmt, lot, rfl, ot2, -, Lt2⟩
      have LA2 := chain BLo.out Lt2
      refine hK.out _ _ LA2 (fun _ => ?_)
      clear hK K
      refine calm_two14 3 8 (by kernel_rfl) rfl rfl (fun K hK => ?_) (fun K hK => ?_)
      · go_simp
        refine (TMo.out wt2 LA2).mono ?_
        rintro e wt3 ⟨bt, rfl, ot3, -, Lt3⟩
        have LA3 := chain LA2 Lt3
        have on3 := ot2.next Lt3
        refine hK.out _ _ LA3 (fun _ => ?_)
        clear hK K
        refine calm_two14 4 8 (by kernel_rfl) rfl rfl (fun K hK => ?_) (fun K hK => ?_)
        · go_simp
          refine (CLo.out wt3 bmt bt on3.view ot3.view).mono ?_
          rintro e wt4 ⟨a1', c1', rfl, kp, Lt4⟩
          have LA4 := chain LA3 Lt4
          refine hK.out _ _ LA4 (fun hS4 => ?_)
          clear hK K
          refine calm_more14 3 [5, 6, 7] (by kernel_rfl) (by kernel_rfl) (by kernel_rfl) hS4 ?_
          iterate 3
            refine ⟨_, rfl, ?_⟩
            apply Exists.intro
            refine ⟨Or.inl ⟨by rfl, fun w' hw' => ?_⟩, ?_⟩
            · skip
              first
              | (go_simp; done)
              | (go_simp; with_reducible rfl)
            simp only [Act.put, List.getElem_toArray, List.getElem_cons_succ, List.getElem_cons_zero, List.setIfInBounds_toArray, List.set_cons_zero, List.set_cons_succ]
          refine calm_one 8 (by kernel_rfl) rfl (fun K hK => ?_)
          go_simp
          refine hK.out _ _ (LA4.alloc LA4.size _) (fun _ => ?_)
          clear hK K
          refine calm_one 9 (by kernel_rfl) rfl (fun K hK => ?_)
          go_simp
          obtain ⟨wz, hwz⟩ : ∃ wz, wt4.alloc (.cells #[.int .i64 LD, .slice a1' LT.length c1'] 26) = wz := ⟨_, rfl⟩
          have HLZ : Hid (Below wo.heap.size wo wz) := by show Below _ _ _; rw [← hwz]; exact LA4.alloc LA4.size _
          have HIZ : Hid (TwI true wz wt4.heap.size a1' c1' LD LT) := by
            have g1 := kp wt4 (Nat.le_refl _) (fun _ _ _ => rfl)
            show TwI _ _ _ _ _ _ _
            rw [← hwz]
            exact TwI.box g1
          rw [hwz]
          refine hK.out _ _ HLZ.out (fun hS9 => ?_)
          clear hK K hwz
          refine calm_rest [10] rfl (by kernel_rfl) (by kernel_rfl) (by kernel_rfl) hS9 ?_
          iterate 1
            refine ⟨_, rfl, ?_⟩
            apply Exists.intro
            refine ⟨Or.inl ⟨by rfl, fun w' hw' => ?_⟩, ?_⟩
            · skip
              first
              | (go_simp; done)
              | (go_simp; with_reducible rfl)
            simp only [Act.put, List.getElem_toArray, List.getElem_cons_succ, List.getElem_cons_zero, List.setIfInBounds_toArray, List.set_cons_zero, List.set_cons_succ]
          refine NoPanic.normal (NoPanic.normal ?_)
          go_wp2_with fail
          go_meet
          exact ⟨wt4.heap.size, _, _, rfl, rfl, HLZ.out, HIZ.out⟩
        · go_simp
          obtain ⟨Wx, hWx⟩ : ∃ W', wt3.alloc (.cells #[.int .i64 0, .slice none 0 0] 26) = W' := ⟨_, rfl⟩
          have LX : Below wo.heap.size wo Wx := by rw [← hWx]; exact LA3.alloc LA3.size _
          have hTX : Two Wx wt3.heap.size (.int .i64 0) (.slice none 0 0) 26 := by rw [← hWx]; exact Two.new wt3 _ _ _
          have hXo : wo.heap.size ≤ wt3.heap.size := LA3.size
          rw [hWx]
          refine hK.out _ _ LX (fun _ => ?_)
          clear hK K
          have LXX : Below wt3.heap.size wt3 Wx := (by rw [← hWx]; exact (Below.refl _ _).alloc (Nat.le_refl _) _)
          have on4 := on3.next LXX
          have ob4 := ot3.below ot3.lt LXX
          clear hWx
          refine calm_one 4 (by kernel_rfl) rfl (fun K hK => ?_)
          go_simp
          refine (CLo.out Wx bmt bt on4.view ob4.view).mono ?_
          rintro e wt4 ⟨a1', c1', rfl, kp, Lt4⟩
          have LA4 := chain LX Lt4
          have hT4 := hTX.below Lt4
          have hXb := hTX.lt
          refine hK.out _ _ LA4 (fun hS4 => ?_)
          clear hK K
          refine calm_more14 2 [5, 6, 7] (by kernel_rfl) (by kernel_rfl) (by kernel_rfl) hS4 ?_
          iterate 3
            refine ⟨_, rfl, ?_⟩
            apply Exists.intro
            refine ⟨Or.inl ⟨by rfl, fun w' hw' => ?_⟩, ?_⟩
            · skip
              first
              | (go_simp; done)
              | (go_simp; with_reducible rfl)
            simp only [Act.put, List.getElem_toArray, List.getElem_cons_succ, List.getElem_cons_zero, List.setIfInBounds_toArray, List.set_cons_zero, List.set_cons_succ]
          have x0 := hT4.c0
          have x1 := hT4.c1
          have xf0 := hT4.frozen 0
          have xf1 := hT4.frozen 1
          refine calm_one 9 (by kernel_rfl) rfl (fun K hK => ?_)
          go_simp
          obtain ⟨HLZ, HIZ⟩ := tow_put (c1 := c1') (LD := LD) LA4 hXo hT4 hXb kp
          have HLZ := hidP HLZ
          have HIZ := hidP HIZ
          generalize (wt4.setCell ⟨wt3.heap.size, 0, none⟩ (.int .i64 LD)).setCell ⟨wt3.heap.size, 1, none⟩ (.slice a1' LT.length c1') = wz at *
          refine hK.out _ _ HLZ.out (fun hS9 => ?_)
          clear hK K
          refine calm_rest [10] rfl (by kernel_rfl) (by kernel_rfl) (by kernel_rfl) hS9 ?_
          iterate 1
            refine ⟨_, rfl, ?_⟩
            apply Exists.intro
            refine ⟨Or.inl ⟨by rfl, fun w' hw' => ?_⟩, ?_⟩
            · skip
              first
              | (go_simp; done)
              | (go_simp; with_reducible rfl)
            simp only [Act.put, List.getElem_toArray, List.getElem_cons_succ, List.getElem_cons_zero, List.setIfInBounds_toArray, List.set_cons_zero, List.set_cons_succ]
          refine NoPanic.normal (NoPanic.normal ?_)
          go_wp2_with fail
          go_meet
          exact ⟨wt3.heap.size, _, _, rfl, rfl, HLZ.out, HIZ.out⟩
      · go_simp
        obtain ⟨Wx, hWx⟩ : ∃ W', wt2.alloc (.cells #[.int .i64 0, .slice none 0 0] 26) = W' := ⟨_, rfl⟩
        have LX : Below wo.heap.size wo Wx := by rw [← hWx]; exact LA2.alloc LA2.size _
        have hTX : Two Wx wt2.heap.size (.int .i64 0) (.slice none 0 0) 26 := by rw [← hWx]; exact Two.new wt2 _ _ _
        have hXo : wo.heap.size ≤ wt2.heap.size := LA2.size
        rw [hWx]
        refine hK.out _ _ LX (fun _ => ?_)
        clear hK K
        have on2 := ot2.next (show Below wt2.heap.size wt2 Wx by rw [← hWx]; exact (Below.refl _ _).alloc (Nat.le_refl _) _)
        clear hWx
        refine calm_one 3 (by kernel_rfl) rfl (fun K hK => ?_)
        go_simp
        refine (TMo.out Wx LX).mono ?_
        rintro e wt3 ⟨bt, rfl, ot3, -, Lt3⟩
        have LA3 := chain LX Lt3
        have on3 := on2.next Lt3
        have hT3 := hTX.below Lt3
        refine hK.out _ _ LA3 (fun _ => ?_)
        clear hK K
        refine calm_one 4 (by kernel_rfl) rfl (fun K hK => ?_)
        go_simp
        refine (CLo.out wt3 bmt bt on3.view ot3.view).mono ?_
        rintro e wt4 ⟨a1', c1', rfl, kp, Lt4⟩
        have LA4 := chain LA3 Lt4
        have hT4 := hT3.below Lt4
        have hXb := hT3.lt
        refine hK.out _ _ LA4 (fun hS4 => ?_)
        clear hK K
        refine calm_more14 2 [5, 6, 7] (by kernel_rfl) (by kernel_rfl) (by kernel_rfl) hS4 ?_
        iterate 3
          refine ⟨_, rfl, ?_⟩
          apply Exists.intro
          refine ⟨Or.inl ⟨by rfl, fun w' hw' => ?_⟩, ?_⟩
          · skip
            first
            | (go_simp; done)
            | (go_simp; with_reducible rfl)
          simp only [Act.put, List.getElem_toArray, List.getElem_cons_succ, List.getElem_cons_zero, List.setIfInBounds_toArray, List.set_cons_zero, List.set_cons_succ]
        have x0 := hT4.c0
        have x1 := hT4.c1
        have xf0 := hT4.frozen 0
        have xf1 := hT4.frozen 1
        refine calm_one 9 (by kernel_rfl) rfl (fun K hK => ?_)
        go_simp
        obtain ⟨HLZ, HIZ⟩ := tow_put (c1 := c1') (LD := LD) LA4 hXo hT4 hXb kp
        have HLZ := hidP HLZ
        have HIZ := hidP HIZ
        generalize (wt4.setCell ⟨wt2.heap.size, 0, none⟩ (.int .i64 LD)).setCell ⟨wt2.heap.size, 1, none⟩ (.slice a1' LT.length c1') = wz at *
        refine hK.out _ _ HLZ.out (fun hS9 => ?_)
        clear hK K
        refine calm_rest [10] rfl (by kernel_rfl) (by kernel_rfl) (by kernel_rfl) hS9 ?_
        iterate 1
          refine ⟨_, rfl, ?_⟩
          apply Exists.intro
          refine ⟨Or.inl ⟨by rfl, fun w' hw' => ?_⟩, ?_⟩
          · skip
            first
            | (go_simp; done)
            | (go_simp; with_reducible rfl)
          simp only [Act.put, List.getElem_toArray, List.getElem_cons_succ, List.getElem_cons_zero, List.setIfInBounds_toArray, List.set_cons_zero, List.set_cons_succ]
        refine NoPanic.normal (NoPanic.normal ?_)
        go_wp2_with fail
        go_meet
        exact ⟨wt2.heap.size, _, _, rfl, rfl, HLZ.out, HIZ.out⟩
    · go_simp
      obtain ⟨Wx, hWx⟩ : ∃ W', (wo.alloc (.cells #[.int .i64 0, .slice none 0 0] 26)).drew = W' := ⟨_, rfl⟩
      have LX : Below wo.heap.size wo Wx := by rw [← hWx]; exact ((Below.refl wo.heap.size wo).alloc (Nat.le_refl _) _).drew
      have hTX : Two Wx wo.heap.size (.int .i64 0) (.slice none 0 0) 26 := by rw [← hWx]; exact Two.new wo _ _ _
      have hXo : wo.heap.size ≤ wo.heap.size := Nat.le_refl _
      rw [hWx]
      refine hK.out _ _ LX (fun _ => ?_)
      clear hK K
      clear hWx
      refine calm_one 1 (by kernel_rfl) rfl (fun K hK => ?_)
      go_simp
      refine (TWo.out Wx LX).mono ?_
      rintro e wt2 ⟨bmt, lot, rfl, ot2, -, Lt2⟩
      have LA2 := chain LX Lt2
      have hT2 := hTX.below Lt2
      refine hK.out _ _ LA2 (fun _ => ?_)
      clear hK K
      refine calm_one 3 (by kernel_rfl) rfl (fun K hK => ?_)
      go_simp
      refine (TMo.out wt2 LA2).mono ?_
      rintro e wt3 ⟨bt, rfl, ot3, -, Lt3⟩
      have LA3 := chain LA2 Lt3
      have on3 := ot2.next Lt3
      have hT3 := hT2.below Lt3
      refine hK.out _ _ LA3 (fun _ => ?_)
      clear hK K
      refine calm_one 4 (by kernel_rfl) rfl (fun K hK => ?_)
      go_simp
      refine (CLo.out wt3 bmt bt on3.view ot3.view).mono ?_
      rintro e wt4 ⟨a1', c1', rfl, kp, Lt4⟩
      have LA4 := chain LA3 Lt4
      have hT4 := hT3.below Lt4
      have hXb := hT3.lt
      refine hK.out _ _ LA4 (fun hS4 => ?_)
      clear hK K
      refine calm_more14 2 [5, 6, 7] (by kernel_rfl) (by kernel_rfl) (by kernel_rfl) hS4 ?_
      iterate 3
        refine ⟨_, rfl, ?_⟩
        apply Exists.intro
        refine ⟨Or.inl ⟨by rfl, fun w' hw' => ?_⟩, ?_⟩
        · skip
          first
          | (go_simp; done)
          | (go_simp; with_reducible rfl)
        simp only [Act.put, List.getElem_toArray, List.getElem_cons_succ, List.getElem_cons_zero, List.setIfInBounds_toArray, List.set_cons_zero, List.set_cons_succ]
      have x0 := hT4.c0
      have x1 := hT4.c1
      have xf0 := hT4.frozen 0
      have xf1 := hT4.frozen 1
      refine calm_one 9 (by kernel_rfl) rfl (fun K hK => ?_)
      go_simp
      obtain ⟨HLZ, HIZ⟩ := tow_put (c1 := c1') (LD := LD) LA4 hXo hT4 hXb kp
      have HLZ := hidP HLZ
      have HIZ := hidP HIZ
      generalize (wt4.setCell ⟨wo.heap.size, 0, none⟩ (.int .i64 LD)).setCell ⟨wo.heap.size, 1, none⟩ (.slice a1' LT.length c1') = wz at *
      refine hK.out _ _ HLZ.out (fun hS9 => ?_)
      clear hK K
      refine calm_rest [10] rfl (by kernel_rfl) (by kernel_rfl) (by kernel_rfl) hS9 ?_
      iterate 1
        refine ⟨_, rfl, ?_⟩
        apply Exists.intro
        refine ⟨Or.inl ⟨by rfl, fun w' hw' => ?_⟩, ?_⟩
        · skip
          first
          | (go_simp; done)
          | (go_simp; with_reducible rfl)
        simp only [Act.put, List.getElem_toArray, List.getElem_cons_succ, List.getElem_cons_zero, List.setIfInBounds_toArray, List.set_cons_zero, List.set_cons_succ]
      refine NoPanic.normal (NoPanic.normal ?_)
      go_wp2_with fail
      go_meet
      exact ⟨wo.heap.size, _, _, rfl, rfl, HLZ.out, HIZ.out⟩
  case rest =>
    obtain ⟨X, xa1, xc1, rfl, rfl, LX, IX⟩ := hcut
    have HIX := hidP IX
    have HLc := hidP (chain HLo.out LX)
    obtain ⟨⟨p0, p1⟩, p2, p3⟩ := KC.out wc HLc.out
    have HC9 := hidP (TW.out wc HLc.out)
    clear LX IX BLo TWo TMo HSo CLo CS HLo
    go_wp2_with fail
    refine HC9.out.mono ?_
    rintro e w5 ⟨b5, lo5, rfl, o5, hb5, L5⟩
    obtain ⟨bx, hbx⟩ : ∃ b, w5.heap.size = b := ⟨_, rfl⟩
    obtain ⟨w6, hw6⟩ : ∃ w6, w5.alloc (.cells #[.int .i64 d, .slice (some ⟨b5, 0, none⟩) ts.length ts.length] 26) = w6 := ⟨_, rfl⟩
    have L6 : Below w5.heap.size w5 w6 := by rw [← hw6]; exact (Below.refl _ _).alloc (Nat.le_refl _) _
    have hI6 : TwI true w6 bx (some ⟨b5, 0, none⟩) ts.length d ts := by rw [← hw6, ← hbx]; exact TwI.box o5.view
    have hs6 : w6.heap.size = bx + 1 := by rw [← hw6, ← hbx]; simp
    have hfi5 := o5.first
    have hla5 := o5.last
    have hlt5 := o5.lt
    have hlo5 := o5.lo_le ts.length (Nat.le_refl _)
    have hc5 := L5.size
    rw [hbx] at hla5 hlt5 hc5
    have HO6 := hidP (o5.next L6)
    have HI6 := hidP hI6
    have HK6 := hidP (chain L5 L6)
    obtain ⟨-, q2, q3⟩ := KC.out w6 (chain HLc.out HK6.out)
    have HC6 := hidP (TM.out w6 (chain HLc.out HK6.out))
    have HS6 := hidP hs6
    clear o5 L5 L6 hI6 p0 p1 p2 p3 hs6
    go_wp2_with fail
    clear hw6
    refine HC6.out.mono ?_
    rintro e w7 ⟨bq, rfl, o7, hbq, L7⟩
    obtain ⟨bY, hby⟩ : ∃ b, w7.heap.size = b := ⟨_, rfl⟩
    obtain ⟨w8, hw8⟩ : ∃ w8, w7.alloc (.cells #[.int .i64 m.1, .slice (some ⟨bq, 0, none⟩) m.2.length m.2.length] 29) = w8 := ⟨_, rfl⟩
    have L8 : Below w7.heap.size w7 w8 := by rw [← hw8]; exact (Below.refl _ _).alloc (Nat.le_refl _) _
    have hT8 : Two w8 bY (.int .i64 m.1) (.slice (some ⟨bq, 0, none⟩) m.2.length m.2.length) 29 := by rw [← hw8, ← hby]; exact Two.new w7 _ _ _
    have hs8 : w8.heap.size = bY + 1 := by rw [← hw8, ← hby]; simp
    have hq7 := o7.lt
    have hz7 := L7.size
    have o8 := o7.below o7.lt L8
    have L68 := chain L7 L8
    have hI8 := HI6.out.below L68
    have hord : wc.heap.size ≤ b5 ∧ b5 < lo5 0 ∧ lo5 ts.length ≤ bx ∧ bx < bq ∧ bq < bY := by have := HS6.out; exact ⟨by omega, by omega, by omega, by omega, by omega⟩
    have s0 := hI8.c0
    have s1 := hI8.c1
    have u0 := hT8.c0
    have u1 := hT8.c1
    have HC8 := hidP (CF.out w8 b5 bq hI8.wv o8.view)
    have HO8 := hidP (HO6.out.next L68)
    have HI8 := hidP hI8
    have HT8 := hidP hT8
    have HQ8 := hidP o8
    have HK8 := hidP (chain HK6.out L68)
    have HS8 := hidP hs8
    clear o7 o8 L7 L8 L68 hI8 hT8 q2 q3 hs8 hbq hq7 hz7 HO6 HI6 HK6 HC6 HC9 hfi5 hla5 hlt5 hc5 HS6
    go_wp2_with fail
    clear hw8
    refine HC8.out.mono ?_
    rintro e w9 ⟨ga1, gc1, rfl, g9, L9⟩
    obtain ⟨bo, hbo⟩ : ∃ b, w9.heap.size = b := ⟨_, rfl⟩
    obtain ⟨wa, hwa⟩ : ∃ wa, w9.alloc (.cells #[.int .i64 LD, .slice ga1 LT.length gc1] 26) = wa := ⟨_, rfl⟩
    have La : Below w9.heap.size w9 wa := by rw [← hwa]; exact (Below.refl _ _).alloc (Nat.le_refl _) _
    have hTa : Two wa bo (.int .i64 LD) (.slice ga1 LT.length gc1) 26 := by rw [← hwa, ← hbo]; exact Two.new w9 _ _ _
    have L8a := chain L9 La
    obtain ⟨Z, hZ⟩ : ∃ Z, w8.heap.size = Z := ⟨_, rfl⟩
    have hZ9 := L9.size
    rw [hZ, hbo] at g9
    have STa : Hid (WkR wc b5 bx bq bY bo Z lo5 ts d m LD LT ga1 gc1 wa) := ⟨chain HK8.out L8a, HO8.out.next L8a, HI8.out.below L8a, HQ8.out.below HQ8.out.lt L8a, HT8.out.below L8a, g9.next La, hTa⟩
    have hord2 : bY < Z ∧ Z ≤ bo := by have := HS8.out; exact ⟨by omega, by omega⟩
    have x0 := STa.out.obox.c0
    have x1 := STa.out.obox.c1
    have HWN : Hid (∀ W', Below wc.heap.size wc W' → TwI true W' X xa1 xc1 LD LT) := fun W' L => HIX.out.below L
    have y0 := (HWN.out wa STa.out.low).c0
    have y1 := (HWN.out wa STa.out.low).c1
    have HEQ : Hid (∀ W', Below wc.heap.size wc W' → WbView true W' ga1 LT → Calls Tryz.prog 68 #[.agg #[.int .i64 LD, .slice ga1 LT.length gc1], .agg #[.int .i64 LD, .slice xa1 LT.length xc1]] W' fun e w' => e = .returned (.bool true) ∧ Below W'.heap.size W' w') := fun W' S1 S2 => eqTw true true ga1 xa1 gc1 xc1 LD LT W' S2 (HWN.out W' S1).wv HSML.out
    have HEa := hidP (HEQ.out wa STa.out.low (tso_kept STa.out.out))
    have hbb : (lb != lb) = false := by simp
    clear g9 L9 La L8a hTa hZ hZ9 HO8 HI8 HQ8 HT8 HK8 HC8 HS8 s0 s1 u0 u1
    go_wp2_with fail
    clear hwa hbo hbx hby
    refine HEa.out.mono ?_
    rintro e wb ⟨rfl, Lb⟩
    have STb := hidP (STa.out.next Lb)
    have HSX : Hid (∀ W', Below wb.heap.size wb W' → (W'.cell? ⟨bx, 0, none⟩ = some (.int .i64 d) ∧ W'.cell? ⟨bx, 1, none⟩ = some (.slice (some ⟨b5, 0, none⟩) ts.length ts.length)) ∧ W'.cell? ⟨w.heap.size, 0, none⟩ = some (.int .i64 d) ∧ W'.cell? ⟨w.heap.size, 1, none⟩ = some (.slice ao ts.length cap)) := fun W' L' => ⟨⟨(STb.out.box.below L').c0, (STb.out.box.below L').c1⟩, (KC.out W' (chain HLc.out (chain STb.out.low L'))).1⟩
    have BL := hidP ((Below.refl wb.heap.size wb).drew)
    have HCb := hidP (TW.out wb.drew (chain HLc.out (chain STb.out.low BL.out)))
    clear Lb HEa STa x0 x1 y0 y1
    go_wp2_with fail
    refine wp_region_takes (S := fun W' => Below wb.heap.size wb W') (fuel := 3) [0, 1] (by kernel_rfl) (by kernel_rfl) (by kernel_rfl) (by kernel_rfl) BL.out (fun _ => ?_)
    iterate 2
      refine ⟨_, rfl, ?_⟩
      apply Exists.intro
      refine ⟨Or.inl ⟨by rfl, fun w' hw' => ?_⟩, ?_⟩
      · obtain ⟨⟨e1, e2⟩, e3, e4⟩ := HSX.out w' hw'
        first
        | (go_simp; done)
        | (go_simp; with_reducible rfl)
      simp only [Act.put, List.getElem_toArray, List.getElem_cons_succ, List.getElem_cons_zero, List.setIfInBounds_toArray, List.set_cons_zero, List.set_cons_succ]
    refine calm_one 2 (by kernel_rfl) rfl (fun K hK => ?_)
    go_simp
    refine HCb.out.mono ?_
    rintro e wd ⟨ba, loa, rfl, oa, -, Ld⟩
    have HLd := hidP (chain BL.out Ld)
    have HCd := hidP (eqTw true true (some ⟨b5, 0, none⟩) (some ⟨ba, 0, none⟩) ts.length ts.length d ts wd (STb.out.box.below HLd.out).wv oa.view HM.out)
    clear oa Ld
    refine hK.out _ _ HLd.out (fun _ => ?_)
    clear hK K
    refine calm_one 3 (by kernel_rfl) rfl (fun K hK => ?_)
    go_simp
    refine HCd.out.mono ?_
    rintro e we ⟨rfl, Le⟩
    have HLe := hidP (chain HLd.out Le)
    clear Le
    refine hK.out _ _ HLe.out (fun _ => ?_)
    clear hK K
    refine calm_rest [4] rfl (by kernel_rfl) (by kernel_rfl) (by kernel_rfl) HLe.out ?_
    iterate 1
      refine ⟨_, rfl, ?_⟩
      apply Exists.intro
      refine ⟨Or.inl ⟨by rfl, fun w' hw' => ?_⟩, ?_⟩
      · skip
        first
        | (go_simp; done)
        | (go_simp; with_reducible rfl)
      simp only [Act.put, List.getElem_toArray, List.getElem_cons_succ, List.getElem_cons_zero, List.setIfInBounds_toArray, List.set_cons_zero, List.set_cons_succ]
    refine NoPanic.normal (NoPanic.normal ?_)
    have STe := hidP (STb.out.next HLe.out)
    clear HSX BL HCb HLd HCd HLe STb
    obtain ⟨wb, hwbe⟩ : ∃ q, we = q := ⟨_, rfl⟩
    subst hwbe
    have HSX : Hid (∀ W', Below we.heap.size we W' → (W'.cell? ⟨bY, 0, none⟩ = some (.int .i64 m.1) ∧ W'.cell? ⟨bY, 1, none⟩ = some (.slice (some ⟨bq, 0, none⟩) m.2.length m.2.length)) ∧ W'.cell? ⟨w.heap.size + 1, 0, none⟩ = some (.int .i64 m.1) ∧ W'.cell? ⟨w.heap.size + 1, 1, none⟩ = some (.slice aq m.2.length ca)) := fun W' L' => ⟨⟨(STe.out.mbox.below L').c0, (STe.out.mbox.below L').c1⟩, (KC.out W' (chain HLc.out (chain STe.out.low L'))).2⟩
    have BL := hidP ((Below.refl we.heap.size we).drew)
    have HCe := hidP (TM.out we.drew (chain HLc.out (chain STe.out.low BL.out)))
    go_wp2_with fail
    refine wp_region_takes (S := fun W' => Below we.heap.size we W') (fuel := 3) [0, 1] (by kernel_rfl) (by kernel_rfl) (by kernel_rfl) (by kernel_rfl) BL.out (fun _ => ?_)
    iterate 2
      refine ⟨_, rfl, ?_⟩
      apply Exists.intro
      refine ⟨Or.inl ⟨by rfl, fun w' hw' => ?_⟩, ?_⟩
      · obtain ⟨⟨e1, e2⟩, e3, e4⟩ := HSX.out w' hw'
        first
        | (go_simp; done)
        | (go_simp; with_reducible rfl)
      simp only [Act.put, List.getElem_toArray, List.getElem_cons_succ, List.getElem_cons_zero, List.setIfInBounds_toArray, List.set_cons_zero, List.set_cons_succ]
    refine calm_one 2 (by kernel_rfl) rfl (fun K hK => ?_)
    go_simp
    refine HCe.out.mono ?_
    rintro e wf ⟨bf, rfl, oa, -, Lf⟩
    have HLd := hidP (chain BL.out Lf)
    have HCd := hidP (eqM m m (some ⟨bq, 0, none⟩) (some ⟨bf, 0, none⟩) m.2.length m.2.length wf (STe.out.own.below STe.out.own.lt HLd.out).view oa.view HML.out)
    rw [show decide (m = m) = true by simp] at HCd
    clear oa Lf
    refine hK.out _ _ HLd.out (fun _ => ?_)
    clear hK K
    refine calm_one 3 (by kernel_rfl) rfl (fun K hK => ?_)
    go_simp
    refine HCd.out.mono ?_
    rintro e wg ⟨rfl, Le⟩
    have HLe := hidP (chain HLd.out Le)
    clear Le
    refine hK.out _ _ HLe.out (fun _ => ?_)
    clear hK K
    refine calm_rest [4] rfl (by kernel_rfl) (by kernel_rfl) (by kernel_rfl) HLe.out ?_
    iterate 1
      refine ⟨_, rfl, ?_⟩
      apply Exists.intro
      refine ⟨Or.inl ⟨by rfl, fun w' hw' => ?_⟩, ?_⟩
      · skip
        first
        | (go_simp; done)
        | (go_simp; with_reducible rfl)
      simp only [Act.put, List.getElem_toArray, List.getElem_cons_succ, List.getElem_cons_zero, List.setIfInBounds_toArray, List.set_cons_zero, List.set_cons_succ]
    refine NoPanic.normal (NoPanic.normal ?_)
    have STg := hidP (STe.out.next HLe.out)
    clear HSX BL HCe HLd HCd HLe STe
    have s0 := STg.out.box.c0
    have s1 := STg.out.box.c1
    have HMg := hidP (markTw b5 ts.length d ts lo5 wg STg.out.part HM.out HTT.out)
    go_wp2_with fail
    refine HMg.out.mono ?_
    rintro e wh ⟨⟨kh, hkh, hkh2, rfl⟩, gh⟩
    have hoz := STg.out.out.bnd
    have hobl := STg.out.obox.lt
    have STh : Hid (Below wc.heap.size wc wh ∧ Own wh bq m.2 ∧ Two wh bY (.int .i64 m.1) (.slice (some ⟨bq, 0, none⟩) m.2.length m.2.length) 29 ∧ TsO true (Btw Z bo) wh (.slice ga1 LT.length gc1) LT ∧ Two wh bo (.int .i64 LD) (.slice ga1 LT.length gc1) 26) :=
      ⟨below_gin STg.out.low gh (by omega), gh.own STg.out.own (Or.inr (by omega)), (gh.2.2.2.2 bY STg.out.mbox.lt (Or.inr (by omega))).trans STg.out.mbox, STg.out.out.sm ⟨gh.2.2.2.1, fun q hq => gh.2.2.2.2 q (hoz q hq) (Or.inr (by have := hq.1; omega))⟩, (gh.2.2.2.2 bo STg.out.obox.lt (Or.inr (by omega))).trans STg.out.obox⟩
    have u0 := STh.out.2.2.1.c0
    have u1 := STh.out.2.2.1.c1
    have HMh := hidP (markM14 bq m.1 kh m.2 wh STh.out.2.1 HML.out hkh (by omega))
    clear s0 s1 gh STg HMg hoz
    go_wp2_with fail
    refine HMh.out.mono ?_
    rintro e wi ⟨rfl, gi⟩
    have STi : Hid (Below wc.heap.size wc wi ∧ TsO true (Btw Z bo) wi (.slice ga1 LT.length gc1) LT ∧ Two wi bo (.int .i64 LD) (.slice ga1 LT.length gc1) 26) :=
      ⟨STh.out.1.grown gi STh.out.1.size (by intro x hx; cases hx; omega), STh.out.2.2.2.1.sm ⟨gi.size, fun q hq => gi.block q (STh.out.2.2.2.1.bnd q hq) (by have := hq.1; simp; omega)⟩, (gi.block bo STh.out.2.2.2.2.lt (by simp; omega)).trans STh.out.2.2.2.2⟩
    obtain ⟨ki, hki⟩ : ∃ ki : Int, kh + (m.2.length : Int) = ki := ⟨_, rfl⟩
    have hkn : ¬ ki < 0 := by omega
    have hkd : decide (ki < 0) = false := by simp; omega
    rw [hki]
    have x0 := STi.out.2.2.c0
    have x1 := STi.out.2.2.c1
    have y0 := (HWN.out wi STi.out.1).c0
    have y1 := (HWN.out wi STi.out.1).c1
    have HEi := hidP (HEQ.out wi STi.out.1 (tso_kept STi.out.2.1))
    clear hki u0 u1 gi STh HMh
    go_wp2_with fail
    refine HEi.out.mono ?_
    rintro e wj ⟨rfl, Lj⟩
    have STj : Hid (Below wc.heap.size wc wj ∧ TsO true (Btw Z bo) wj (.slice ga1 LT.length gc1) LT ∧ Two wj bo (.int .i64 LD) (.slice ga1 LT.length gc1) 26) := ⟨chain STi.out.1 Lj, STi.out.2.1.next Lj, STi.out.2.2.below Lj⟩
    obtain ⟨N, hN, how⟩ := STj.out.2.1.ow rfl
    have HMj := hidP ((ow_tower LD how).act wj (Sta.refl _ _) 1 (by omega) (by omega))
    clear x0 x1 y0 y1 Lj STi HEi how
    have x0 := STj.out.2.2.c0
    have x1 := STj.out.2.2.c1
    go_wp2_with fail
    refine HMj.out.mono ?_
    rintro e wk ⟨rfl, hcf, hdf⟩
    have hbol := STj.out.2.2.lt
    have STk : Hid (Below wc.heap.size wc wk ∧ Two wk bo (.int .i64 LD) (.slice ga1 LT.length gc1) 26) := ⟨STj.out.1.trans (hcf.below STj.out.1.size (fun q hq => by have := hq.1; omega)), (hcf.2.2.2.2 bo hbol (fun hq => by have := hq.2; omega)).trans STj.out.2.2⟩
    have HDf := hidP hdf
    have hbk : bo < wk.heap.size := STk.out.2.lt
    have HBD : Hid (∀ b, Btw Z bo b → b < wk.heap.size) := fun b hb => by have := hb.2; omega
    have hk1 : ¬ ((1 : Int) + (N : Int) < 0) := by omega
    have hk2 : decide ((1 : Int) + (N : Int) < 0) = false := by simp; omega
    have hk3 : ((1 : Int) + (N : Int) != 1 + (N : Int)) = false := by simp
    have HCk := hidP (hdf wk (Sta.refl _ _))
    clear x0 x1 hcf hdf STj HMj
    have x0 := STk.out.2.c0
    have x1 := STk.out.2.c1
    go_wp2_with fail
    refine HCk.out.mono ?_
    rintro e wo ⟨rfl, Ll⟩
    have STl : Hid (Below wc.heap.size wc wo ∧ Below wk.heap.size wk wo ∧ Two wo bo (.int .i64 LD) (.slice ga1 LT.length gc1) 26) := ⟨chain STk.out.1 Ll, Ll, STk.out.2.below Ll⟩
    have HLo := hidP (chain HLc.out STl.out.1)
    clear x0 x1 Ll STk HCk
    have BLo := hidP ((Below.refl wo.heap.size wo).drew)
    have TWo := hidP (fun W' (L : Below wo.heap.size wo W') => TW.out W' (chain HLo.out L))
    have TMo := hidP (fun W' (L : Below wo.heap.size wo W') => TM.out W' (chain HLo.out L))
    have HSo := hidP (fun W' (L : Below wo.heap.size wo W') => KC.out W' (chain HLo.out L))
    have CLo := CI
    go_upto_region 31 with fail
    go_cut [15, 16] from 94 to 101 (fun v b wx => ∃ X a1' c1', v = .pointer (some ⟨X, 0, none⟩) ∧ b = .bool lb ∧ Below wo.heap.size wo wx ∧ TwI true wx X a1' c1' LD LT)
    case first =>
      refine wp_region_takes (S := fun W' => Below wo.heap.size wo W') (fuel := 9) [0, 2] (by kernel_rfl) (by kernel_rfl) (by kernel_rfl) (by kernel_rfl) BLo.out (fun _ => ?_)
      iterate 2
        refine ⟨_, rfl, ?_⟩
        apply Exists.intro
        refine ⟨Or.inl ⟨by rfl, fun w' hw' => ?_⟩, ?_⟩
        · obtain ⟨⟨e1, e2⟩, e3, e4⟩ := HSo.out w' hw'
          first
          | (go_simp; done)
          | (go_simp; with_reducible rfl)
        simp only [Act.put, List.getElem_toArray, List.getElem_cons_succ, List.getElem_cons_zero, List.setIfInBounds_toArray, List.set_cons_zero, List.set_cons_succ]
      refine calm_two14 1 8 (by kernel_rfl) rfl rfl (fun K hK => ?_) (fun K hK => ?_)
      · go_simp
        refine (TWo.out _ BLo.out).mono ?_
        rintro e wt2 ⟨bmt, lot, rfl, ot2, -, Lt2⟩
        have LA2 := chain BLo.out Lt2
        refine hK.out _ _ LA2 (fun _ => ?_)
        clear hK K
        refine calm_two14 3 8 (by kernel_rfl) rfl rfl (fun K hK => ?_) (fun K hK => ?_)
        · go_simp
          refine (TMo.out wt2 LA2).mono ?_
          rintro e wt3 ⟨bt, rfl, ot3, -, Lt3⟩
          have LA3 := chain LA2 Lt3
          have on3 := ot2.next Lt3
          refine hK.out _ _ LA3 (fun _ => ?_)
          clear hK K
          refine calm_two14 4 8 (by kernel_rfl) rfl rfl (fun K hK => ?_) (fun K hK => ?_)
          · go_simp
            refine (CLo.out wt3 bmt bt on3.view ot3.view).mono ?_
            rintro e wt4 ⟨a1', c1', rfl, kp, Lt4⟩
            have LA4 := chain LA3 Lt4
            refine hK.out _ _ LA4 (fun hS4 => ?_)
            clear hK K
            refine calm_more14 3 [5, 6, 7] (by kernel_rfl) (by kernel_rfl) (by kernel_rfl) hS4 ?_
            iterate 3
              refine ⟨_, rfl, ?_⟩
              apply Exists.intro
              refine ⟨Or.inl ⟨by rfl, fun w' hw' => ?_⟩, ?_⟩
              · skip
                first
                | (go_simp; done)
                | (go_simp; with_reducible rfl)
              simp only [Act.put, List.getElem_toArray, List.getElem_cons_succ, List.getElem_cons_zero, List.setIfInBounds_toArray, List.set_cons_zero, List.set_cons_succ]
            refine calm_one 8 (by kernel_rfl) rfl (fun K hK => ?_)
            go_simp
            refine hK.out _ _ (LA4.alloc LA4.size _) (fun _ => ?_)
            clear hK K
            refine calm_one 9 (by kernel_rfl) rfl (fun K hK => ?_)
            go_simp
            obtain ⟨wz, hwz⟩ : ∃ wz, wt4.alloc (.cells #[.int .i64 LD, .slice a1' LT.length c1'] 26) = wz := ⟨_, rfl⟩
            have HLZ : Hid (Below wo.heap.size wo wz) := by show Below _ _ _; rw [← hwz]; exact LA4.alloc LA4.size _
            have HIZ : Hid (TwI true wz wt4.heap.size a1' c1' LD LT) := by
              have g1 := kp wt4 (Nat.le_refl _) (fun _ _ _ => rfl)
              show TwI _ _ _ _ _ _ _
              rw [← hwz]
              exact TwI.box g1
            rw [hwz]
            refine hK.out _ _ HLZ.out (fun hS9 => ?_)
            clear hK K hwz
            refine calm_rest [10] rfl (by kernel_rfl) (by kernel_rfl) (by kernel_rfl) hS9 ?_
            iterate 1
              refine ⟨_, rfl, ?_⟩
              apply Exists.intro
              refine ⟨Or.inl ⟨by rfl, fun w' hw' => ?_⟩, ?_⟩
              · skip
                first
                | (go_simp; done)
                | (go_simp; with_reducible rfl)
              simp only [Act.put, List.getElem_toArray, List.getElem_cons_succ, List.getElem_cons_zero, List.setIfInBounds_toArray, List.set_cons_zero, List.set_cons_succ]
            refine NoPanic.normal (NoPanic.normal ?_)
            go_wp2_with fail
            go_meet
            exact ⟨wt4.heap.size, _, _, rfl, rfl, HLZ.out, HIZ.out⟩
          · go_simp
            obtain ⟨Wx, hWx⟩ : ∃ W', wt3.alloc (.cells #[.int .i64 0, .slice none 0 0] 26) = W' := ⟨_, rfl⟩
            have LX : Below wo.heap.size wo Wx := by rw [← hWx]; exact LA3.alloc LA3.size _
            have hTX : Two Wx wt3.heap.size (.int .i64 0) (.slice none 0 0) 26 := by rw [← hWx]; exact Two.new wt3 _ _ _
            have hXo : wo.heap.size ≤ wt3.heap.size := LA3.size
            rw [hWx]
            refine hK.out _ _ LX (fun _ => ?_)
            clear hK K
            have LXX : Below wt3.heap.size wt3 Wx := (by rw [← hWx]; exact (Below.refl _ _).alloc (Nat.le_refl _) _)
            have on4 := on3.next LXX
            have ob4 := ot3.below ot3.lt LXX
            clear hWx
            refine calm_one 4 (by kernel_rfl) rfl (fun K hK => ?_)
            go_simp
            refine (CLo.out Wx bmt bt on4.view ob4.view).mono ?_
            rintro e wt4 ⟨a1', c1', rfl, kp, Lt4⟩
            have LA4 := chain LX Lt4
            have hT4 := hTX.below Lt4
            have hXb := hTX.lt
            refine hK.out _ _ LA4 (fun hS4 => ?_)
            clear hK K
            refine calm_more14 2 [5, 6, 7] (by kernel_rfl) (by kernel_rfl) (by kernel_rfl) hS4 ?_
            iterate 3
              refine ⟨_, rfl, ?_⟩
              apply Exists.intro
              refine ⟨Or.inl ⟨by rfl, fun w' hw' => ?_⟩, ?_⟩
              · skip
                first
                | (go_simp; done)
                | (go_simp; with_reducible rfl)
              simp only [Act.put, List.getElem_toArray, List.getElem_cons_succ, List.getElem_cons_zero, List.setIfInBounds_toArray, List.set_cons_zero, List.set_cons_succ]
            have x0 := hT4.c0
            have x1 := hT4.c1
            have xf0 := hT4.frozen 0
            have xf1 := hT4.frozen 1
            refine calm_one 9 (by kernel_rfl) rfl (fun K hK => ?_)
            go_simp
            obtain ⟨HLZ, HIZ⟩ := tow_put (c1 := c1') (LD := LD) LA4 hXo hT4 hXb kp
            have HLZ := hidP HLZ
            have HIZ := hidP HIZ
            generalize (wt4.setCell ⟨wt3.heap.size, 0, none⟩ (.int .i64 LD)).setCell ⟨wt3.heap.size, 1, none⟩ (.slice a1' LT.length c1') = wz at *
            refine hK.out _ _ HLZ.out (fun hS9 => ?_)
            clear hK K
            refine calm_rest [10] rfl (by kernel_rfl) (by kernel_rfl) (by kernel_rfl) hS9 ?_
            iterate 1
              refine ⟨_, rfl, ?_⟩
              apply Exists.intro
              refine ⟨Or.inl ⟨by rfl, fun w' hw' => ?_⟩, ?_⟩
              · skip
                first
                | (go_simp; done)
                | (go_simp; with_reducible rfl)
              simp only [Act.put, List.getElem_toArray, List.getElem_cons_succ, List.getElem_cons_zero, List.setIfInBounds_toArray, List.set_cons_zero, List.set_cons_succ]
            refine NoPanic.normal (NoPanic.normal ?_)
            go_wp2_with fail
            go_meet
            exact ⟨wt3.heap.size, _, _, rfl, rfl, HLZ.out, HIZ.out⟩
        · go_simp
          obtain ⟨Wx, hWx⟩ : ∃ W', wt2.alloc (.cells #[.int .i64 0, .slice none 0 0] 26) = W' := ⟨_, rfl⟩
          have LX : Below wo.heap.size wo Wx := by rw [← hWx]; exact LA2.alloc LA2.size _
          have hTX : Two Wx wt2.heap.size (.int .i64 0) (.slice none 0 0) 26 := by rw [← hWx]; exact Two.new wt2 _ _ _
          have hXo : wo.heap.size ≤ wt2.heap.size := LA2.size
          rw [hWx]
          refine hK.out _ _ LX (fun _ => ?_)
          clear hK K
          have on2 := ot2.next (show Below wt2.heap.size wt2 Wx by rw [← hWx]; exact (Below.refl _ _).alloc (Nat.le_refl _) _)
          clear hWx
          refine calm_one 3 (by kernel_rfl) rfl (fun K hK => ?_)
          go_simp
          refine (TMo.out Wx LX).mono ?_
          rintro e wt3 ⟨bt, rfl, ot3, -, Lt3⟩
          have LA3 := chain LX Lt3
          have on3 := on2.next Lt3
          have hT3 := hTX.below Lt3
          refine hK.out _ _ LA3 (fun _ => ?_)
          clear hK K
          refine calm_one 4 (by kernel_rfl) rfl (fun K hK => ?_)
          go_simp
          refine (CLo.out wt3 bmt bt on3.view ot3.view).mono ?_
          rintro e wt4 ⟨a1', c1', rfl, kp, Lt4⟩
          have LA4 := chain LA3 Lt4
          have hT4 := hT3.below Lt4
          have hXb := hT3.lt
          refine hK.out _ _ LA4 (fun hS4 => ?_)
          clear hK K
          refine calm_more14 2 [5, 6, 7] (by kernel_rfl) (by kernel_rfl) (by kernel_rfl) hS4 ?_
          iterate 3
            refine ⟨_, rfl, ?_⟩
            apply Exists.intro
            refine ⟨Or.inl ⟨by rfl, fun w' hw' => ?_⟩, ?_⟩
            · skip
              first
              | (go_simp; done)
              | (go_simp; with_reducible rfl)
            simp only [Act.put, List.getElem_toArray, List.getElem_cons_succ, List.getElem_cons_zero, List.setIfInBounds_toArray, List.set_cons_zero, List.set_cons_succ]
          have x0 := hT4.c0
          have x1 := hT4.c1
          have xf0 := hT4.frozen 0
          have xf1 := hT4.frozen 1
          refine calm_one 9 (by kernel_rfl) rfl (fun K hK => ?_)
          go_simp
          obtain ⟨HLZ, HIZ⟩ := tow_put (c1 := c1') (LD := LD) LA4 hXo hT4 hXb kp
          have HLZ := hidP HLZ
          have HIZ := hidP HIZ
          generalize (wt4.setCell ⟨wt2.heap.size, 0, none⟩ (.int .i64 LD)).setCell ⟨wt2.heap.size, 1, none⟩ (.slice a1' LT.length c1') = wz at *
          refine hK.out _ _ HLZ.out (fun hS9 => ?_)
          clear hK K
          refine calm_rest [10] rfl (by kernel_rfl) (by kernel_rfl) (by kernel_rfl) hS9 ?_
          iterate 1
            refine ⟨_, rfl, ?_⟩
            apply Exists.intro
            refine ⟨Or.inl ⟨by rfl, fun w' hw' => ?_⟩, ?_⟩
            · skip
              first
              | (go_simp; done)
              | (go_simp; with_reducible rfl)
            simp only [Act.put, List.getElem_toArray, List.getElem_cons_succ, List.getElem_cons_zero, List.setIfInBounds_toArray, List.set_cons_zero, List.set_cons_succ]
          refine NoPanic.normal (NoPanic.normal ?_)
          go_wp2_with fail
          go_meet
          exact ⟨wt2.heap.size, _, _, rfl, rfl, HLZ.out, HIZ.out⟩
      · go_simp
        obtain ⟨Wx, hWx⟩ : ∃ W', (wo.alloc (.cells #[.int .i64 0, .slice none 0 0] 26)).drew = W' := ⟨_, rfl⟩
        have LX : Below wo.heap.size wo Wx := by rw [← hWx]; exact ((Below.refl wo.heap.size wo).alloc (Nat.le_refl _) _).drew
        have hTX : Two Wx wo.heap.size (.int .i64 0) (.slice none 0 0) 26 := by rw [← hWx]; exact Two.new wo _ _ _
        have hXo : wo.heap.size ≤ wo.heap.size := Nat.le_refl _
        rw [hWx]
        refine hK.out _ _ LX (fun _ => ?_)
        clear hK K
        clear hWx
        refine calm_one 1 (by kernel_rfl) rfl (fun K hK => ?_)
        go_simp
        refine (TWo.out Wx LX).mono ?_
        rintro e wt2 ⟨bmt, lot, rfl, ot2, -, Lt2⟩
        have LA2 := chain LX Lt2
        have hT2 := hTX.below Lt2
        refine hK.out _ _ LA2 (fun _ => ?_)
        clear hK K
        refine calm_one 3 (by kernel_rfl) rfl (fun K hK => ?_)
        go_simp
        refine (TMo.out wt2 LA2).mono ?_
        rintro e wt3 ⟨bt, rfl, ot3, -, Lt3⟩
        have LA3 := chain LA2 Lt3
        have on3 := ot2.next Lt3
        have hT3 := hT2.below Lt3
        refine hK.out _ _ LA3 (fun _ => ?_)
        clear hK K
        refine calm_one 4 (by kernel_rfl) rfl (fun K hK => ?_)
        go_simp
        refine (CLo.out wt3 bmt bt on3.view ot3.view).mono ?_
        rintro e wt4 ⟨a1', c1', rfl, kp, Lt4⟩
        have LA4 := chain LA3 Lt4
        have hT4 := hT3.below Lt4
        have hXb := hT3.lt
        refine hK.out _ _ LA4 (fun hS4 => ?_)
        clear hK K
        refine calm_more14 2 [5, 6, 7] (by kernel_rfl) (by kernel_rfl) (by kernel_rfl) hS4 ?_
        iterate 3
          refine ⟨_, rfl, ?_⟩
          apply Exists.intro
          refine ⟨Or.inl ⟨by rfl, fun w' hw' => ?_⟩, ?_⟩
          · skip
            first
            | (go_simp; done)
            | (go_simp; with_reducible rfl)
          simp only [Act.put, List.getElem_toArray, List.getElem_cons_succ, List.getElem_cons_zero, List.setIfInBounds_toArray, List.set_cons_zero, List.set_cons_succ]
        have x0 := hT4.c0
        have x1 := hT4.c1
        have xf0 := hT4.frozen 0
        have xf1 := hT4.frozen 1
        refine calm_one 9 (by kernel_rfl) rfl (fun K hK => ?_)
        go_simp
        obtain ⟨HLZ, HIZ⟩ := tow_put (c1 := c1') (LD := LD) LA4 hXo hT4 hXb kp
        have HLZ := hidP HLZ
        have HIZ := hidP HIZ
        generalize (wt4.setCell ⟨wo.heap.size, 0, none⟩ (.int .i64 LD)).setCell ⟨wo.heap.size, 1, none⟩ (.slice a1' LT.length c1') = wz at *
        refine hK.out _ _ HLZ.out (fun hS9 => ?_)
        clear hK K
        refine calm_rest [10] rfl (by kernel_rfl) (by kernel_rfl) (by kernel_rfl) hS9 ?_
        iterate 1
          refine ⟨_, rfl, ?_⟩
          apply Exists.intro
          refine ⟨Or.inl ⟨by rfl, fun w' hw' => ?_⟩, ?_⟩
          · skip
            first
            | (go_simp; done)
            | (go_simp; with_reducible rfl)
          simp only [Act.put, List.getElem_toArray, List.getElem_cons_succ, List.getElem_cons_zero, List.setIfInBounds_toArray, List.set_cons_zero, List.set_cons_succ]
        refine NoPanic.normal (NoPanic.normal ?_)
        go_wp2_with fail
        go_meet
        exact ⟨wo.heap.size, _, _, rfl, rfl, HLZ.out, HIZ.out⟩
    case rest =>
      obtain ⟨X2, ya1, yc1, rfl, rfl, LX2, IX2⟩ := hcut
      have HLz := hidP (chain STl.out.1 LX2)
      have z0 := IX2.c0
      have z1 := IX2.c1
      have y0 := (HWN.out _ HLz.out).c0
      have y1 := (HWN.out _ HLz.out).c1
      have HE2 := hidP (eqTw true true ya1 xa1 yc1 xc1 LD LT _ IX2.wv (HWN.out _ HLz.out).wv HSML.out)
      have HL2 := hidP LX2
      clear LX2 IX2
      go_wp2_with fail
      refine HE2.out.mono ?_
      rintro e wp ⟨rfl, Lp⟩
      have Lop := chain HL2.out Lp
      have x0 := (STl.out.2.2.below Lop).c0
      have x1 := (STl.out.2.2.below Lop).c1
      have HCp := hidP (HDf.out wp (Sta.below (chain STl.out.2.1 Lop) HBD.out))
      have HLp := hidP (chain HLo.out Lop)
      clear z0 z1 y0 y1 Lp Lop HE2
      go_wp2_with fail
      refine HCp.out.mono ?_
      rintro e wq ⟨rfl, Lq⟩
      have HLq := hidP (chain HLp.out Lq)
      clear Lq
      go_wp2_with fail
      go_ret
      exact ⟨rfl, chain HB.out HLq.out⟩
end Go.Proofs.YtaaagmgglolibaaGreat
