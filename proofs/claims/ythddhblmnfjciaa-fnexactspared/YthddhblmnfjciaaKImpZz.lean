/-
  The program's own halving: placeOf, ownMark, halvesOf.
  The program's halvesOf: a copy in order, parted at the one in its middle.
-/
import Derived.Test.YthddhblmnfjciaaKCellsZz
import Derived.Test.YthddhblmnfjciaaKSortZz
import Derived.Test.YthddhblmnfjciaaLast
import Derived.Deep.CutRange
namespace Go.Proofs.Ythddhblmnfjciaa
open Go Go.RowKit

set_option maxHeartbeats 400000 in
theorem iPlace (ao bo : Option Addr) (n c m d : Nat) (w : World) :
    Calls Try.prog 157 #[.slice ao n c, .slice bo m d] w fun e w' => e = .returned (.int .i64 (if n = 0 then -1 else (m : Int))) ∧ w' = w := by
  by_cases h : n = 0
  · subst h
    go_enter Try.func157, Try.ntmps157
    go_wp2
    go_ret
    exact ⟨rfl, rfl⟩
  · have hb : ((n : Int) == 0) = false := by simp; exact h
    have HV : Hid ((if n = 0 then (-1 : Int) else (m : Int)) = m) := by show (if n = 0 then (-1 : Int) else (m : Int)) = m; rw [if_neg h]
    rw [HV.out]
    clear HV h
    go_enter Try.func157, Try.ntmps157
    go_wp2
    go_ret
    exact ⟨rfl, rfl⟩

set_option maxHeartbeats 400000 in
theorem pCloneK (b off cap : Nat) (xs : List Int) (w : World) (hs : Seg w b off xs) (hb : b < w.heap.size) (hn : xs.length ≤ 1048576) :
    Calls Try.prog 163 #[.slice (some ⟨b, off, none⟩) xs.length cap] w fun e w' => ∃ g c, e = .returned (.slice (some ⟨g, 0, none⟩) xs.length c) ∧ IRow w.heap.size w' g c xs ∧ Below w.heap.size w w' := by
  obtain ⟨j0, hj0, hy0, hy1, hy2⟩ := info_parts Try.info2
  have hA := alloc_below w (.cells #[] 2)
  have HR := hidP (IRow.start w w.heap.size (Nat.le_refl _))
  have HS := hidP (seg_srcK (hs.below hb hA))
  have HA := hidP hA
  have q49 : (binOp .eql 46 (.slice (some ⟨b, off, none⟩) xs.length cap) (.slice none 0 0)).run Try.prog w = .ok (.bool false) w := Lib.run_eql_slice_nil w 46 2 _ _ _ _ _ Try.underlying46
  clear hA hs
  go_enter Try.func163, Try.ntmps163
  go_wp2_with (at_builtin; refine wpList_append_at _ rfl (.tmp 5) (.tmp 6) 46 rfl w.heap.size 2 j0 _ 1 8 Try.underlying46 hj0 hy0 hy1 hy2 rfl (by omega) w.heap.size 0 0 [] rfl HR.out (some ⟨b, off, none⟩) xs.length cap (xs.map (Value.int .i64)) rfl HS.out (by unfold maxLen; omega) (by omega) (by simp) (w.heap.size + 1) (by simp) ?_; intro gg cc w4 hown hgrow hat hltt)
  go_ret
  exact ⟨gg, cc, rfl, IRow.of hown (by omega) (by simp), HA.out.grown hgrow (by simp) (by intro k hk; cases hk; omega)⟩

set_option maxRecDepth 100000 in
set_option maxHeartbeats 1000000 in
theorem iOwn (m : Sm) (w : World) (hm : View w m.2.1 m.2.2.2) (h0 : 0 < m.2.2.2.length) (hn : m.2.2.2.length ≤ 1048576) :
    Calls Try.prog 133 #[.agg #[.int .i64 m.1, .slice m.2.1 m.2.2.2.length m.2.2.1]] w fun e w' => ∃ h c, e = .returned (.agg #[.int .i64 m.1, .slice (some ⟨h, 0, none⟩) m.2.2.2.length c]) ∧ IRow w.heap.size w' h c m.2.2.2 ∧ Below w.heap.size w w' := by
  obtain ⟨bm, om, hmo, hbm, hms⟩ : ∃ b off, m.2.1 = some ⟨b, off, none⟩ ∧ b < w.heap.size ∧ Seg w b off m.2.2.2 := by
    rcases hm with h | h
    · rw [h] at h0; simp at h0
    · exact h
  obtain ⟨W, hW⟩ : ∃ W, W = (w.alloc (.cells #[.int .i64 m.1, .slice (some ⟨bm, om, none⟩) m.2.2.2.length m.2.2.1] 93)).alloc (.cells #[.int .i64 0, .slice none 0 0] 93) := ⟨_, rfl⟩
  have hL : Below w.heap.size w W := by rw [hW]; exact ((Below.refl _ _).alloc (Nat.le_refl _) _).alloc (by simp) _
  have hsz : W.heap.size = w.heap.size + 2 := by rw [hW]; simp
  have a0 : W.cell? ⟨w.heap.size, 0, none⟩ = some (.int .i64 m.1) := by rw [hW]; go_simp
  have a1 : W.cell? ⟨w.heap.size, 1, none⟩ = some (.slice (some ⟨bm, om, none⟩) m.2.2.2.length m.2.2.1) := by rw [hW]; go_simp
  have t0 : Two W (w.heap.size + 1) (.int .i64 0) (.slice none 0 0) 93 := by rw [hW]; have := Two.new (w.alloc (.cells #[.int .i64 m.1, .slice (some ⟨bm, om, none⟩) m.2.2.2.length m.2.2.1] 93)) (.int .i64 0) (.slice none 0 0) 93; simpa using this
  have HC := hidP (fun n => pCloneK bm om m.2.2.1 m.2.2.2 (W.drewN n) ((hms.below hbm hL).drewN n) (by show bm < W.heap.size; omega) hn)
  have HT := hidP t0
  have HL := hidP hL
  rw [hmo]
  clear hm hms hmo t0 hL
  go_enter Try.func133, Try.ntmps133
  go_wp2_with fail
  rw [← hW]
  clear hW
  refine wp_region_calm (S := fun w' => w'.cell? ⟨w.heap.size, 0, none⟩ = some (.int .i64 m.1) ∧ w'.cell? ⟨w.heap.size, 1, none⟩ = some (.slice (some ⟨bm, om, none⟩) m.2.2.2.length m.2.2.1)) (fuel := 2)
    [0, 1, 2, 3] _ rfl (by kernel_rfl) (by kernel_rfl) (by kernel_rfl) (by kernel_rfl) (by kernel_rfl) (by kernel_rfl) (by kernel_rfl) ⟨a0, a1⟩ (fun hS => ?_)
  iterate 4
    refine ⟨_, rfl, ?_⟩
    apply Exists.intro
    refine ⟨Or.inl ⟨by rfl, fun w' hw' => ?_⟩, ?_⟩
    · first
      | (go_simp; done)
      | (go_simp; with_reducible rfl)
    simp only [Act.put, List.setIfInBounds_toArray]
  refine calm_one 4 (by kernel_rfl) rfl (fun K hK => ?_)
  go_simp
  refine (HC.out 1).mono ?_
  rintro e w' ⟨g, c, rfl, hi, L⟩
  have hS2 : w'.cell? ⟨w.heap.size, 0, none⟩ = some (.int .i64 m.1) ∧ w'.cell? ⟨w.heap.size, 1, none⟩ = some (.slice (some ⟨bm, om, none⟩) m.2.2.2.length m.2.2.1) :=
    ⟨(L.cell (p := ⟨w.heap.size, 0, none⟩) (by show w.heap.size < W.heap.size; omega)).trans a0, (L.cell (p := ⟨w.heap.size, 1, none⟩) (by show w.heap.size < W.heap.size; omega)).trans a1⟩
  refine hK.out _ _ hS2 (fun _ => ?_)
  clear hK K
  refine calm_one 5 (by kernel_rfl) rfl (fun K hK => ?_)
  go_simp
  refine hK.out _ _ hS2 (fun _ => ?_)
  clear hK K
  have hz : (W.drewN 1).heap.size = W.heap.size := rfl
  rw [hz] at hi L
  have hB : Below w.heap.size w (W.drewN 1) := below_drewN HL.out 1
  have t2 : Two w' (w.heap.size + 1) (.int .i64 0) (.slice none 0 0) 93 := (L.block _ (by omega)).trans HT.out
  have f0 := t2.frozen 0
  have f1 := t2.frozen 1
  have e0 := t2.c0
  have e1 := t2.c1
  have t3 := (t2.set0 (.int .i64 m.1)).set1 (.slice (some ⟨g, 0, none⟩) m.2.2.2.length c)
  have k0 := t3.c0
  have k1 := t3.c1
  have hgl := hi.lt
  have HE : Hid (IRow w.heap.size ((w'.setCell ⟨w.heap.size + 1, 0, none⟩ (.int .i64 m.1)).setCell ⟨w.heap.size + 1, 1, none⟩ (.slice (some ⟨g, 0, none⟩) m.2.2.2.length c)) g c m.2.2.2 ∧ Below w.heap.size w ((w'.setCell ⟨w.heap.size + 1, 0, none⟩ (.int .i64 m.1)).setCell ⟨w.heap.size + 1, 1, none⟩ (.slice (some ⟨g, 0, none⟩) m.2.2.2.length c))) :=
    ⟨((hi.kept (grown_setCell _ (w.heap.size + 1) 0 _) (by simp; omega)).kept (grown_setCell _ (w.heap.size + 1) 1 _) (by simp; omega)).mono (by omega), set_below (set_below (hB.trans (L.mono (by omega))) (Nat.le_succ _) _) (Nat.le_succ _) _⟩
  clear t2 t3 hi L hB HC HT HL a0 a1 hS hS2 hz
  refine wpAnyH_done (by kernel_rfl) ?_ _
  simp only [Exit.then]
  go_wp2_with fail
  refine NoPanic.normal ?_
  go_wp2_with fail
  refine bodyPost_ret (v := .agg #[.int .i64 m.1, .slice (some ⟨g, 0, none⟩) m.2.2.2.length c]) (by simp [results, Try.results133, go_sem, k0, k1]) rfl ?_
  exact ⟨g, c, rfl, HE.out.1, HE.out.2⟩

end Go.Proofs.Ythddhblmnfjciaa
namespace Go.Proofs.Ythddhblmnfjciaa
open Go Go.RowKit

/-- A block of four cells. -/
def Four (w : World) (p : Nat) (a b c d : Value) (t : TypeId) : Prop := w.heap[p]? = some (.cells #[a, b, c, d] t (0, 0))
theorem Four.lt {w : World} {p : Nat} {a b c d : Value} {t : TypeId} (h : Four w p a b c d t) : p < w.heap.size := by
  rcases Nat.lt_or_ge p w.heap.size with h1 | h1
  · exact h1
  · unfold Four at h; rw [Array.getElem?_eq_none h1] at h; cases h
theorem Four.cells {w : World} {p : Nat} {a b c d : Value} {t : TypeId} (h : Four w p a b c d t) : w.cell? ⟨p, 0, none⟩ = some a ∧ w.cell? ⟨p, 1, none⟩ = some b ∧ w.cell? ⟨p, 2, none⟩ = some c ∧ w.cell? ⟨p, 3, none⟩ = some d := by unfold Four at h; simp [World.cell?, h]
theorem Four.frozen {w : World} {p : Nat} {a b c d : Value} {t : TypeId} (h : Four w p a b c d t) (j : Nat) : w.frozen? ⟨p, j, none⟩ = false := by unfold Four at h; simp [World.frozen?, h]
theorem Four.below {w w' : World} {p : Nat} {a b c d : Value} {t : TypeId} (h : Four w p a b c d t) (hb : Below w.heap.size w w') : Four w' p a b c d t := (hb.block p h.lt).trans h
theorem Four.new (w : World) (a b c d : Value) (t : TypeId) : Four (w.alloc (.cells #[a, b, c, d] t)) w.heap.size a b c d t := heap_alloc_new w _
theorem Four.set {w : World} {p : Nat} {a b c d : Value} {t : TypeId} (h : Four w p a b c d t) (x y z u : Value) : Four ((((w.setCell ⟨p, 0, none⟩ x).setCell ⟨p, 1, none⟩ y).setCell ⟨p, 2, none⟩ z).setCell ⟨p, 3, none⟩ u) p x y z u t := by
  unfold Four World.setCell at *
  simp only [Array.getElem?_modify, if_true, h]
  rfl
theorem Four.kept {w w' : World} {p : Nat} {a b c d : Value} {t : TypeId} {r : Option Nat} (h : Four w p a b c d t) (hg : w.grownBy w' r) (hr : some p ≠ r) : Four w' p a b c d t := (hg.block p h.lt hr).trans h

set_option maxRecDepth 100000 in
set_option maxHeartbeats 4000000 in
theorem iHalves (B ax : Nat) (ao : Option Addr) (cap : Nat) (ds : List Sm) (w : World) (h0 : 0 < ds.length) (hn : ds.length ≤ 1048576) (hv : SView w ao ds) (hl : SLies w ds) (hax : ∀ d ∈ ds, ax < d.2.2.2.length) (hsole : Sole (smMarks ds)) (hone : ∀ d ∈ ds, ∀ e ∈ ds, smMark d = smMark e → d = e) (hB : B < w.heap.size) (hc : w.cell? ⟨B, 0, none⟩ = some (.int .i64 ax)) :
    Calls Try.prog 155 #[.slice ao ds.length cap, .func (.func 169) #[] #[.pointer (some ⟨B, 0, none⟩)]] w fun e w' => ∃ a1 a2, e = .returned (.agg #[.slice a1 (ds.length / 2) (ds.length / 2), .int .i64 (snth (sortBy (smlt ax) ds) (ds.length / 2)).1, .slice (snth (sortBy (smlt ax) ds) (ds.length / 2)).2.1 (snth (sortBy (smlt ax) ds) (ds.length / 2)).2.2.2.length (snth (sortBy (smlt ax) ds) (ds.length / 2)).2.2.1, .slice a2 (ds.length - (ds.length / 2 + 1)) (ds.length - (ds.length / 2 + 1))]) ∧ SView w' a1 ((sortBy (smlt ax) ds).take (ds.length / 2)) ∧ SView w' a2 ((sortBy (smlt ax) ds).drop (ds.length / 2 + 1)) ∧ (∀ a, a1 = some a → w.heap.size ≤ a.block) ∧ (∀ a, a2 = some a → w.heap.size ≤ a.block) ∧ Below w.heap.size w w' := by
  have hparts : Parts (smlt ax) (· ∈ ds) := by
    have hp := parts_axlt ax hsole
    have hin : ∀ d ∈ ds, smMark d ∈ smMarks ds := fun d hd => List.mem_map_of_mem hd
    exact ⟨fun a b c ha hb hc h1 h2 => hp.trans _ _ _ (hin a ha) (hin b hb) (hin c hc) h1 h2, fun a b ha hb h1 h2 => hone a ha b hb (hp.one _ _ (hin a ha) (hin b hb) h1 h2), fun a b ha hb h1 => hp.asym _ _ (hin a ha) (hin b hb) h1⟩
  obtain ⟨W, hW⟩ : ∃ W, W = w.alloc (.cells #[.slice none 0 0, .int .i64 0, .slice none 0 0, .slice none 0 0] 183) := ⟨_, rfl⟩
  have hL : Below w.heap.size w W := by rw [hW]; exact alloc_below w _
  have hF : Four W w.heap.size (.slice none 0 0) (.int .i64 0) (.slice none 0 0) (.slice none 0 0) 183 := by rw [hW]; exact Four.new w _ _ _ _ _
  have hsz : W.heap.size = w.heap.size + 1 := by rw [hW]; simp
  have HO := hidP (iByAxis B ax ao cap ds W h0 hn (hv.next hL) (hl.below hL) hax (by omega) ((hL.cell (p := ⟨B, 0, none⟩) hB).trans hc))
  have HP := hidP hparts
  have HF := hidP hF
  have HL := hidP hL
  have hsl := sortBy_length (smlt ax) ds
  obtain ⟨M, hM⟩ : ∃ M, M = ds.length / 2 := ⟨_, rfl⟩
  have hdiv : ((ds.length : Int) / 2) = (M : Int) := by omega
  rw [← hM]
  have HM := hidP hM
  have hMl : M < ds.length := by omega
  clear hv hl hax hsole hone hc hF hL hparts hM
  go_enter Try.func155, Try.ntmps155
  go_wp2_with fail
  rw [← hW]
  clear hW
  refine HO.out.mono ?_
  rintro e w1 ⟨b, ds', rfl, hp, hs, hseg, hb1, hb2, L1⟩
  obtain rfl : ds' = sortBy (smlt ax) ds := sortBy_one HP.out ds ds' (fun y hy => hy) hp hs
  generalize hsv : sortBy (smlt ax) ds = s at *
  have HSV := hidP hsv
  obtain ⟨y0, y1⟩ := hseg M (by omega)
  rw [Nat.zero_add] at y0 y1
  generalize hmv : snth s M = m at *
  have HMV := hidP hmv
  have hF1 := HF.out.below L1
  have f0 := hF1.frozen 0
  have f1 := hF1.frozen 1
  have f2 := hF1.frozen 2
  have f3 := hF1.frozen 3
  obtain ⟨e0, e1, e2, e3⟩ := hF1.cells
  have HF1 := hidP hF1
  have HL1 := hidP L1
  have HSEG := hidP hseg
  have hMi : (M : Int) < (ds.length : Int) := by omega
  have hMi0 : (0 : Int) ≤ (M : Int) := by omega
  obtain ⟨K, hK⟩ : ∃ K, K = M + 1 := ⟨_, rfl⟩
  have hwrap : IntKind.i64.wrap ((M : Int) + 1) = (K : Int) := by rw [IntWalk.i64_in _ ⟨by omega, by omega⟩]; omega
  have hKi1 : (K : Int) ≤ (ds.length : Int) := by omega
  have hMi2 : (M : Int) ≤ (ds.length : Int) := by omega
  have hKi3 : (0 : Int) ≤ (K : Int) := by omega
  have hKl : K ≤ ds.length := by omega
  have HK := hidP hK
  have hWs : ∀ (x y z u : Value), SSeg ((((w1.setCell ⟨w.heap.size, 0, none⟩ x).setCell ⟨w.heap.size, 1, none⟩ y).setCell ⟨w.heap.size, 2, none⟩ z).setCell ⟨w.heap.size, 3, none⟩ u).drew b 0 s := fun x y z u => by
    have t0 : w1.grownBy ((((w1.setCell ⟨w.heap.size, 0, none⟩ x).setCell ⟨w.heap.size, 1, none⟩ y).setCell ⟨w.heap.size, 2, none⟩ z).setCell ⟨w.heap.size, 3, none⟩ u) (some w.heap.size) :=
      grown_set (grown_set (grown_set (grown_set (w := w1) (w' := w1) ⟨rfl, rfl, rfl, Nat.le_refl _, fun _ _ _ => rfl⟩)))
    have this : w1.grownBy ((((w1.setCell ⟨w.heap.size, 0, none⟩ x).setCell ⟨w.heap.size, 1, none⟩ y).setCell ⟨w.heap.size, 2, none⟩ z).setCell ⟨w.heap.size, 3, none⟩ u).drew (some w.heap.size) := ⟨t0.os, t0.tape, t0.output, t0.size, t0.block⟩
    intro i hi
    have hne : some b ≠ some w.heap.size := fun e => by injection e with e; omega
    exact ⟨(cell_grown hb2 this hne).trans (hseg i hi).1, (cell_grown hb2 this hne).trans (hseg i hi).2⟩
  have hLs : ∀ (x y z u : Value), Below w.heap.size w ((((w1.setCell ⟨w.heap.size, 0, none⟩ x).setCell ⟨w.heap.size, 1, none⟩ y).setCell ⟨w.heap.size, 2, none⟩ z).setCell ⟨w.heap.size, 3, none⟩ u).drew := fun x y z u =>
    (set_below (set_below (set_below (set_below (HL.out.trans (L1.mono (by omega))) (Nat.le_refl _) _) (Nat.le_refl _) _) (Nat.le_refl _) _) (Nat.le_refl _) _).drew
  have HWS := hidP hWs
  have HLL := hidP hLs
  have HSL := hidP hsl
  clear hF1 L1 hseg hp hs HP hmv hsv HO hK hWs hLs hsl
  go_wp2_with fail
  by_cases hKn : ds.length = K
  · subst hKn
    have hn2 : ds.length - (M + 1) = 0 := by rw [← HK.out]; omega
    have HN2 := hidP hn2
    clear hn2
    have HV1 : Hid (∀ x y z u : Value, SView ((((w1.setCell ⟨w.heap.size, 0, none⟩ x).setCell ⟨w.heap.size, 1, none⟩ y).setCell ⟨w.heap.size, 2, none⟩ z).setCell ⟨w.heap.size, 3, none⟩ u).drew (some ⟨b, 0, none⟩) (s.take M)) := fun x y z u => Or.inr ⟨b, 0, rfl, by simp; exact hb2, (HWS.out x y z u).take M⟩
    have HV2 : Hid (∀ x y z u : Value, SView ((((w1.setCell ⟨w.heap.size, 0, none⟩ x).setCell ⟨w.heap.size, 1, none⟩ y).setCell ⟨w.heap.size, 2, none⟩ z).setCell ⟨w.heap.size, 3, none⟩ u).drew (some ⟨b, 0, none⟩) (s.drop (M + 1))) := fun _ _ _ _ => Or.inl (List.drop_of_length_le (by rw [HSL.out, ← HK.out]; exact Nat.le_refl _))
    refine wp_region_calm (S := fun w' => w'.cell? ⟨b, M * 2, none⟩ = some (.int .i64 m.1) ∧ w'.cell? ⟨b, M * 2 + 1, none⟩ = some (.slice m.2.1 m.2.2.2.length m.2.2.1)) (fuel := 0)
      [0, 1, 2, 3, 4, 5, 6, 7, 8, 9, 10, 11, 12, 13, 14] _ rfl (by kernel_rfl) (by kernel_rfl) (by kernel_rfl) (by kernel_rfl) (by kernel_rfl) (by kernel_rfl) (by kernel_rfl) ⟨y0, y1⟩ (fun hS => ?_)
    iterate 15
      refine ⟨_, rfl, ?_⟩
      apply Exists.intro
      refine ⟨Or.inl ⟨by rfl, fun w' hw' => ?_⟩, ?_⟩
      · first
        | (go_simp; done)
        | (go_simp; with_reducible rfl)
      simp only [Act.put, List.setIfInBounds_toArray]
    clear hS
    refine wpAnyH_done (by kernel_rfl) ?_ _
    simp only [Exit.then]
    go_wp2_with fail
    refine NoPanic.normal ?_
    go_wp2_with fail
    obtain ⟨k0, k1, k2, k3⟩ := (HF1.out.set (.slice (some ⟨b, 0, none⟩) M M) (.int .i64 m.1) (.slice m.2.1 m.2.2.2.length m.2.2.1) (.slice (some ⟨b, 0, none⟩) 0 0)).cells
    refine bodyPost_ret (v := .agg #[.slice (some ⟨b, 0, none⟩) M M, .int .i64 m.1, .slice m.2.1 m.2.2.2.length m.2.2.1, .slice (some ⟨b, 0, none⟩) 0 0]) (by simp [results, Try.results155, go_sem, k0, k1, k2, k3]) rfl ?_
    rw [HSV.out, HMV.out]
    exact ⟨_, _, by rw [HN2.out], HV1.out _ _ _ _, HV2.out _ _ _ _, fun a e => by cases e; show w.heap.size ≤ b; omega, fun a e => by cases e; show w.heap.size ≤ b; omega, HLL.out _ _ _ _⟩
  · have HV1 : Hid (∀ x y z u : Value, SView ((((w1.setCell ⟨w.heap.size, 0, none⟩ x).setCell ⟨w.heap.size, 1, none⟩ y).setCell ⟨w.heap.size, 2, none⟩ z).setCell ⟨w.heap.size, 3, none⟩ u).drew (some ⟨b, 0, none⟩) (s.take M)) := fun x y z u => Or.inr ⟨b, 0, rfl, by simp; exact hb2, (HWS.out x y z u).take M⟩
    have HV2 : Hid (∀ x y z u : Value, SView ((((w1.setCell ⟨w.heap.size, 0, none⟩ x).setCell ⟨w.heap.size, 1, none⟩ y).setCell ⟨w.heap.size, 2, none⟩ z).setCell ⟨w.heap.size, 3, none⟩ u).drew (some ⟨b, K * 2, none⟩) (s.drop (M + 1))) := fun x y z u => Or.inr ⟨b, K * 2, rfl, by simp; exact hb2, by have := (HWS.out x y z u).drop K; rw [Nat.zero_add] at this; rw [← HK.out]; exact this⟩
    refine wp_region_calm (S := fun w' => w'.cell? ⟨b, M * 2, none⟩ = some (.int .i64 m.1) ∧ w'.cell? ⟨b, M * 2 + 1, none⟩ = some (.slice m.2.1 m.2.2.2.length m.2.2.1)) (fuel := 0)
      [0, 1, 2, 3, 4, 5, 6, 7, 8, 9, 10, 11, 12, 13, 14] _ rfl (by kernel_rfl) (by kernel_rfl) (by kernel_rfl) (by kernel_rfl) (by kernel_rfl) (by kernel_rfl) (by kernel_rfl) ⟨y0, y1⟩ (fun hS => ?_)
    iterate 15
      refine ⟨_, rfl, ?_⟩
      apply Exists.intro
      refine ⟨Or.inl ⟨by rfl, fun w' hw' => ?_⟩, ?_⟩
      · first
        | (go_simp; done)
        | (go_simp; with_reducible rfl)
      simp only [Act.put, List.setIfInBounds_toArray]
    clear hS
    refine wpAnyH_done (by kernel_rfl) ?_ _
    simp only [Exit.then]
    go_wp2_with fail
    refine NoPanic.normal ?_
    go_wp2_with fail
    obtain ⟨k0, k1, k2, k3⟩ := (HF1.out.set (.slice (some ⟨b, 0, none⟩) M M) (.int .i64 m.1) (.slice m.2.1 m.2.2.2.length m.2.2.1) (.slice (some ⟨b, K * 2, none⟩) (ds.length - K) (ds.length - K))).cells
    refine bodyPost_ret (v := .agg #[.slice (some ⟨b, 0, none⟩) M M, .int .i64 m.1, .slice m.2.1 m.2.2.2.length m.2.2.1, .slice (some ⟨b, K * 2, none⟩) (ds.length - K) (ds.length - K)]) (by simp [results, Try.results155, go_sem, k0, k1, k2, k3]) rfl ?_
    rw [HSV.out, HMV.out]
    exact ⟨_, _, by rw [← HK.out], HV1.out _ _ _ _, HV2.out _ _ _ _, fun a e => by cases e; show w.heap.size ≤ b; omega, fun a e => by cases e; show w.heap.size ≤ b; omega, HLL.out _ _ _ _⟩

end Go.Proofs.Ythddhblmnfjciaa
