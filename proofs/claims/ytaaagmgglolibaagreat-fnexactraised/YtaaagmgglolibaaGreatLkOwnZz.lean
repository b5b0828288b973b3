/-
  slices.Clone of numbers, ownMark.
-/
import Derived.Test.YtaaagmgglolibaaGreatLkCatZz
import Derived.Test.YtaaagmgglolibaaGreatBCopyZz
import Derived.Test.YtaaagmgglolibaaGreatLastZz
import Derived.Test.YtaaagmgglolibaaGreatMMarkZz
namespace Go.Proofs.YtaaagmgglolibaaGreat
open Go Go.RowKit

theorem view_src15 {w : World} {ao : Option Addr} {xs : List Int} (h : View w ao xs) : SrcAt w 1 ao xs.length (xs.map (Value.int .i64)) :=
  ⟨by simp, fun u hu => by obtain ⟨x, _, rfl⟩ := List.mem_map.1 hu; rfl, by
    rcases h with rfl | ⟨b, off, rfl, hb, hs⟩
    · exact Or.inl rfl
    · refine Or.inr ⟨_, rfl, fun j u hu => ?_⟩
      rw [Go.WideShapes.add_plain]
      have hj : j < xs.length := by
        rcases Nat.lt_or_ge j xs.length with h1 | h1
        · exact h1
        · rw [List.getElem?_eq_none (by simpa using h1)] at hu; cases hu
      have e : (xs.map (Value.int .i64))[j]? = some (.int .i64 (nth xs j)) := by simp [nth, List.getD, hj]
      rw [e] at hu
      injection hu with hu
      rw [← hu]
      exact hs j hj⟩

set_option maxHeartbeats 400000 in
theorem clone_nil (cap : Nat) (w : World) :
    Calls Tryz.prog 211 #[.slice none 0 cap] w fun e w' => e = .returned (.slice none 0 0) ∧ w' = w := by
  have q49 : (binOp .eql 27 (.slice none 0 cap) (.slice none 0 0)).run Tryz.prog w = .ok (.bool true) w := Lib.run_eql_slice_nil w 27 2 _ _ _ _ _ Tryz.underlying27
  go_enter Tryz.func211, Tryz.ntmps211
  go_wp2_with fail
  go_ret
  exact ⟨rfl, rfl⟩

set_option maxHeartbeats 400000 in
theorem clone_some (p : Addr) (cap : Nat) (xs : List Int) (w : World) (hv : View w (some p) xs) (hn : xs.length ≤ 1048576) :
    Calls Tryz.prog 211 #[.slice (some p) xs.length cap] w fun e w' => ∃ g c, e = .returned (.slice (some ⟨g, 0, none⟩) xs.length c) ∧ IRow w.heap.size w' g c xs ∧ Below w.heap.size w w' := by
  obtain ⟨j0, hj0, hy0, hy1, hy2⟩ := info_parts Tryz.info2
  have hA : Below w.heap.size w (w.alloc (.cells #[] 2)) := (Below.refl _ _).alloc (Nat.le_refl _) _
  have HR := hidP (IRow.start w w.heap.size (Nat.le_refl _))
  have HS := hidP (view_src15 (hv.next hA))
  have HA := hidP hA
  have q49 : (binOp .eql 27 (.slice (some p) xs.length cap) (.slice none 0 0)).run Tryz.prog w = .ok (.bool false) w := Lib.run_eql_slice_nil w 27 2 _ _ _ _ _ Tryz.underlying27
  clear hA hv
  go_enter Tryz.func211, Tryz.ntmps211
  go_wp2_with (at_builtin; refine wpList_append_at _ rfl (.tmp 5) (.tmp 6) 27 rfl w.heap.size 2 j0 _ 1 8 Tryz.underlying27 hj0 hy0 hy1 hy2 rfl (by omega) w.heap.size 0 0 [] rfl HR.out (some p) xs.length cap (xs.map (Value.int .i64)) rfl HS.out (by unfold maxLen; omega) (by omega) (by simp) (w.heap.size + 1) (by simp) ?_; intro gg cc w4 hown hgrow hat hltt)
  go_ret
  exact ⟨gg, cc, rfl, IRow.of hown (by omega) (by simp), HA.out.grown hgrow (by simp) (by intro k hk; cases hk; omega)⟩

theorem pClone15 (b off cap : Nat) (xs : List Int) (w : World) (hs : Seg w b off xs) (hb : b < w.heap.size) (hn : xs.length ≤ 1048576) :
    Calls Tryz.prog 211 #[.slice (some ⟨b, off, none⟩) xs.length cap] w fun e w' => ∃ g c, e = .returned (.slice (some ⟨g, 0, none⟩) xs.length c) ∧ IRow w.heap.size w' g c xs ∧ Below w.heap.size w w' :=
  clone_some ⟨b, off, none⟩ cap xs w (Or.inr ⟨b, off, rfl, hb, hs⟩) hn

/-- A copy of numbers: nothing of nothing, or a row of the call's own. -/
theorem iCloneA (ao : Option Addr) (cap : Nat) (xs : List Int) (w : World) (hv : View w ao xs) (hn : xs.length ≤ 1048576) :
    Calls Tryz.prog 211 #[.slice ao xs.length cap] w fun e w' => ∃ v, e = .returned v ∧ w'.ownsRow w.heap.size 2 1 v xs.length (xs.map (Value.int .i64)) ∧ Below w.heap.size w w' := by
  cases ao with
  | none =>
    obtain rfl : xs = [] := by
      rcases hv with h | ⟨b, off, e, -⟩
      · exact h
      · cases e
    refine (clone_nil cap w).mono ?_
    rintro e w' ⟨rfl, rfl⟩
    exact ⟨_, rfl, ⟨rfl, Or.inl ⟨rfl, rfl⟩⟩, Below.refl _ _⟩
  | some p =>
    refine (clone_some p cap xs w hv hn).mono ?_
    rintro e w' ⟨g, c, rfl, hr, L⟩
    exact ⟨_, rfl, hr, L⟩

set_option maxRecDepth 100000 in
set_option maxHeartbeats 1000000 in
theorem iOwn15 (m : Sm) (w : World) (hm : View w m.2.1 m.2.2.2) (h0 : 0 < m.2.2.2.length) (hn : m.2.2.2.length ≤ 1048576) :
    Calls Tryz.prog 130 #[.agg #[.int .i64 m.1, .slice m.2.1 m.2.2.2.length m.2.2.1]] w fun e w' => ∃ h c, e = .returned (.agg #[.int .i64 m.1, .slice (some ⟨h, 0, none⟩) m.2.2.2.length c]) ∧ IRow w.heap.size w' h c m.2.2.2 ∧ Below w.heap.size w w' := by
  obtain ⟨bm, om, hmo, hbm, hms⟩ : ∃ b off, m.2.1 = some ⟨b, off, none⟩ ∧ b < w.heap.size ∧ Seg w b off m.2.2.2 := by
    rcases hm with h | h
    · rw [h] at h0; simp at h0
    · exact h
  obtain ⟨W, hW⟩ : ∃ W, W = (w.alloc (.cells #[.int .i64 m.1, .slice (some ⟨bm, om, none⟩) m.2.2.2.length m.2.2.1] 29)).alloc (.cells #[.int .i64 0, .slice none 0 0] 29) := ⟨_, rfl⟩
  have hL : Below w.heap.size w W := by rw [hW]; exact ((Below.refl _ _).alloc (Nat.le_refl _) _).alloc (by simp) _
  have hsz : W.heap.size = w.heap.size + 2 := by rw [hW]; simp
  have a0 : W.cell? ⟨w.heap.size, 0, none⟩ = some (.int .i64 m.1) := by rw [hW]; go_simp
  have a1 : W.cell? ⟨w.heap.size, 1, none⟩ = some (.slice (some ⟨bm, om, none⟩) m.2.2.2.length m.2.2.1) := by rw [hW]; go_simp
  have t0 : Two W (w.heap.size + 1) (.int .i64 0) (.slice none 0 0) 29 := by rw [hW]; have := Two.new (w.alloc (.cells #[.int .i64 m.1, .slice (some ⟨bm, om, none⟩) m.2.2.2.length m.2.2.1] 29)) (.int .i64 0) (.slice none 0 0) 29; simpa using this
  have HC := hidP (fun n => pClone15 bm om m.2.2.1 m.2.2.2 (W.drewN n) ((hms.below hbm hL).drewN n) (by show bm < W.heap.size; omega) hn)
  have HT := hidP t0
  have HL := hidP hL
  rw [hmo]
  clear hm hms hmo t0 hL
  go_enter Tryz.func130, Tryz.ntmps130
  go_wp2_with fail
  rw [← hW]
  clear hW
  refine wp_region_calm (S := fun w' => w'.cell? ⟨w.heap.size, 0, none⟩ = some (.int .i64 m.1) ∧ w'.cell? ⟨w.heap.size, 1, none⟩ = some (.slice (some ⟨bm, om, none⟩) m.2.2.2.length m.2.2.1)) (fuel := 2)
    [0, 1, 2, 3] _ rfl (by kernel_rfl) (by kernel_rfl) (by kernel_rfl) (by kernel_rfl) (by kernel_rfl) (by kernel_rfl) (by kernel_rfl) ⟨a0, a1⟩ (fun hS => ?_)
  iterate 4
    refine ⟨_, rfl, ?_⟩
    apply Exists.intro
    refine ⟨Or.inl ⟨by rfl, fun w' hw' => ?_⟩, ?_⟩
    · first
      | (go_simp; done)
      | (go_simp; with_reducible rfl)
    simp only [Act.put, List.setIfInBounds_toArray]
  refine calm_one 4 (by kernel_rfl) rfl (fun K hK => ?_)
  go_simp
  refine (HC.out 1).mono ?_
  rintro e w' ⟨g, c, rfl, hi, L⟩
  have hS2 : w'.cell? ⟨w.heap.size, 0, none⟩ = some (.int .i64 m.1) ∧ w'.cell? ⟨w.heap.size, 1, none⟩ = some (.slice (some ⟨bm, om, none⟩) m.2.2.2.length m.2.2.1) :=
    ⟨(L.cell (p := ⟨w.heap.size, 0, none⟩) (by show w.heap.size < W.heap.size; omega)).trans a0, (L.cell (p := ⟨w.heap.size, 1, none⟩) (by show w.heap.size < W.heap.size; omega)).trans a1⟩
  refine hK.out _ _ hS2 (fun _ => ?_)
  clear hK K
  refine calm_one 5 (by kernel_rfl) rfl (fun K hK => ?_)
  go_simp
  refine hK.out _ _ hS2 (fun _ => ?_)
  clear hK K
  have hz : (W.drewN 1).heap.size = W.heap.size := rfl
  rw [hz] at hi L
  have hB : Below w.heap.size w (W.drewN 1) := below_drewN HL.out 1
  have t2 : Two w' (w.heap.size + 1) (.int .i64 0) (.slice none 0 0) 29 := (L.block _ (by omega)).trans HT.out
  have f0 := t2.frozen 0
  have f1 := t2.frozen 1
  have e0 := t2.c0
  have e1 := t2.c1
  have t3 := (t2.set0 (.int .i64 m.1)).set1 (.slice (some ⟨g, 0, none⟩) m.2.2.2.length c)
  have k0 := t3.c0
  have k1 := t3.c1
  have hgl := hi.lt
  have HE : Hid (IRow w.heap.size ((w'.setCell ⟨w.heap.size + 1, 0, none⟩ (.int .i64 m.1)).setCell ⟨w.heap.size + 1, 1, none⟩ (.slice (some ⟨g, 0, none⟩) m.2.2.2.length c)) g c m.2.2.2 ∧ Below w.heap.size w ((w'.setCell ⟨w.heap.size + 1, 0, none⟩ (.int .i64 m.1)).setCell ⟨w.heap.size + 1, 1, none⟩ (.slice (some ⟨g, 0, none⟩) m.2.2.2.length c))) :=
    ⟨((hi.kept (grown_setCell _ (w.heap.size + 1) 0 _) (by simp; omega)).kept (grown_setCell _ (w.heap.size + 1) 1 _) (by simp; omega)).mono (by omega), ((hB.trans (L.mono (by omega))).setCell (by show w.heap.size ≤ w.heap.size + 1; omega) _).setCell (by show w.heap.size ≤ w.heap.size + 1; omega) _⟩
  clear t2 t3 hi L hB HC HT HL a0 a1 hS hS2 hz
  refine wpAnyH_done (by kernel_rfl) ?_ _
  simp only [Exit.then]
  go_wp2_with fail
  refine NoPanic.normal ?_
  go_wp2_with fail
  refine bodyPost_ret (v := .agg #[.int .i64 m.1, .slice (some ⟨g, 0, none⟩) m.2.2.2.length c]) (by simp [results, Tryz.results130, go_sem, k0, k1]) rfl ?_
  exact ⟨g, c, rfl, HE.out.1, HE.out.2⟩
end Go.Proofs.YtaaagmgglolibaaGreat
