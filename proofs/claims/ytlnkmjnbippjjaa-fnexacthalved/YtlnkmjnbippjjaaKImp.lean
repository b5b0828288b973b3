/-
  The program's own halving: placeOf, ownMark, halvesOf.
-/
import Derived.Test.YtlnkmjnbippjjaaKCells
import Derived.Test.YtlnkmjnbippjjaaKSort2
import Derived.Test.YtlnkmjnbippjjaaLast
import Derived.Deep.CutRange
namespace Go.Proofs.Ytlnkmjnbippjjaa
open Go Go.RowKit

set_option maxHeartbeats 400000 in
theorem iPlace (ao bo : Option Addr) (n c m d : Nat) (w : World) :
    Calls Try.prog 83 #[.slice ao n c, .slice bo m d] w fun e w' => e = .returned (.int .i64 (if n = 0 then -1 else (m : Int))) ∧ w' = w := by
  by_cases h : n = 0
  · subst h
    go_enter Try.func83, Try.ntmps83
    go_wp2
    go_ret
    exact ⟨rfl, rfl⟩
  · have hb : ((n : Int) == 0) = false := by simp; exact h
    have HV : Hid ((if n = 0 then (-1 : Int) else (m : Int)) = m) := by show (if n = 0 then (-1 : Int) else (m : Int)) = m; rw [if_neg h]
    rw [HV.out]
    clear HV h
    go_enter Try.func83, Try.ntmps83
    go_wp2
    go_ret
    exact ⟨rfl, rfl⟩

set_option maxHeartbeats 400000 in
theorem pCloneK (b off cap : Nat) (xs : List Int) (w : World) (hs : Seg w b off xs) (hb : b < w.heap.size) (hn : xs.length ≤ 1048576) :
    Calls Try.prog 101 #[.slice (some ⟨b, off, none⟩) xs.length cap] w fun e w' => ∃ g c, e = .returned (.slice (some ⟨g, 0, none⟩) xs.length c) ∧ IRow w.heap.size w' g c xs ∧ Below w.heap.size w w' := by
  obtain ⟨j0, hj0, hy0, hy1, hy2⟩ := info_parts Try.info2
  have hA := alloc_below w (.cells #[] 2)
  have HR := hidP (IRow.start w w.heap.size (Nat.le_refl _))
  have HS := hidP (seg_srcK (hs.below hb hA))
  have HA := hidP hA
  have q49 : (binOp .eql 48 (.slice (some ⟨b, off, none⟩) xs.length cap) (.slice none 0 0)).run Try.prog w = .ok (.bool false) w := Lib.run_eql_slice_nil w 48 2 _ _ _ _ _ Try.underlying48
  clear hA hs
  go_enter Try.func101, Try.ntmps101
  go_wp2_with (at_builtin; refine wpList_append_at _ rfl (.tmp 5) (.tmp 6) 48 rfl w.heap.size 2 j0 _ 1 8 Try.underlying48 hj0 hy0 hy1 hy2 rfl (by omega) w.heap.size 0 0 [] rfl HR.out (some ⟨b, off, none⟩) xs.length cap (xs.map (Value.int .i64)) rfl HS.out (by unfold maxLen; omega) (by omega) (by simp) (w.heap.size + 1) (by simp) ?_; intro gg cc w4 hown hgrow hat hltt)
  go_ret
  exact ⟨gg, cc, rfl, IRow.of hown (by omega) (by simp), HA.out.grown hgrow (by simp) (by intro k hk; cases hk; omega)⟩

set_option maxRecDepth 100000 in
set_option maxHeartbeats 1000000 in
theorem iOwn (m : Sm) (w : World) (hm : View w m.2.1 m.2.2.2) (h0 : 0 < m.2.2.2.length) (hn : m.2.2.2.length ≤ 1048576) :
    Calls Try.prog 82 #[.agg #[.int .i64 m.1, .slice m.2.1 m.2.2.2.length m.2.2.1]] w fun e w' => ∃ h c, e = .returned (.agg #[.int .i64 m.1, .slice (some ⟨h, 0, none⟩) m.2.2.2.length c]) ∧ IRow w.heap.size w' h c m.2.2.2 ∧ Below w.heap.size w w' := by
  obtain ⟨bm, om, hmo, hbm, hms⟩ : ∃ b off, m.2.1 = some ⟨b, off, none⟩ ∧ b < w.heap.size ∧ Seg w b off m.2.2.2 := by
    rcases hm with h | h
    · rw [h] at h0; simp at h0
    · exact h
  obtain ⟨W, hW⟩ : ∃ W, W = (w.alloc (.cells #[.int .i64 m.1, .slice (some ⟨bm, om, none⟩) m.2.2.2.length m.2.2.1] 61)).alloc (.cells #[.int .i64 0, .slice none 0 0] 61) := ⟨_, rfl⟩
  have hL : Below w.heap.size w W := by rw [hW]; exact ((Below.refl _ _).alloc (Nat.le_refl _) _).alloc (by simp) _
  have hsz : W.heap.size = w.heap.size + 2 := by rw [hW]; simp
  have a0 : W.cell? ⟨w.heap.size, 0, none⟩ = some (.int .i64 m.1) := by rw [hW]; go_simp
  have a1 : W.cell? ⟨w.heap.size, 1, none⟩ = some (.slice (some ⟨bm, om, none⟩) m.2.2.2.length m.2.2.1) := by rw [hW]; go_simp
  have t0 : Two W (w.heap.size + 1) (.int .i64 0) (.slice none 0 0) 61 := by rw [hW]; have := Two.new (w.alloc (.cells #[.int .i64 m.1, .slice (some ⟨bm, om, none⟩) m.2.2.2.length m.2.2.1] 61)) (.int .i64 0) (.slice none 0 0) 61; simpa using this
  have HC := hidP (fun n => pCloneK bm om m.2.2.1 m.2.2.2 (W.drewN n) ((hms.below hbm hL).drewN n) (by show bm < W.heap.size; omega) hn)
  have HT := hidP t0
  have HL := hidP hL
  rw [hmo]
  clear hm hms hmo t0 hL
  go_enter Try.func82, Try.ntmps82
  go_wp2_with fail
  rw [← hW]
  clear hW
  refine wp_region_calm (S := fun w' => w'.cell? ⟨w.heap.size, 0, none⟩ = some (.int .i64 m.1) ∧ w'.cell? ⟨w.heap.size, 1, none⟩ = some (.slice (some ⟨bm, om, none⟩) m.2.2.2.length m.2.2.1)) (fuel := 2)
    [0, 1, 2, 3] _ rfl (by kernel_rfl) (by kernel_rfl) (by kernel_rfl) (by kernel_rfl) (by kernel_rfl) (by kernel_rfl) (by kernel_rfl) ⟨a0, a1⟩ (fun hS => ?_)
  iterate 4
    refine ⟨_, rfl, ?_⟩
    apply Exists.intro
    refine ⟨Or.inl ⟨by rfl, fun w' hw' => ?_⟩, ?_⟩
    · first
      | (go_simp; done)
      | (go_simp; with_reducible rfl)
    simp only [Act.put, List.setIfInBounds_toArray]
  refine calm_one 4 (by kernel_rfl) rfl (fun K hK => ?_)
  go_simp
  refine (HC.out 1).mono ?_
  rintro e w' ⟨g, c, rfl, hi, L⟩
  have hS2 : w'.cell? ⟨w.heap.size, 0, none⟩ = some (.int .i64 m.1) ∧ w'.cell? ⟨w.heap.size, 1, none⟩ = some (.slice (some ⟨bm, om, none⟩) m.2.2.2.length m.2.2.1) :=
    ⟨(L.cell (p := ⟨w.heap.size, 0, none⟩) (by show w.heap.size < W.heap.size; omega)).trans a0, (L.cell (p := ⟨w.heap.size, 1, none⟩) (by show w.heap.size < W.heap.size; omega)).trans a1⟩
  refine hK.out _ _ hS2 (fun _ => ?_)
  clear hK K
  refine calm_one 5 (by kernel_rfl) rfl (fun K hK => ?_)
  go_simp
  refine hK.out _ _ hS2 (fun _ => ?_)
  clear hK K
  have hz : (W.drewN 1).heap.size = W.heap.size := rfl
  rw [hz] at hi L
  have hB : Below w.heap.size w (W.drewN 1) := below_drewN HL.out 1
  have t2 : Two w' (w.heap.size + 1) (.int .i64 0) (.slice none 0 0) 61 := (L.block _ (by omega)).trans HT.out
  have f0 := t2.frozen 0
  have f1 := t2.frozen 1
  have e0 := t2.c0
  have e1 := t2.c1
  have t3 := (t2.set0 (.int .i64 m.1)).set1 (.slice (some ⟨g, 0, none⟩) m.2.2.2.length c)
  have k0 := t3.c0
  have k1 := t3.c1
  have hgl := hi.lt
  have HE : Hid (IRow w.heap.size ((w'.setCell ⟨w.heap.size + 1, 0, none⟩ (.int .i64 m.1)).setCell ⟨w.heap.size + 1, 1, none⟩ (.slice (some ⟨g, 0, none⟩) m.2.2.2.length c)) g c m.2.2.2 ∧ Below w.heap.size w ((w'.setCell ⟨w.heap.size + 1, 0, none⟩ (.int .i64 m.1)).setCell ⟨w.heap.size + 1, 1, none⟩ (.slice (some ⟨g, 0, none⟩) m.2.2.2.length c))) :=
    ⟨((hi.kept (grown_setCell _ (w.heap.size + 1) 0 _) (by simp; omega)).kept (grown_setCell _ (w.heap.size + 1) 1 _) (by simp; omega)).mono (by omega), set_below (set_below (hB.trans (L.mono (by omega))) (Nat.le_succ _) _) (Nat.le_succ _) _⟩
  clear t2 t3 hi L hB HC HT HL a0 a1 hS hS2 hz
  refine wpAnyH_done (by kernel_rfl) ?_ _
  simp only [Exit.then]
  go_wp2_with fail
  refine NoPanic.normal ?_
  go_wp2_with fail
  refine bodyPost_ret (v := .agg #[.int .i64 m.1, .slice (some ⟨g, 0, none⟩) m.2.2.2.length c]) (by simp [results, Try.results82, go_sem, k0, k1]) rfl ?_
  exact ⟨g, c, rfl, HE.out.1, HE.out.2⟩

end Go.Proofs.Ytlnkmjnbippjjaa
