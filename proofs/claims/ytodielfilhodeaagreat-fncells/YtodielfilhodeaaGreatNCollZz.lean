/-
  The library's slices.Collect of the values of a map: a new row of them, in some order.
-/
import Derived.Test.YtodielfilhodeaaGreatNIter0Zz
import Derived.RangeFuncWrites
import Derived.Test.YtodielfilhodeaaGreatMCellsZz
namespace Go.Proofs.YtodielfilhodeaaGreat
open Go Go.RowKit Go.Shelf
open Go.ChangeMaps (setBlock)

attribute [local go_sem] Oper.semAt_some

theorem infoRow : (Tryz.prog.info? 24).map (fun i => (i.zero, i.size, i.bytes)) = some (some (.slice none 0 0), 1, 24) := by kernel_rfl
/-- Between two rounds: the box holds what has come. -/
def ApI (w : World) (pre : List MapEntry) (V : World) : Prop := ∃ sv, V.heap[w.heap.size]? = some (.cells #[sv] 117 (0, 0)) ∧ V.ownsRow (w.heap.size + 1) 24 1 sv pre.length (pre.map valE) ∧ Below w.heap.size w V
theorem row_far {W : World} {base e size k : Nat} {v : Value} {xs : List Value} (h : W.ownsRow base e size v k xs) {r : Option Nat} (hr : ∀ j, r = some j → ∃ o : Obj, W.heap[j]? = some o ∧ o.isCells = false) : v.ownBlock = none ∨ v.ownBlock ≠ r := by
  rcases h.2 with ⟨rfl, _⟩ | ⟨g, cap, cur, rfl, _, hgb, _⟩
  · exact Or.inl rfl
  · refine Or.inr fun e2 => ?_
    obtain ⟨o, ho, hc⟩ := hr g e2.symm
    rw [hgb] at ho
    cases ho
    cases hc
theorem cell_one_newN (w : World) (v : Value) (t : TypeId) : ∀ (j : Nat) (u : Value), ([v] : List Value)[j]? = some u → (w.alloc (.cells #[v] t)).cell? ((⟨w.heap.size, 0, none⟩ : Addr).add j) = some u := fun j u h => by
  cases j with
  | zero =>
    simp at h
    subst h
    have e : (⟨w.heap.size, 0, none⟩ : Addr).add 0 = ⟨w.heap.size, 0, none⟩ := by simp [Addr.add]
    rw [e]
    go_simp
  | succ j => simp at h
theorem apI_own (w : World) {B : Nat} (hB : w.heap.size < B) : OwnFrom B (ApI w) := fun pre W W' row h hg hr => by
  obtain ⟨sv, hb, hrow, L⟩ := h
  have hlt := (Array.getElem?_eq_some_iff.1 hb).1
  refine ⟨sv, (hg.block _ hlt (fun e => by have := (hr _ e.symm).1; omega)).trans hb, World.ownsRow.kept hrow hg (row_far hrow fun j e => (hr j e).2), L.grown hg L.size (fun k e => by have := (hr k e).1; omega)⟩

set_option maxRecDepth 100000 in
set_option maxHeartbeats 4000000 in
theorem iAppendSeq (Bm B clk : Nat) (es : Array MapEntry) (hbn : ∀ x ∈ es.toList, x.born < clk) (hnd : (es.toList.map (·.born)).Nodup) (hoc : ∀ x ∈ es.toList, valE x = x.val) (hsz : es.size ≤ 60) (w : World)
    (hBm : w.heap[Bm]? = some (.cells #[.map (some B)] 102)) (hB : w.heap[B]? = some (.map es clk)) :
    Calls Tryz.prog 132 #[.slice none 0 0, .func (.func 133) #[] #[.pointer (some ⟨Bm, 0, none⟩)]] w fun e w' => ∃ (v : Value) (ys : List MapEntry), e = .returned v ∧ ys.Perm es.toList ∧ w'.ownsRow w.heap.size 24 1 v ys.length (ys.map valE) ∧ Below w.heap.size w w' := by
  obtain ⟨i0, hi0, hz0, hz1, hz2⟩ := info_parts infoRow
  refine (callsIn_wide (n := 5)).1 ?_
  refine callsIn_of_wp_marks Tryz.func132 rfl trivial ?_ rfl
  simp only [Tryz.ntmps132, List.size_toArray, List.length_cons, List.length_nil, Nat.reduceAdd, Nat.reduceSub, Array.replicate_succ, Array.replicate_zero, List.push_toArray, List.append_toArray, List.nil_append, List.cons_append]
  gi_wp2
  obtain ⟨W0, hW0⟩ : ∃ W, w.alloc (.cells #[.slice none 0 0] 117) = W := ⟨_, rfl⟩
  have hL0 : Below w.heap.size w W0 := by rw [← hW0]; exact alloc_below w _
  have hs0 : W0.heap.size = w.heap.size + 1 := by rw [← hW0]; simp
  have hb0 : W0.heap[w.heap.size]? = some (.cells #[.slice none 0 0] 117 (0, 0)) := by rw [← hW0]; exact heap_alloc_new w _
  have b1 : Bm < w.heap.size := (Array.getElem?_eq_some_iff.1 hBm).1
  have b2 : B < w.heap.size := (Array.getElem?_eq_some_iff.1 hB).1
  rw [hW0]
  clear hW0
  refine wpIn_rangeFunc_ownG rfl (by decide) (gf := 133) (lb := #[.pointer (some ⟨Bm, 0, none⟩)]) rfl trivial (enters_of Tryz.func133 (by kernel_rfl) rfl)
    (vals_stops Fence.wide (5 - 1) trivial rfl (by decide) Bm B clk es hbn hnd hoc W0 ((hL0.block Bm b1).trans hBm) ((hL0.block B b2).trans hB)) (fun h k => h.trans k)
    (fun W l o o' hl h _ hw => KeepsWalks.putObj o' h hw) (Below.refl _ _) (fun _ => rfl)
    (ApI w) (fun _ _ _ => False) (apI_own w (by omega)) (fun _ _ _ _ _ hs _ _ => hs) ⟨_, hb0, ⟨rfl, Or.inl ⟨rfl, rfl⟩⟩, hL0⟩
    (fun x => { tmps := #[.slice none 0 0, .func (.func 133) #[] #[.pointer (some ⟨Bm, 0, none⟩)], .pointer (some ⟨w.heap.size, 0, none⟩), undef, .slice none 0 0, valE x,
        .func (.func 133) #[] #[.pointer (some ⟨Bm, 0, none⟩)], valE x, undef, undef, undef, undef, undef], defers := [] }) ?assign ?body ?done ?stop
  case assign =>
    intro l x V K hK
    dsimp only
    gi_wp2
    exact hK
  case body =>
    rintro l pre x V ⟨sv, hb, hrow, L⟩ hlt
    have hbl := (Array.getElem?_eq_some_iff.1 hb).1
    have hc0 : V.cell? ⟨w.heap.size, 0, none⟩ = some sv := by simp [World.cell?, hb]
    have hzV := L.size
    have HB := hidP (And.intro hb (And.intro hrow L))
    clear hb hrow L
    have hvE : valE x = .slice (trE x).1 (trE x).2.1 (trE x).2.2 := rfl
    rw [hvE]
    have HVE : Hid (valE x = .slice (trE x).1 (trE x).2.1 (trE x).2.2) := rfl
    generalize trE x = t at *
    obtain ⟨ta, tn, tc⟩ := t
    simp only at *
    gi_wp2_with
      (gi_at_builtin
       refine wpListIn_append_own _ rfl _ _ 117 rfl (w.heap.size + 1) 24 i0 (.slice none 0 0) 1 24 Tryz.underlying117 hi0 hz0 hz1 hz2 rfl (by decide) sv pre.length (pre.map valE) rfl (World.ownsRow.alloc HB.out.2.1 _) ⟨V.heap.size, 0, none⟩ 1 1 [.slice ta tn tc] rfl rfl (cell_one_newN _ _ _) (by intro u hu; simp at hu; rw [hu]; rfl) (by unfold maxLen; omega) (by omega) (by simp; omega) ?_
       intro v' w3 hown' hg3 hnil3
       have hbne : some w.heap.size ≠ sv.ownBlock := fun e => by have := (World.ownsRow.lt HB.out.2.1 _ e.symm).1; omega
       have hb3 : w3.heap[w.heap.size]? = some (.cells #[sv] 117 (0, 0)) := (hg3.block _ (by simp; omega) hbne).trans ((Below.heap_alloc _ _ _ hbl).trans HB.out.1)
       have hc3 : w3.cell? ⟨w.heap.size, 0, none⟩ = some sv := by simp [World.cell?, hb3]
       have hf3 : w3.frozen? ⟨w.heap.size, 0, none⟩ = false := by simp [World.frozen?, hb3]
       obtain ⟨g', cap', cur', rfl, hr0⟩ : ∃ g' cap' cur', v' = .slice (some ⟨g', 0, none⟩) (pre.length + 1) cap' ∧ w3.heap[g']? = some (.cells cur' 24 (0, 0)) := by
         rcases hown'.2 with ⟨_, h0⟩ | ⟨g', cap', cur', e1, _, e2, _⟩
         · exact absurd h0 (by omega)
         · exact ⟨g', cap', cur', e1, e2⟩)
    have hg3' : (V.alloc (.cells #[.slice ta tn tc] 24)).grownBy w3 sv.ownBlock := hg3
    have hVal := alloc_below V (.cells #[.slice ta tn tc] 24)
    have hko : ∀ (k : Nat) (o : Obj), V.heap[k]? = some o → o.isCells = false → (w3.setCell ⟨w.heap.size, 0, none⟩ (.slice (some ⟨g', 0, none⟩) (pre.length + 1) cap')).heap[k]? = some o := fun k o hk ho => by
      have hkl := (Array.getElem?_eq_some_iff.1 hk).1
      have hne1 : some k ≠ sv.ownBlock := by
        rcases row_far HB.out.2.1 (r := some k) (fun j e => by cases e; exact ⟨o, hk, ho⟩) with h | h
        · rw [h]; simp
        · exact fun e => h e.symm
      have hne2 : k ≠ w.heap.size := fun e => by subst e; rw [HB.out.1] at hk; cases hk; cases ho
      have h3 : w3.heap[k]? = some o := (hg3'.block k (by simp; omega) hne1).trans ((hVal.block k hkl).trans hk)
      exact (Below.heap_setCell _ _ _ k hne2).trans h3
    have hsz3 : V.heap.size ≤ (w3.setCell ⟨w.heap.size, 0, none⟩ (.slice (some ⟨g', 0, none⟩) (pre.length + 1) cap')).heap.size := by
      rw [setCell_size]; have := hg3'.size; have := hVal.size; omega
    refine ⟨KeepsOthers.from ⟨hsz3, hko⟩ _, ⟨hsz3, fun k o hk ho => hko k o hk (by cases o <;> simp_all [Obj.isWalk, Obj.isCells])⟩, ?_⟩
    have hgs : w3.grownBy (w3.setCell ⟨w.heap.size, 0, none⟩ (.slice (some ⟨g', 0, none⟩) (pre.length + 1) cap')) (some w.heap.size) := grownBy_setCell' w3 w.heap.size _
    have hl3 : w.heap.size < w3.heap.size := (Array.getElem?_eq_some_iff.1 hb3).1
    have hLV : Below w.heap.size w w3 := (HB.out.2.2.alloc HB.out.2.2.size _).grown hg3' (by simp; omega) (fun k e => by have := (World.ownsRow.lt HB.out.2.1 _ e).1; omega)
    refine ⟨.slice (some ⟨g', 0, none⟩) (pre.length + 1) cap', ?_, ?_, hLV.grown hgs hLV.size (fun k e => by cases e; exact Nat.le_refl _)⟩
    · have h := heap_setCell_same w3 w.heap.size 0 #[sv] 117 (.slice (some ⟨g', 0, none⟩) (pre.length + 1) cap') hb3
      simpa using h
    · have h := World.ownsRow.kept hown' hgs (Or.inr (by have := (World.ownsRow.lt hown' g' rfl).1; simp [Value.ownBlock]; omega))
      rw [List.map_append, List.length_append, List.map_singleton, HVE.out]
      exact h
  case done =>
    rintro D ys V hD' hS ⟨sv, hb, hrow, L⟩ hK
    have hc0 : V.cell? ⟨w.heap.size, 0, none⟩ = some sv := by simp [World.cell?, hb]
    have hzV := L.size
    gi_wp2
    refine ⟨by simp, .inl ⟨_, _, rfl, run_takeDeferred hK, ?_⟩⟩
    have hgp := grownBy_putObj' V D (.deferred none)
    refine ⟨_, results_tmp rfl _ _ _, sv, ys, rfl, hS, ?_, L.grown hgp L.size (fun k e => by cases e; omega)⟩
    have h1 := World.ownsRow.kept hrow hgp (row_far hrow fun j e => by cases e; exact ⟨_, hK, rfl⟩)
    exact ⟨h1.1, h1.2.imp id fun ⟨g, c, cur, e1, e2, e3⟩ => ⟨g, c, cur, e1, by omega, e3⟩⟩
  case stop =>
    rintro D c pre W _ _ h _
    exact h.elim

set_option maxRecDepth 100000 in
set_option maxHeartbeats 1000000 in
theorem iCollect (Bm B clk : Nat) (es : Array MapEntry) (hbn : ∀ x ∈ es.toList, x.born < clk) (hnd : (es.toList.map (·.born)).Nodup) (hoc : ∀ x ∈ es.toList, valE x = x.val) (hsz : es.size ≤ 60) (w : World)
    (hBm : w.heap[Bm]? = some (.cells #[.map (some B)] 102)) (hB : w.heap[B]? = some (.map es clk)) :
    Calls Tryz.prog 94 #[.func (.func 133) #[] #[.pointer (some ⟨Bm, 0, none⟩)]] w fun e w' => ∃ (v : Value) (ys : List MapEntry), e = .returned v ∧ ys.Perm es.toList ∧ w'.ownsRow w.heap.size 24 1 v ys.length (ys.map valE) ∧ Below w.heap.size w w' := by
  have HC := hidP (iAppendSeq Bm B clk es hbn hnd hoc hsz w hBm hB)
  clear hBm hB hbn hnd hoc
  go_enter Tryz.func94, Tryz.ntmps94
  go_wp2_with fail
  refine HC.out.mono ?_
  rintro e w1 ⟨v, ys, rfl, h1, h2, h3⟩
  have HE := hidP (And.intro h1 (And.intro h2 h3))
  clear h1 h2 h3
  go_wp2_with fail
  go_ret
  exact ⟨v, ys, rfl, HE.out⟩

end Go.Proofs.YtodielfilhodeaaGreat
