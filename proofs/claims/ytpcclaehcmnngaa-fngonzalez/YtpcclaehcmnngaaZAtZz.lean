/-
  The program's marksAt: the marks whose bit of the choice is 1.
-/
import Derived.Test.YtpcclaehcmnngaaOIterZz
import Derived.Test.YtpcclaehcmnngaaORgn
import Derived.Test.YtpcclaehcmnngaaSCellsZz
import Derived.RangeFuncWrites
namespace Go.Proofs.Ytpcclaehcmnngaa
open Go Go.RowKit Go.Shelf

attribute [local go_sem] Oper.semAt_some

/-- Those of n whose bit is 1. -/
def setC (n x : Nat) : List Nat := (List.range n).filter (fun i => decide (bitN x i = 1))
def atL {n : Nat} (ds : List Sm) (x : Nat) (pre : List (Fin n)) : List Sm := (pre.filter (fun p => decide (bitN x p.1 = 1))).map (fun p => snth ds p.1)
theorem atL_yes {n : Nat} (ds : List Sm) (x : Nat) (pre : List (Fin n)) (p : Fin n) (h : bitN x p.1 = 1) : atL ds x (pre ++ [p]) = atL ds x pre ++ [snth ds p.1] := by
  unfold atL
  rw [List.filter_append, List.map_append]
  simp [h]
theorem atL_no {n : Nat} (ds : List Sm) (x : Nat) (pre : List (Fin n)) (p : Fin n) (h : ¬ bitN x p.1 = 1) : atL ds x (pre ++ [p]) = atL ds x pre := by
  unfold atL
  rw [List.filter_append, List.map_append]
  simp [h]
theorem atL_len {n : Nat} (ds : List Sm) (x : Nat) (pre : List (Fin n)) : (atL ds x pre).length ≤ pre.length := by
  unfold atL
  rw [List.length_map]
  exact List.length_filter_le _ _
theorem atL_all (n : Nat) (ds : List Sm) (x : Nat) : atL ds x (bitsL n n) = (setC n x).map (snth ds) := by
  rw [bitsL_all]
  unfold atL setC
  have e : (List.range n) = (List.finRange n).map Fin.val := by
    apply List.ext_getElem
    · simp
    · intro i h1 h2; simp
  rw [e, List.filter_map, List.map_map]
  rfl

theorem zrow_far {W : World} {base e size k : Nat} {v : Value} {xs : List Value} (h : W.ownsRow base e size v k xs) {r : Option Nat} (hr : ∀ j, r = some j → ∃ o : Obj, W.heap[j]? = some o ∧ o.isCells = false) : v.ownBlock = none ∨ v.ownBlock ≠ r := by
  rcases h.2 with ⟨rfl, _⟩ | ⟨g, cap, cur, rfl, _, hgb, _⟩
  · exact Or.inl rfl
  · refine Or.inr fun e2 => ?_
    obtain ⟨o, ho, hc⟩ := hr g e2.symm
    rw [hgb] at ho
    cases ho
    cases hc
/-- Between two rounds: the variable holds the marks that have come. -/
def AtI {n : Nat} (w : World) (lv : Value) (ds : List Sm) (x : Nat) (pre : List (Fin n)) (V : World) : Prop :=
  ∃ g c, Boxed V (w.heap.size + 1 + 1) 24 (.slice (some ⟨g, 0, none⟩) (atL ds x pre).length c) ∧ SRow w.heap.size V g c (atL ds x pre) ∧ Boxed V w.heap.size 24 lv ∧ Boxed V (w.heap.size + 1 + 1 + 1) 2 (.int .i64 (x : Int)) ∧ Below w.heap.size w V
theorem atI_own {n : Nat} (w : World) (lv : Value) (ds : List Sm) (x : Nat) {B : Nat} (hB : w.heap.size + 3 < B) : OwnFrom B (AtI (n := n) w lv ds x) := fun pre W W' row h hg hr => by
  obtain ⟨g, c, h1, h2, h3, h4, L⟩ := h
  have keep : ∀ k, k < B → k < W.heap.size → W'.heap[k]? = W.heap[k]? := fun k hk hkl => hg.block k hkl (fun e => by have := (hr k e.symm).1; omega)
  refine ⟨g, c, (keep _ (by omega) h1.lt).trans h1, World.ownsRow.kept h2 hg (zrow_far h2 fun j e => (hr j e).2), (keep _ (by omega) h3.lt).trans h3, (keep _ (by omega) h4.lt).trans h4, L.grown hg L.size (fun k e => by have := (hr k e).1; omega)⟩
theorem row_ne {W : World} {base g c B t : Nat} {ds : List Sm} {v : Value} (h : SRow base W g c ds) (hb : Boxed W B t v) (ht : t ≠ 55) : g ≠ B := fun e => by
  subst e
  rcases h.2 with ⟨e1, _⟩ | ⟨g', c', cur, e1, _, hgb, _⟩
  · cases e1
  · injection e1 with e2 e3 e4
    injection e2 with e2
    injection e2 with e2
    subst e2
    rw [show W.heap[g]? = _ from hb] at hgb
    injection hgb with hgb
    injection hgb with _ h5
    exact ht h5

set_option maxRecDepth 100000 in
set_option maxHeartbeats 4000000 in
theorem iAt (b off cap : Nat) (ds : List Sm) (x : Nat) (w : World) (hb : b < w.heap.size) (hs : SSeg w b off ds) (hn : ds.length ≤ 8) (hx : x < 256) :
    Calls Try.prog 34 #[.slice (some ⟨b, off, none⟩) ds.length cap, .int .i64 (x : Int)] w fun e w' => ∃ g c, e = .returned (.slice (some ⟨g, 0, none⟩) (setC ds.length x).length c) ∧ SRow w.heap.size w' g c ((setC ds.length x).map (snth ds)) ∧ Below w.heap.size w w' := by
  obtain ⟨i0, hi0, hz0, hz1, hz2⟩ := info_parts Try.info55
  have HS := hidP hs
  clear hs
  refine (callsIn_wide (n := 5)).1 ?_
  refine callsIn_of_wp_marks Try.func34 rfl trivial ?_ rfl
  simp only [Try.ntmps34, List.size_toArray, List.length_cons, List.length_nil, Nat.reduceAdd, Nat.reduceSub, Array.replicate_succ, Array.replicate_zero, List.push_toArray, List.append_toArray, List.nil_append, List.cons_append]
  gi_wp2_with (refine ⟨trivial, ?_⟩; gi_at_call 56; refine (callsIn_wide.2 (iBits (x : Int) (ds.length : Int) _)).mono ?_; rintro e w' ⟨rfl, rfl⟩)
  obtain ⟨w3, hw3⟩ : ∃ w3, ((((w.alloc (.cells #[.slice (some ⟨b, off, none⟩) ds.length cap] 24)).alloc (.cells #[] 55)).alloc (.cells #[.slice (some ⟨w.heap.size + 1, 0, none⟩) 0 0] 24)).alloc (.cells #[.int .i64 (x : Int)] 2)).alloc (.cells #[.int .i64 (ds.length : Int)] 2) = w3 := ⟨_, rfl⟩
  have hsz : w3.heap.size = w.heap.size + 5 := by rw [← hw3]; simp
  have b0 : Boxed w3 w.heap.size 24 (.slice (some ⟨b, off, none⟩) ds.length cap) := by rw [← hw3]; exact ((((Boxed.new w 24 _).alloc _).alloc _).alloc _).alloc _
  have r0 : SRow w.heap.size w3 (w.heap.size + 1) 0 [] := by
    have h := SRow.start (w.alloc (.cells #[.slice (some ⟨b, off, none⟩) ds.length cap] 24)) w.heap.size (by simp)
    rw [World.size_alloc] at h
    have hL : Below (w.heap.size + 2) ((w.alloc (.cells #[.slice (some ⟨b, off, none⟩) ds.length cap] 24)).alloc (.cells #[] 55)) w3 := by
      rw [← hw3]; exact (((Below.refl _ _).alloc (by simp) _).alloc (by simp) _).alloc (by simp) _
    exact h.below (by simp) hL
  have bs : Boxed w3 (w.heap.size + 1 + 1) 24 (.slice (some ⟨w.heap.size + 1, 0, none⟩) 0 0) := by
    rw [← hw3]; have := Boxed.new ((w.alloc (.cells #[.slice (some ⟨b, off, none⟩) ds.length cap] 24)).alloc (.cells #[] 55)) 24 (.slice (some ⟨w.heap.size + 1, 0, none⟩) 0 0); rw [World.size_alloc, World.size_alloc] at this; exact (this.alloc _).alloc _
  have bx : Boxed w3 (w.heap.size + 1 + 1 + 1) 2 (.int .i64 (x : Int)) := by
    rw [← hw3]; have := Boxed.new (((w.alloc (.cells #[.slice (some ⟨b, off, none⟩) ds.length cap] 24)).alloc (.cells #[] 55)).alloc (.cells #[.slice (some ⟨w.heap.size + 1, 0, none⟩) 0 0] 24)) 2 (.int .i64 (x : Int)); rw [World.size_alloc, World.size_alloc, World.size_alloc] at this; exact this.alloc _
  have bm : Boxed w3 (w.heap.size + 1 + 1 + 1 + 1) 2 (.int .i64 (ds.length : Int)) := by
    rw [← hw3]; have := Boxed.new ((((w.alloc (.cells #[.slice (some ⟨b, off, none⟩) ds.length cap] 24)).alloc (.cells #[] 55)).alloc (.cells #[.slice (some ⟨w.heap.size + 1, 0, none⟩) 0 0] 24)).alloc (.cells #[.int .i64 (x : Int)] 2)) 2 (.int .i64 (ds.length : Int)); rw [World.size_alloc, World.size_alloc, World.size_alloc, World.size_alloc] at this; exact this
  have hB3 : Below w.heap.size w w3 := by rw [← hw3]; exact (((((Below.refl _ w).alloc (Nat.le_refl _) _).alloc (by simp) _).alloc (by simp; omega) _).alloc (by simp; omega) _).alloc (by simp; omega) _
  rw [hw3]
  clear hw3
  refine wpIn_rangeFunc_ownG rfl (by decide) (gf := 70) (lb := #[.pointer (some ⟨w.heap.size + 1 + 1 + 1 + 1, 0, none⟩), .pointer (some ⟨w.heap.size + 1 + 1 + 1, 0, none⟩)]) rfl trivial (enters_of Try.func70 (by kernel_rfl) rfl)
    (bits_stops Fence.wide (5 - 1) trivial rfl (by decide) (w.heap.size + 1 + 1 + 1 + 1) (w.heap.size + 1 + 1 + 1) x ds.length (by omega) (by omega) w3 bm bx) (fun h k => k.trans h)
    (fun W l o o' hl h _ _ => (belowK_b (Nat.le_refl _) W l o o' hl h ‹_› ‹_›).block _ (by omega)) (Below.refl _ _) (fun _ => rfl)
    (AtI w (.slice (some ⟨b, off, none⟩) ds.length cap) ds x) (fun _ _ _ => False) (atI_own w _ ds x (by omega)) (fun _ _ _ _ _ hs _ _ => hs) ⟨_, _, bs, r0, b0, bx, hB3⟩
    (fun p => { tmps := #[.slice (some { block := b, off := off }) ds.length cap, .int .i64 (x : Int),
          .pointer (some { block := w.heap.size, off := 0 }), undef, .slice none 0 0,
          .pointer (some { block := w.heap.size + 1 + 1, off := 0 }), .int .i64 (p.1 : Int), .int .i64 (bitN x p.1 : Int),
          .slice (some { block := w.heap.size + 1, off := 0 }) 0 0, .int .i64 (x : Int),
          .slice (some { block := b, off := off }) ds.length cap, .int .i64 (ds.length : Int),
          .func (.func 70) #[] #[.pointer (some { block := w.heap.size + 1 + 1 + 1 + 1, off := 0 }), .pointer (some { block := w.heap.size + 1 + 1 + 1, off := 0 })],
          .int .i64 (p.1 : Int), .int .i64 (bitN x p.1 : Int), undef, undef, undef, undef, undef, undef, undef, undef, undef, undef], defers := [] }) ?assign ?body ?done ?stop
  case assign =>
    intro l p V K hK
    dsimp only [encB]
    gi_wp2
    exact hK
  case body =>
    rintro l pre p V ⟨g, c, c1, c2, c3, c4, hV⟩ hpl
    have hp := p.2
    have hal := atL_len ds x pre
    have hbt := bitN_lt x p.1
    by_cases h1 : bitN x p.1 = 1
    · have HY := hidP (atL_yes ds x pre p h1)
      rw [show ((bitN x p.1 : Nat) : Int) = 1 by omega]
      obtain ⟨d0, d1⟩ := HS.out p.1 hp
      have z0 := (hV.cell (p := ⟨b, off + p.1 * 2, none⟩) hb).trans d0
      have z1 := (hV.cell (p := ⟨b, off + p.1 * 2 + 1, none⟩) hb).trans d1
      generalize hdd : snth ds p.1 = d at *
      have e1 := c1.cell
      have e3 := c3.cell
      have hmix : Try.prog.follows .mixedOrders = true := by kernel_rfl
      have hj0 : (0 : Int) ≤ (p.1 : Int) := Int.natCast_nonneg _
      have hj1 : (p.1 : Int) < (ds.length : Int) := by omega
      have HC := hidP (And.intro c1 (And.intro c2 (And.intro c3 (And.intro c4 hV))))
      have hzV := hV.size
      have hgl := c2.lt
      have hg1 := row_ne c2 c1 (by decide)
      have hg2 := row_ne c2 c3 (by decide)
      have hg3 := row_ne c2 c4 (by decide)
      have hc1l := c1.lt
      have hc4l := c4.lt
      generalize hN : (atL ds x pre).length = N at *
      have HNN := hidP hN
      clear c1 c2 c3 c4 hV d0 d1 hdd hN
      gi_wp2
      refine wpIn_region_calm (S := fun V' => V'.cell? ⟨w.heap.size + 1 + 1, 0, none⟩ = some (.slice (some ⟨g, 0, none⟩) N c) ∧ V'.cell? ⟨w.heap.size, 0, none⟩ = some (.slice (some ⟨b, off, none⟩) ds.length cap) ∧ V'.cell? ⟨b, off + p.1 * 2, none⟩ = some (.int .i64 d.1) ∧ V'.cell? ⟨b, off + p.1 * 2 + 1, none⟩ = some (.slice d.2.1 d.2.2.2.length d.2.2.1)) (fuel := 2)
        [0, 1, 2, 3, 4] _ rfl (by kernel_rfl) (by kernel_rfl) (by kernel_rfl) (by kernel_rfl) (by kernel_rfl) (by kernel_rfl) (by kernel_rfl) (by kernel_rfl) (by rintro ⟨a, w, h⟩; exact h) ⟨e1, e3, z0, z1⟩ (fun hS => ?_)
      simp only [List.pop_toArray, List.dropLast]
      iterate 5
        refine ⟨_, rfl, ?_⟩
        apply Exists.intro
        refine ⟨Or.inl ⟨by rfl, fun w' hw' => ?_⟩, ?_⟩
        · first
          | (go_simp; done)
          | (go_simp; with_reducible rfl)
        simp only [Act.put, List.getElem_toArray, List.getElem_cons_succ, List.getElem_cons_zero, List.setIfInBounds_toArray, List.set_cons_zero, List.set_cons_succ]
      have HSB : Hid (∀ w' : World, (∀ i, i < V.heap.size → i ≠ g → w'.heap[i]? = V.heap[i]?) → (w'.cell? ⟨w.heap.size + 1 + 1, 0, none⟩ = some (.slice (some ⟨g, 0, none⟩) N c) ∧ w'.cell? ⟨w.heap.size, 0, none⟩ = some (.slice (some ⟨b, off, none⟩) ds.length cap) ∧ w'.cell? ⟨b, off + p.1 * 2, none⟩ = some (.int .i64 d.1) ∧ w'.cell? ⟨b, off + p.1 * 2 + 1, none⟩ = some (.slice d.2.1 d.2.2.2.length d.2.2.1))) := fun w' L => by
        have hcl : ∀ q j, q < V.heap.size → q ≠ g → w'.cell? ⟨q, j, none⟩ = V.cell? ⟨q, j, none⟩ := fun q j h1 h2 => World.cell?_of_block (w := V) (a := ⟨q, j, none⟩) (L q h1 h2)
        exact ⟨(hcl _ _ (by omega) (by omega)).trans e1, (hcl _ _ (by omega) (by omega)).trans e3, (hcl _ _ (by omega) (by omega)).trans z0, (hcl _ _ (by omega) (by omega)).trans z1⟩
      have HA := hidP ((Below.refl V.heap.size V).alloc (Nat.le_refl _) (.cells #[.int .i64 d.1, .slice d.2.1 d.2.2.2.length d.2.2.1] 55)).drew
      have HOW : Hid (((V.alloc (.cells #[.int .i64 d.1, .slice d.2.1 d.2.2.2.length d.2.2.1] 55)).drew).ownsRow w.heap.size 55 2 (.slice (some ⟨g, 0, none⟩) N c) N (smCells (atL ds x pre))) := by
        have h := World.ownsRow.drew (World.ownsRow.alloc HC.out.2.1 (.cells #[.int .i64 d.1, .slice d.2.1 d.2.2.2.length d.2.2.1] 55))
        rw [HNN.out] at h
        exact h
      refine calm_one 5 (by kernel_rfl) rfl (fun K hK => ?_)
      go_simp
      refine hK.out _ _ (HSB.out _ (fun i hi _ => HA.out.block i hi)) (fun _ => ?_)
      clear hK K
      refine calm_one 6 (by kernel_rfl) rfl (fun K hK => ?_)
      refine step_append_lies _ (by rfl) _ _ _ (by rfl) w.heap.size 55 i0 _ 2 32 Try.underlying24 hi0 hz0 hz1 hz2 rfl (by omega) (.slice (some ⟨g, 0, none⟩) N c) N (smCells (atL ds x pre)) (by rfl) HOW.out ⟨V.heap.size, 0, none⟩ 1 1 (smCells [d]) (by rfl) (by rfl) (World.news_of_block (cs := #[.int .i64 d.1, .slice d.2.1 d.2.2.2.length d.2.2.1]) (t := 55) (fr := (0, 0)) (heap_alloc_new V _)) (by simp [smCells, Value.oneCell']) (by omega) (by unfold maxLen; omega) (by omega) (by simp; omega) (V.heap.size + 1) (by simp) ?_
      intro gg cc w6 hown1 hgrow hat hlt1
      have hblk : ∀ i, i < V.heap.size → i ≠ g → w6.heap[i]? = V.heap[i]? := fun i hi hne => (hgrow.block i (by simp; omega) (fun e => hne (by simp [Value.ownBlock] at e; exact e))).trans (HA.out.block i hi)
      refine hK.out _ _ (HSB.out _ hblk) (fun _ => ?_)
      clear hK K
      refine wpAnyH_done (by kernel_rfl) ?_ _
      simp only [Exit.then]
      have k1 : w6.heap[w.heap.size + 1 + 1]? = some (.cells #[.slice (some ⟨g, 0, none⟩) N c] 24 (0, 0)) := (hblk _ (by omega) (by omega)).trans HC.out.1
      have kc : w6.cell? ⟨w.heap.size + 1 + 1, 0, none⟩ = some (.slice (some ⟨g, 0, none⟩) N c) := by simp [World.cell?, k1]
      have kf : w6.frozen? ⟨w.heap.size + 1 + 1, 0, none⟩ = false := by simp [World.frozen?, k1]
      have HK1 := hidP k1
      have HBL := hidP hblk
      have HOW1 := hidP hown1
      have HGR := hidP hgrow
      clear k1 hblk hown1 hgrow
      go_wp2_with fail
      refine NoPanic.normal ?_
      gi_wp2
      have hrow6 : SRow w.heap.size w6 gg cc (atL ds x pre ++ [d]) := SRow.snoc (by rw [HNN.out]; exact HOW1.out)
      have hggM : gg ≠ w.heap.size + 1 + 1 := row_ne hrow6 (v := .slice (some ⟨g, 0, none⟩) N c) HK1.out (by decide)
      have hsz6 : V.heap.size ≤ w6.heap.size := by have h1 := HGR.out.size; have h2 := HA.out.size; omega
      have hgcells : ∀ (o : Obj), V.heap[g]? = some o → o.isCells = true := fun o ho => by
        rcases HC.out.2.1.2 with ⟨e, _⟩ | ⟨g', c', cur, e, _, hgb, _⟩
        · cases e
        · injection e with e2 e3 e4
          injection e2 with e2
          injection e2 with e2
          subst e2
          rw [hgb] at ho
          injection ho with ho
          subst ho
          rfl
      have hko : ∀ (k : Nat) (o : Obj), V.heap[k]? = some o → o.isCells = false → (w6.setCell ⟨w.heap.size + 1 + 1, 0, none⟩ (.slice (some ⟨gg, 0, none⟩) (N + 1) cc)).heap[k]? = some o := fun k o hk ho => by
        have hkl := (Array.getElem?_eq_some_iff.1 hk).1
        have hne1 : k ≠ g := fun e => by subst e; rw [hgcells o hk] at ho; cases ho
        have hne2 : k ≠ w.heap.size + 1 + 1 := fun e => by subst e; rw [show V.heap[w.heap.size + 1 + 1]? = _ from HC.out.1] at hk; cases hk; cases ho
        exact (Below.heap_setCell _ _ _ k hne2).trans ((HBL.out k hkl hne1).trans hk)
      have hgs : w6.grownBy (w6.setCell ⟨w.heap.size + 1 + 1, 0, none⟩ (.slice (some ⟨gg, 0, none⟩) (N + 1) cc)) (some (w.heap.size + 1 + 1)) := grownBy_setCell' w6 (w.heap.size + 1 + 1) _
      have hL6 : Below w.heap.size w w6 := (HC.out.2.2.2.2.alloc HC.out.2.2.2.2.size _).drew.grown HGR.out (by simp; omega) (fun k e => by simp [Value.ownBlock] at e; omega)
      refine ⟨KeepsOthers.from ⟨by rw [setCell_size]; exact hsz6, hko⟩ _, ?_, gg, cc, ?_, ?_, ?_, ?_, hL6.grown hgs hL6.size (fun k e => by cases e; omega)⟩
      · exact (Below.heap_setCell _ _ _ _ (by simp)).trans (HBL.out _ (by omega) (by omega))
      · rw [HY.out, List.length_append, HNN.out]
        have h := heap_setCell_same w6 (w.heap.size + 1 + 1) 0 #[.slice (some ⟨g, 0, none⟩) N c] 24 (.slice (some ⟨gg, 0, none⟩) (N + 1) cc) HK1.out
        unfold Boxed
        simpa using h
      · rw [HY.out]
        exact hrow6.kept hgs (fun e => hggM (by injection e))
      · exact (Below.heap_setCell _ _ _ _ (by simp; omega)).trans ((HBL.out _ (by omega) (by omega)).trans HC.out.2.2.1)
      · exact (Below.heap_setCell _ _ _ _ (by simp)).trans ((HBL.out _ (by omega) (by omega)).trans HC.out.2.2.2.1)
    · have HN := hidP (atL_no ds x pre p h1)
      rw [show ((bitN x p.1 : Nat) : Int) = 0 by omega]
      gi_wp2
      exact ⟨(KeepsOthers.refl _).from _, rfl, g, c, by rw [HN.out]; exact c1, by rw [HN.out]; exact c2, c3, c4, hV⟩
  case done =>
    rintro D ys V hD rfl ⟨g, c, c1, c2, c3, c4, hV⟩ hK
    have e1 := c1.cell
    have hzV := hV.size
    rw [atL_all] at e1 c2
    rw [List.length_map] at e1
    gi_wp2
    refine ⟨by simp, .inl ⟨_, _, rfl, run_takeDeferred hK, ?_⟩⟩
    have hgp := grownBy_putObj' V D (.deferred none)
    refine ⟨_, results_tmp rfl _ _ _, g, c, rfl, ?_, hV.grown hgp hV.size (fun k e => by cases e; omega)⟩
    exact World.ownsRow.kept c2 hgp (zrow_far c2 fun j e => by cases e; exact ⟨_, hK, rfl⟩)
  case stop =>
    rintro D c pre W _ _ h _
    exact h.elim

end Go.Proofs.Ytpcclaehcmnngaa
