/-
  The given l14Linked and Linked.
  The given Linked.
-/
import Derived.Test.YtfbhohpbhjlihaaGreatFeCwZz
import Derived.Test.YtfbhohpbhjlihaaGreatFePutZz
import Derived.Test.YtfbhohpbhjlihaaGreatMathZz
namespace Go.Proofs.YtfbhohpbhjlihaaGreat
open Go Go.RowKit

theorem web_small {ms : List Mk} {ls : List (List Int)} (h : webB ms ls = true) : ms.length ≤ 60 ∧ (∀ i, (mat ms i).length ≤ 4) ∧ ls.length ≤ 60 ∧ ∀ i, (cn ls i).length ≤ 60 := by
  have hm := web_marks h
  have h60 := marksB_len hm
  have hl := web_len h
  refine ⟨h60, fun i => ?_, by omega, fun i => ?_⟩
  · rcases Nat.lt_or_ge i ms.length with hi | hi
    · have := ((mOkAt_iff ms i).1 (marksB_at hm hi)).2.2.1
      exact (okB_len this).2
    · have : mat ms i = [] := by simp [mat, List.getD, hi]
      rw [this]; simp
  · rcases Nat.lt_or_ge i ms.length with hi | hi
    · have := links_short h hi; omega
    · have : cn ls i = [] := by simp [cn, List.getD, show ls.length ≤ i by omega]
      rw [this]; simp

theorem LMem.uniq14 {base : Nat} {w : World} {g c : Nat} {rs : List Rw} (h : LMem base w g c rs) {i j : Nat} (hi : i < rs.length) (hj : j < rs.length) (e : rs[i].1 = rs[j].1) : i = j := by
  have hp := List.pairwise_iff_getElem.1 h.apart
  rcases Nat.lt_trichotomy i j with h1 | h1 | h1
  · exact absurd (by rw [List.getElem_map, List.getElem_map]; exact e) (hp i j (by simpa using hi) (by simpa using hj) h1)
  · exact h1
  · exact absurd (by rw [List.getElem_map, List.getElem_map]; exact e.symm) (hp j i (by simpa using hj) (by simpa using hi) h1)
/-- One row of a row of rows is another now: grown in its place, or new. -/
theorem LMem.over14 {base : Nat} {w w8 : World} {g c : Nat} {rs : List Rw} (h : LMem base w g c rs) (k : Nat) (hk : k < rs.length) {gg cc : Nat} {ys : List Int} (hown : IRow base w8 gg cc ys) (hg : w.grownBy w8 (some rs[k].1)) (hat : rs[k].1 = gg ∨ w.heap.size ≤ gg) :
    LMem base (w8.setCell ⟨g, k, none⟩ (rwV (gg, cc, ys))) g c (rs.set k (gg, cc, ys)) := by
  have hk1 : rs[k].1 ≠ g := h.off _ (List.getElem_mem hk)
  have hall : ∀ x ∈ rs, base ≤ x.1 ∧ x.1 < w.heap.size := fun x hx => (h.rows x hx).lt
  have hgl := h.row.lt
  have hggg : gg ≠ g := by rcases hat with e | e <;> omega
  have hnew : ∀ j (hj : j < rs.length), j ≠ k → rs[j].1 ≠ gg := fun j hj hne e => by
    rcases hat with e' | e'
    · exact hne (h.uniq14 hj hk (by omega))
    · have := hall _ (List.getElem_mem hj)
      omega
  have r1 : LRow base w8 g c rs := h.row.kept hg (by simp; omega)
  have heap8 : ∀ i, i ≠ g → (w8.setCell ⟨g, k, none⟩ (rwV (gg, cc, ys))).heap[i]? = w8.heap[i]? := fun i hi => Below.heap_setCell w8 ⟨g, k, none⟩ _ i (fun e => hi e)
  refine ⟨?_, fun x hx => ?_, ?_, fun x hx => ?_⟩
  · have h1 := (World.ownsRow.stored r1 k (rwV (gg, cc, ys))).1
    unfold LRow
    rw [List.length_set, List.map_set]
    exact h1
  · obtain ⟨j, hj, e⟩ := List.getElem_of_mem hx
    rw [List.length_set] at hj
    rw [List.getElem_set] at e
    by_cases hjk : k = j
    · rw [if_pos hjk] at e
      rw [← e]
      exact hown.same (heap8 gg hggg)
    · rw [if_neg hjk] at e
      rw [← e]
      have hne : rs[j].1 ≠ rs[k].1 := fun e' => hjk (h.uniq14 hj hk e').symm
      have h2 := (h.rows _ (List.getElem_mem hj)).kept hg (by simp; omega)
      exact h2.same (heap8 _ (h.off _ (List.getElem_mem hj)))
  · refine List.pairwise_iff_getElem.2 (fun i j hi hj hij => ?_)
    have hi' : i < rs.length := by simpa using hi
    have hj' : j < rs.length := by simpa using hj
    simp only [List.getElem_map, List.getElem_set]
    by_cases h1 : k = i
    · rw [if_pos h1, if_neg (by omega)]
      exact fun e => hnew j hj' (by omega) e.symm
    · by_cases h2 : k = j
      · rw [if_neg h1, if_pos h2]
        exact fun e => hnew i hi' (by omega) e
      · rw [if_neg h1, if_neg h2]
        exact fun e => by have := h.uniq14 hi' hj' e; omega
  · obtain ⟨j, hj, e⟩ := List.getElem_of_mem hx
    rw [List.length_set] at hj
    rw [List.getElem_set] at e
    by_cases hjk : k = j
    · rw [if_pos hjk] at e
      rw [← e]
      exact hggg
    · rw [if_neg hjk] at e
      rw [← e]
      exact h.off _ (List.getElem_mem hj)

/-- The blocks of a row of rows. -/
def LBlk (v : Value) (rs : List Rw) (i : Nat) : Prop := v.ownBlock = some i ∨ ∃ r ∈ rs, i = r.1
theorem lblk_in {base : Nat} {w : World} {v : Value} {rs : List Rw} (h : LMemV base w v rs) {i : Nat} (hi : LBlk v rs i) : base ≤ i ∧ i < w.heap.size := by
  rcases h with ⟨rfl, rfl⟩ | ⟨g, c, rfl, h⟩
  · rcases hi with e | ⟨r, hr, -⟩
    · cases e
    · cases hr
  · refine h.all i ?_
    rcases hi with e | ⟨r, hr, rfl⟩
    · left
      have e' : g = i := by simpa [Value.ownBlock] using e
      exact e'.symm
    · exact Or.inr ⟨r, hr, rfl⟩

theorem lmemv_same {base : Nat} {w w' : World} {v : Value} {rs : List Rw} (h : LMemV base w v rs) (e : ∀ i, LBlk v rs i → w'.heap[i]? = w.heap[i]?) : LMemV base w' v rs := by
  rcases h with h | ⟨g, c, rfl, h⟩
  · exact Or.inl h
  · refine Or.inr ⟨g, c, rfl, h.same (fun i hi => e i ?_)⟩
    rcases hi with rfl | ⟨r, hr, rfl⟩
    · exact Or.inl rfl
    · exact Or.inr ⟨r, hr, rfl⟩

theorem lmemv_snoc2 {base : Nat} {w w8 : World} {v : Value} {gg cc : Nat} {rs : List Rw} {r : Rw} (h : LMemV base w v rs) (hown : w8.ownsRow base 28 1 (.slice (some ⟨gg, 0, none⟩) (rs.length + 1) cc) (rs.length + 1) (rs.map rwV ++ [rwV r]))
    (hgrow : w.grownBy w8 v.ownBlock) (hat : v.ownBlock = some gg ∨ gg = w.heap.size) (hr : IRow base w r.1 r.2.1 r.2.2) (hnew : ¬ LBlk v rs r.1) : LMem base w8 gg cc (rs ++ [r]) := by
  have hrl := hr.lt
  rcases h with ⟨rfl, rfl⟩ | ⟨g, c, rfl, h⟩
  · have hgg : gg = w.heap.size := by
      rcases hat with e | e
      · cases e
      · exact e
    refine ⟨?_, fun x hx => ?_, by simp, fun x hx => ?_⟩
    · simpa [LRow] using hown
    · simp at hx; rw [hx]
      exact hr.kept hgrow (by simp [Value.ownBlock])
    · simp at hx; rw [hx]; omega
  · refine h.snoc hown hgrow ?_ hr (fun e => hnew (Or.inl (by rw [e]; rfl))) (fun x hx e => hnew (Or.inr ⟨x, hx, e.symm⟩))
    rcases hat with e | e
    · left; simpa [Value.ownBlock] using e
    · exact Or.inr e

/-- A web that a call hands out, in blocks of its own. -/
def WebOut (base : Nat) (w : World) (gm cm gl cl : Nat) (ms : List Mk) (ls : List (List Int)) : Prop :=
  ∃ B ds B' rs, base ≤ B ∧ base ≤ B' ∧ DRow B w gm cm ds ∧ dMarks ds = ms ∧ LMem B' w gl cl rs ∧ nums rs = ls ∧ ∀ b, (b = gm ∨ ∃ d ∈ ds, b = d.2.1) → b ≠ gl ∧ ∀ r ∈ rs, b ≠ r.1
theorem WebOut.views {base : Nat} {w : World} {gm cm gl cl : Nat} {ms : List Mk} {ls : List (List Int)} (h : WebOut base w gm cm gl cl ms ls) : MView w (some ⟨gm, 0, none⟩) ms ∧ CView w (some ⟨gl, 0, none⟩) ls := by
  obtain ⟨B, ds, B', rs, -, -, h1, rfl, h2, rfl, -⟩ := h
  exact ⟨h1.view, h2.view.cview⟩
theorem WebOut.same {base : Nat} {w w' : World} {gm cm gl cl : Nat} {ms : List Mk} {ls : List (List Int)} (h : WebOut base w gm cm gl cl ms ls) (e : ∀ b, base ≤ b → w'.heap[b]? = w.heap[b]?) : WebOut base w' gm cm gl cl ms ls := by
  obtain ⟨B, ds, B', rs, hb, hb', h1, h2, h3, h4, h5⟩ := h
  refine ⟨B, ds, B', rs, hb, hb', ⟨owns_same14 h1.1 (e gm (by have := h1.lt; omega)), fun d hd => ⟨(h1.2.1 d hd).1.same (e d.2.1 (by have := (h1.2.1 d hd).1.lt2; omega)), (h1.2.1 d hd).2⟩, h1.2.2⟩, h2, h3.same (fun b hbb => e b (by have := h3.all b hbb; omega)), h4, h5⟩

set_option maxRecDepth 100000 in
set_option maxHeartbeats 8000000 in
theorem sLinkG (am al at' : Option Addr) (cm cl ct : Nat) (ms : List Mk) (ls : List (List Int)) (m : Mk) (most : Int) (w : World) (hm : MView w am ms) (hl : CView w al ls) (ha : View w at' m.2) (hal : m.2.length ≤ 1048576) (hw : webB ms ls = true) :
    Calls Tryz.prog 93 #[.agg #[.slice am ms.length cm, .slice al ls.length cl], .agg #[.int .i64 m.1, .slice at' m.2.length ct], .int .i64 most] w fun e w' =>
      (marksB (ms ++ [m]) = false ∧ e = .returned (.tuple #[.agg #[.slice none 0 0, .slice none 0 0], .bool false]) ∧ Below w.heap.size w w') ∨
      (marksB (ms ++ [m]) = true ∧ ∃ gm cm' gl cl', e = .returned (.tuple #[.agg #[.slice (some ⟨gm, 0, none⟩) (ms.length + 1) cm', .slice (some ⟨gl, 0, none⟩) (ls.length + 1) cl'], .bool true]) ∧ WebOut w.heap.size w' gm cm' gl cl' (ms ++ [m]) (lnkL ms ls (nearI ms m.2 most) m.1) ∧ Below w.heap.size w w') := by
  obtain ⟨i0, hi0, hx0, hx1, hx2⟩ := info_parts Tryz.info2
  obtain ⟨j0, hj0, hy0, hy1, hy2⟩ := info_parts Tryz.infoL
  obtain ⟨m0, hm0, hv0, hv1, hv2⟩ := info_parts Tryz.info30
  obtain ⟨h60, h4, hl60, hll⟩ := web_small hw
  obtain ⟨W1, hW1⟩ : ∃ W, w.alloc (.cells #[.slice am ms.length cm, .slice al ls.length cl] 27) = W := ⟨_, rfl⟩
  obtain ⟨W2, hW2⟩ : ∃ W, W1.alloc (.cells #[.int .i64 m.1, .slice at' m.2.length ct] 30) = W := ⟨_, rfl⟩
  obtain ⟨W, hW⟩ : ∃ W, W2.alloc (.cells #[.slice none 0 0, .slice none 0 0] 27) = W := ⟨_, rfl⟩
  have s1 : W1.heap.size = w.heap.size + 1 := by rw [← hW1]; simp
  have s2 : W2.heap.size = w.heap.size + 1 + 1 := by rw [← hW2]; simp [s1]
  have s3 : W.heap.size = w.heap.size + 1 + 1 + 1 := by rw [← hW]; simp [s2]
  have b1 : Below w.heap.size w W1 := by rw [← hW1]; exact (Below.refl _ _).alloc (Nat.le_refl _) _
  have b2 : Below W1.heap.size W1 W2 := by rw [← hW2]; exact (Below.refl _ _).alloc (Nat.le_refl _) _
  have b3 : Below W2.heap.size W2 W := by rw [← hW]; exact (Below.refl _ _).alloc (Nat.le_refl _) _
  have hB : Below w.heap.size w W := chain (chain b1 b2) b3
  have hI : WebIn W w.heap.size am cm ms al cl ls := (show WebIn W1 w.heap.size am cm ms al cl ls by rw [← hW1]; exact WebIn.box hm hl).below (chain b2 b3)
  have t2 : W.heap[w.heap.size + 1]? = some (.cells #[.int .i64 m.1, .slice at' m.2.length ct] 30) := (b3.block _ (by omega)).trans (by rw [← hW2, ← s1]; exact heap_alloc_new W1 _)
  have t3 : W.heap[w.heap.size + 1 + 1]? = some (.cells #[.slice none 0 0, .slice none 0 0] 27) := by rw [← hW, ← s2]; exact heap_alloc_new W2 _
  have HI := hidP hI
  have HB := hidP hB
  have HA := hidP (View.next ha hB)
  have HT := hidP (And.intro t2 t3)
  have k0 := hI.c0
  have k1 := hI.c1
  have HW := hidP hw
  have HC := hidP (sCopyW am al cm cl ms ls W hI.mv hI.cv h60 h4 hl60 hll)
  clear hm hl ha hB hI b1 b2 b3 t2 t3 hw h4 hll
  go_enter Tryz.func93, Tryz.ntmps93
  go_wp2_with fail
  refine HC.out.mono ?_
  rintro e w3 ⟨gm, cm2, ds, v, rs, B1, rfl, hrow, hdm, hlm, hnu, hgm, hds, hB1, hB1', L3⟩
  obtain ⟨av, cv, rfl⟩ : ∃ av cv, v = .slice av rs.length cv := by
    rcases hlm with ⟨h1, h2⟩ | ⟨g, c, h1, -⟩
    · exact ⟨none, 0, by rw [h1, h2]; rfl⟩
    · exact ⟨_, _, h1⟩
  have hrl : rs.length = ls.length := by have := congrArg List.length hnu; simpa [nums] using this
  obtain ⟨w4, hw4⟩ : ∃ w4, w3.alloc (.cells #[.slice (some ⟨gm, 0, none⟩) ms.length cm2, .slice av rs.length cv] 27) = w4 := ⟨_, rfl⟩
  have L4 : Below w3.heap.size w3 w4 := by rw [← hw4]; exact (Below.refl _ _).alloc (Nat.le_refl _) _
  have s4 : w4.heap.size = w3.heap.size + 1 := by rw [← hw4]; simp
  have z3 := L3.size
  have HO4 : Hid (w4.heap[w3.heap.size]? = some (.cells #[.slice (some ⟨gm, 0, none⟩) ms.length cm2, .slice av rs.length cv] 27)) := by show _ = _; rw [← hw4]; exact heap_alloc_new w3 _
  have HD4 := hidP (hrow.kept (r := none) ⟨L4.os, L4.tape, L4.output, L4.size, fun i hi _ => L4.block i hi⟩ (by simp))
  have HM4 := hidP (hlm.same (w' := w4) (fun j _ hj => L4.block j hj))
  have HLI : Hid (∀ i, LBlk (.slice av rs.length cv) rs i → B1 ≤ i ∧ i < w3.heap.size) := fun i hi => lblk_in hlm hi
  have HDM := hidP hdm
  have HNU := hidP hnu
  have HDS := hidP hds
  have HL4 := hidP (chain L3 L4)
  have HI4 := hidP (HI.out.below HL4.out)
  have HW4 := hidP hw4
  have HRL := hidP hrl
  obtain ⟨e20, e21, -, -⟩ := two_cells (show w4.heap[w.heap.size + 1]? = _ from (HL4.out.block _ (by omega)).trans HT.out.1)
  obtain ⟨Sc, hSc⟩ : ∃ n, w3.heap.size = n := ⟨_, rfl⟩
  have HA4 := hidP (View.next HA.out HL4.out)
  have hgml := hrow.lt
  clear hrow hdm hlm hnu hds L3 L4 hrl hw4 HC k0 k1 hW hW1 hW2
  go_wp2_with fail
  rw [HW4.out]
  have HO4c := two_cells HO4.out
  obtain ⟨o0, o1, of, -⟩ := HO4c
  rw [hSc] at o0 o1 of HO4 HLI s4
  try rw [hSc]
  have HSC := hidP hSc
  have hz3s : W.heap.size ≤ Sc := by omega
  have hgs : gm < Sc := by omega
  have hB1s : B1 ≤ Sc := by omega
  clear hSc HW4
  -- out.Marks = append(out.Marks, ..)
  have HS0 : Hid (∀ W' : World, (∀ j, j < Sc + 1 → W'.heap[j]? = w4.heap[j]?) → W'.cell? ⟨Sc, 0, none⟩ = some (.slice (some ⟨gm, 0, none⟩) ms.length cm2) ∧ W'.cell? ⟨w.heap.size + 1, 0, none⟩ = some (.int .i64 m.1) ∧ W'.cell? ⟨w.heap.size + 1, 1, none⟩ = some (.slice at' m.2.length ct)) := fun W' h => ⟨(World.cell?_of_block (h Sc (by omega))).trans o0, (World.cell?_of_block (h (w.heap.size + 1) (by omega))).trans e20, (World.cell?_of_block (h (w.heap.size + 1) (by omega))).trans e21⟩
  refine wp_region_calm (S := fun W' => W'.cell? ⟨Sc, 0, none⟩ = some (.slice (some ⟨gm, 0, none⟩) ms.length cm2) ∧ W'.cell? ⟨w.heap.size + 1, 0, none⟩ = some (.int .i64 m.1) ∧ W'.cell? ⟨w.heap.size + 1, 1, none⟩ = some (.slice at' m.2.length ct)) (fuel := 6)
    [0, 1, 2, 3, 5, 6] _ rfl (by kernel_rfl) (by kernel_rfl) (by kernel_rfl) (by kernel_rfl) (by kernel_rfl) (by kernel_rfl) (by kernel_rfl) (HS0.out _ (fun j _ => rfl)) (fun _ => ?_)
  iterate 6
    refine ⟨_, rfl, ?_⟩
    apply Exists.intro
    refine ⟨Or.inl ⟨by rfl, fun w' hw' => ?_⟩, ?_⟩
    · obtain ⟨e1, e2, e3⟩ := hw'
      first
      | (go_simp; done)
      | (go_simp; with_reducible rfl)
    simp only [Act.put, List.setIfInBounds_toArray]
  refine calm_one 4 (by kernel_rfl) rfl (fun K hK => ?_)
  go_simp
  obtain ⟨w5, hw5⟩ : ∃ w5, (w4.alloc (.cells #[] 2)).drew = w5 := ⟨_, rfl⟩
  have HL5 : Hid (Below w4.heap.size w4 w5) := by show Below _ _ _; rw [← hw5]; exact ((Below.refl w4.heap.size w4).alloc (Nat.le_refl _) _).drew
  have HR5 : Hid (Row W.heap.size w5 w4.heap.size 0 []) := by show Row _ _ _ _ _; rw [← hw5]; exact Row.start w4 W.heap.size (by omega)
  have hs5 : w5.heap.size = w4.heap.size + 1 := by rw [← hw5]; simp
  try rw [← s4]
  rw [hw5]
  clear hw5
  refine hK.out _ _ (HS0.out _ (fun j hj => HL5.out.block j (by omega))) (fun _ => ?_)
  clear hK K
  refine calm_one 7 (by kernel_rfl) rfl (fun K hK => ?_)
  refine step_append_at w5 rfl (.tmp 19) (.tmp 21) 28 rfl W.heap.size 2 i0 _ 1 8 Tryz.underlying28 hi0 hx0 hx1 hx2 rfl (by omega) w4.heap.size 0 0 [] rfl HR5.out at' m.2.length ct (m.2.map (Value.int .i64)) rfl (view_src14 (View.next HA4.out HL5.out)) (by unfold maxLen; omega) (by omega) (by omega) w5.heap.size rfl ?_
  intro g6 c6 w6 hown6 hgrow6 hat6 hlt6
  have HR6 : Hid (Row W.heap.size w6 g6 c6 m.2) := row_of14 hown6 rfl
  have hz6 := hgrow6.size
  have HL6 : Hid (Below w4.heap.size w4 w6) := HL5.out.grown hgrow6 (by omega) (by intro q hq; cases hq; omega)
  have hg6b : w4.heap.size ≤ g6 := by rcases hat6 with e | e <;> omega
  clear hown6 hgrow6
  refine hK.out _ _ (HS0.out _ (fun j hj => HL6.out.block j (by omega))) (fun _ => ?_)
  clear hK K
  refine calm_one 8 (by kernel_rfl) rfl (fun K hK => ?_)
  go_simp
  refine hK.out _ _ (HS0.out _ (fun j hj => HL6.out.block j (by omega))) (fun _ => ?_)
  clear hK K
  refine calm_one 9 (by kernel_rfl) rfl (fun K hK => ?_)
  go_simp
  obtain ⟨w7, hw7⟩ : ∃ w7, w6.alloc (.cells #[.int .i64 m.1, .slice (some ⟨g6, 0, none⟩) m.2.length c6] 30) = w7 := ⟨_, rfl⟩
  have HN7 : Hid (w7.heap[w6.heap.size]? = some (.cells #[.int .i64 m.1, .slice (some ⟨g6, 0, none⟩) m.2.length c6] 30 (0, 0))) := by show _ = _; rw [← hw7]; exact heap_alloc_new w6 _
  have L67 : Below w6.heap.size w6 w7 := by rw [← hw7]; exact (Below.refl _ _).alloc (Nat.le_refl _) _
  have hs7 : w7.heap.size = w6.heap.size + 1 := by rw [← hw7]; simp
  have HL7 := hidP (chain HL6.out L67)
  have HR7 := hidP (HR6.out.next L67 HR6.out.lt2.2)
  have hg6 := HR6.out.lt2
  have HD7 := hidP (HD4.out.kept (r := none) ⟨HL7.out.os, HL7.out.tape, HL7.out.output, HL7.out.size, fun i hi _ => HL7.out.block i hi⟩ (by simp))
  have hdl : ds.length = ms.length := by have := congrArg List.length HDM.out; simpa [dMarks] using this
  have HDL := hidP hdl
  try rw [Nat.zero_add]
  try rw [hw7]
  clear hw7 L67 hdl
  refine hK.out _ _ (HS0.out _ (fun j hj => HL7.out.block j (by omega))) (fun _ => ?_)
  clear hK K
  refine calm_one 10 (by kernel_rfl) rfl (fun K hK => ?_)
  refine step_append_at w7 rfl (.tmp 16) (.tmp 24) 24 rfl W.heap.size 30 m0 _ 2 32 Tryz.underlying24 hm0 hv0 hv1 hv2 rfl (by omega) gm ms.length cm2 (dCells ds) rfl (by have h := HD7.out.1; rw [HDL.out] at h; exact h) (some ⟨w6.heap.size, 0, none⟩) 1 1 [.int .i64 m.1, .slice (some ⟨g6, 0, none⟩) m.2.length c6] rfl (dmark_src HN7.out) (by unfold maxLen; omega) (by omega) (by omega) w7.heap.size rfl ?_
  intro g8 c8 w8 hown8 hgrow8 hat8 hlt8
  have HD8 : Hid (DRow W.heap.size w8 g8 c8 (ds ++ [(m.1, g6, c6, m.2)])) := DRow.snoc HD7.out HR7.out (by omega) (fun d hd => by
    have h1 := HDS.out d hd
    omega) (by rw [HDL.out]; exact hown8) hgrow8 (by rcases hat8 with e | e; exact Or.inl e.symm; exact Or.inr e)
  have HK8 : Hid (∀ j, j < w4.heap.size → j ≠ gm → w8.heap[j]? = w4.heap[j]?) := fun j hj hne => (hgrow8.block j (by omega) (by simp; exact hne)).trans (HL7.out.block j hj)
  have HKK : Hid (w8.os = w4.os ∧ w8.tape = w4.tape ∧ w8.output = w4.output) := ⟨hgrow8.os.trans HL7.out.os, hgrow8.tape.trans HL7.out.tape, hgrow8.output.trans HL7.out.output⟩
  have hz8 := hgrow8.size
  have hg8 : g8 = gm ∨ Sc + 1 ≤ g8 := by rcases hat8 with e | e; exact Or.inl e.symm; exact Or.inr (by omega)
  have HS8 : Hid (w8.cell? ⟨Sc, 0, none⟩ = some (.slice (some ⟨gm, 0, none⟩) ms.length cm2) ∧ w8.cell? ⟨w.heap.size + 1, 0, none⟩ = some (.int .i64 m.1) ∧ w8.cell? ⟨w.heap.size + 1, 1, none⟩ = some (.slice at' m.2.length ct)) := ⟨(World.cell?_of_block (HK8.out Sc (by omega) (by omega))).trans o0, (World.cell?_of_block (HK8.out (w.heap.size + 1) (by omega) (by omega))).trans e20, (World.cell?_of_block (HK8.out (w.heap.size + 1) (by omega) (by omega))).trans e21⟩
  clear hown8 hgrow8
  refine hK.out _ _ HS8.out (fun _ => ?_)
  clear hK K
  refine calm_one 11 (by kernel_rfl) rfl (fun K hK => ?_)
  go_simp
  refine hK.out _ _ HS8.out (fun _ => ?_)
  clear hK K
  refine wpAnyH_done (by kernel_rfl) ?_ _
  simp only [Exit.then]
  have t8 := (HK8.out Sc (by omega) (by omega)).trans HO4.out
  obtain ⟨u0, u1, uf, uO⟩ := two_cells t8
  have uf0 := uf 0
  obtain ⟨w9, hw9⟩ : ∃ w9, w8.setCell ⟨Sc, 0, none⟩ (.slice (some ⟨g8, 0, none⟩) (ms.length + 1) c8) = w9 := ⟨_, rfl⟩
  have HT9 : Hid (w9.heap[Sc]? = some (.cells #[.slice (some ⟨g8, 0, none⟩) (ms.length + 1) c8, .slice av rs.length cv] 27)) := by show _ = _; rw [← hw9]; exact (two_set t8).1
  have hf9 : ∀ j, j ≠ Sc → w9.heap[j]? = w8.heap[j]? := fun j hj => by rw [← hw9]; exact Below.heap_setCell w8 ⟨Sc, 0, none⟩ _ j (fun e => hj e)
  have hz9 : w9.heap.size = w8.heap.size := by rw [← hw9]; simp [World.setCell]
  have HD9 : Hid (DRow W.heap.size w9 g8 c8 (ds ++ [(m.1, g6, c6, m.2)])) := ⟨owns_same14 HD8.out.1 (hf9 g8 (by omega)), fun d hd => ⟨(HD8.out.2.1 d hd).1.same (hf9 d.2.1 (by
    rcases List.mem_append.1 hd with h | h
    · have := HDS.out d h; omega
    · simp at h; rw [h]; show g6 ≠ Sc; omega)), (HD8.out.2.1 d hd).2⟩, HD8.out.2.2⟩
  have HM9 : Hid (LMemV B1 w9 (.slice av rs.length cv) rs) := lmemv_same HM4.out (fun j hj => by
    have h := HLI.out j hj
    exact (hf9 j (by omega)).trans (HK8.out j (by omega) (by omega)))
  have HL9 : Hid (Below W.heap.size W w9) := ⟨by rw [← hw9]; exact HKK.out.1.trans HL4.out.os, by rw [← hw9]; exact HKK.out.2.1.trans HL4.out.tape, by rw [← hw9]; exact HKK.out.2.2.trans HL4.out.output, by omega, fun j hj => (hf9 j (by omega)).trans ((HK8.out j (by omega) (by omega)).trans (HL4.out.block j hj))⟩
  have HDM9 : Hid (dMarks (ds ++ [(m.1, g6, c6, m.2)]) = ms ++ [m]) := by show _ = _; rw [dMarks, List.map_append, ← dMarks, HDM.out]; rfl
  have HBK : Hid ((g8 < B1 ∨ Sc + 1 ≤ g8 ∧ g8 < w9.heap.size) ∧ ∀ d ∈ (ds ++ [(m.1, g6, c6, m.2)]), d.2.1 < B1 ∨ Sc + 1 ≤ d.2.1 ∧ d.2.1 < w9.heap.size) := ⟨by rcases hg8 with e | e; exact Or.inl (by omega); exact Or.inr ⟨e, by omega⟩, fun d hd => by
    rcases List.mem_append.1 hd with h | h
    · exact Or.inl (HDS.out d h)
    · simp at h; rw [h]; right; show Sc + 1 ≤ g6 ∧ g6 < _; omega⟩
  have HW9 := hidP hw9
  clear HS0 HL5 HR5 HL6 HR6 HL7 HR7 HD7 HN7 HD8 HK8 HKK HS8 t8 hf9 HD4 HM4 HO4 hw9 uf
  go_wp2_with fail
  try rw [HW9.out]
  refine NoPanic.normal ?_
  have HMV9 : Hid (MView w9 (some ⟨g8, 0, none⟩) (ms ++ [m])) := by show MView _ _ _; rw [← HDM9.out]; exact HD9.out.view
  have HML : Hid ((ms ++ [m]).length = ms.length + 1) := by show _ = _; simp
  have HMO := hidP (sMarks (some ⟨g8, 0, none⟩) c8 (ms ++ [m]) w9 HMV9.out ⟨by rw [HML.out]; omega, fun i => by
    rcases Nat.lt_trichotomy i ms.length with h | h | h
    · rw [mat_snoc h]; have := (web_small HW.out).2.1 i; omega
    · rw [h, mat_last]; omega
    · have : mat (ms ++ [m]) i = [] := by simp [mat, List.getD, show ms.length + 1 ≤ i by omega]
      rw [this]; simp⟩)
  rw [HML.out] at HMO
  obtain ⟨x0, x1, -, -⟩ := two_cells HT9.out
  rcases hmk : marksB (ms ++ [m]) with _ | _
  · rw [hmk] at HMO
    have hr0 : W.heap.size = w.heap.size + 1 + 1 + 1 := s3
    have y2 := (HL9.out.block (w.heap.size + 1 + 1) (by omega)).trans HT.out.2
    obtain ⟨y0, y1, yf, -⟩ := two_cells y2
    have yf0 := yf 0
    have yf1 := yf 1
    clear yf y2
    go_wp2_with fail
    refine HMO.out.mono ?_
    rintro e wa ⟨rfl, na, rfl⟩
    go_wp2_with fail
    refine bodyPost_ret (v := .tuple #[.agg #[.slice none 0 0, .slice none 0 0], .bool false]) (by simp [results, Tryz.results93, go_sem, y0, y1]) rfl ?_
    left
    refine ⟨by trivial, rfl, ?_⟩
    exact ((below_drewN (chain HB.out HL9.out) na).setCell (by show w.heap.size ≤ w.heap.size + 1 + 1; omega) _).setCell (by show w.heap.size ≤ w.heap.size + 1 + 1; omega) _
  rw [hmk] at HMO
  go_wp2_with fail
  refine HMO.out.mono ?_
  rintro e wa ⟨rfl, na, hwa⟩
  have HLa : Hid (Below w9.heap.size w9 wa) := by show Below _ _ _; rw [hwa]; exact below_drewN (Below.refl _ _) na
  have hIa := HI.out.below (chain HL9.out HLa.out)
  have p0 := hIa.c0
  obtain ⟨e40, e41, -, -⟩ := two_cells ((HLa.out.block (w.heap.size + 1) (by omega)).trans ((HL9.out.block (w.heap.size + 1) (by omega)).trans HT.out.1))
  have HNE := hidP (sNear am at' cm ct ms m.2 most wa hIa.mv (View.next HA.out (chain HL9.out HLa.out)) ⟨by omega, fun i => by have := (web_small HW.out).2.1 i; omega⟩ hal)
  clear hwa hIa HMO
  go_wp2_with fail
  refine HNE.out.mono ?_
  rintro e wb ⟨gh, ch, rfl, hrb, Lb⟩
  obtain ⟨wc, hwc⟩ : ∃ wc, wb.alloc (.cells #[] 2) = wc := ⟨_, rfl⟩
  have Lc : Below wb.heap.size wb wc := by rw [← hwc]; exact (Below.refl _ _).alloc (Nat.le_refl _) _
  have hsc : wc.heap.size = wb.heap.size + 1 := by rw [← hwc]; simp
  have HL9c := hidP (chain HLa.out (chain Lb Lc))
  have HHR := hidP (hrb.below (Nat.le_refl _) Lc)
  have HRO : Hid (Row w9.heap.size wc wb.heap.size 0 []) := by show Row _ _ _ _ _; rw [← hwc]; exact Row.start wb w9.heap.size (by have := HLa.out.size; have := Lb.size; omega)
  have hza := HLa.out.size
  have hzb := Lb.size
  have hghb := hrb.lt
  have hgo : gh ≠ wb.heap.size := by omega
  clear Lb Lc hrb
  go_wp2_with fail
  try rw [hwc]
  obtain ⟨hs, hhs⟩ : ∃ hs, nearL ms m.2 most = hs := ⟨_, rfl⟩
  have HIDS : Hid (nearI ms m.2 most = hs.map (fun h => h.1)) := by show _ = _; rw [nearI, hhs]
  have hhl : hs.length ≤ 60 := by rw [← hhs]; exact near_len14 ms m.2 most
  rw [hhs] at HHR
  rw [hhs]
  have HND : Hid ((hs.map (fun h => h.1)).Nodup) := by show List.Nodup _; rw [← HIDS.out]; exact nearI_nodup (web_marks HW.out) m.2 most
  have HFD : Hid (∀ i, i < hs.length → 0 ≤ zFind ms (hnth hs i).1) := fun i hi => nearI_find (web_marks HW.out) _ (by rw [HIDS.out]; exact List.mem_map.2 ⟨hnth hs i, hnth_mem hi, rfl⟩)
  have HLL := hidP (web_len HW.out)
  have HNT : Hid (∀ i, nth (hs.map (fun h => h.1)) i = (hnth hs i).1 ∨ hs.length ≤ i) := fun i => by
    rcases Nat.lt_or_ge i hs.length with h | h
    · left; simp [nth, hnth, List.getD, h]
    · exact Or.inr h
  have hcnt : wc.heap.size = wb.heap.size + 1 := hsc
  have HB2 : Hid (Sc + 1 ≤ w9.heap.size ∧ w9.heap.size ≤ wb.heap.size) := ⟨by omega, by omega⟩
  have HMc := hidP (lmemv_same HM9.out (w' := wc) (fun j hj => HL9c.out.block j (by have := HLI.out j hj; omega)))
  go_loopw [10, 11] (fun vo vi wr => ∃ (i go co : Nat) (rs' : List Rw), i ≤ hs.length ∧ vi = .int .i64 i ∧ vo = .slice (some ⟨go, 0, none⟩) (((hs.map (fun h => h.1)).take i).foldl insI []).length co ∧ Row w9.heap.size wr go co (((hs.map (fun h => h.1)).take i).foldl insI []) ∧ rs'.length = rs.length ∧ LMemV B1 wr (.slice av rs.length cv) rs' ∧ nums rs' = lnkT ms ls ((hs.map (fun h => h.1)).take i) m.1 ∧ (∀ b, LBlk (.slice av rs.length cv) rs' b → B1 ≤ b ∧ (b < Sc ∨ wc.heap.size ≤ b) ∧ b ≠ go) ∧ (∀ j, j < wc.heap.size → (j < B1 ∨ Sc ≤ j) → wr.heap[j]? = wc.heap[j]?) ∧ wr.os = wc.os ∧ wr.tape = wc.tape ∧ wr.output = wc.output ∧ wc.heap.size ≤ wr.heap.size) (fun _ vi _ => hs.length - (intOf vi).toNat)
  case atStart => exact ⟨0, _, 0, rs, Nat.zero_le _, rfl, rfl, HRO.out, rfl, HMc.out, by rw [List.take_zero, lnkT_nil HLL.out]; exact HNU.out, fun b hb => by have h1 := HLI.out b hb; have h2 := HB2.out; exact ⟨by omega, by omega, by omega⟩, fun _ _ _ => rfl, rfl, rfl, rfl, Nat.le_refl _⟩
  case round =>
    clear HMc HRO
    obtain ⟨i, go, co, rs', hi, rfl, rfl, hro, hrl', hlm, hnu, hlb, hfr, ho1, ho2, ho3, hzr⟩ := hrel
    have HB2' := HB2.out
    obtain ⟨acc, hacc⟩ : ∃ acc, ((hs.map (fun h => h.1)).take i).foldl insI [] = acc := ⟨_, rfl⟩
    have hal' : acc.length ≤ 60 := by
      rw [← hacc]
      have := fold_len14 ((hs.map (fun h => h.1)).take i) []
      simp at this
      simp
      omega
    rw [hacc] at hro
    rw [hacc]
    have HACC := hidP hacc
    have HRO := hidP hro
    have HLM := hidP hlm
    have HNU' := hidP hnu
    have HLBK := hidP hlb
    have HFR := hidP hfr
    have HRL' := hidP hrl'
    have HOS : Hid (wr.os = wc.os ∧ wr.tape = wc.tape ∧ wr.output = wc.output) := ⟨ho1, ho2, ho3⟩
    have hgo' := hro.lt2
    have hLW : Below W.heap.size W wr := ⟨ho1.trans (HL9c.out.os.trans HL9.out.os), ho2.trans (HL9c.out.tape.trans HL9.out.tape), ho3.trans (HL9c.out.output.trans HL9.out.output), by have := HL9.out.size; have := HL9c.out.size; omega, fun j hj => (hfr j (by omega) (by omega)).trans ((HL9c.out.block j (by omega)).trans (HL9.out.block j hj))⟩
    have HLW := hidP hLW
    clear hacc hro hlm hnu hlb hfr hrl' ho1 ho2 ho3 hLW
    by_cases hlt : i < hs.length
    · have hfx := HFD.out i hlt
      obtain ⟨hj1, hj2, hj3⟩ := zIdx_lt hfx
      have hcx : wr.cell? ⟨gh, i * 2, none⟩ = some (.int .i64 (hnth hs i).1) := by
        have h := (HHR.out.seg i hlt).1
        rw [Nat.zero_add] at h
        exact (World.cell?_of_block (HFR.out gh (by omega) (by omega))).trans h
      have HNX : Hid (nth (hs.map (fun h => h.1)) i = (hnth hs i).1) := by rcases HNT.out i with h | h; exact h; omega
      obtain ⟨x, hx⟩ : ∃ x, (hnth hs i).1 = x := ⟨_, rfl⟩
      rw [hx] at hfx hj1 hj2 hj3 hcx HNX
      obtain ⟨j, hj⟩ : ∃ j, zIdx ms x = j := ⟨_, rfl⟩
      rw [hj] at hj1 hj2 hj3
      have HJM := hidP hj3
      have hi0' : (0 : Int) ≤ (i : Int) := Int.natCast_nonneg _
      have hi1' : (i : Int) < (hs.length : Int) := by omega
      have HP := hidP (sPutI w9.heap.size go co acc x wr HRO.out (by omega) (by omega))
      have HACC2 : Hid (((hs.map (fun h => h.1)).take (i + 1)).foldl insI [] = insI acc x) := by
        show _ = _
        rw [List.take_add_one, List.foldl_append, HACC.out]
        have e : (hs.map (fun h => h.1))[i]?.toList = [x] := by
          have h := HNX.out
          simp [nth, List.getD, hlt] at h
          simp [hlt, h]
        rw [e]
        rfl
      have HJ2 := hidP hj2
      clear hfx hj hx hj2 hj3
      go_wp2_with fail
      refine HP.out.mono ?_
      rintro e w1 ⟨go2, co2, rfl, hro1, L1, hg2⟩
      have hz1 := L1.size
      have HRO1 := hidP hro1
      have HL1 := hidP L1
      have HFI := hidP (fun W' (L' : Below w1.heap.size w1 W') => sFind am cm ms x W' (HI.out.below (chain HLW.out (chain HL1.out L'))).mv (by omega))
      rw [← HJ2.out] at HFI
      have HS1 : Hid (∀ W', Below w1.heap.size w1 W' → W'.cell? ⟨w.heap.size, 0, none⟩ = some (.slice am ms.length cm) ∧ W'.cell? ⟨gh, i * 2, none⟩ = some (.int .i64 x)) := fun W' L' => ⟨(HI.out.below (chain HLW.out (chain HL1.out L'))).c0, ((chain HL1.out L').cell (p := ⟨gh, i * 2, none⟩) (by show gh < _; omega)).trans hcx⟩
      have BL1 := hidP ((Below.refl w1.heap.size w1).drew)
      have hgol := hro1.lt2
      clear hro1 L1 HP
      go_wp2_with fail
      refine wp_region_takes (S := fun W' => Below w1.heap.size w1 W') (fuel := 2) [0, 1, 2, 3, 4, 5, 6] (by kernel_rfl) (by kernel_rfl) (by kernel_rfl) (by kernel_rfl) BL1.out (fun _ => ?_)
      iterate 7
        refine ⟨_, rfl, ?_⟩
        apply Exists.intro
        refine ⟨Or.inl ⟨by rfl, fun w' hw' => ?_⟩, ?_⟩
        · obtain ⟨e1, e2⟩ := HS1.out w' hw'
          first
          | (go_simp; done)
          | (go_simp; with_reducible rfl)
        simp only [Act.put, List.getElem_toArray, List.getElem_cons_succ, List.getElem_cons_zero, List.setIfInBounds_toArray, List.set_cons_zero, List.set_cons_succ]
      refine calm_one 7 (by kernel_rfl) rfl (fun K hK => ?_)
      go_simp
      refine (HFI.out _ BL1.out).mono ?_
      rintro e w2 ⟨rfl, hw2⟩
      have HL2 : Hid (Below w1.heap.size w1 w2) := by show Below _ _ _; rw [hw2]; exact BL1.out
      clear hw2
      refine hK.out _ _ HL2.out (fun _ => ?_)
      clear hK K
      refine calm_rest [8] rfl (by kernel_rfl) (by kernel_rfl) (by kernel_rfl) HL2.out ?_
      iterate 1
        refine ⟨_, rfl, ?_⟩
        apply Exists.intro
        refine ⟨Or.inl ⟨by rfl, fun w' hw' => ?_⟩, ?_⟩
        · skip
          first
          | (go_simp; done)
          | (go_simp; with_reducible rfl)
        simp only [Act.put, List.getElem_toArray, List.getElem_cons_succ, List.getElem_cons_zero, List.setIfInBounds_toArray, List.set_cons_zero, List.set_cons_succ]
      refine NoPanic.normal (NoPanic.normal ?_)
      have hz2 := HL2.out.size
      have HL12 := hidP (chain HL1.out HL2.out)
      have hrn : rs'.length = ms.length := by have h1 := HRL'.out; have h2 := HRL.out; have h3 := HLL.out; omega
      have HM2 := hidP (lmemv_same HLM.out (w' := w2) (fun b hb => HL12.out.block b (lblk_in HLM.out hb).2))
      obtain ⟨gl, hav, hlmem⟩ : ∃ gl, av = some ⟨gl, 0, none⟩ ∧ LMem B1 w2 gl cv rs' := by
        rcases HM2.out with ⟨h1, h2⟩ | ⟨g, c, h1, h2⟩
        · rw [h2] at hrn; simp at hrn; omega
        · injection h1 with e1 e2 e3
          subst e1 e3
          exact ⟨g, rfl, h2⟩
      subst hav
      have hjr : j < rs'.length := by omega
      have hgll := hlmem.row.lt
      have hgl1 := HLBK.out gl (Or.inl rfl)
      have hrow : (rs'[j]).2.2 = cn ls j := by
        have h := congrArg (fun l => l[j]?) HNU'.out
        simp only [nums, List.getElem?_map, List.getElem?_eq_getElem hjr, Option.map_some] at h
        rw [lnkT_at hj1, (lnkT_step (web_marks HW.out) HND.out (by simpa using hlt) hj1 (HNX.out.trans HJM.out.symm) m.1).1] at h
        injection h
      have HIR := hidP (hlmem.rows _ (List.getElem_mem hjr))
      have hcj := hlmem.row.cell j hjr
      have hfj := World.ownsRow.frozenAt hlmem.row j
      have hrb := HLBK.out (rs'[j]).1 (Or.inr ⟨_, List.getElem_mem hjr, rfl⟩)
      have HMEM := hidP hlmem
      obtain ⟨r, hr⟩ : ∃ r, rs'[j] = r := ⟨_, rfl⟩
      rw [hr] at hrow HIR hcj hrb
      obtain ⟨r1, rc, rx⟩ := r
      simp only at hrow
      subst hrow
      have HR0 := hidP hr
      have hcl := (web_small HW.out).2.2.2 j
      have hir := HIR.out.lt
      have hoff := HMEM.out.off _ (List.getElem_mem hjr)
      rw [hr] at hoff
      simp only at hoff hrb hir
      have hcj' : w2.cell? ⟨gl, j, none⟩ = some (.slice (some ⟨r1, 0, none⟩) (cn ls j).length rc) := hcj
      have hOc : w2.cell? ⟨Sc, 1, none⟩ = some (.slice (some ⟨gl, 0, none⟩) rs.length cv) := (World.cell?_of_block ((HL12.out.block Sc (by omega)).trans ((HFR.out Sc (by omega) (by omega)).trans (HL9c.out.block Sc (by omega))))).trans x1
      have hmc : w2.cell? ⟨w.heap.size + 1, 0, none⟩ = some (.int .i64 m.1) := by
        obtain ⟨a0, -, -, -⟩ := two_cells ((chain HLW.out HL12.out).block (w.heap.size + 1) (by omega) |>.trans HT.out.1)
        exact a0
      have hj0' : (0 : Int) ≤ (j : Int) := Int.natCast_nonneg _
      have hj1' : (j : Int) < (rs.length : Int) := by have := HRL'.out; omega
      have HS2 : Hid (∀ W' : World, (∀ b, (b = Sc ∨ b = gl ∨ b = w.heap.size + 1) → W'.heap[b]? = w2.heap[b]?) → W'.cell? ⟨Sc, 1, none⟩ = some (.slice (some ⟨gl, 0, none⟩) rs.length cv) ∧ W'.cell? ⟨gl, j, none⟩ = some (.slice (some ⟨r1, 0, none⟩) (cn ls j).length rc) ∧ W'.cell? ⟨w.heap.size + 1, 0, none⟩ = some (.int .i64 m.1)) := fun W' h => ⟨(World.cell?_of_block (h Sc (Or.inl rfl))).trans hOc, (World.cell?_of_block (h gl (Or.inr (Or.inl rfl)))).trans hcj', (World.cell?_of_block (h (w.heap.size + 1) (Or.inr (Or.inr rfl)))).trans hmc⟩
      clear HM2 hlmem hcj hr HS1 BL1 HFI
      go_wp2_with fail
      refine wp_region_calm (S := fun W' => W'.cell? ⟨Sc, 1, none⟩ = some (.slice (some ⟨gl, 0, none⟩) rs.length cv) ∧ W'.cell? ⟨gl, j, none⟩ = some (.slice (some ⟨r1, 0, none⟩) (cn ls j).length rc) ∧ W'.cell? ⟨w.heap.size + 1, 0, none⟩ = some (.int .i64 m.1)) (fuel := 3)
        [0, 1, 2, 3, 4, 5, 6, 7, 8, 9] _ rfl (by kernel_rfl) (by kernel_rfl) (by kernel_rfl) (by kernel_rfl) (by kernel_rfl) (by kernel_rfl) (by kernel_rfl) (HS2.out _ (fun _ _ => rfl)) (fun _ => ?_)
      iterate 10
        refine ⟨_, rfl, ?_⟩
        apply Exists.intro
        refine ⟨Or.inl ⟨by rfl, fun w' hw' => ?_⟩, ?_⟩
        · obtain ⟨e1, e2, e3⟩ := hw'
          first
          | (go_simp; done)
          | (go_simp; with_reducible rfl)
        simp only [Act.put, List.setIfInBounds_toArray]
      refine calm_one 10 (by kernel_rfl) rfl (fun K hK => ?_)
      go_simp
      obtain ⟨wd, hwd⟩ : ∃ wd, (w2.alloc (.cells #[.int .i64 m.1] 2)).drew = wd := ⟨_, rfl⟩
      have HLd : Hid (Below w2.heap.size w2 wd) := by show Below _ _ _; rw [← hwd]; exact ((Below.refl w2.heap.size w2).alloc (Nat.le_refl _) _).drew
      have HNd : Hid (wd.heap[w2.heap.size]? = some (.cells #[.int .i64 m.1] 2 (0, 0))) := by show _ = _; rw [← hwd]; exact heap_alloc_new w2 _
      have hsd : wd.heap.size = w2.heap.size + 1 := by rw [← hwd]; simp
      rw [hwd]
      clear hwd
      refine hK.out _ _ (HS2.out _ (fun b hb => HLd.out.block b (by omega))) (fun _ => ?_)
      clear hK K
      have HMd := hidP (HMEM.out.below HLd.out)
      have HIRd := hidP (HIR.out.below HLd.out)
      refine calm_one 11 (by kernel_rfl) rfl (fun K hK => ?_)
      refine step_append_at wd rfl (.tmp 67) (.tmp 70) 28 rfl B1 2 i0 _ 1 8 Tryz.underlying28 hi0 hx0 hx1 hx2 rfl (by omega) r1 (cn ls j).length rc ((cn ls j).map (Value.int .i64)) rfl HIRd.out (some ⟨w2.heap.size, 0, none⟩) 1 1 [.int .i64 m.1] rfl (one_int HNd.out) (by unfold maxLen; omega) (by omega) (by omega) wd.heap.size rfl ?_
      intro gg cc we howne hgrowe hate hlte
      have HIe : Hid (IRow B1 we gg cc (cn ls j ++ [m.1])) := Row.snoc howne
      have HGe := hidP hgrowe
      have hze := hgrowe.size
      have HOVE : Hid (LMem B1 (we.setCell ⟨gl, j, none⟩ (rwV (gg, cc, cn ls j ++ [m.1]))) gl cv (rs'.set j (gg, cc, cn ls j ++ [m.1]))) := HMd.out.over14 j hjr HIe.out (by rw [HR0.out]; exact hgrowe) (by rw [HR0.out]; rcases hate with e | e; exact Or.inl e; exact Or.inr (by omega))
      have hSe : ∀ b, (b = Sc ∨ b = gl ∨ b = w.heap.size + 1) → we.heap[b]? = w2.heap[b]? := fun b hb => (hgrowe.block b (by omega) (by simp; omega)).trans (HLd.out.block b (by omega))
      have HSe := hidP (HS2.out _ hSe)
      have hce := (hSe gl (Or.inr (Or.inl rfl)))
      have hcel : we.cell? ⟨gl, j, none⟩ = some (.slice (some ⟨r1, 0, none⟩) (cn ls j).length rc) := HSe.out.2.1
      have hfel : we.frozen? ⟨gl, j, none⟩ = false := (World.frozen?_of_block hce).trans hfj
      clear howne hgrowe
      refine hK.out _ _ HSe.out (fun _ => ?_)
      clear hK K
      refine calm_one 12 (by kernel_rfl) rfl (fun K hK => ?_)
      go_simp
      refine hK.out _ _ HSe.out (fun _ => ?_)
      clear hK K
      refine wpAnyH_done (by kernel_rfl) ?_ _
      simp only [Exit.then]
      obtain ⟨wf, hwf⟩ : ∃ wf, we.setCell ⟨gl, j, none⟩ (.slice (some ⟨gg, 0, none⟩) ((cn ls j).length + 1) cc) = wf := ⟨_, rfl⟩
      have hrv : rwV (gg, cc, cn ls j ++ [m.1]) = .slice (some ⟨gg, 0, none⟩) ((cn ls j).length + 1) cc := by simp [rwV]
      rw [hrv, hwf] at HOVE
      have hff : ∀ b, b ≠ gl → wf.heap[b]? = we.heap[b]? := fun b hb => by rw [← hwf]; exact Below.heap_setCell we ⟨gl, j, none⟩ _ b (fun e => hb e)
      have hzf : wf.heap.size = we.heap.size := by rw [← hwf]; simp [World.setCell]
      have HNUf : Hid (nums (rs'.set j (gg, cc, cn ls j ++ [m.1])) = lnkT ms ls ((hs.map (fun h => h.1)).take (i + 1)) m.1) := by
        show _ = _
        rw [← (lnkT_step (ls := ls) (web_marks HW.out) HND.out (by simpa using hlt) hj1 (HNX.out.trans HJM.out.symm) m.1).2, ← HNU'.out, nums, nums, List.map_set]
      have HKf : Hid (∀ b, b ≠ gl → b ≠ r1 → b < wr.heap.size → wf.heap[b]? = wr.heap[b]?) := fun b h1 h2 h3 => (hff b h1).trans ((HGe.out.block b (by omega) (by simp; exact h2)).trans ((HLd.out.block b (by omega)).trans (HL12.out.block b h3)))
      have HROf : Hid (Row w9.heap.size wf go2 co2 (insI acc x)) := HRO1.out.same (by
        have hne1 : go2 ≠ gl := by rcases hg2 with e | e; rw [e]; exact fun h => hgl1.2.2 h.symm; have := (lblk_in HLM.out (Or.inl rfl : LBlk (.slice (some ⟨gl, 0, none⟩) rs.length cv) rs' gl)).2; omega
        have hne2 : go2 ≠ r1 := by rcases hg2 with e | e; rw [e]; exact fun h => hrb.2.2 h.symm; have := (lblk_in HLM.out (Or.inr ⟨_, List.getElem_mem hjr, by rw [HR0.out]⟩ : LBlk (.slice (some ⟨gl, 0, none⟩) rs.length cv) rs' r1)).2; omega
        exact (hff go2 hne1).trans ((HGe.out.block go2 (by omega) (by simp; exact hne2)).trans ((HLd.out.block go2 (by omega)).trans (HL2.out.block go2 hgol.2))))
      have HLBf : Hid (∀ b, LBlk (.slice (some ⟨gl, 0, none⟩) rs.length cv) (rs'.set j (gg, cc, cn ls j ++ [m.1])) b → B1 ≤ b ∧ (b < Sc ∨ wc.heap.size ≤ b) ∧ b ≠ go2) := fun b hb => by
        have hold : LBlk (.slice (some ⟨gl, 0, none⟩) rs.length cv) rs' b → B1 ≤ b ∧ (b < Sc ∨ wc.heap.size ≤ b) ∧ b ≠ go2 := fun h => by
          have h1 := HLBK.out b h
          have h2 := (lblk_in HLM.out h).2
          refine ⟨h1.1, h1.2.1, ?_⟩
          rcases hg2 with e | e
          · rw [e]; exact h1.2.2
          · omega
        rcases hb with e | ⟨q, hq, rfl⟩
        · exact hold (Or.inl e)
        · rcases List.mem_or_eq_of_mem_set hq with h | h
          · exact hold (Or.inr ⟨q, h, rfl⟩)
          · rw [h]
            show B1 ≤ gg ∧ (gg < Sc ∨ wc.heap.size ≤ gg) ∧ gg ≠ go2
            rcases hate with e | e
            · have hq1 : q.1 = r1 := by rw [h]; exact e.symm
              have h3 := hold (Or.inr ⟨_, List.getElem_mem hjr, by rw [HR0.out]; exact hq1⟩)
              rw [hq1] at h3
              rw [← e]; exact h3
            · have := hgol.2; exact ⟨by omega, by omega, by omega⟩
      have HOSf : Hid (wf.os = wc.os ∧ wf.tape = wc.tape ∧ wf.output = wc.output) := by
        have ho := HOS.out
        refine ⟨?_, ?_, ?_⟩
        · rw [← hwf]; exact HGe.out.os.trans (HLd.out.os.trans (HL12.out.os.trans ho.1))
        · rw [← hwf]; exact HGe.out.tape.trans (HLd.out.tape.trans (HL12.out.tape.trans ho.2.1))
        · rw [← hwf]; exact HGe.out.output.trans (HLd.out.output.trans (HL12.out.output.trans ho.2.2))
      have HWF := hidP hwf
      clear hSe hce hwf hff HS2 HSe
      go_wp2_with fail
      try rw [HWF.out]
      refine NoPanic.normal ?_
      go_wp2_with fail
      go_roundw
      case rel => exact ⟨i + 1, go2, co2, rs'.set j (gg, cc, cn ls j ++ [m.1]), by omega, by go_num, by rw [HACC2.out], by rw [HACC2.out]; exact HROf.out, by rw [List.length_set]; exact HRL'.out, Or.inr ⟨gl, cv, by rw [List.length_set, HRL'.out], HOVE.out⟩, HNUf.out, HLBf.out, fun b h1 h2 => (HKf.out b (by omega) (by omega) (by omega)).trans (HFR.out b h1 h2), HOSf.out.1, HOSf.out.2.1, HOSf.out.2.2, by omega⟩
      case measure => simp [intOf]; omega
    · skip
      have e1 : i = hs.length := by omega
      have HTK : Hid ((hs.map (fun h => h.1)).take i = hs.map (fun h => h.1)) := by show _ = _; rw [e1]; exact List.take_of_length_le (by simp)
      have HNU8 : Hid (nums rs' = lnkT ms ls (hs.map (fun h => h.1)) m.1) := by have h := HNU'.out; rw [HTK.out] at h; exact h
      have HAC8 : Hid (acc = ownI (hs.map (fun h => h.1))) := by have h := HACC.out; rw [HTK.out] at h; exact h.symm
      have hrn : rs'.length = ms.length := by have h1 := HRL'.out; have h2 := HRL.out; have h3 := HLL.out; omega
      obtain ⟨y0, y1, yf, -⟩ := two_cells ((HFR.out Sc (by omega) (by omega)).trans ((HL9c.out.block Sc (by omega)).trans HT9.out))
      have GA := World.grownBy_alloc wr (.cells #[.slice (some ⟨go, 0, none⟩) acc.length co] 28) none
      obtain ⟨wd, hwd⟩ : ∃ wd, wr.alloc (.cells #[.slice (some ⟨go, 0, none⟩) acc.length co] 28) = wd := ⟨_, rfl⟩
      have hsd : wd.heap.size = wr.heap.size + 1 := by rw [← hwd]; simp
      have HLd : Hid (Below wr.heap.size wr wd) := by show Below _ _ _; rw [← hwd]; exact (Below.refl _ _).alloc (Nat.le_refl _) _
      have HNd : Hid (wd.heap[wr.heap.size]? = some (.cells #[rwV (go, co, acc)] 28 (0, 0))) := by show _ = _; rw [← hwd]; exact heap_alloc_new wr _
      have HMd := hidP (lmemv_same HLM.out (w' := wd) (fun b hb => HLd.out.block b (lblk_in HLM.out hb).2))
      have HROd := hidP (HRO.out.next HLd.out hgo'.2)
      have z0 := (HLd.out.cell (p := ⟨Sc, 0, none⟩) (by show Sc < _; omega)).trans y0
      have z1 := (HLd.out.cell (p := ⟨Sc, 1, none⟩) (by show Sc < _; omega)).trans y1
      have HOWN : Hid (wd.ownsRow B1 28 1 (.slice av rs.length cv) rs.length (rs'.map rwV)) := by have h := HMd.out.owns; rw [HRL'.out] at h; exact h
      clear GA
      have hrb0 : W.heap.size ≤ B1 := hB1
      obtain ⟨v0, v1, vf, -⟩ := two_cells ((HLd.out.block (w.heap.size + 1 + 1) (by omega)).trans ((HLW.out.block (w.heap.size + 1 + 1) (by omega)).trans HT.out.2))
      have HWD := hidP hwd
      have yf1 := yf 1
      have zf1 : wd.frozen? ⟨Sc, 1, none⟩ = false := (World.frozen?_of_block (HLd.out.block Sc (by omega))).trans yf1
      have HVC : Hid (∀ W' : World, W'.heap[Sc]? = wd.heap[Sc]? → W'.heap[w.heap.size + 1 + 1]? = wd.heap[w.heap.size + 1 + 1]? → (W'.cell? ⟨Sc, 0, none⟩ = some (.slice (some ⟨g8, 0, none⟩) (ms.length + 1) c8) ∧ W'.cell? ⟨Sc, 1, none⟩ = some (.slice av rs.length cv) ∧ W'.frozen? ⟨Sc, 1, none⟩ = false) ∧ W'.cell? ⟨w.heap.size + 1 + 1, 0, none⟩ = some (.slice none 0 0) ∧ W'.cell? ⟨w.heap.size + 1 + 1, 1, none⟩ = some (.slice none 0 0) ∧ W'.frozen? ⟨w.heap.size + 1 + 1, 0, none⟩ = false ∧ W'.frozen? ⟨w.heap.size + 1 + 1, 1, none⟩ = false) := fun W' h1 h2 => ⟨⟨(World.cell?_of_block h1).trans z0, (World.cell?_of_block h1).trans z1, (World.frozen?_of_block h1).trans zf1⟩, (World.cell?_of_block h2).trans v0, (World.cell?_of_block h2).trans v1, (World.frozen?_of_block h2).trans (vf 0), (World.frozen?_of_block h2).trans (vf 1)⟩
      have HNB : Hid (∀ b, (Value.slice av rs.length cv).ownBlock = some b → LBlk (.slice av rs.length cv) rs' b) := fun b h => Or.inl h
      clear hwd v0 v1 vf yf z0 z1 yf1 zf1
      go_wp2_with (at_builtin; rw [HWD.out]; refine wpList_append_lies wd rfl (.tmp 74) (.tmp 76) 25 rfl B1 28 j0 _ 1 24 Tryz.underlying25 hj0 hy0 hy1 hy2 rfl (by omega) (.slice av rs.length cv) rs.length (rs'.map rwV) rfl HOWN.out ⟨wr.heap.size, 0, none⟩ 1 1 [rwV (go, co, acc)] rfl rfl (row_src_r HNd.out).1 (row_src_r HNd.out).2 (by omega) (by have := HRL.out; unfold maxLen; omega) (by have := HRL.out; omega) (by omega) wd.heap.size rfl ?_; intro gF cF wF hownF hgrowF hatF hltF; have hbS := hgrowF.block Sc (by omega) (fun e => by have := (HLBK.out Sc (HNB.out Sc e.symm)).2.1; omega); have hbR := hgrowF.block (w.heap.size + 1 + 1) (by omega) (fun e => by have := (HLBK.out _ (HNB.out _ e.symm)).1; omega); obtain ⟨⟨a0, a1, af⟩, r0, r1, rf0, rf1⟩ := HVC.out wF hbS hbR; have HOF := hidP hownF; have HGF := hidP hgrowF; clear hbS hbR hownF hgrowF)
      refine bodyPost_ret (v := .tuple #[.agg #[.slice (some ⟨g8, 0, none⟩) (ms.length + 1) c8, .slice (some ⟨gF, 0, none⟩) (rs.length + 1) cF], .bool true]) (by simp [results, Tryz.results93, go_sem, r0, r1]) rfl ?_
      right
      obtain ⟨wz, hwz⟩ : ∃ wz, ((wF.setCell ⟨Sc, 1, none⟩ (.slice (some ⟨gF, 0, none⟩) (rs.length + 1) cF)).setCell ⟨w.heap.size + 1 + 1, 0, none⟩ (.slice (some ⟨g8, 0, none⟩) (ms.length + 1) c8)).setCell ⟨w.heap.size + 1 + 1, 1, none⟩ (.slice (some ⟨gF, 0, none⟩) (rs.length + 1) cF) = wz := ⟨_, rfl⟩
      rw [hwz]
      have hfz : ∀ b, b ≠ Sc → b ≠ w.heap.size + 1 + 1 → wz.heap[b]? = wF.heap[b]? := fun b h1 h2 => by
        rw [← hwz, Below.heap_setCell _ ⟨w.heap.size + 1 + 1, 1, none⟩ _ b (fun e => h2 e), Below.heap_setCell _ ⟨w.heap.size + 1 + 1, 0, none⟩ _ b (fun e => h2 e), Below.heap_setCell _ ⟨Sc, 1, none⟩ _ b (fun e => h1 e)]
      have hzz : wz.heap.size = wF.heap.size := by rw [← hwz]; simp [World.setCell]
      have hzF := HGF.out.size
      have hIR : IRow B1 wd go co acc := HROd.out.mono14 (by omega)
      have hLF : LMem B1 wF gF cF (rs' ++ [(go, co, acc)]) := lmemv_snoc2 HMd.out (by rw [HRL'.out]; simpa using HOF.out) HGF.out hatF hIR (fun h => by
        have := (HLBK.out go h).2.2
        exact this rfl)
      have hLz : LMem B1 wz gF cF (rs' ++ [(go, co, acc)]) := hLF.same (fun b hb => by
        have h1 := hLF.all b hb
        refine hfz b (fun e => ?_) (by omega)
        subst e
        rcases hb with hb | ⟨q, hq, hb⟩
        · rcases hatF with e | e
          · have := (HLBK.out gF (Or.inl e)).2.1; omega
          · omega
        · rcases List.mem_append.1 hq with h | h
          · have := (HLBK.out q.1 (Or.inr ⟨q, h, rfl⟩)).2.1; omega
          · simp at h
            rw [h] at hb
            have hb' : b = go := hb
            omega)
      have hfull : nums (rs' ++ [(go, co, acc)]) = lnkL ms ls (nearI ms m.2 most) m.1 := by
        rw [nums, List.map_append, ← nums, HNU8.out, HIDS.out, ← lnkT_all, HAC8.out]
        rfl
      have hblk : ∀ b, (b < B1 ∨ Sc + 1 ≤ b ∧ b < w9.heap.size) → W.heap.size ≤ b → wz.heap[b]? = w9.heap[b]? := fun b hb hb2 => by
        refine (hfz b (by omega) (by omega)).trans ((HGF.out.block b (by omega) (fun e => ?_)).trans ((HLd.out.block b (by omega)).trans ((HFR.out b (by omega) (by omega)).trans (HL9c.out.block b (by omega)))))
        have := HLBK.out b (HNB.out b e.symm)
        omega
      have hDz : DRow W.heap.size wz g8 c8 (ds ++ [(m.1, g6, c6, m.2)]) := ⟨owns_same14 HD9.out.1 (hblk g8 HBK.out.1 HD9.out.lt.1), fun d hd => ⟨(HD9.out.2.1 d hd).1.same (hblk d.2.1 (HBK.out.2 d hd) (HD9.out.2.1 d hd).1.lt2.1), (HD9.out.2.1 d hd).2⟩, HD9.out.2.2⟩
      have hAP : ∀ b, (b = g8 ∨ ∃ d ∈ (ds ++ [(m.1, g6, c6, m.2)]), b = d.2.1) → b ≠ gF ∧ ∀ r ∈ rs' ++ [(go, co, acc)], b ≠ r.1 := fun b hb => by
        have h1 : b < B1 ∨ Sc + 1 ≤ b ∧ b < w9.heap.size := by
          rcases hb with rfl | ⟨d, hd, rfl⟩
          · exact HBK.out.1
          · exact HBK.out.2 d hd
        refine ⟨fun e => ?_, fun r hr e => ?_⟩
        · subst e
          rcases hatF with e | e
          · have := HLBK.out b (Or.inl e); omega
          · omega
        · rcases List.mem_append.1 hr with h | h
          · have := HLBK.out r.1 (Or.inr ⟨r, h, rfl⟩); omega
          · simp at h
            rw [h] at e
            have e' : b = go := e
            omega
      have hrl : rs.length = ls.length := HRL.out
      refine ⟨by trivial, g8, c8, gF, cF, by rw [hrl], ⟨_, _, _, _, by omega, by omega, hDz, HDM9.out, hLz, hfull, hAP⟩, ?_⟩
      have hLF' : Below w.heap.size w wF := (chain HB.out (chain HLW.out HLd.out)).grown HGF.out (by omega) (fun q hq => by have := (HLBK.out q (HNB.out q hq)).1; omega)
      rw [← hwz]
      exact ((hLF'.setCell (by show w.heap.size ≤ Sc; omega) _).setCell (by show w.heap.size ≤ w.heap.size + 1 + 1; omega) _).setCell (by show w.heap.size ≤ w.heap.size + 1 + 1; omega) _

end Go.Proofs.YtfbhohpbhjlihaaGreat
namespace Go.Proofs.YtfbhohpbhjlihaaGreat
open Go Go.RowKit

theorem mostB_inR (most : Int) : mostB most = inR most 1 8 := by
  unfold mostB inR
  first
    | rfl
    | (rw [Bool.eq_iff_iff]; simp)

theorem linked_no {ms : List Mk} {ls : List (List Int)} {m : Mk} {most : Int} (h : linkedB ms ls m most = false) : linkedMs ms ls m most = [] ∧ linkedLs ms ls m most = [] := by
  unfold linkedMs linkedLs
  rw [h]
  exact ⟨rfl, rfl⟩

theorem linked_yes {ms : List Mk} {ls : List (List Int)} {m : Mk} {most : Int} (h : linkedB ms ls m most = true) : linkedMs ms ls m most = ms ++ [m] ∧ linkedLs ms ls m most = lnkL ms ls (nearI ms m.2 most) m.1 := by
  unfold linkedMs linkedLs
  rw [h]
  exact ⟨rfl, rfl⟩

theorem WebOut.mono {b b' : Nat} {w : World} {gm cm gl cl : Nat} {ms : List Mk} {ls : List (List Int)} (h : WebOut b w gm cm gl cl ms ls) (hb : b' ≤ b) : WebOut b' w gm cm gl cl ms ls := by
  obtain ⟨B, ds, B', rs, h1, h2, h3⟩ := h
  exact ⟨B, ds, B', rs, by omega, by omega, h3⟩

/-- What Linked hands back, as it lies in memory: nothing, or a web in blocks of its own. -/
def LinkedOut (base : Nat) (w : World) (e : Ending) (ms : List Mk) (ls : List (List Int)) (m : Mk) (most : Int) : Prop :=
  (linkedB ms ls m most = false ∧ e = .returned (.tuple #[.agg #[.slice none 0 0, .slice none 0 0], .bool false])) ∨
  (linkedB ms ls m most = true ∧ ∃ gm cm gl cl, e = .returned (.tuple #[.agg #[.slice (some ⟨gm, 0, none⟩) (ms.length + 1) cm, .slice (some ⟨gl, 0, none⟩) (ls.length + 1) cl], .bool true]) ∧ WebOut base w gm cm gl cl (ms ++ [m]) (lnkL ms ls (nearI ms m.2 most) m.1))

theorem web_lens {ms : List Mk} {ls : List (List Int)} (h : webB ms ls = true) (ids : List Int) (x : Int) : (lnkL ms ls ids x).length = ls.length + 1 := by
  rw [lnkL_len, web_len h]

theorem LinkedOut.views {base : Nat} {w : World} {e : Ending} {ms : List Mk} {ls : List (List Int)} {m : Mk} {most : Int} (h : LinkedOut base w e ms ls m most) :
    ∃ am cm al cl, e = .returned (.tuple #[.agg #[.slice am (linkedMs ms ls m most).length cm, .slice al (linkedLs ms ls m most).length cl], .bool (linkedB ms ls m most)]) ∧ MView w am (linkedMs ms ls m most) ∧ CView w al (linkedLs ms ls m most) := by
  rcases h with ⟨h, rfl⟩ | ⟨h, gm, cm, gl, cl, rfl, ho⟩
  · obtain ⟨h1, h2⟩ := linked_no h
    rw [h1, h2, h]
    exact ⟨none, 0, none, 0, rfl, Or.inl rfl, Or.inl rfl⟩
  · have hw : webB ms ls = true := by
      unfold linkedB at h
      simp only [Bool.and_eq_true] at h
      exact h.1.1
    obtain ⟨h1, h2⟩ := linked_yes h
    rw [h1, h2, h, web_lens hw, List.length_append]
    exact ⟨_, cm, _, cl, rfl, ho.views.1, ho.views.2⟩

set_option maxRecDepth 100000 in
set_option maxHeartbeats 2000000 in
theorem sLinked (am al at' : Option Addr) (cm cl ct : Nat) (ms : List Mk) (ls : List (List Int)) (m : Mk) (most : Int) (w : World) (hm : MView w am ms) (hl : CView w al ls) (ha : View w at' m.2) (hsm : MSmall ms) (hcs : CSmall ls) (hal : m.2.length ≤ 1048576) :
    Calls Tryz.prog 15 #[.agg #[.slice am ms.length cm, .slice al ls.length cl], .agg #[.int .i64 m.1, .slice at' m.2.length ct], .int .i64 most] w fun e w' =>
      LinkedOut w.heap.size w' e ms ls m most ∧ Below w.heap.size w w' := by
  obtain ⟨W1, hW1⟩ : ∃ W, w.alloc (.cells #[.slice am ms.length cm, .slice al ls.length cl] 27) = W := ⟨_, rfl⟩
  obtain ⟨W2, hW2⟩ : ∃ W, W1.alloc (.cells #[.int .i64 m.1, .slice at' m.2.length ct] 30) = W := ⟨_, rfl⟩
  obtain ⟨W, hW⟩ : ∃ W, W2.alloc (.cells #[.slice none 0 0, .slice none 0 0] 27) = W := ⟨_, rfl⟩
  have s1 : W1.heap.size = w.heap.size + 1 := by rw [← hW1]; simp
  have s2 : W2.heap.size = w.heap.size + 1 + 1 := by rw [← hW2]; simp [s1]
  have s3 : W.heap.size = w.heap.size + 1 + 1 + 1 := by rw [← hW]; simp [s2]
  have b1 : Below w.heap.size w W1 := by rw [← hW1]; exact (Below.refl _ _).alloc (Nat.le_refl _) _
  have b2 : Below W1.heap.size W1 W2 := by rw [← hW2]; exact (Below.refl _ _).alloc (Nat.le_refl _) _
  have b3 : Below W2.heap.size W2 W := by rw [← hW]; exact (Below.refl _ _).alloc (Nat.le_refl _) _
  have hB : Below w.heap.size w W := chain (chain b1 b2) b3
  have hI : WebIn W w.heap.size am cm ms al cl ls := (show WebIn W1 w.heap.size am cm ms al cl ls by rw [← hW1]; exact WebIn.box hm hl).below (chain b2 b3)
  have t2 : W.heap[w.heap.size + 1]? = some (.cells #[.int .i64 m.1, .slice at' m.2.length ct] 30) := (b3.block _ (by omega)).trans (by rw [← hW2, ← s1]; exact heap_alloc_new W1 _)
  have t3 : W.heap[w.heap.size + 1 + 1]? = some (.cells #[.slice none 0 0, .slice none 0 0] 27) := by rw [← hW, ← s2]; exact heap_alloc_new W2 _
  have HI := hidP hI
  have HB := hidP hB
  have HA := hidP (View.next ha hB)
  have HT := hidP (And.intro t2 t3)
  have k0 := hI.c0
  have k1 := hI.c1
  have HW := hidP (sWebOk am al cm cl ms ls W hI.mv hI.cv hsm hcs)
  have HIN : Hid (∀ w, Calls Tryz.prog 92 #[.int .i64 most, .int .i64 1, .int .i64 8] w fun e w' => e = .returned (.bool (mostB most)) ∧ w' = w) := fun w => by rw [mostB_inR]; exact sIn most 1 8 w
  have HCL : Hid (∀ W' : World, Below W.heap.size W W' → W'.cell? ⟨w.heap.size, 0, none⟩ = some (.slice am ms.length cm) ∧ W'.cell? ⟨w.heap.size, 1, none⟩ = some (.slice al ls.length cl) ∧ W'.cell? ⟨w.heap.size + 1, 0, none⟩ = some (.int .i64 m.1) ∧ W'.cell? ⟨w.heap.size + 1, 1, none⟩ = some (.slice at' m.2.length ct) ∧ W'.cell? ⟨w.heap.size + 1 + 1, 0, none⟩ = some (.slice none 0 0) ∧ W'.cell? ⟨w.heap.size + 1 + 1, 1, none⟩ = some (.slice none 0 0) ∧ W'.frozen? ⟨w.heap.size + 1 + 1, 0, none⟩ = false ∧ W'.frozen? ⟨w.heap.size + 1 + 1, 1, none⟩ = false) := fun W' L => by
    obtain ⟨x0, x1, -, -⟩ := two_cells ((L.block (w.heap.size + 1) (by omega)).trans t2)
    obtain ⟨y0, y1, yf, -⟩ := two_cells ((L.block (w.heap.size + 1 + 1) (by omega)).trans t3)
    have h := hI.below L
    exact ⟨h.c0, h.c1, x0, x1, y0, y1, yf 0, yf 1⟩
  have HALL := hidP hal
  clear hm hl ha hB hI b1 b2 b3 t2 t3 hsm hcs hal
  rcases hw : webB ms ls with _ | _
  · have HV : Hid (linkedB ms ls m most = false) := by show _ = _; simp [linkedB, hw]
    rw [hw] at HW
    clear hw
    go_enter Tryz.func15, Tryz.ntmps15
    go_wp2_with fail
    refine HW.out.mono ?_
    rintro e w1 ⟨rfl, L1⟩
    obtain ⟨-, -, -, -, y0, y1, yf0, yf1⟩ := HCL.out w1 L1
    have HL := hidP L1
    clear L1 hW hW1 hW2
    go_wp2_with fail
    refine bodyPost_ret (v := .tuple #[.agg #[.slice none 0 0, .slice none 0 0], .bool false]) (by simp [results, Tryz.results15, go_sem, y0, y1]) rfl ?_
    refine ⟨Or.inl ⟨HV.out, rfl⟩, ?_⟩
    exact ((chain HB.out HL.out).setCell (by show w.heap.size ≤ w.heap.size + 1 + 1; omega) _).setCell (by show w.heap.size ≤ w.heap.size + 1 + 1; omega) _
  rw [hw] at HW
  have HWB := hidP hw
  clear hw
  rcases hq : mostB most with _ | _
  · have HV : Hid (linkedB ms ls m most = false) := by show _ = _; simp [linkedB, hq]
    rw [hq] at HIN
    clear hq
    go_enter Tryz.func15, Tryz.ntmps15
    go_wp2_with fail
    refine HW.out.mono ?_
    rintro e w1 ⟨rfl, L1⟩
    obtain ⟨-, -, -, -, y0, y1, yf0, yf1⟩ := HCL.out w1 L1
    have HL := hidP L1
    clear L1 hW hW1 hW2
    go_wp2_with fail
    refine (HIN.out _).mono ?_
    rintro e w2 ⟨rfl, rfl⟩
    go_wp2_with fail
    refine bodyPost_ret (v := .tuple #[.agg #[.slice none 0 0, .slice none 0 0], .bool false]) (by simp [results, Tryz.results15, go_sem, y0, y1]) rfl ?_
    refine ⟨Or.inl ⟨HV.out, rfl⟩, ?_⟩
    exact ((chain HB.out HL.out).setCell (by show w.heap.size ≤ w.heap.size + 1 + 1; omega) _).setCell (by show w.heap.size ≤ w.heap.size + 1 + 1; omega) _
  rw [hq] at HIN
  have HQ := hidP hq
  clear hq
  go_enter Tryz.func15, Tryz.ntmps15
  go_wp2_with fail
  refine HW.out.mono ?_
  rintro e w1 ⟨rfl, L1⟩
  obtain ⟨x0, x1, u0, u1, y0, y1, yf0, yf1⟩ := HCL.out w1 L1
  have HL := hidP L1
  have HC := hidP (sLinkG am al at' cm cl ct ms ls m most w1 (HI.out.below L1).mv (HI.out.below L1).cv (View.next HA.out L1) HALL.out HWB.out)
  clear L1 hW hW1 hW2
  go_wp2_with fail
  refine (HIN.out _).mono ?_
  rintro e w2 ⟨rfl, rfl⟩
  go_wp2_with fail
  refine HC.out.mono ?_
  rintro e w3 (⟨hmb, rfl, L3⟩ | ⟨hmb, gm, cm', gl, cl', rfl, hwo, L3⟩)
  · have HV : Hid (linkedB ms ls m most = false) := by show _ = _; simp [linkedB, hmb]
    obtain ⟨-, -, -, -, y0, y1, yf0, yf1⟩ := HCL.out w3 (chain HL.out L3)
    have HL3 := hidP L3
    clear L3 hmb
    go_wp2_with fail
    refine bodyPost_ret (v := .tuple #[.agg #[.slice none 0 0, .slice none 0 0], .bool false]) (by simp [results, Tryz.results15, go_sem, y0, y1]) rfl ?_
    refine ⟨Or.inl ⟨HV.out, rfl⟩, ?_⟩
    exact ((chain HB.out (chain HL.out HL3.out)).setCell (by show w.heap.size ≤ w.heap.size + 1 + 1; omega) _).setCell (by show w.heap.size ≤ w.heap.size + 1 + 1; omega) _
  · have HV : Hid (linkedB ms ls m most = true) := by show _ = _; simp [linkedB, hmb, HWB.out, HQ.out]
    obtain ⟨-, -, -, -, y0, y1, yf0, yf1⟩ := HCL.out w3 (chain HL.out L3)
    have HL3 := hidP L3
    have HR := hidP hwo
    have hz := HL.out.size
    clear L3 hmb hwo
    go_wp2_with fail
    refine bodyPost_ret (v := .tuple #[.agg #[.slice (some ⟨gm, 0, none⟩) (ms.length + 1) cm', .slice (some ⟨gl, 0, none⟩) (ls.length + 1) cl'], .bool true]) (by simp [results, Tryz.results15, go_sem, y0, y1]) rfl ?_
    refine ⟨Or.inr ⟨HV.out, gm, cm', gl, cl', rfl, (WebOut.same HR.out (fun b hb => ?_)).mono (by omega)⟩, ?_⟩
    · rw [Below.heap_setCell _ ⟨w.heap.size + 1 + 1, 1, none⟩ _ b (fun e => by have e' : b = w.heap.size + 1 + 1 := e; omega), Below.heap_setCell _ ⟨w.heap.size + 1 + 1, 0, none⟩ _ b (fun e => by have e' : b = w.heap.size + 1 + 1 := e; omega)]
    · exact ((chain HB.out (chain HL.out HL3.out)).setCell (by show w.heap.size ≤ w.heap.size + 1 + 1; omega) _).setCell (by show w.heap.size ≤ w.heap.size + 1 + 1; omega) _

end Go.Proofs.YtfbhohpbhjlihaaGreat
