/-
  slices.Clone of numbers, ownMark.
  A block as a function of its cells; a web of the call's own that is being filled.
  How the program links, as plain lists.
-/
import Derived.Test.YtaaagmgglolibaaGreatLkCatZz
import Derived.Test.YtaaagmgglolibaaGreatBCopyZz
import Derived.Test.YtaaagmgglolibaaGreatLastZz
import Derived.Test.YtaaagmgglolibaaGreatMMarkZz
import Derived.Test.YtaaagmgglolibaaGreatFeHmZz
import Derived.Test.YtaaagmgglolibaaGreatFeHelpZz
import Derived.Test.YtaaagmgglolibaaGreatMathZz
namespace Go.Proofs.YtaaagmgglolibaaGreat
open Go Go.RowKit

theorem view_src15 {w : World} {ao : Option Addr} {xs : List Int} (h : View w ao xs) : SrcAt w 1 ao xs.length (xs.map (Value.int .i64)) :=
  ⟨by simp, fun u hu => by obtain ⟨x, _, rfl⟩ := List.mem_map.1 hu; rfl, by
    rcases h with rfl | ⟨b, off, rfl, hb, hs⟩
    · exact Or.inl rfl
    · refine Or.inr ⟨_, rfl, fun j u hu => ?_⟩
      rw [Go.WideShapes.add_plain]
      have hj : j < xs.length := by
        rcases Nat.lt_or_ge j xs.length with h1 | h1
        · exact h1
        · rw [List.getElem?_eq_none (by simpa using h1)] at hu; cases hu
      have e : (xs.map (Value.int .i64))[j]? = some (.int .i64 (nth xs j)) := by simp [nth, List.getD, hj]
      rw [e] at hu
      injection hu with hu
      rw [← hu]
      exact hs j hj⟩

set_option maxHeartbeats 400000 in
theorem clone_nil (cap : Nat) (w : World) :
    Calls Tryz.prog 211 #[.slice none 0 cap] w fun e w' => e = .returned (.slice none 0 0) ∧ w' = w := by
  have q49 : (binOp .eql 27 (.slice none 0 cap) (.slice none 0 0)).run Tryz.prog w = .ok (.bool true) w := Lib.run_eql_slice_nil w 27 2 _ _ _ _ _ Tryz.underlying27
  go_enter Tryz.func211, Tryz.ntmps211
  go_wp2_with fail
  go_ret
  exact ⟨rfl, rfl⟩

set_option maxHeartbeats 400000 in
theorem clone_some (p : Addr) (cap : Nat) (xs : List Int) (w : World) (hv : View w (some p) xs) (hn : xs.length ≤ 1048576) :
    Calls Tryz.prog 211 #[.slice (some p) xs.length cap] w fun e w' => ∃ g c, e = .returned (.slice (some ⟨g, 0, none⟩) xs.length c) ∧ IRow w.heap.size w' g c xs ∧ Below w.heap.size w w' := by
  obtain ⟨j0, hj0, hy0, hy1, hy2⟩ := info_parts Tryz.info2
  have hA : Below w.heap.size w (w.alloc (.cells #[] 2)) := (Below.refl _ _).alloc (Nat.le_refl _) _
  have HR := hidP (IRow.start w w.heap.size (Nat.le_refl _))
  have HS := hidP (view_src15 (hv.next hA))
  have HA := hidP hA
  have q49 : (binOp .eql 27 (.slice (some p) xs.length cap) (.slice none 0 0)).run Tryz.prog w = .ok (.bool false) w := Lib.run_eql_slice_nil w 27 2 _ _ _ _ _ Tryz.underlying27
  clear hA hv
  go_enter Tryz.func211, Tryz.ntmps211
  go_wp2_with (at_builtin; refine wpList_append_at _ rfl (.tmp 5) (.tmp 6) 27 rfl w.heap.size 2 j0 _ 1 8 Tryz.underlying27 hj0 hy0 hy1 hy2 rfl (by omega) w.heap.size 0 0 [] rfl HR.out (some p) xs.length cap (xs.map (Value.int .i64)) rfl HS.out (by unfold maxLen; omega) (by omega) (by simp) (w.heap.size + 1) (by simp) ?_; intro gg cc w4 hown hgrow hat hltt)
  go_ret
  exact ⟨gg, cc, rfl, IRow.of hown (by omega) (by simp), HA.out.grown hgrow (by simp) (by intro k hk; cases hk; omega)⟩

theorem pClone15 (b off cap : Nat) (xs : List Int) (w : World) (hs : Seg w b off xs) (hb : b < w.heap.size) (hn : xs.length ≤ 1048576) :
    Calls Tryz.prog 211 #[.slice (some ⟨b, off, none⟩) xs.length cap] w fun e w' => ∃ g c, e = .returned (.slice (some ⟨g, 0, none⟩) xs.length c) ∧ IRow w.heap.size w' g c xs ∧ Below w.heap.size w w' :=
  clone_some ⟨b, off, none⟩ cap xs w (Or.inr ⟨b, off, rfl, hb, hs⟩) hn

/-- A copy of numbers: nothing of nothing, or a row of the call's own. -/
theorem iCloneA (ao : Option Addr) (cap : Nat) (xs : List Int) (w : World) (hv : View w ao xs) (hn : xs.length ≤ 1048576) :
    Calls Tryz.prog 211 #[.slice ao xs.length cap] w fun e w' => ∃ v, e = .returned v ∧ w'.ownsRow w.heap.size 2 1 v xs.length (xs.map (Value.int .i64)) ∧ Below w.heap.size w w' := by
  cases ao with
  | none =>
    obtain rfl : xs = [] := by
      rcases hv with h | ⟨b, off, e, -⟩
      · exact h
      · cases e
    refine (clone_nil cap w).mono ?_
    rintro e w' ⟨rfl, rfl⟩
    exact ⟨_, rfl, ⟨rfl, Or.inl ⟨rfl, rfl⟩⟩, Below.refl _ _⟩
  | some p =>
    refine (clone_some p cap xs w hv hn).mono ?_
    rintro e w' ⟨g, c, rfl, hr, L⟩
    exact ⟨_, rfl, hr, L⟩

set_option maxRecDepth 100000 in
set_option maxHeartbeats 1000000 in
theorem iOwn15 (m : Sm) (w : World) (hm : View w m.2.1 m.2.2.2) (h0 : 0 < m.2.2.2.length) (hn : m.2.2.2.length ≤ 1048576) :
    Calls Tryz.prog 130 #[.agg #[.int .i64 m.1, .slice m.2.1 m.2.2.2.length m.2.2.1]] w fun e w' => ∃ h c, e = .returned (.agg #[.int .i64 m.1, .slice (some ⟨h, 0, none⟩) m.2.2.2.length c]) ∧ IRow w.heap.size w' h c m.2.2.2 ∧ Below w.heap.size w w' := by
  obtain ⟨bm, om, hmo, hbm, hms⟩ : ∃ b off, m.2.1 = some ⟨b, off, none⟩ ∧ b < w.heap.size ∧ Seg w b off m.2.2.2 := by
    rcases hm with h | h
    · rw [h] at h0; simp at h0
    · exact h
  obtain ⟨W, hW⟩ : ∃ W, W = (w.alloc (.cells #[.int .i64 m.1, .slice (some ⟨bm, om, none⟩) m.2.2.2.length m.2.2.1] 29)).alloc (.cells #[.int .i64 0, .slice none 0 0] 29) := ⟨_, rfl⟩
  have hL : Below w.heap.size w W := by rw [hW]; exact ((Below.refl _ _).alloc (Nat.le_refl _) _).alloc (by simp) _
  have hsz : W.heap.size = w.heap.size + 2 := by rw [hW]; simp
  have a0 : W.cell? ⟨w.heap.size, 0, none⟩ = some (.int .i64 m.1) := by rw [hW]; go_simp
  have a1 : W.cell? ⟨w.heap.size, 1, none⟩ = some (.slice (some ⟨bm, om, none⟩) m.2.2.2.length m.2.2.1) := by rw [hW]; go_simp
  have t0 : Two W (w.heap.size + 1) (.int .i64 0) (.slice none 0 0) 29 := by rw [hW]; have := Two.new (w.alloc (.cells #[.int .i64 m.1, .slice (some ⟨bm, om, none⟩) m.2.2.2.length m.2.2.1] 29)) (.int .i64 0) (.slice none 0 0) 29; simpa using this
  have HC := hidP (fun n => pClone15 bm om m.2.2.1 m.2.2.2 (W.drewN n) ((hms.below hbm hL).drewN n) (by show bm < W.heap.size; omega) hn)
  have HT := hidP t0
  have HL := hidP hL
  rw [hmo]
  clear hm hms hmo t0 hL
  go_enter Tryz.func130, Tryz.ntmps130
  go_wp2_with fail
  rw [← hW]
  clear hW
  refine wp_region_calm (S := fun w' => w'.cell? ⟨w.heap.size, 0, none⟩ = some (.int .i64 m.1) ∧ w'.cell? ⟨w.heap.size, 1, none⟩ = some (.slice (some ⟨bm, om, none⟩) m.2.2.2.length m.2.2.1)) (fuel := 2)
    [0, 1, 2, 3] _ rfl (by kernel_rfl) (by kernel_rfl) (by kernel_rfl) (by kernel_rfl) (by kernel_rfl) (by kernel_rfl) (by kernel_rfl) ⟨a0, a1⟩ (fun hS => ?_)
  iterate 4
    refine ⟨_, rfl, ?_⟩
    apply Exists.intro
    refine ⟨Or.inl ⟨by rfl, fun w' hw' => ?_⟩, ?_⟩
    · first
      | (go_simp; done)
      | (go_simp; with_reducible rfl)
    simp only [Act.put, List.setIfInBounds_toArray]
  refine calm_one 4 (by kernel_rfl) rfl (fun K hK => ?_)
  go_simp
  refine (HC.out 1).mono ?_
  rintro e w' ⟨g, c, rfl, hi, L⟩
  have hS2 : w'.cell? ⟨w.heap.size, 0, none⟩ = some (.int .i64 m.1) ∧ w'.cell? ⟨w.heap.size, 1, none⟩ = some (.slice (some ⟨bm, om, none⟩) m.2.2.2.length m.2.2.1) :=
    ⟨(L.cell (p := ⟨w.heap.size, 0, none⟩) (by show w.heap.size < W.heap.size; omega)).trans a0, (L.cell (p := ⟨w.heap.size, 1, none⟩) (by show w.heap.size < W.heap.size; omega)).trans a1⟩
  refine hK.out _ _ hS2 (fun _ => ?_)
  clear hK K
  refine calm_one 5 (by kernel_rfl) rfl (fun K hK => ?_)
  go_simp
  refine hK.out _ _ hS2 (fun _ => ?_)
  clear hK K
  have hz : (W.drewN 1).heap.size = W.heap.size := rfl
  rw [hz] at hi L
  have hB : Below w.heap.size w (W.drewN 1) := below_drewN HL.out 1
  have t2 : Two w' (w.heap.size + 1) (.int .i64 0) (.slice none 0 0) 29 := (L.block _ (by omega)).trans HT.out
  have f0 := t2.frozen 0
  have f1 := t2.frozen 1
  have e0 := t2.c0
  have e1 := t2.c1
  have t3 := (t2.set0 (.int .i64 m.1)).set1 (.slice (some ⟨g, 0, none⟩) m.2.2.2.length c)
  have k0 := t3.c0
  have k1 := t3.c1
  have hgl := hi.lt
  have HE : Hid (IRow w.heap.size ((w'.setCell ⟨w.heap.size + 1, 0, none⟩ (.int .i64 m.1)).setCell ⟨w.heap.size + 1, 1, none⟩ (.slice (some ⟨g, 0, none⟩) m.2.2.2.length c)) g c m.2.2.2 ∧ Below w.heap.size w ((w'.setCell ⟨w.heap.size + 1, 0, none⟩ (.int .i64 m.1)).setCell ⟨w.heap.size + 1, 1, none⟩ (.slice (some ⟨g, 0, none⟩) m.2.2.2.length c))) :=
    ⟨((hi.kept (grown_setCell _ (w.heap.size + 1) 0 _) (by simp; omega)).kept (grown_setCell _ (w.heap.size + 1) 1 _) (by simp; omega)).mono (by omega), ((hB.trans (L.mono (by omega))).setCell (by show w.heap.size ≤ w.heap.size + 1; omega) _).setCell (by show w.heap.size ≤ w.heap.size + 1; omega) _⟩
  clear t2 t3 hi L hB HC HT HL a0 a1 hS hS2 hz
  refine wpAnyH_done (by kernel_rfl) ?_ _
  simp only [Exit.then]
  go_wp2_with fail
  refine NoPanic.normal ?_
  go_wp2_with fail
  refine bodyPost_ret (v := .agg #[.int .i64 m.1, .slice (some ⟨g, 0, none⟩) m.2.2.2.length c]) (by simp [results, Tryz.results130, go_sem, k0, k1]) rfl ?_
  exact ⟨g, c, rfl, HE.out.1, HE.out.2⟩
end Go.Proofs.YtaaagmgglolibaaGreat
namespace Go.Proofs.YtaaagmgglolibaaGreat
open Go Go.RowKit

def updV (f : Nat → Value) (m : Nat) (v : Value) (i : Nat) : Value := if i = m then v else f i
/-- A block of m cells. -/
def FB (w : World) (g m : Nat) (C : Nat → Value) (t : TypeId) : Prop := w.heap[g]? = some (.cells ((List.range m).map C).toArray t)
theorem FB.lt {w : World} {g m : Nat} {C : Nat → Value} {t : TypeId} (h : FB w g m C t) : g < w.heap.size := by
  rcases Nat.lt_or_ge g w.heap.size with h1 | h1
  · exact h1
  · unfold FB at h; rw [Array.getElem?_eq_none h1] at h; cases h
theorem FB.cell {w : World} {g m : Nat} {C : Nat → Value} {t : TypeId} (h : FB w g m C t) {i : Nat} (hi : i < m) : w.cell? ⟨g, i, none⟩ = some (C i) := by
  unfold FB at h
  simp only [World.cell?, h]
  simp [hi]
theorem FB.frozen {w : World} {g m : Nat} {C : Nat → Value} {t : TypeId} (h : FB w g m C t) (i : Nat) : w.frozen? ⟨g, i, none⟩ = false := by
  unfold FB at h
  simp [World.frozen?, h]
theorem updV_map (f : Nat → Value) (k m : Nat) (v : Value) : ((List.range k).map f).set m v = (List.range k).map (updV f m v) := by
  apply List.ext_getElem
  · simp
  · intro i h1 h2
    simp only [List.getElem_set, List.getElem_map, List.getElem_range, updV]
    by_cases h : m = i
    · rw [if_pos h, if_pos h.symm]
    · rw [if_neg h, if_neg (fun e => h e.symm)]
theorem FB.set {w : World} {g m : Nat} {C : Nat → Value} {t : TypeId} (h : FB w g m C t) (i : Nat) (v : Value) : FB (w.setCell ⟨g, i, none⟩ v) g m (updV C i v) t := by
  unfold FB at *
  simp only [World.setCell, Array.getElem?_modify, h]
  simp [updV_map]
theorem FB.same {w w' : World} {g m : Nat} {C : Nat → Value} {t : TypeId} (h : FB w g m C t) (e : w'.heap[g]? = w.heap[g]?) : FB w' g m C t := e.trans h
theorem FB.far {w : World} {g m q : Nat} {C : Nat → Value} {t : TypeId} (h : FB w g m C t) (hq : q ≠ g) (i : Nat) (v : Value) : FB (w.setCell ⟨q, i, none⟩ v) g m C t := h.same (Below.heap_setCell w ⟨q, i, none⟩ v g (fun e => hq e.symm))
theorem FB.next {w w' : World} {g m : Nat} {C : Nat → Value} {t : TypeId} (h : FB w g m C t) (L : Below w.heap.size w w') : FB w' g m C t := h.same (L.block g h.lt)
theorem FB.congr {w : World} {g m : Nat} {C D : Nat → Value} {t : TypeId} (h : FB w g m C t) (e : ∀ i, i < m → C i = D i) : FB w g m D t := by
  unfold FB at *
  rw [h]
  congr 2
  congr 1
  exact List.map_congr_left (fun i hi => e i (List.mem_range.1 hi))
theorem FB.own {base : Nat} {w : World} {g n size : Nat} {C : Nat → Value} {t : TypeId} (h : FB w g (n * size) C t) (hb : base ≤ g) (hn : n ≤ maxLen) : w.ownsRow base t size (.slice (some ⟨g, 0, none⟩) n n) n ((List.range (n * size)).map C) :=
  ⟨by simp, Or.inr ⟨g, n, _, rfl, hb, h, Nat.le_refl _, hn, by simp, List.take_of_length_le (by simp)⟩⟩
theorem FB.madeL (w : World) (n : Nat) (t : TypeId) : FB (w.alloc (.cells (madeCells #[.slice none 0 0] (n * 1)) t)) w.heap.size n (fun _ => .slice none 0 0) t := by
  have e : madeCells #[.slice none 0 0] (n * 1) = ((List.range n).map (fun _ => Value.slice none 0 0)).toArray := by
    apply Array.ext
    · simp [size_madeCells]
    · intro i h1 h2
      simp [madeCells, Nat.mod_one]
  unfold FB
  rw [e]
  show (w.heap.push _)[w.heap.size]? = _
  simp
def zeroM (j : Nat) : Value := if j % 2 = 0 then .int .i64 0 else .slice none 0 0
theorem FB.madeM (w : World) (n : Nat) (t : TypeId) : FB (w.alloc (.cells (madeCells #[.int .i64 0, .slice none 0 0] (n * 2)) t)) w.heap.size (n * 2) zeroM t := by
  have e : madeCells #[.int .i64 0, .slice none 0 0] (n * 2) = ((List.range (n * 2)).map zeroM).toArray := by
    apply Array.ext
    · simp [size_madeCells]
    · intro i h1 h2
      have h3 : i % 2 = 0 ∨ i % 2 = 1 := Nat.mod_two_eq_zero_or_one i
      rcases h3 with h3 | h3 <;> simp [madeCells, zeroM, h3]
  unfold FB
  rw [e]
  show (w.heap.push _)[w.heap.size]? = _
  simp

/-- The cells of marks, the first k filled. -/
def markC (ms : List Mk) (G cc : Nat → Nat) (k j : Nat) : Value := if j / 2 < k then (if j % 2 = 0 then .int .i64 (mid ms (j / 2)) else .slice (some ⟨G (j / 2), 0, none⟩) (mat ms (j / 2)).length (cc (j / 2))) else zeroM j
def dOf (ms : List Mk) (G cc : Nat → Nat) (i : Nat) : Dm := (mid ms i, G i, cc i, mat ms i)
def dsOf (ms : List Mk) (G cc : Nat → Nat) : List Dm := (List.range ms.length).map (dOf ms G cc)
theorem dsOf_at {ms : List Mk} {G cc : Nat → Nat} {i : Nat} (hi : i < ms.length) : mdnth (dsOf ms G cc) i = dOf ms G cc i := by simp [mdnth, dsOf, List.getD, hi]
theorem dsOf_len (ms : List Mk) (G cc : Nat → Nat) : (dsOf ms G cc).length = ms.length := by simp [dsOf]
theorem dsOf_marks (ms : List Mk) (G cc : Nat → Nat) : dMarks (dsOf ms G cc) = ms := by
  refine List.ext_getElem (by simp [dMarks, dsOf]) (fun i h1 h2 => ?_)
  simp [dMarks, dsOf, dOf, mid, mat, List.getD, h2]
theorem dsOf_cells (ms : List Mk) (G cc : Nat → Nat) : dCells (dsOf ms G cc) = (List.range (ms.length * 2)).map (markC ms G cc ms.length) := by
  refine List.ext_getElem? (fun j => ?_)
  rcases Nat.lt_or_ge j (ms.length * 2) with hj | hj
  · have hi : j / 2 < (dsOf ms G cc).length := by rw [dsOf_len]; omega
    have hi' : j / 2 < ms.length := by omega
    obtain ⟨c0, c1⟩ := dCells_at (dsOf ms G cc) (j / 2) hi
    rw [dsOf_at hi'] at c0 c1
    rw [List.getElem?_map, List.getElem?_range hj]
    rcases Nat.mod_two_eq_zero_or_one j with hm | hm
    · rw [show j = j / 2 * 2 by omega, c0]
      simp [markC, dOf, hi', show j / 2 * 2 / 2 = j / 2 by omega]
    · rw [show j = j / 2 * 2 + 1 by omega, c1]
      have e1 : (j / 2 * 2 + 1) / 2 = j / 2 := by omega
      have e2 : (j / 2 * 2 + 1) % 2 = 1 := by omega
      simp [markC, dOf, hi', e1, e2]
  · rw [List.getElem?_eq_none (by rw [dCells_length, dsOf_len]; omega), List.getElem?_eq_none (by simp; omega)]
structure OPart (base : Nat) (w : World) (g k : Nat) (ms : List Mk) (G cc : Nat → Nat) (lo hi : Nat) : Prop where
  blk : FB w g (ms.length * 2) (markC ms G cc k) 29
  rows : ∀ i, i < k → IRow base w (G i) (cc i) (mat ms i)
  rise : ∀ i j, i < j → j < k → G i < G j
  within : ∀ i, i < k → lo ≤ G i ∧ G i < hi
  top : hi ≤ w.heap.size
  ge : base ≤ g
  out : g < lo
theorem OPart.own {base : Nat} {w : World} {g : Nat} {ms : List Mk} {G cc : Nat → Nat} {lo hi : Nat} (h : OPart base w g ms.length ms G cc lo hi) (hn : ms.length ≤ maxLen) : MOwn base w g ms.length (dsOf ms G cc) := by
  refine ⟨?_, fun i hi' => ?_, fun i hi' => ?_, fun i j hi' hj' hne => ?_⟩
  · rw [dsOf_cells, dsOf_len]
    exact h.blk.own h.ge hn
  · rw [dsOf_len] at hi'
    rw [dsOf_at hi']
    exact h.rows i hi'
  · rw [dsOf_len] at hi'
    rw [dsOf_at hi']
    have := h.within i hi'
    have := h.out
    show G i ≠ g
    omega
  · rw [dsOf_len] at hi' hj'
    rw [dsOf_at hi', dsOf_at hj']
    show G i ≠ G j
    rcases Nat.lt_or_ge i j with e | e
    · have := h.rise i j e hj'; omega
    · have := h.rise j i (by omega) hi'; omega
theorem IRow.far15 {base : Nat} {w : World} {g c q : Nat} {xs : List Int} (h : IRow base w g c xs) (hq : q ≠ g) (i : Nat) (v : Value) : IRow base (w.setCell ⟨q, i, none⟩ v) g c xs := h.kept (grown_setCell w q i v) (fun e => by injection e with e; exact hq e.symm)
theorem OPart.start {base : Nat} {w : World} {g : Nat} {ms : List Mk} (h : FB w g (ms.length * 2) zeroM 29) (hb : base ≤ g) : OPart base w g 0 ms (fun _ => 0) (fun _ => 0) (w.heap.size) (w.heap.size) :=
  ⟨h.congr (fun i _ => by unfold markC; rw [if_neg (by omega)]), fun i hi => by omega, fun i j _ hj => by omega, fun i hi => by omega, Nat.le_refl _, hb, h.lt⟩
theorem OPart.next {base : Nat} {w w' : World} {g k : Nat} {ms : List Mk} {G cc : Nat → Nat} {lo hi : Nat} (h : OPart base w g k ms G cc lo hi) (L : Below w.heap.size w w') : OPart base w' g k ms G cc lo hi :=
  ⟨h.blk.next L, fun i hi' => (h.rows i hi').below L, h.rise, h.within, Nat.le_trans h.top L.size, h.ge, h.out⟩
theorem OPart.far {base : Nat} {w : World} {g k q : Nat} {ms : List Mk} {G cc : Nat → Nat} {lo hi : Nat} (h : OPart base w g k ms G cc lo hi) (hq : q ≠ g) (hq2 : q < lo ∨ hi ≤ q) (i : Nat) (v : Value) : OPart base (w.setCell ⟨q, i, none⟩ v) g k ms G cc lo hi :=
  ⟨h.blk.far hq i v, fun j hj => (h.rows j hj).far15 (by have := h.within j hj; omega) i v, h.rise, h.within, by rw [setCell_size]; exact h.top, h.ge, h.out⟩
theorem OPart.step {base : Nat} {w w' : World} {g k h0 c : Nat} {ms : List Mk} {G cc : Nat → Nat} {lo hi : Nat} (h : OPart base w g k ms G cc lo hi) (L : Below w.heap.size w w') (hr : IRow w.heap.size w' h0 c (mat ms k)) (hb : base ≤ w.heap.size) (hlo : lo ≤ w.heap.size) :
    OPart base ((w'.setCell ⟨g, k * 2, none⟩ (.int .i64 (mid ms k))).setCell ⟨g, k * 2 + 1, none⟩ (.slice (some ⟨h0, 0, none⟩) (mat ms k).length c)) g (k + 1) ms (updN G k h0) (updN cc k c) lo w'.heap.size := by
  have hN := h.next L
  have hg := h.blk.lt
  have hl := hr.lt
  have htop := h.top
  refine ⟨((hN.blk.set (k * 2) _).set (k * 2 + 1) _).congr (fun j hj => ?_), fun i hi' => ?_, fun i j hij hj => ?_, fun i hi' => ?_, by simp [World.setCell], h.ge, h.out⟩
  · unfold updV markC
    by_cases e1 : j = k * 2 + 1
    · rw [if_pos e1, if_pos (by omega), if_neg (by omega)]
      have : j / 2 = k := by omega
      rw [this]
      simp [updN]
    · rw [if_neg e1]
      by_cases e2 : j = k * 2
      · rw [if_pos e2, if_pos (by omega), if_pos (by omega)]
        have : j / 2 = k := by omega
        rw [this]
      · rw [if_neg e2]
        by_cases e3 : j / 2 < k
        · have : j / 2 ≠ k := by omega
          have e4 : j / 2 < k + 1 := by omega
          simp [updN, this, e3, e4]
        · rw [if_neg e3, if_neg (by omega)]
  · unfold updN
    by_cases e : i = k
    · rw [if_pos e, if_pos e, e]
      exact (((hr.far15 (by omega) _ _).far15 (by omega) _ _).mono hb)
    · rw [if_neg e, if_neg e]
      have hw := h.within i (by omega)
      have ho := h.out
      exact ((hN.rows i (by omega)).far15 (by omega) _ _).far15 (by omega) _ _
  · unfold updN
    by_cases e : j = k
    · rw [if_pos e, if_neg (by omega)]
      have := h.within i (by omega)
      omega
    · rw [if_neg (by omega), if_neg e]
      exact h.rise i j hij (by omega)
  · unfold updN
    by_cases e : i = k
    · rw [if_pos e]; omega
    · rw [if_neg e]
      have := h.within i (by omega)
      have := L.size
      omega

theorem OPart.raise {base : Nat} {w : World} {g k : Nat} {ms : List Mk} {G cc : Nat → Nat} {lo hi H : Nat} (h : OPart base w g k ms G cc lo hi) (h1 : hi ≤ H) (h2 : H ≤ w.heap.size) : OPart base w g k ms G cc lo H :=
  ⟨h.blk, h.rows, h.rise, fun i hi' => by have := h.within i hi'; omega, h2, h.ge, h.out⟩

/-- Lists of links of the call's own, each nothing or in a block of its own from lo on. -/
structure NM (base : Nat) (w : World) (g n : Nat) (V : Nat → Value) (X : Nat → List Int) (lo : Nat) : Prop where
  blk : FB w g n V 27
  own : ∀ i, i < n → w.ownsRow lo 2 1 (V i) (X i).length ((X i).map (Value.int .i64))
  apart : ∀ i j, i < n → j < n → i ≠ j → (V i).ownBlock = none ∨ (V i).ownBlock ≠ (V j).ownBlock
  ge : base ≤ g
  out : g < lo
  top : lo ≤ w.heap.size
theorem own_same15 {w w' : World} {b : Nat} {v : Value} {n : Nat} {xs : List Value} (h : w.ownsRow b 2 1 v n xs) (e : ∀ g, v.ownBlock = some g → w'.heap[g]? = w.heap[g]?) : w'.ownsRow b 2 1 v n xs := by
  obtain ⟨h1, h2 | ⟨g, cap, cur, rfl, hb, hg, h3⟩⟩ := h
  · exact ⟨h1, Or.inl h2⟩
  · exact ⟨h1, Or.inr ⟨g, cap, cur, rfl, hb, (e g rfl).trans hg, h3⟩⟩
theorem own_lt15 {w : World} {b : Nat} {v : Value} {n : Nat} {xs : List Value} (h : w.ownsRow b 2 1 v n xs) {g : Nat} (e : v.ownBlock = some g) : b ≤ g ∧ g < w.heap.size := World.ownsRow.lt h g e
theorem own_mono15 {w : World} {b b' : Nat} {v : Value} {n : Nat} {xs : List Value} (h : w.ownsRow b 2 1 v n xs) (hb : b' ≤ b) : w.ownsRow b' 2 1 v n xs :=
  ⟨h.1, h.2.imp id fun ⟨g, cap, cur, h1, h2, h3⟩ => ⟨g, cap, cur, h1, Nat.le_trans hb h2, h3⟩⟩
theorem own_form15 {w : World} {b : Nat} {v : Value} {xs : List Int} (h : w.ownsRow b 2 1 v xs.length (xs.map (Value.int .i64))) : ∃ a c, v = .slice a xs.length c ∧ View w a xs := by
  obtain ⟨h1, ⟨rfl, h2⟩ | ⟨g, cap, cur, rfl, h3⟩⟩ := h
  · exact ⟨none, 0, by rw [h2], Or.inl (List.length_eq_zero_iff.1 h2)⟩
  · have hr : IRow b w g cap xs := ⟨h1, Or.inr ⟨g, cap, cur, rfl, h3⟩⟩
    exact ⟨some ⟨g, 0, none⟩, cap, rfl, hr.view⟩
theorem NM.next {base : Nat} {w w' : World} {g n : Nat} {V : Nat → Value} {X : Nat → List Int} {lo : Nat} (h : NM base w g n V X lo) (L : Below w.heap.size w w') : NM base w' g n V X lo :=
  ⟨h.blk.next L, fun i hi => own_same15 (h.own i hi) (fun q e => L.block q (own_lt15 (h.own i hi) e).2), h.apart, h.ge, h.out, Nat.le_trans h.top L.size⟩
theorem NM.view {base : Nat} {w : World} {g n : Nat} {V : Nat → Value} {X : Nat → List Int} {lo : Nat} (h : NM base w g n V X lo) : CView w (some ⟨g, 0, none⟩) ((List.range n).map X) := by
  refine Or.inr ⟨g, 0, rfl, h.blk.lt, fun i hi => ?_⟩
  have hi' : i < n := by simpa using hi
  obtain ⟨a, c, e, hv⟩ := own_form15 (h.own i hi')
  have ec : cn ((List.range n).map X) i = X i := by simp [cn, List.getD, hi']
  rw [ec, Nat.zero_add]
  exact ⟨a, c, (h.blk.cell hi').trans (by rw [e]), hv⟩
theorem NM.start {base : Nat} {w : World} {g n : Nat} (h : FB w g n (fun _ => .slice none 0 0) 27) (hb : base ≤ g) {lo : Nat} (hlo : g < lo) (ht : lo ≤ w.heap.size) : NM base w g n (fun _ => .slice none 0 0) (fun _ => []) lo :=
  ⟨h, fun _ _ => ⟨rfl, Or.inl ⟨rfl, rfl⟩⟩, fun _ _ _ _ _ => Or.inl rfl, hb, hlo, ht⟩
theorem NM.congr {base : Nat} {w : World} {g n : Nat} {V : Nat → Value} {X Y : Nat → List Int} {lo : Nat} (h : NM base w g n V X lo) (e : ∀ i, i < n → X i = Y i) : NM base w g n V Y lo :=
  ⟨h.blk, fun i hi => by rw [← e i hi]; exact h.own i hi, h.apart, h.ge, h.out, h.top⟩
theorem NM.far {base : Nat} {w : World} {g n q : Nat} {V : Nat → Value} {X : Nat → List Int} {lo : Nat} (h : NM base w g n V X lo) (hq : q ≠ g) (hq2 : q < lo) (i : Nat) (v : Value) : NM base (w.setCell ⟨q, i, none⟩ v) g n V X lo :=
  ⟨h.blk.far hq i v, fun j hj => own_same15 (h.own j hj) (fun b e => Below.heap_setCell w ⟨q, i, none⟩ v b (fun e' => by have := own_lt15 (h.own j hj) e; have : b = q := e'; omega)), h.apart, h.ge, h.out, by rw [setCell_size]; exact h.top⟩
def updX (f : Nat → List Int) (m : Nat) (v : List Int) (i : Nat) : List Int := if i = m then v else f i
/-- A list is put in place of another one: it is nothing, the same block, or a new one. -/
theorem NM.put {base : Nat} {w w' : World} {g n : Nat} {V : Nat → Value} {X : Nat → List Int} {lo : Nat} (h : NM base w g n V X lo) {m : Nat} (hm : m < n) {v : Value} {xs : List Int} (ho : w'.ownsRow lo 2 1 v xs.length (xs.map (Value.int .i64)))
    (hg : w.grownBy w' (V m).ownBlock) (hat : v.ownBlock = none ∨ v.ownBlock = (V m).ownBlock ∨ ∃ q, v.ownBlock = some q ∧ w.heap.size ≤ q) : NM base (w'.setCell ⟨g, m, none⟩ v) g n (updV V m v) (updX X m xs) lo := by
  have hgl := h.blk.lt
  have hout := h.out
  have hVm : ∀ q, (V m).ownBlock = some q → lo ≤ q ∧ q < w.heap.size := fun q e => own_lt15 (h.own m hm) e
  have hs : ∀ i, i ≠ g → (w'.setCell ⟨g, m, none⟩ v).heap[i]? = w'.heap[i]? := fun i hi => Below.heap_setCell w' ⟨g, m, none⟩ _ i (fun e => hi e)
  have hb' : FB w' g n V 27 := h.blk.same (hg.block g hgl (fun e => by have := hVm g e.symm; omega))
  refine ⟨hb'.set m v, fun i hi => ?_, fun i j hi hj hij => ?_, h.ge, hout, by rw [setCell_size]; exact Nat.le_trans h.top hg.size⟩
  · unfold updV updX
    by_cases e : i = m
    · rw [if_pos e, if_pos e]
      exact own_same15 ho (fun q eq => hs q (by have := own_lt15 ho eq; omega))
    · rw [if_neg e, if_neg e]
      refine own_same15 (h.own i hi) (fun q eq => ?_)
      have hq := own_lt15 (h.own i hi) eq
      refine (hs q (by omega)).trans (hg.block q hq.2 (fun e' => ?_))
      rcases h.apart i m hi hm e with h1 | h1
      · rw [h1] at eq; cases eq
      · exact h1 (eq.trans e')
  · unfold updV
    have key : ∀ k, k < n → k ≠ m → (V k).ownBlock = none ∨ (V k).ownBlock ≠ v.ownBlock := fun k hk hne => by
      rcases hat with e | e | ⟨q, e, hq⟩
      · rcases h.apart k m hk hm hne with h1 | h1
        · exact Or.inl h1
        · by_cases hn : (V k).ownBlock = none
          · exact Or.inl hn
          · exact Or.inr (fun e' => hn (e'.trans e))
      · rcases h.apart k m hk hm hne with h1 | h1
        · exact Or.inl h1
        · exact Or.inr (fun e' => h1 (e'.trans e))
      · refine Or.inr (fun e' => ?_)
        have := own_lt15 (h.own k hk) (e'.trans e)
        omega
    by_cases e1 : i = m
    · rw [if_pos e1, if_neg (by omega)]
      rcases key j hj (by omega) with h1 | h1
      · by_cases hn : v.ownBlock = none
        · exact Or.inl hn
        · exact Or.inr (fun e' => hn (e'.trans h1))
      · exact Or.inr (fun e' => h1 e'.symm)
    · rw [if_neg e1]
      by_cases e2 : j = m
      · rw [if_pos e2]; exact key i hi e1
      · rw [if_neg e2]; exact h.apart i j hi hj hij
end Go.Proofs.YtaaagmgglolibaaGreat
namespace Go.Proofs.YtaaagmgglolibaaGreat
open Go

theorem insI_last {l : List Int} {x : Int} (h : ∀ y ∈ l, y < x) : insI l x = l ++ [x] := by
  induction l with
  | nil => rfl
  | cons a l ih =>
    have h1 := h a (by simp)
    simp only [insI]
    rw [if_pos (by omega)] <;> first | (rw [ih (fun y hy => h y (by simp [hy]))]; rfl) | skip
/-- The lists behind the first t of those that are near. -/
def lkX (ms : List Mk) (ls : List (List Int)) (ids : List Int) (x : Int) (t i : Nat) : List Int := if i < ms.length then lnkI ms ls (ids.take t) x i else ownI (ids.take t)
theorem lkX_start {ms : List Mk} {ls : List (List Int)} (hl : ls.length = ms.length) (ids : List Int) (x : Int) {i : Nat} (hi : i < ms.length + 1) : cn (ls ++ [[]]) i = lkX ms ls ids x 0 i := by
  unfold lkX
  by_cases h : i < ms.length
  · rw [if_pos h]
    simp [lnkI, hasB, cn, List.getD, List.getElem?_append_left (show i < ls.length by omega)]
  · rw [if_neg h]
    obtain rfl : i = ms.length := by omega
    simp [ownI, cn, List.getD, ← hl]
theorem lkX_end (ms : List Mk) (ls : List (List Int)) (ids : List Int) (x : Int) {i : Nat} (hi : i < ms.length + 1) : lkX ms ls ids x ids.length i = cn (lnkL ms ls ids x) i := by
  unfold lkX
  rw [List.take_length]
  by_cases h : i < ms.length
  · rw [if_pos h, lnkL_at h]
  · rw [if_neg h, show i = ms.length by omega, lnkL_last]
theorem snoc_lt {ms : List Mk} {m : Mk} (hm : marksB (ms ++ [m]) = true) : ∀ j, j < ms.length → mid ms j < m.1 := by
  have key : ∀ k, k ≤ ms.length → ∀ j, j < k → mid (ms ++ [m]) j < mid (ms ++ [m]) k := by
    intro k
    induction k with
    | zero => intro _ j hj; omega
    | succ k ih =>
      intro hk j hj
      have h1 := ((mOkAt_iff _ _).1 (marksB_at hm (i := k + 1) (by simp; omega))).2.2.2.2
      rcases h1 with h1 | h1
      · omega
      · rw [show k + 1 - 1 = k by omega] at h1
        rcases Nat.lt_or_ge j k with e | e
        · have := ih (by omega) j e; omega
        · rw [show j = k by omega]; exact h1
  intro j hj
  have := key ms.length (Nat.le_refl _) j hj
  rw [mid_snoc hj, mid_last] at this
  exact this
theorem snoc_find {ms : List Mk} {m : Mk} (hm : marksB (ms ++ [m]) = true) {j : Nat} (hj : j < ms.length) : 0 ≤ zFind (ms ++ [m]) (mid ms j) ∧ zIdx (ms ++ [m]) (mid ms j) = j := by
  have := zFind_mid hm (i := j) (by simp; omega)
  rw [mid_snoc hj] at this
  exact ⟨by omega, this.2⟩
theorem snoc_last {ms : List Mk} {m : Mk} (hm : marksB (ms ++ [m]) = true) : 0 ≤ zFind (ms ++ [m]) m.1 ∧ zIdx (ms ++ [m]) m.1 = ms.length := by
  have := zFind_mid hm (i := ms.length) (by simp)
  rw [mid_last] at this
  exact ⟨by omega, this.2⟩
/-- One step: what is asked of both links, and what they come to. -/
theorem lkX_step {ms : List Mk} {ls : List (List Int)} {m : Mk} (hw : webB ms ls = true) (hm : marksB (ms ++ [m]) = true) {ids : List Int} (hd : ids.Nodup) (hf : ∀ y ∈ ids, 0 ≤ zFind ms y) {t : Nat} (ht : t < ids.length) :
    ∃ j, j < ms.length ∧ nth ids t = mid ms j ∧ lkX ms ls ids m.1 t j = cn ls j ∧ (cn ls j).Pairwise (fun a b => a < b) ∧ m.1 ∉ cn ls j ∧ (cn ls j).length ≤ 60 ∧ (ownI (ids.take t)).Pairwise (fun a b => a < b) ∧ nth ids t ∉ ownI (ids.take t) ∧ (ownI (ids.take t)).length ≤ 60 ∧
      ∀ i, updX (updX (lkX ms ls ids m.1 t) j (insI (cn ls j) m.1)) ms.length (insI (ownI (ids.take t)) (nth ids t)) i = lkX ms ls ids m.1 (t + 1) i ∨ ms.length < i := by
  have hmem : nth ids t ∈ ids := by simp [nth, List.getD, ht]
  obtain ⟨a, b, c⟩ := zIdx_lt (hf _ hmem)
  have hms := web_marks hw
  have h60 := marksB_len hms
  have hnt := nodup_take hd ht
  have hlt : ∀ y ∈ cn ls (zIdx ms (nth ids t)), y < m.1 := fun y hy => by
    obtain ⟨h1, h2, h3, -⟩ := web_link hw a hy
    have := snoc_lt hm _ h2
    rw [h3] at this
    exact this
  have hlk : lnkI ms ls (ids.take t) m.1 (zIdx ms (nth ids t)) = cn ls (zIdx ms (nth ids t)) := by
    unfold lnkI
    rw [if_neg]
    rw [c, hasB_iff]
    exact hnt
  refine ⟨zIdx ms (nth ids t), a, c.symm, by unfold lkX; rw [if_pos a, hlk], rise_pairs (web_rise hw a), fun h => by have := hlt _ h; omega, by have := links_short hw a; omega, (ownI_fold _ [] List.Pairwise.nil).1, by rw [ownI_mem]; exact hnt, ?_, fun i => ?_⟩
  · have h1 := fold_len14 (ids.take t) []
    have h2 := ids_short hd hf
    unfold ownI
    simp at h1
    omega
  · rcases Nat.lt_or_ge ms.length i with h | h
    · exact Or.inr h
    · left
      unfold updX lkX
      by_cases e1 : i = ms.length
      · rw [if_pos e1, if_neg (by omega)]
        unfold ownI
        rw [List.take_add_one, List.getElem?_eq_getElem ht, List.foldl_append]
        simp [nth, List.getD, ht]
      · have hi : i < ms.length := by omega
        rw [if_neg e1]
        by_cases e2 : i = zIdx ms (nth ids t)
        · rw [if_pos e2, if_pos hi, insI_last hlt, e2]
          unfold lnkI
          rw [if_pos]
          rw [c, hasB_iff, take_mem ht]
          exact Or.inr rfl
        · rw [if_neg e2, if_pos hi, if_pos hi]
          unfold lnkI
          have : hasB (ids.take (t + 1)) (mid ms i) = hasB (ids.take t) (mid ms i) := by
            rw [Bool.eq_iff_iff, hasB_iff, hasB_iff, take_mem ht]
            constructor
            · rintro (h1 | h1)
              · exact h1
              · exfalso
                apply e2
                rw [← h1, (zFind_mid hms hi).2]
            · exact Or.inl
          rw [this]
end Go.Proofs.YtaaagmgglolibaaGreat
