/-
  The program's keep: one more hit among the nearest, of which only so many are kept.
-/
import Derived.Test.YtodielfilhodeaaKSrchZz
import Derived.Test.YtodielfilhodeaaLastZz
namespace Go.Proofs.Ytodielfilhodeaa
open Go Go.RowKit

theorem Five.set3 {w : World} {p : Nat} {a b c d e : Value} {t : TypeId} (h : Five w p a b c d e t) (x : Value) : Five (w.setCell ⟨p, 3, none⟩ x) p a b c x e t := by
  unfold Five World.setCell at *
  simp only [Array.getElem?_modify, if_true, h]
  rfl
theorem HRow.take {base : Nat} {w : World} {g c : Nat} {hs : List Ht} (h : HRow base w g c hs) (m : Nat) (hm : m ≤ hs.length) : HRow base w g c (hs.take m) := by
  obtain ⟨S, hg, hSl, hb, hnc, hcm⟩ := hrow_cells h
  have e : hCells hs ++ S = hCells (hs.take m) ++ (hCells (hs.drop m) ++ S) := by rw [← List.append_assoc, ← hCells_append, List.take_append_drop]
  rw [e] at hg
  refine hrow_of hg ?_ hb (by simp; omega) hcm
  rw [List.length_append, hCells_length, hSl]
  simp
  omega

theorem own_below {base e size n : Nat} {w w' : World} {v : Value} {xs : List Value} (h : w.ownsRow base e size v n xs) (hb : Below w.heap.size w w') : w'.ownsRow base e size v n xs := by
  obtain ⟨h1, h2⟩ := h
  refine ⟨h1, ?_⟩
  rcases h2 with h2 | ⟨g, cp, cur, e1, hb1, hg, h5⟩
  · exact Or.inl h2
  · exact Or.inr ⟨g, cp, cur, e1, hb1, (hb.block g (Array.getElem?_eq_some_iff.1 hg).1).trans hg, h5⟩

set_option maxRecDepth 100000 in
set_option maxHeartbeats 4000000 in
theorem iKeep (B0 P base c k : Nat) (a : Option Addr) (hs : List Ht) (h : Ht) (kn qv lv : Value) (w : World) (hP : Five w P kn qv (.int .i64 k) (.slice a hs.length c) lv 98) (hr : w.ownsRow base 154 2 (.slice a hs.length c) hs.length (hCells hs)) (hso : SortedH hs) (hn : hs.length ≤ 59) (hB : B0 ≤ P) (hPb : P < base) (hbw : base ≤ w.heap.size) :
    Calls Try.prog 174 #[.pointer (some ⟨P, 0, none⟩), .agg #[.int .i64 h.1, .int .i64 h.2]] w fun e w' => e = .returned (.tuple #[]) ∧ (∃ g c', Five w' P kn qv (.int .i64 k) (.slice (some ⟨g, 0, none⟩) ((putL hs h).take k).length c') lv 98 ∧ HRow base w' g c' ((putL hs h).take k) ∧ ((Value.slice a hs.length c).ownBlock = some g ∨ w.heap.size ≤ g)) ∧ Below B0 w w' ∧ ∀ b, b < w.heap.size → b ≠ P → (Value.slice a hs.length c).ownBlock ≠ some b → w'.heap[b]? = w.heap[b]? := by
  have HOB : Hid (∀ g0, (Value.slice a hs.length c).ownBlock = some g0 → base ≤ g0 ∧ g0 < w.heap.size) := fun g0 h0 => World.ownsRow.lt hr g0 h0
  obtain ⟨W1, hW1⟩ : ∃ W, W = w.alloc (.cells #[.pointer (some ⟨P, 0, none⟩)] 99) := ⟨_, rfl⟩
  obtain ⟨W2, hW2⟩ : ∃ W, W = W1.alloc (.cells #[.int .i64 h.1, .int .i64 h.2] 154) := ⟨_, rfl⟩
  have hz1 : W1.heap.size = w.heap.size + 1 := by rw [hW1]; simp
  have M1 : Below w.heap.size w W1 := by rw [hW1]; exact alloc_below w _
  have M2 : Below W1.heap.size W1 W2 := by rw [hW2]; exact alloc_below W1 _
  have L2 := chain M1 M2
  have A2 : Two W2 (w.heap.size + 1) (.int .i64 h.1) (.int .i64 h.2) 154 := by rw [hW2, ← hz1]; exact Two.new W1 _ _ _
  have S1 : W1.cell? ⟨w.heap.size, 0, none⟩ = some (.pointer (some ⟨P, 0, none⟩)) := by rw [hW1]; simp [go_sem]
  have S2 : W2.cell? ⟨w.heap.size, 0, none⟩ = some (.pointer (some ⟨P, 0, none⟩)) := (M2.cell (p := ⟨w.heap.size, 0, none⟩) (by show w.heap.size < _; omega)).trans S1
  have P2 := hP.below L2
  have hr2 : W2.ownsRow base 154 2 (.slice a hs.length c) hs.length (hCells hs) := own_below hr L2
  have hvw : HView W2 a hs := by
    have hr2' := hr2
    obtain ⟨_, h2⟩ := hr2'
    rcases h2 with ⟨e, e2⟩ | ⟨g', cp, cur, e, _⟩
    · exact Or.inl (List.length_eq_zero_iff.1 e2)
    · injection e with e1
      subst e1
      have hrow : HRow base W2 g' c hs := hr2
      exact hrow.view
  have HSR := hidP (iSearchK (w.heap.size + 1) w.heap.size P h a c hs kn qv (.int .i64 k) lv W2 A2 S2 P2 hvw hso (by omega))
  obtain ⟨p0, p1, p2, p3, p4⟩ := P2.cells
  have HST := hidP (And.intro A2 (And.intro S2 (And.intro P2 (And.intro hr2 L2))))
  have s2 := S2
  have hpl := posH_le h hs
  have HPUT := hidP (putL_pos hs h)
  have hzW2 : W2.heap.size = w.heap.size + 2 := by rw [hW2]; simp [hz1]
  clear M1 M2 L2 A2 S1 S2 P2 hr2 hvw hz1 hP hr
  subst hW2
  subst hW1
  generalize posH h hs = p at *
  go_enter Try.func174, Try.ntmps174
  go_wp2_with fail
  refine HSR.out.mono ?_
  rintro e w3 ⟨rfl, L3⟩
  obtain ⟨A2, S2, P2, hr2, L2⟩ := HST.out
  have A3 := A2.below L3
  have S3 := (L3.cell (p := ⟨w.heap.size, 0, none⟩) (by show w.heap.size < _; omega)).trans S2
  have P3 := P2.below L3
  have hr3 : w3.ownsRow base 154 2 (.slice a hs.length c) hs.length (hCells hs) := own_below hr2 L3
  have LL3 := chain L2 L3
  have hz3 : w.heap.size + 2 ≤ w3.heap.size := by have := L3.size; omega
  have a0 := A3.c0
  have a1 := A3.c1
  obtain ⟨q0, q1, q2, q3, q4⟩ := P3.cells
  have hPl := P3.lt
  obtain ⟨W4, hW4⟩ : ∃ W, W = (w3.alloc (.cells #[.int .i64 h.1, .int .i64 h.2] 154)).drew := ⟨_, rfl⟩
  have L4 : Below w3.heap.size w3 W4 := by rw [hW4]; exact ((Below.refl w3.heap.size w3).alloc (Nat.le_refl _) _).drew
  have V4 : Two W4 w3.heap.size (.int .i64 h.1) (.int .i64 h.2) 154 := by rw [hW4]; exact (show Two (w3.alloc (.cells #[.int .i64 h.1, .int .i64 h.2] 154)) w3.heap.size (.int .i64 h.1) (.int .i64 h.2) 154 from Two.new w3 _ _ _)
  have hz4 : W4.heap.size = w3.heap.size + 1 := by rw [hW4]; simp
  have HINS := hidP (iInsert base c p w3.heap.size a hs h W4 (own_below hr3 L4) V4 (fun e => by have := (HOB.out _ e).2; omega) hpl (by omega) (by omega))
  have P4 := P3.below L4
  have HS4 : Hid (W4.cell? ⟨w.heap.size, 0, none⟩ = some (.pointer (some ⟨P, 0, none⟩)) ∧ W4.cell? ⟨P, 3, none⟩ = some (.slice a hs.length c) ∧ W4.cell? ⟨w.heap.size + 1, 0, none⟩ = some (.int .i64 h.1) ∧ W4.cell? ⟨w.heap.size + 1, 1, none⟩ = some (.int .i64 h.2)) :=
    ⟨(L4.cell (p := ⟨w.heap.size, 0, none⟩) (by show w.heap.size < _; omega)).trans S3, (L4.cell (p := ⟨P, 3, none⟩) hPl).trans q3, (L4.cell (p := ⟨w.heap.size + 1, 0, none⟩) (by show w.heap.size + 1 < _; omega)).trans a0, (L4.cell (p := ⟨w.heap.size + 1, 1, none⟩) (by show w.heap.size + 1 < _; omega)).trans a1⟩
  have HP4 := hidP (And.intro P4 (chain LL3 L4))
  clear L4 V4 P4
  have HP3 := hidP (And.intro A3 (And.intro S3 (And.intro P3 (And.intro hr3 LL3))))
  clear A2 S2 P2 hr2 L2 A3 P3 hr3 LL3 L3 HSR HST p0 p1 p2 p3 p4 s2
  go_wp2_with fail
  refine wp_region_calm2 (S := fun w' => w'.cell? ⟨w.heap.size, 0, none⟩ = some (.pointer (some ⟨P, 0, none⟩)) ∧ w'.cell? ⟨P, 3, none⟩ = some (.slice a hs.length c) ∧ w'.cell? ⟨w.heap.size + 1, 0, none⟩ = some (.int .i64 h.1) ∧ w'.cell? ⟨w.heap.size + 1, 1, none⟩ = some (.int .i64 h.2)) (fuel := 4)
    [0, 1, 2, 3, 4, 5, 6] _ rfl (by kernel_rfl) (by kernel_rfl) (by kernel_rfl) (by kernel_rfl) (by kernel_rfl) (by kernel_rfl) (by kernel_rfl) ⟨S3, q3, a0, a1⟩ (fun hS => ?_)
  iterate 7
    refine ⟨_, rfl, ?_⟩
    apply Exists.intro
    refine ⟨Or.inl ⟨by rfl, fun w' hw' => ?_⟩, ?_⟩
    · first
      | (go_simp; done)
      | (go_simp; with_reducible rfl)
    simp only [Act.put, List.setIfInBounds_toArray]
  refine calm_one 7 (by kernel_rfl) rfl (fun K hK => ?_)
  go_simp
  rw [← hW4]
  clear hW4
  refine hK.out _ _ HS4.out (fun _ => ?_)
  clear hK K
  refine calm_one 8 (by kernel_rfl) rfl (fun K hK => ?_)
  go_simp
  refine HINS.out.mono ?_
  rintro e w5 ⟨g, G, rfl, hrow5, hgr5, hat5⟩
  rw [← HPUT.out] at hrow5
  have hkeep : ∀ b o, b < W4.heap.size → (∀ g0, (Value.slice a hs.length c).ownBlock = some g0 → b ≠ g0) → w5.cell? ⟨b, o, none⟩ = W4.cell? ⟨b, o, none⟩ := fun b o hb hne => by
    simp only [World.cell?, hgr5.block b hb (fun e => hne b e.symm rfl)]
  have hSk := hkeep w.heap.size 0 (by omega) (fun g0 h0 => by have := (HOB.out g0 h0).2; omega)
  have hPk := hkeep P 3 (by omega) (fun g0 h0 => by have := (HOB.out g0 h0).1; omega)
  have hAk := hkeep (w.heap.size + 1) 0 (by omega) (fun g0 h0 => by have := (HOB.out g0 h0).2; omega)
  have hAk1 := hkeep (w.heap.size + 1) 1 (by omega) (fun g0 h0 => by have := (HOB.out g0 h0).2; omega)
  have P5 : Five w5 P kn qv (.int .i64 k) (.slice a hs.length c) lv 98 := (hgr5.block P (by omega) (fun e => by have := (HOB.out P e.symm).1; omega)).trans HP4.out.1
  have s5 := hSk.trans HS4.out.1
  refine hK.out _ _ ⟨s5, hPk.trans HS4.out.2.1, hAk.trans HS4.out.2.2.1, hAk1.trans HS4.out.2.2.2⟩ (fun hS5 => ?_)
  clear hK K
  refine calm_one 9 (by kernel_rfl) rfl (fun K hK => ?_)
  go_simp
  refine hK.out _ _ hS5 (fun _ => ?_)
  clear hK K
  refine calm_one 10 (by kernel_rfl) rfl (fun K hK => ?_)
  go_simp
  refine hK.out _ _ hS5 (fun _ => ?_)
  clear hK K
  refine wpAnyH_done (by kernel_rfl) ?_ _
  simp only [Exit.then]
  have f5 := P5.frozen 3
  obtain ⟨_, _, _, r3, _⟩ := P5.cells
  go_wp2_with fail
  refine NoPanic.normal ?_
  obtain ⟨W6, hW6⟩ : ∃ W, W = w5.setCell ⟨P, 3, none⟩ (.slice (some ⟨g, 0, none⟩) (hs.length + 1) G) := ⟨_, rfl⟩
  rw [← hW6]
  have hgP : base ≤ g := hrow5.lt.1
  have P6 : Five W6 P kn qv (.int .i64 k) (.slice (some ⟨g, 0, none⟩) (hs.length + 1) G) lv 98 := by rw [hW6]; exact P5.set3 _
  have hgr6 : w5.grownBy W6 (some P) := by rw [hW6]; exact grown_setCell w5 P 3 _
  have hw5 : w.heap.size < w5.heap.size := by have := hgr5.size; omega
  have s6 : W6.cell? ⟨w.heap.size, 0, none⟩ = some (.pointer (some ⟨P, 0, none⟩)) := by
    have e : W6.heap[w.heap.size]? = w5.heap[w.heap.size]? := hgr6.block _ hw5 (fun e => by injection e with e; omega)
    rw [← s5]; simp only [World.cell?, e]
  have row6 : HRow base W6 g G (putL hs h) := hrow5.kept hgr6 (fun e => by injection e with e; omega)
  have hpl2 : (putL hs h).length = hs.length + 1 := putL_length hs h
  have L6 : Below B0 w W6 := by
    have L4 := HP4.out.2.mono (show B0 ≤ w.heap.size by omega)
    refine (L4.grown hgr5 (by omega) (fun q hq => by have := (HOB.out q hq).1; omega)).grown hgr6 (by omega) (fun q hq => by cases hq; exact hB)
  have FR6 : ∀ b, b < w.heap.size → b ≠ P → (Value.slice a hs.length c).ownBlock ≠ some b → W6.heap[b]? = w.heap[b]? := fun b hb hbP hbo =>
    (hgr6.block b (by omega) (fun e => by injection e with e; exact hbP e)).trans ((hgr5.block b (by omega) (fun e => hbo e.symm)).trans (HP4.out.2.block b hb))
  have hat6 : (Value.slice a hs.length c).ownBlock = some g ∨ w.heap.size ≤ g := hat5.imp id (fun e => by omega)
  have HE6 := hidP (And.intro row6 (And.intro L6 (And.intro FR6 hat6)))
  clear FR6 hat6
  obtain ⟨_, _, u2, u3, _⟩ := P6.cells
  have f6 := P6.frozen 3
  have HP6 := hidP P6
  have mixed : Try.prog.follows Departure.mixedOrders = true := by kernel_rfl
  obtain ⟨m, hm⟩ : ∃ m, m = min (hs.length + 1) k := ⟨_, rfl⟩
  have hG := hrow5.cap
  rw [hpl2] at hG
  have HTK : Hid (((putL hs h).take k).length = m ∧ (putL hs h).take k = (putL hs h).take m) := by
    refine ⟨by rw [List.length_take, hpl2, hm]; omega, ?_⟩
    rcases Nat.le_total k (hs.length + 1) with h1 | h1
    · rw [hm, Nat.min_eq_right h1]
    · rw [hm, Nat.min_eq_left h1, List.take_of_length_le (by omega), List.take_of_length_le (by omega)]
  have hmb : m ≤ hs.length + 1 := by omega
  have hmi : min ((hs.length : Int) + 1) (k : Int) = (m : Int) := by omega
  have hmG : min (hs.length + 1) k ≤ G := by omega
  clear hS5 hSk hPk hAk hAk1 hkeep hrow5 hgr5 hat5 P5 r3 f5 row6 L6 P6 hgr6 hW6 HP4 HP3 HS4 HINS s5 hS q0 q1 q2 q3 q4 a0 a1 S3
  simp only [Exit.then]
  go_wp2_with fail
  refine wp_region_calm2 (S := fun w' => w'.cell? ⟨w.heap.size, 0, none⟩ = some (.pointer (some ⟨P, 0, none⟩)) ∧ w'.cell? ⟨P, 3, none⟩ = some (.slice (some ⟨g, 0, none⟩) (hs.length + 1) G) ∧ w'.cell? ⟨P, 2, none⟩ = some (.int .i64 k)) (fuel := 2)
    [0, 1, 2, 3, 4, 5, 6, 7, 8, 9, 10, 11, 12, 13, 14, 15] _ rfl (by kernel_rfl) (by kernel_rfl) (by kernel_rfl) (by kernel_rfl) (by kernel_rfl) (by kernel_rfl) (by kernel_rfl) ⟨s6, u3, u2⟩ (fun hS => ?_)
  iterate 16
    refine ⟨_, rfl, ?_⟩
    apply Exists.intro
    refine ⟨Or.inl ⟨by rfl, fun w' hw' => ?_⟩, ?_⟩
    · first
      | (go_simp; done)
      | (go_simp; with_reducible rfl)
      | (go_simp; rw [if_pos hmG]; done)
      | (go_simp; rw [if_pos hmG]; with_reducible rfl)
    simp only [Act.put, List.setIfInBounds_toArray]
  refine calm_one 16 (by kernel_rfl) rfl (fun K hK => ?_)
  go_simp
  refine hK.out _ _ hS (fun _ => ?_)
  clear hK K
  refine calm_one 17 (by kernel_rfl) rfl (fun K hK => ?_)
  go_simp
  refine hK.out _ _ hS (fun _ => ?_)
  clear hK K
  refine wpAnyH_done (by kernel_rfl) ?_ _
  simp only [Exit.then]
  rw [← hm]
  have f6d : W6.drew.frozen? ⟨P, 3, none⟩ = false := f6
  have HFIN : Hid (∀ W7, W7 = W6.drew.setCell ⟨P, 3, none⟩ (.slice (some ⟨g, 0, none⟩) m G) → (∃ g c', Five W7 P kn qv (.int .i64 k) (.slice (some ⟨g, 0, none⟩) ((putL hs h).take k).length c') lv 98 ∧ HRow base W7 g c' ((putL hs h).take k) ∧ ((Value.slice a hs.length c).ownBlock = some g ∨ w.heap.size ≤ g)) ∧ Below B0 w W7 ∧ ∀ b, b < w.heap.size → b ≠ P → (Value.slice a hs.length c).ownBlock ≠ some b → W7.heap[b]? = w.heap[b]?) := by
    intro W7 e7
    obtain ⟨e1, e2⟩ := HTK.out
    obtain ⟨row6, L6, FR6, hat6⟩ := HE6.out
    have P6d : Five W6.drew P kn qv (.int .i64 k) (.slice (some ⟨g, 0, none⟩) (hs.length + 1) G) lv 98 := HP6.out
    have row6d : HRow base W6.drew g G (putL hs h) := row6
    have hgr7 : W6.drew.grownBy W7 (some P) := by rw [e7]; exact grown_setCell W6.drew P 3 _
    refine ⟨⟨g, G, ?_, ?_, hat6⟩, L6.drew.grown hgr7 (by have := L6.size; show B0 ≤ W6.heap.size; omega) (fun q hq => by cases hq; exact hB), fun b hb hbP hbo => (hgr7.block b (by have := L6.size; show b < W6.heap.size; omega) (fun e => by injection e with e; exact hbP e)).trans (FR6 b hb hbP hbo)⟩
    · rw [e1, e7]; exact P6d.set3 _
    · rw [e2]
      exact (row6d.take m (by omega)).kept hgr7 (fun e => by injection e with e; omega)
  go_wp2_with fail
  refine NoPanic.normal ?_
  exact bodyPost_end (v := .tuple #[]) (by simp [results, Try.results174, go_sem]) rfl ⟨rfl, HFIN.out _ (by rw [hm]; rfl)⟩

end Go.Proofs.Ytodielfilhodeaa
