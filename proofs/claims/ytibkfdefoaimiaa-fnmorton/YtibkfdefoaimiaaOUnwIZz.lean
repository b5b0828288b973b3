/-
  The program's Unweave: what the given one answers.
-/
import Derived.Test.YtibkfdefoaimiaaOIterZz
import Derived.Test.YtibkfdefoaimiaaORgn
import Derived.Test.YtibkfdefoaimiaaOUnwZz
import Derived.Test.YtibkfdefoaimiaaMovedSZz
namespace Go.Proofs.Ytibkfdefoaimiaa
open Go Go.RowKit Go.Shelf

attribute [local go_sem] Oper.semAt_some

/-- What the rounds leave: the row of n numbers behind the places that have come. -/
def uvL {m : Nat} (n c : Nat) (pre : List (Fin m)) : List Int := pre.foldl (fun xs s => xs.set (s.1 % n) ((((nth xs (s.1 % n)).toNat ||| bitN c s.1 * 2 ^ (s.1 / n) : Nat)) : Int)) (List.replicate n 0)
theorem uvL_snoc {m : Nat} (n c : Nat) (pre : List (Fin m)) (s : Fin m) : uvL n c (pre ++ [s]) = (uvL n c pre).set (s.1 % n) ((((nth (uvL n c pre) (s.1 % n)).toNat ||| bitN c s.1 * 2 ^ (s.1 / n) : Nat)) : Int) := by simp [uvL]
theorem uvL_len {m : Nat} (n c : Nat) (pre : List (Fin m)) : (uvL n c pre).length = n := by
  unfold uvL
  have : ∀ (pre : List (Fin m)) (xs : List Int), (pre.foldl (fun xs s => xs.set (s.1 % n) ((((nth xs (s.1 % n)).toNat ||| bitN c s.1 * 2 ^ (s.1 / n) : Nat)) : Int)) xs).length = xs.length := by
    intro pre
    induction pre with
    | nil => intro xs; rfl
    | cons s pre ih => intro xs; rw [List.foldl_cons, ih, List.length_set]
  rw [this, List.length_replicate]
theorem uvL_bits {n c : Nat} (hn : 0 < n) : ∀ k, k ≤ 10 * n → uvL n c (bitsL (10 * n) k) = uL n c k
  | 0, _ => by
    show List.replicate n 0 = uL n c 0
    apply List.ext_getElem
    · simp [uL_len]
    · intro i h1 h2; simp [uL, tabL, uF]
  | k + 1, h => by
    have hm := Nat.mod_lt k hn
    rw [bitsL_succ (by omega), uvL_snoc, uvL_bits hn k (by omega), uL_nth hm, Int.toNat_natCast]
    apply List.ext_getElem
    · simp [uL_len]
    · intro i h1 h2
      simp [uL_len] at h1 h2
      simp only [uL, tabL, List.getElem_set, List.getElem_map, List.getElem_range, uF]
      by_cases e : k % n = i
      · subst e; simp
      · rw [if_neg e, if_neg (fun h => e h.symm)]
/-- Each number stays from 0 to 1023. -/
theorem uvL_bd {n c : Nat} (hn : 0 < n) (pre : List (Fin (10 * n))) : ∀ k, 0 ≤ nth (uvL n c pre) k ∧ nth (uvL n c pre) k < 1024 := by
  have : ∀ (pre : List (Fin (10 * n))) (xs : List Int), (∀ k, 0 ≤ nth xs k ∧ nth xs k < 1024) → ∀ k, 0 ≤ nth (pre.foldl (fun xs s => xs.set (s.1 % n) ((((nth xs (s.1 % n)).toNat ||| bitN c s.1 * 2 ^ (s.1 / n) : Nat)) : Int)) xs) k ∧ nth (pre.foldl (fun xs s => xs.set (s.1 % n) ((((nth xs (s.1 % n)).toNat ||| bitN c s.1 * 2 ^ (s.1 / n) : Nat)) : Int)) xs) k < 1024 := by
    intro pre
    induction pre with
    | nil => intro xs h; exact h
    | cons s pre ih =>
      intro xs h
      rw [List.foldl_cons]
      refine ih _ (fun k => ?_)
      have hb := (uF_or_lt (c := c) hn s.2).2.1
      have hx := h (s.1 % n)
      have hlt : (nth xs (s.1 % n)).toNat ||| bitN c s.1 * 2 ^ (s.1 / n) < 2 ^ 10 := Nat.or_lt_two_pow (by omega) hb
      by_cases e : s.1 % n = k
      · by_cases hk : k < xs.length
        · simp only [nth, List.getD_eq_getElem?_getD, List.getElem?_set, e, hk, if_true]
          simp only [nth, List.getD_eq_getElem?_getD, e] at hlt
          simp only [Option.getD_some]
          omega
        · simp only [nth, List.getD_eq_getElem?_getD, List.getElem?_set, e, hk, if_true, if_false]
          simp
      · have := h k
        simp only [nth, List.getD_eq_getElem?_getD, List.getElem?_set, e, if_false] at this ⊢
        exact this
  exact this pre _ (fun k => by
    by_cases hk : k < n
    · simp [nth, hk]
    · simp [nth, hk])

theorem row_own {β : Type} (b : Nat) (f : β → List Int) : Go.Own (fun s W => Own W b (f s)) := fun s X Y row hs hg hrow => by
  refine (hg.block b hs.lt (fun e' => ?_)).trans hs
  obtain ⟨o, ho, hc⟩ := hrow b e'.symm
  rw [show X.heap[b]? = _ from hs] at ho
  cases ho
  cases hc

theorem Own.box {W : World} {b B t : Nat} {xs : List Int} {v : Value} (h : Own W b xs) (hb : Boxed W B t v) (hne : b ≠ B) (u : Value) : Own (W.setCell ⟨B, 0, none⟩ u) b xs :=
  ((grownBy_setCell' W B u).block b h.lt (fun e => hne (by cases e; rfl))).trans h

set_option maxRecDepth 100000 in
set_option maxHeartbeats 8000000 in
theorem iUnw_in (c n : Nat) (w : World) (h1 : 1 ≤ n) (h4 : n ≤ 4) (hc : c < 2 ^ (10 * n)) :
    Calls Try.prog 14 #[.int .i64 (c : Int), .int .i64 (n : Int)] w fun e w' => e = .returned (.slice (some ⟨w.heap.size + 1, 0, none⟩) n n) ∧ Own w' (w.heap.size + 1) (uL n c (10 * n)) ∧ Below w.heap.size w w' := by
  have HH := hidP (show bitsB (c : Int) (10 * n) = true by
    rw [bitsB_iff]
    have : ((c : Nat) : Int) < ((2 ^ (10 * n) : Nat) : Int) := Int.ofNat_lt.2 hc
    simp at this
    exact ⟨Int.natCast_nonneg _, this⟩)
  have HC := hidP (forty_le h4 hc)
  have HM := hidP (show (n : Int) * 10 = ((10 * n : Nat) : Int) by omega)
  clear hc
  have hmk := run_make_row' (P := Try.prog) 24 2 (.int .i64 0) 8 Try.underlying24 Try.info2 rfl .i64 .i64 n (by omega) (by omega)
  have hd1 : decide ((n : Int) < 1) = false := by simp; omega
  have hd2 : decide (4 < (n : Int)) = false := by simp; omega
  refine (callsIn_wide (n := 5)).1 ?_
  refine callsIn_of_wp_marks Try.func14 rfl trivial ?_ rfl
  simp only [Try.ntmps14, List.size_toArray, List.length_cons, List.length_nil, Nat.reduceAdd, Nat.reduceSub, Array.replicate_succ, Array.replicate_zero, List.push_toArray, List.append_toArray, List.nil_append, List.cons_append]
  gi_wp2_with first
    | (refine ⟨trivial, ?_⟩; gi_at_call 44; rw [HM.out]; refine (callsIn_wide.2 (iHas (c : Int) (10 * n) (by omega) _)).mono ?_; rintro e w' ⟨rfl, rfl⟩; rw [HH.out])
    | (refine ⟨trivial, ?_⟩; gi_at_call 40; rw [HM.out]; refine (callsIn_wide.2 (iBits (c : Int) ((10 * n : Nat) : Int) _)).mono ?_; rintro e w' ⟨rfl, rfl⟩)
  clear hmk
  obtain ⟨w3, hw3⟩ : ∃ w3, ((((w.alloc (.cells #[.int .i64 (n : Int)] 2)).alloc (.cells (madeCells #[.int .i64 0] n) 2)).alloc (.cells #[.slice (some ⟨w.heap.size + 1, 0, none⟩) n n] 24)).alloc (.cells #[.int .i64 (c : Int)] 2)).alloc (.cells #[.int .i64 (10 * (n : Int))] 2) = w3 := ⟨_, rfl⟩
  have hsz : w3.heap.size = w.heap.size + 5 := by rw [← hw3]; simp
  have b0 : Boxed w3 w.heap.size 2 (.int .i64 (n : Int)) := by rw [← hw3]; exact ((((Boxed.new w 2 _).alloc _).alloc _).alloc _).alloc _
  have o0 : Own w3 (w.heap.size + 1) (uvL n c ([] : List (Fin (10 * n)))) := by
    have e : rowC (uvL n c ([] : List (Fin (10 * n)))) = madeCells #[.int .i64 0] n := by
      rw [← uL_zero n c, ← uvL_bits (c := c) h1 0 (Nat.zero_le _)]; rfl
    have h := Own.new (w.alloc (.cells #[.int .i64 (n : Int)] 2)) (uvL n c ([] : List (Fin (10 * n))))
    rw [e, World.size_alloc] at h
    rw [← hw3]
    exact (Below.heap_alloc _ _ _ (by simp)).trans ((Below.heap_alloc _ _ _ (by simp)).trans ((Below.heap_alloc _ _ _ (by simp)).trans h))
  have bs : Boxed w3 (w.heap.size + 1 + 1) 24 (.slice (some ⟨w.heap.size + 1, 0, none⟩) n n) := by
    rw [← hw3]; have := Boxed.new ((w.alloc (.cells #[.int .i64 (n : Int)] 2)).alloc (.cells (madeCells #[.int .i64 0] n) 2)) 24 (.slice (some ⟨w.heap.size + 1, 0, none⟩) n n); rw [World.size_alloc, World.size_alloc] at this; exact (this.alloc _).alloc _
  have bx : Boxed w3 (w.heap.size + 1 + 1 + 1) 2 (.int .i64 (c : Int)) := by
    rw [← hw3]; have := Boxed.new (((w.alloc (.cells #[.int .i64 (n : Int)] 2)).alloc (.cells (madeCells #[.int .i64 0] n) 2)).alloc (.cells #[.slice (some ⟨w.heap.size + 1, 0, none⟩) n n] 24)) 2 (.int .i64 (c : Int)); rw [World.size_alloc, World.size_alloc, World.size_alloc] at this; exact this.alloc _
  have bm : Boxed w3 (w.heap.size + 1 + 1 + 1 + 1) 2 (.int .i64 ((10 * n : Nat) : Int)) := by
    rw [← hw3, show ((10 * n : Nat) : Int) = 10 * (n : Int) by omega]; have := Boxed.new ((((w.alloc (.cells #[.int .i64 (n : Int)] 2)).alloc (.cells (madeCells #[.int .i64 0] n) 2)).alloc (.cells #[.slice (some ⟨w.heap.size + 1, 0, none⟩) n n] 24)).alloc (.cells #[.int .i64 (c : Int)] 2)) 2 (.int .i64 (10 * (n : Int))); rw [World.size_alloc, World.size_alloc, World.size_alloc, World.size_alloc] at this; exact this
  have hB3 : Below w.heap.size w w3 := by rw [← hw3]; exact (((((Below.refl _ w).alloc (Nat.le_refl _) _).alloc (by simp) _).alloc (by simp; omega) _).alloc (by simp; omega) _).alloc (by simp; omega) _
  rw [hw3]
  clear hw3
  refine wpIn_rangeFunc_ownG rfl (by decide) (gf := 62) (lb := #[.pointer (some ⟨w.heap.size + 1 + 1 + 1 + 1, 0, none⟩), .pointer (some ⟨w.heap.size + 1 + 1 + 1, 0, none⟩)]) rfl trivial (enters_of Try.func62 (by kernel_rfl) rfl)
    (bits_stops Fence.wide (5 - 1) trivial rfl (by decide) (w.heap.size + 1 + 1 + 1 + 1) (w.heap.size + 1 + 1 + 1) c (10 * n) (by have := HC.out; omega) (by omega) w3 bm bx) (fun h k => k.trans h)
    (fun W l o o' hl h _ _ => (belowK_b (Nat.le_refl _) W l o o' hl h ‹_› ‹_›).block _ (by omega)) (Below.refl _ _) (fun _ => rfl)
    (fun pre V => Own V (w.heap.size + 1) (uvL n c pre) ∧ Boxed V w.heap.size 2 (.int .i64 (n : Int)) ∧ Boxed V (w.heap.size + 1 + 1) 24 (.slice (some ⟨w.heap.size + 1, 0, none⟩) n n) ∧ Boxed V (w.heap.size + 1 + 1 + 1) 2 (.int .i64 (c : Int)) ∧ Below w.heap.size w V) (fun _ _ _ => False)
    (OwnFrom.and (Own.from (row_own _ (fun pre => uvL n c pre)) _) (OwnFrom.and (Own.from (boxed_own _ 2 (fun _ => .int .i64 (n : Int))) _) (OwnFrom.and (Own.from (boxed_own _ 24 (fun _ => .slice (some ⟨w.heap.size + 1, 0, none⟩) n n)) _) (OwnFrom.and (Own.from (boxed_own _ 2 (fun _ => .int .i64 (c : Int))) _) (ownFrom_below (Nat.le_refl _) (by omega))))))
    (fun _ _ _ _ _ hs _ _ => hs) ⟨o0, b0, bs, bx, hB3⟩
    (fun s => { tmps := #[.int .i64 (c : Int), .int .i64 (n : Int), undef,
          .pointer (some { block := w.heap.size, off := 0 }), .slice none 0 0,
          .pointer (some { block := w.heap.size + 1 + 1, off := 0 }), .int .i64 (s.1 : Int), .int .i64 (bitN c s.1 : Int), .int .i64 (n : Int),
          .bool false, .bool false, .int .i64 (n : Int), .bool false, .bool false, .bool false, .int .i64 (c : Int), .int .i64 (n : Int),
          .int .i64 (10 * (n : Int)), .bool true, .bool false, .bool false, .int .i64 (n : Int),
          .slice (some { block := w.heap.size + 1, off := 0 }) n n, .int .i64 (c : Int), .int .i64 (n : Int), .int .i64 (10 * (n : Int)),
          .func (.func 62) #[] #[.pointer (some { block := w.heap.size + 1 + 1 + 1 + 1, off := 0 }), .pointer (some { block := w.heap.size + 1 + 1 + 1, off := 0 })],
          .int .i64 (s.1 : Int), .int .i64 (bitN c s.1 : Int), undef, undef, undef, undef, undef, undef, undef, undef, undef, undef, undef, undef, undef, undef], defers := [] }) ?assign ?body ?done ?stop
  case assign =>
    intro l s V K hK
    dsimp only [encB]
    gi_wp2
    exact hK
  case body =>
    rintro l pre s V ⟨c1, c2, c3, c4, hV⟩ _
    have HS := hidP (uvL_snoc n c pre s)
    have hsn := s.2
    obtain ⟨r, q, x, y, z, hr, hrn, hq, hx, hmin2, hy, hz, hnx⟩ : ∃ (r q : Nat) (x y : Nat) (z : Int), (s.1 : Int).tmod (n : Int) = (r : Int) ∧ r < n ∧ (s.1 : Int).tdiv (n : Int) = (q : Int) ∧
        nth (uvL n c pre) r = (x : Int) ∧ min q 64 = q ∧ IntKind.i64.wrap ((bitN c s.1 : Int) * 2 ^ q) = (y : Int) ∧ bits .or .i64 (x : Int) (y : Int) = z ∧ (uvL n c pre).set r z = uvL n c (pre ++ [s]) := by
      have hm := Nat.mod_lt s.1 h1
      obtain ⟨l1, l2, l3⟩ := uF_or_lt (c := c) h1 hsn
      have hbd := uvL_bd (c := c) h1 pre (s.1 % n)
      refine ⟨s.1 % n, s.1 / n, (nth (uvL n c pre) (s.1 % n)).toNat, bitN c s.1 * 2 ^ (s.1 / n), _, ?_, hm, ?_, by omega, by omega, ?_, rfl, ?_⟩
      · rw [Int.tmod_eq_emod_of_nonneg (Int.natCast_nonneg _)]; rfl
      · rw [Int.tdiv_eq_ediv_of_nonneg (Int.natCast_nonneg _)]; rfl
      · have e9 : ((bitN c s.1 : Nat) : Int) * 2 ^ (s.1 / n) = ((bitN c s.1 * 2 ^ (s.1 / n) : Nat) : Int) := by simp
        rw [e9]
        exact wrap_i64 (Int.natCast_nonneg _) (Int.ofNat_lt.2 (Nat.lt_trans l2 (by decide)))
      · rw [i64_or (Int.natCast_nonneg _) (by omega) (Int.natCast_nonneg _) (Int.ofNat_lt.2 (Nat.lt_trans l2 (by decide))), Int.toNat_natCast, Int.toNat_natCast, HS.out]
    have hcell : V.cell? ⟨w.heap.size + 1, r, none⟩ = some (.int .i64 (x : Int)) := by
      have := c1.seg r (by rw [uvL_len]; exact hrn)
      rw [Nat.zero_add, hx] at this
      exact this
    have hfz : V.frozen? ⟨w.heap.size + 1, r, none⟩ = false := by simp [World.frozen?, show V.heap[w.heap.size + 1]? = _ from c1]
    have e2 := c2.cell
    have e3 := c3.cell
    have hmix : Try.prog.follows .mixedOrders = true := by kernel_rfl
    have hnz : ¬ n = 0 := by omega
    have hq0 : ¬ ((q : Int) < 0) := by omega
    have hqw : IntKind.i64.wrap (q : Int) = (q : Int) := wrap_i64 (by omega) (by omega)
    clear hx HS hd1 hd2
    gi_wp2
    refine wpIn_region_calm (S := fun V' => V'.cell? ⟨w.heap.size + 1, r, none⟩ = some (.int .i64 (x : Int)) ∧ V'.cell? ⟨w.heap.size, 0, none⟩ = some (.int .i64 (n : Int)) ∧ V'.cell? ⟨w.heap.size + 1 + 1, 0, none⟩ = some (.slice (some ⟨w.heap.size + 1, 0, none⟩) n n)) (fuel := 0)
      [0, 1, 2, 3, 4, 5, 6, 7, 8, 9, 10, 11, 12] _ rfl (by kernel_rfl) (by kernel_rfl) (by kernel_rfl) (by kernel_rfl) (by kernel_rfl) (by kernel_rfl) (by kernel_rfl) (by kernel_rfl) (by rintro ⟨a, w, h⟩; exact h) ⟨hcell, e2, e3⟩ (fun hS => ?_)
    simp only [List.pop_toArray, List.dropLast]
    iterate 13
      refine ⟨_, rfl, ?_⟩
      apply Exists.intro
      refine ⟨Or.inl ⟨by rfl, fun w' hw' => ?_⟩, ?_⟩
      · first
        | (go_simp; done)
        | (go_simp; with_reducible rfl)
      simp only [Act.put, List.getElem_toArray, List.getElem_cons_succ, List.getElem_cons_zero, List.setIfInBounds_toArray, List.set_cons_zero, List.set_cons_succ]
    refine wpAnyH_done (by kernel_rfl) ?_ _
    simp only [Exit.then]
    go_wp2_with fail
    refine NoPanic.normal ?_
    have hne : ∀ b, b ≠ w.heap.size + 1 → ∀ v, (V.setCell ⟨w.heap.size + 1, r, none⟩ v).heap[b]? = V.heap[b]? := fun b hb v => Below.heap_setCell V ⟨w.heap.size + 1, r, none⟩ v b hb
    refine ⟨((KeepsOthers.setCell _ _ _).trans (KeepsOthers.drew _)).from _, hne _ (by omega) _, ?_, (hne _ (by omega) _).trans c2, (hne _ (by omega) _).trans c3, (hne _ (by omega) _).trans c4, (hV.setCell (p := ⟨w.heap.size + 1, r, none⟩) (by simp) _).drew⟩
    rw [← hnx]
    exact Own.set (xs := uvL n c pre) c1 r _
  case done =>
    rintro D ys V hD rfl ⟨c1, c2, c3, c4, hV⟩ hK
    have e3 := c3.cell
    gi_wp2
    refine ⟨by simp, .inl ⟨_, _, rfl, run_takeDeferred hK, ?_⟩⟩
    refine ⟨_, results_tmp rfl _ _ _, rfl, ?_, ?_⟩
    · rw [← uvL_bits (c := c) h1 (10 * n) (Nat.le_refl _)]
      have hb := belowK_b (n₀ := w.heap.size + 2) (w := w3) (by omega) V D _ (.deferred none) (by omega) hK rfl rfl
      exact (hb.block _ (by omega)).trans c1
    · exact hV.trans (belowK_b (w := w) (Nat.le_refl _) V D _ _ (by omega) hK rfl rfl)
  case stop =>
    rintro D c pre W _ _ h _
    exact h.elim

set_option maxRecDepth 100000 in
set_option maxHeartbeats 2000000 in
theorem iUnw_bad (c n : Int) (w : World) (h : codeB c n = false) :
    Calls Try.prog 14 #[.int .i64 c, .int .i64 n] w fun e w' => e = .returned (.slice none 0 0) ∧ Below w.heap.size w w' := by
  by_cases hn1 : n < 1
  · go_enter Try.func14, Try.ntmps14
    go_wp2
    go_ret
    exact ⟨rfl, (Below.refl _ _).alloc (Nat.le_refl _) _⟩
  by_cases hn4 : 4 < n
  · go_enter Try.func14, Try.ntmps14
    go_wp2
    go_ret
    exact ⟨rfl, (Below.refl _ _).alloc (Nat.le_refl _) _⟩
  obtain ⟨n', rfl⟩ : ∃ n' : Nat, n = (n' : Int) := ⟨n.toNat, by omega⟩
  have h4 : n' ≤ 4 := by omega
  have h1 : 1 ≤ n' := by omega
  have HH := hidP (show bitsB c (10 * n') = false by
    rcases hb : bitsB c (10 * n') with _ | _
    · rfl
    · have h2 := (bitsB_iff _ _).1 hb
      have hi : inR (n' : Int) 1 4 = true := inR_true (by omega) (by omega)
      simp only [codeB, hi, Bool.true_and, Int.toNat_natCast] at h
      exact absurd ⟨h2.1, by omega⟩ (inR_not h))
  have HM := hidP (show (n' : Int) * 10 = ((10 * n' : Nat) : Int) by omega)
  clear h hn1 hn4
  have hd1 : decide ((n' : Int) < 1) = false := by simp; omega
  have hd2 : decide (4 < (n' : Int)) = false := by simp; omega
  go_enter Try.func14, Try.ntmps14
  go_wp2_with (go_at_call 44; rw [HM.out]; refine (iHas c (10 * n') (by omega) _).mono ?_; rintro e w' ⟨rfl, rfl⟩; rw [HH.out])
  go_ret
  exact ⟨rfl, (Below.refl _ _).alloc (Nat.le_refl _) _⟩

theorem iUnw (c n : Int) (w : World) :
    Calls Try.prog 14 #[.int .i64 c, .int .i64 n] w fun e w' => ∃ ao, e = .returned (.slice ao (unweaveL c n).length (unweaveL c n).length) ∧ OwnV w.heap.size w' ao (unweaveL c n) ∧ Below w.heap.size w w' := by
  rcases h : codeB c n with _ | _
  · rw [unweaveL_out h]
    refine (iUnw_bad c n w h).mono ?_
    rintro e w' ⟨rfl, L⟩
    exact ⟨_, rfl, Or.inl rfl, L⟩
  · obtain ⟨c', n', rfl, rfl, h1, h4, hc⟩ := codeB_in h
    rw [unweaveL_in h, uL_len]
    refine (iUnw_in c' n' w h1 h4 hc).mono ?_
    rintro e w' ⟨rfl, o, L⟩
    exact ⟨_, rfl, Or.inr ⟨_, rfl, by omega, o⟩, L⟩

theorem unw_short (c n : Int) : (unweaveL c n).length ≤ 4 := by
  rcases h : codeB c n with _ | _
  · rw [unweaveL_out h]; simp
  · obtain ⟨c', n', rfl, rfl, h1, h4, hc⟩ := codeB_in h
    rw [unweaveL_in h, uL_len]; exact h4
end Go.Proofs.Ytibkfdefoaimiaa
