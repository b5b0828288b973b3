/-
  cmp.Compare, cmp.Or, and the program's own threadOrder: which of two threads is ahead.
-/
import Derived.Test.YtfbindjacmaeoaaProg
import Derived.Test.YtfbindjacmaeoaaECellsZz
import Derived.Test.YtfbindjacmaeoaaCopyZz
import Derived.Test.YtfbindjacmaeoaaMCellsZz
import Derived.Test.YtfbindjacmaeoaaLastZz
import Derived.Laws.ByValue
import Derived.Deep.CutRange
import Derived.Deep.CutBlock
namespace Go.Proofs.Ytfbindjacmaeoaa
open Go Go.RowKit

def cmpV (a b : Int) : Int := if a < b then -1 else if b < a then 1 else 0
def orV : List Int → Int
  | [] => 0
  | x :: xs => if x ≠ 0 then x else orV xs
theorem cmpV_lt {a b : Int} (h : a < b) : cmpV a b = -1 := by rw [cmpV, if_pos h]
theorem cmpV_gt {a b : Int} (h : b < a) : cmpV a b = 1 := by rw [cmpV, if_neg (by omega), if_pos h]
theorem cmpV_eq {a b : Int} (h : a = b) : cmpV a b = 0 := by rw [cmpV, if_neg (by omega), if_neg (by omega)]
theorem cmpV_cases (a b : Int) : (a < b ∧ cmpV a b = -1) ∨ (b < a ∧ cmpV a b = 1) ∨ (a = b ∧ cmpV a b = 0) := by
  rcases Int.lt_trichotomy a b with h | h | h
  · exact Or.inl ⟨h, cmpV_lt h⟩
  · exact Or.inr (Or.inr ⟨h, cmpV_eq h⟩)
  · exact Or.inr (Or.inl ⟨h, cmpV_gt h⟩)
theorem orV_at {xs : List Int} {k : Nat} (hk : k < xs.length) (h0 : ∀ j, j < k → nth xs j = 0) (h : nth xs k ≠ 0) : orV xs = nth xs k := by
  induction xs generalizing k with
  | nil => simp at hk
  | cons x xs ih =>
    cases k with
    | zero => simp only [orV]; rw [if_pos (by simpa [nth] using h)]; simp [nth]
    | succ k =>
      have hx : x = 0 := by simpa [nth] using h0 0 (by omega)
      simp only [orV]
      rw [if_neg (by simp [hx]), ih (k := k) (by simpa using hk) (fun j hj => by simpa [nth] using h0 (j + 1) (by omega)) (by simpa [nth] using h)]
      simp [nth]
theorem orV_none {xs : List Int} (h0 : ∀ j, j < xs.length → nth xs j = 0) : orV xs = 0 := by
  induction xs with
  | nil => rfl
  | cons x xs ih =>
    have hx : x = 0 := by simpa [nth] using h0 0 (by simp)
    simp only [orV]
    rw [if_neg (by simp [hx])]
    exact ih (fun j hj => by simpa [nth] using h0 (j + 1) (by simpa using hj))
/-- What threadOrder tells. -/
def ordT (a b : Th) : Int := orV [cmpV a.2.2 b.2.2, cmpV a.1 b.1, cmpV a.2.1 b.2.1]
theorem ordT_neg (a b : Th) : decide (ordT a b < 0) = thAhead a b := by
  have h := thAhead_iff a b
  rw [Bool.eq_iff_iff, h, decide_eq_true_eq]
  unfold ordT orV orV orV orV
  rcases cmpV_cases a.2.2 b.2.2 with ⟨h1, e1⟩ | ⟨h1, e1⟩ | ⟨h1, e1⟩ <;> rcases cmpV_cases a.1 b.1 with ⟨h2, e2⟩ | ⟨h2, e2⟩ | ⟨h2, e2⟩ <;> rcases cmpV_cases a.2.1 b.2.1 with ⟨h3, e3⟩ | ⟨h3, e3⟩ | ⟨h3, e3⟩ <;> rw [e1, e2, e3] <;> simp <;> omega

theorem iNaN (x : Int) (w : World) : Calls Try.prog 140 #[.int .i64 x] w fun e w' => e = .returned (.bool false) ∧ w' = w := by
  have hx : (x != x) = false := by simp
  go_enter Try.func140, Try.ntmps140
  go_wp2_with fail
  go_ret
  exact ⟨rfl, rfl⟩
set_option maxHeartbeats 800000 in
theorem iCompare (x y : Int) (w : World) : Calls Try.prog 139 #[.int .i64 x, .int .i64 y] w fun e w' => e = .returned (.int .i64 (cmpV x y)) ∧ w' = w := by
  have HN := hidP (iNaN x w)
  have HM := hidP (iNaN y w)
  rcases cmpV_cases x y with ⟨h1, e1⟩ | ⟨h1, e1⟩ | ⟨h1, e1⟩
  · have HE := hidP e1
    clear e1
    go_enter Try.func139, Try.ntmps139
    go_wp2_with fail
    refine HN.out.mono ?_
    rintro e w2 ⟨rfl, hw⟩
    subst w2
    go_wp2_with fail
    refine HM.out.mono ?_
    rintro e w2 ⟨rfl, hw⟩
    subst w2
    go_wp2_with fail
    go_ret
    exact ⟨by rw [HE.out]; rfl, rfl⟩
  · have HE := hidP e1
    clear e1
    have h2 : ¬ x < y := by omega
    go_enter Try.func139, Try.ntmps139
    go_wp2_with fail
    refine HN.out.mono ?_
    rintro e w2 ⟨rfl, hw⟩
    subst w2
    go_wp2_with fail
    refine HM.out.mono ?_
    rintro e w2 ⟨rfl, hw⟩
    subst w2
    go_wp2_with fail
    go_ret
    exact ⟨by rw [HE.out]; rfl, rfl⟩
  · have HE := hidP e1
    have h2 : ¬ x < y := by omega
    have h3 : ¬ x > y := by omega
    clear e1 h1
    go_enter Try.func139, Try.ntmps139
    go_wp2_with fail
    refine HN.out.mono ?_
    rintro e w2 ⟨rfl, hw⟩
    subst w2
    go_wp2_with fail
    refine HM.out.mono ?_
    rintro e w2 ⟨rfl, hw⟩
    subst w2
    go_wp2_with fail
    go_ret
    exact ⟨by rw [HE.out]; rfl, rfl⟩
set_option maxHeartbeats 800000 in
theorem iOr (b n c : Nat) (xs : List Int) (w : World) (hs : Seg w b 0 xs) (hn : n = xs.length) (hl : n ≤ 1048576) :
    Calls Try.prog 138 #[.slice (some ⟨b, 0, none⟩) n c] w fun e w' => e = .returned (.int .i64 (orV xs)) ∧ w' = w := by
  have HN := hidP hn
  clear hn
  go_enter Try.func138, Try.ntmps138
  go_wp2_with fail
  go_loop [8] (fun i => ∃ k : Nat, k ≤ n ∧ i = .int .i64 k ∧ ∀ j, j < k → nth xs j = 0) (fun i => n - (intOf i).toNat)
  case atStart => exact ⟨0, Nat.zero_le _, rfl, fun j hj => by omega⟩
  case round =>
    obtain ⟨k, hk, rfl, hall⟩ := hrel
    have HA := hidP hall
    clear hall
    by_cases hlt : k < n
    · have hc := hs k (by have := HN.out; omega)
      rw [Nat.zero_add] at hc
      have hi0 : (0 : Int) ≤ (k : Int) := Int.natCast_nonneg _
      have hi1 : (k : Int) < (n : Int) := by omega
      by_cases he : nth xs k = 0
      · have heb : (nth xs k != 0) = false := by simp [he]
        have HE := hidP he
        clear he
        go_wp2_with fail
        go_round
        case rel => exact ⟨k + 1, by omega, by go_num, fun j hj => by
          rcases Nat.lt_or_ge j k with h | h
          · exact HA.out j h
          · obtain rfl : j = k := by omega
            exact HE.out⟩
        case measure => simp [intOf]; omega
      · have heb : (nth xs k != 0) = true := by simp [he]
        have HV := hidP (orV_at (by have := HN.out; omega) HA.out he)
        clear he
        go_wp2_with fail
        go_ret
        exact ⟨by rw [HV.out]; rfl, rfl⟩
    · obtain rfl : k = n := by omega
      have HV := hidP (orV_none (xs := xs) (fun j hj => HA.out j (by have := HN.out; omega)))
      go_wp2_with fail
      go_ret
      exact ⟨by rw [HV.out]; rfl, rfl⟩

set_option maxRecDepth 100000 in
set_option maxHeartbeats 4000000 in
theorem iOrder (a b : Th) (w : World) :
    Calls Try.prog 137 #[.agg #[.int .i64 a.1, .int .i64 a.2.1, .int .i64 a.2.2], .agg #[.int .i64 b.1, .int .i64 b.2.1, .int .i64 b.2.2]] w fun e w' => e = .returned (.int .i64 (ordT a b)) ∧ Below w.heap.size w w' := by
  have L0 : Below w.heap.size w ((w.alloc (.cells #[.int .i64 a.1, .int .i64 a.2.1, .int .i64 a.2.2] 41)).alloc (.cells #[.int .i64 b.1, .int .i64 b.2.1, .int .i64 b.2.2] 41)) :=
    ((Below.refl _ _).alloc (Nat.le_refl _) _).alloc (by simp) _
  obtain ⟨W, hW⟩ : ∃ W, W = (w.alloc (.cells #[.int .i64 a.1, .int .i64 a.2.1, .int .i64 a.2.2] 41)).alloc (.cells #[.int .i64 b.1, .int .i64 b.2.1, .int .i64 b.2.2] 41) := ⟨_, rfl⟩
  have a0 : W.cell? ⟨w.heap.size, 0, none⟩ = some (.int .i64 a.1) := by rw [hW]; simp [World.cell?_alloc_past]
  have a1 : W.cell? ⟨w.heap.size, 1, none⟩ = some (.int .i64 a.2.1) := by rw [hW]; simp [World.cell?_alloc_past]
  have a2 : W.cell? ⟨w.heap.size, 2, none⟩ = some (.int .i64 a.2.2) := by rw [hW]; simp [World.cell?_alloc_past]
  have b0 : W.cell? ⟨w.heap.size + 1, 0, none⟩ = some (.int .i64 b.1) := by rw [hW, World.cell?_alloc_at _ _ _ _ (by simp)]; rfl
  have b1 : W.cell? ⟨w.heap.size + 1, 1, none⟩ = some (.int .i64 b.2.1) := by rw [hW, World.cell?_alloc_at _ _ _ _ (by simp)]; rfl
  have b2 : W.cell? ⟨w.heap.size + 1, 2, none⟩ = some (.int .i64 b.2.2) := by rw [hW, World.cell?_alloc_at _ _ _ _ (by simp)]; rfl
  rw [← hW] at L0
  have HZ : Hid (W.heap.size = w.heap.size + 2) := by show _ = _; rw [hW]; simp
  have hmix : Try.prog.follows .mixedOrders = true := by kernel_rfl
  go_enter Try.func137, Try.ntmps137
  go_upto_region 1 with fail
  rw [← hW]
  clear hW
  have hz := HZ.out
  have HKS : Hid (∀ w', Below W.heap.size W w' → w'.cell? ⟨w.heap.size, 0, none⟩ = some (.int .i64 a.1) ∧ w'.cell? ⟨w.heap.size, 1, none⟩ = some (.int .i64 a.2.1) ∧ w'.cell? ⟨w.heap.size, 2, none⟩ = some (.int .i64 a.2.2) ∧ w'.cell? ⟨w.heap.size + 1, 0, none⟩ = some (.int .i64 b.1) ∧ w'.cell? ⟨w.heap.size + 1, 1, none⟩ = some (.int .i64 b.2.1) ∧ w'.cell? ⟨w.heap.size + 1, 2, none⟩ = some (.int .i64 b.2.2)) := fun w' L =>
    ⟨(L.cell (p := ⟨w.heap.size, 0, none⟩) (by show w.heap.size < _; omega)).trans a0, (L.cell (p := ⟨w.heap.size, 1, none⟩) (by show w.heap.size < _; omega)).trans a1, (L.cell (p := ⟨w.heap.size, 2, none⟩) (by show w.heap.size < _; omega)).trans a2, (L.cell (p := ⟨w.heap.size + 1, 0, none⟩) (by show w.heap.size + 1 < _; omega)).trans b0, (L.cell (p := ⟨w.heap.size + 1, 1, none⟩) (by show w.heap.size + 1 < _; omega)).trans b1, (L.cell (p := ⟨w.heap.size + 1, 2, none⟩) (by show w.heap.size + 1 < _; omega)).trans b2⟩
  clear hz
  refine wp_region_takes (S := fun w' => w'.cell? ⟨w.heap.size, 0, none⟩ = some (.int .i64 a.1) ∧ w'.cell? ⟨w.heap.size, 1, none⟩ = some (.int .i64 a.2.1) ∧ w'.cell? ⟨w.heap.size, 2, none⟩ = some (.int .i64 a.2.2) ∧ w'.cell? ⟨w.heap.size + 1, 0, none⟩ = some (.int .i64 b.1) ∧ w'.cell? ⟨w.heap.size + 1, 1, none⟩ = some (.int .i64 b.2.1) ∧ w'.cell? ⟨w.heap.size + 1, 2, none⟩ = some (.int .i64 b.2.2)) (fuel := 6)
    [0, 1, 2, 3, 5, 6, 7, 8, 10, 11, 12, 13] (by kernel_rfl) (by kernel_rfl) (by kernel_rfl) (by kernel_rfl) ⟨a0, a1, a2, b0, b1, b2⟩ (fun hS => ?_)
  iterate 12
    refine ⟨_, rfl, ?_⟩
    apply Exists.intro
    refine ⟨Or.inl ⟨by rfl, fun w' hw' => ?_⟩, ?_⟩
    · first
      | (go_simp; done)
      | (go_simp; with_reducible rfl)
    simp only [Act.put, List.getElem_toArray, List.getElem_cons_succ, List.getElem_cons_zero, List.setIfInBounds_toArray, List.set_cons_zero, List.set_cons_succ]
  refine calm_one 4 (by kernel_rfl) rfl (fun K hK => ?_)
  go_simp
  refine (iCompare _ _ _).mono ?_
  rintro e w2 ⟨rfl, hw2⟩
  subst w2
  refine hK.out _ _ hS (fun _ => ?_)
  clear hK K
  refine calm_one 9 (by kernel_rfl) rfl (fun K hK => ?_)
  go_simp
  refine (iCompare _ _ _).mono ?_
  rintro e w2 ⟨rfl, hw2⟩
  subst w2
  refine hK.out _ _ hS (fun _ => ?_)
  clear hK K
  refine calm_one 14 (by kernel_rfl) rfl (fun K hK => ?_)
  go_simp
  refine (iCompare _ _ _).mono ?_
  rintro e w2 ⟨rfl, hw2⟩
  subst w2
  refine hK.out _ _ hS (fun _ => ?_)
  clear hK K
  refine calm_one 15 (by kernel_rfl) rfl (fun K hK => ?_)
  go_simp
  have L1 : Below W.heap.size W (W.alloc (Obj.cells (rowC [cmpV a.2.2 b.2.2, cmpV a.1 b.1, cmpV a.2.1 b.2.1]) 3)).drew := ((Below.refl _ _).alloc (Nat.le_refl _) _).drew
  have hsg : Seg (W.alloc (Obj.cells (rowC [cmpV a.2.2 b.2.2, cmpV a.1 b.1, cmpV a.2.1 b.2.1]) 3)).drew W.heap.size 0 [cmpV a.2.2 b.2.2, cmpV a.1 b.1, cmpV a.2.1 b.2.1] := Seg.new W _ 3
  refine hK.out _ _ (HKS.out _ L1) (fun _ => ?_)
  clear hK K
  have HO := hidP (iOr W.heap.size 3 3 [cmpV a.2.2 b.2.2, cmpV a.1 b.1, cmpV a.2.1 b.2.1] _ hsg rfl (by omega))
  refine calm_one 16 (by kernel_rfl) rfl (fun K hK => ?_)
  go_simp
  refine HO.out.mono ?_
  rintro e w2 ⟨rfl, hw2⟩
  subst w2
  refine hK.out _ _ (HKS.out _ L1) (fun _ => ?_)
  clear hK K
  refine calm_rest [17] rfl (by kernel_rfl) (by kernel_rfl) (by kernel_rfl) (HKS.out _ L1) ?_
  refine ⟨_, rfl, ?_⟩
  apply Exists.intro
  refine ⟨Or.inl ⟨by rfl, fun w' hw' => ?_⟩, ?_⟩
  · first
    | (go_simp; done)
    | (go_simp; with_reducible rfl)
  simp only [Act.put, List.getElem_toArray, List.getElem_cons_succ, List.getElem_cons_zero, List.setIfInBounds_toArray, List.set_cons_zero, List.set_cons_succ]
  refine NoPanic.normal (NoPanic.normal ?_)
  go_wp2_with fail
  go_ret
  exact ⟨rfl, L0.trans (L1.mono L0.size)⟩

end Go.Proofs.Ytfbindjacmaeoaa
