/-
  The program's own ToBox and Corner.
-/
import Derived.Test.YtodielfilhodeaaGreatBI1Zz
import Derived.Test.YtodielfilhodeaaGreatCopyZz
import Derived.Test.YtodielfilhodeaaGreatBSpecZz
namespace Go.Proofs.YtodielfilhodeaaGreat
open Go Go.RowKit

def two (x y : List Int) : Nat → List Int
  | 0 => x
  | _ => y
theorem prow_two {W : World} {A b1 o1 c1 b2 o2 c2 n : Nat} {x y : List Int} (k0 : W.cell? ⟨A, 0, none⟩ = some (.slice (some ⟨b1, o1, none⟩) n c1)) (k1 : W.cell? ⟨A, 1, none⟩ = some (.slice (some ⟨b2, o2, none⟩) n c2))
    (s1 : Seg W b1 o1 x) (s2 : Seg W b2 o2 y) (hb1 : b1 < W.heap.size) (hb2 : b2 < W.heap.size) (hx : x.length = n) (hy : y.length = n) : PRow W A 0 2 n (two x y) := fun j hj => by
  match j, hj with
  | 0, _ => exact ⟨hx, b1, o1, c1, k0, hb1, s1⟩
  | 1, _ => exact ⟨hy, b2, o2, c2, k1, hb2, s2⟩

theorem pHigh2 (A b1 o1 c1 b2 o2 c2 n m : Nat) (x y : List Int) (W : World) (hA : A < W.heap.size) (k0 : W.cell? ⟨A, 0, none⟩ = some (.slice (some ⟨b1, o1, none⟩) n c1)) (k1 : W.cell? ⟨A, 1, none⟩ = some (.slice (some ⟨b2, o2, none⟩) m c2))
    (s1 : Seg W b1 o1 x) (s2 : Seg W b2 o2 y) (hb1 : b1 < W.heap.size) (hb2 : b2 < W.heap.size) (hx : x.length = n) (hy : y.length = m) (hm : m = n) (hn : n ≤ 4) :
    Calls Tryz.prog 155 #[.slice (some ⟨A, 0, none⟩) 2 2] W fun e w' => ∃ g c, e = .returned (.slice (some ⟨g, 0, none⟩) n c) ∧ IRow W.heap.size w' g c (tabL (fun k => max (nth y k) (nth x k)) n) ∧ Below W.heap.size W w' := by
  subst hm
  exact pHighest A 0 2 2 m (two x y) W (prow_two k0 k1 s1 s2 hb1 hb2 hx hy) hA (by omega) (by omega) (by omega) hn
theorem pLow2 (A b1 o1 c1 b2 o2 c2 n m : Nat) (x y : List Int) (W : World) (hA : A < W.heap.size) (k0 : W.cell? ⟨A, 0, none⟩ = some (.slice (some ⟨b1, o1, none⟩) n c1)) (k1 : W.cell? ⟨A, 1, none⟩ = some (.slice (some ⟨b2, o2, none⟩) m c2))
    (s1 : Seg W b1 o1 x) (s2 : Seg W b2 o2 y) (hb1 : b1 < W.heap.size) (hb2 : b2 < W.heap.size) (hx : x.length = n) (hy : y.length = m) (hm : m = n) (hn : n ≤ 4) :
    Calls Tryz.prog 154 #[.slice (some ⟨A, 0, none⟩) 2 2] W fun e w' => ∃ g c, e = .returned (.slice (some ⟨g, 0, none⟩) n c) ∧ IRow W.heap.size w' g c (tabL (fun k => min (nth y k) (nth x k)) n) ∧ Below W.heap.size W w' := by
  subst hm
  exact pLowest A 0 2 2 m (two x y) W (prow_two k0 k1 s1 s2 hb1 hb2 hx hy) hA (by omega) (by omega) (by omega) hn

theorem tabL_congr (f g : Nat → Int) (n : Nat) (h : ∀ k, k < n → f k = g k) : tabL f n = tabL g n := List.map_congr_left fun k hk => h k (List.mem_range.1 hk)
def nearF (lo hi p : List Int) (k : Nat) : Int := min (nth hi k) (max (nth lo k) (nth p k))
theorem near_eq (lo hi p : List Int) (n : Nat) : tabL (fun k => min (nth hi k) (nth (tabL (fun k => max (nth lo k) (nth p k)) n) k)) n = tabL (nearF lo hi p) n :=
  tabL_congr _ _ _ fun k hk => by show min _ (nth (tabL _ n) k) = _; rw [tabL_getD _ _ _ hk]; rfl
theorem near_two {lo hi p : List Int} (ht : toldX (lo, hi) p = true) : twoB (tabL (nearF lo hi p) p.length) p = true := by
  obtain ⟨h1, h2⟩ := toldX_of ht
  obtain ⟨a1, a2, _⟩ := twoB_of (boxB_two h1)
  obtain ⟨_, a3, _⟩ := twoB_of h2
  have h4 := okB_len a3
  refine twoB_true (okB_mk (by rw [tabL_length]; exact h4.1) (by rw [tabL_length]; exact h4.2) fun i hi => ?_) a3 (tabL_length _ _)
  rw [tabL_length] at hi
  rw [tabL_getD _ _ _ hi]
  have x1 := okB_at a1 i
  have x2 := okB_at a2 i
  have x3 := okB_at a3 i
  simp only at x1 x2
  unfold nearF
  omega
theorem sq_same {x y : Int} (h : x = y ∨ x = -y) : x * x = y * y := by
  rcases h with h | h <;> rw [h]
  rw [Int.neg_mul_neg]
theorem near_far {lo hi p : List Int} (ht : toldX (lo, hi) p = true) : sumTo (sqF (tabL (nearF lo hi p) p.length) p) p.length = toBoxV (lo, hi) p := by
  obtain ⟨h1, h2⟩ := toldX_of ht
  obtain ⟨_, _, hl⟩ := twoB_of h2
  have hl' : lo.length = p.length := hl
  have e : toBoxV (lo, hi) p = sumTo (outQ (lo, hi) p) p.length := by simp [toBoxV, ht]
  rw [e]
  refine sumTo_congr _ _ _ fun i hi => ?_
  have x1 := boxB_at h1 (i := i) (by simp only; omega)
  simp only at x1
  unfold sqF outQ
  rw [tabL_getD _ _ _ hi]
  apply sq_same
  unfold nearF outF maxV
  simp only
  omega

set_option maxRecDepth 100000 in
set_option maxHeartbeats 2000000 in
theorem iToBox (a1 a2 a3 : Option Addr) (c1 c2 c3 : Nat) (lo hi p : List Int) (w : World) (h1 : View w a1 lo) (h2 : View w a2 hi) (h3 : View w a3 p) (n1 : lo.length ≤ 1048576) (n2 : hi.length ≤ 1048576) (n3 : p.length ≤ 1048576) :
    Calls Tryz.prog 126 #[.agg #[.slice a1 lo.length c1, .slice a2 hi.length c2], .slice a3 p.length c3] w fun e w' => e = .returned (.int .i64 (toBoxV (lo, hi) p)) ∧ Below w.heap.size w w' := by
  obtain ⟨W, hW⟩ : ∃ W, W = w.alloc (.cells #[.slice a1 lo.length c1, .slice a2 hi.length c2] 155) := ⟨_, rfl⟩
  have hB : Below w.heap.size w W := by rw [hW]; exact (Below.refl w.heap.size w).alloc (Nat.le_refl _) _
  have k0 : W.cell? ⟨w.heap.size, 0, none⟩ = some (.slice a1 lo.length c1) := by rw [hW]; simp
  have k1 : W.cell? ⟨w.heap.size, 1, none⟩ = some (.slice a2 hi.length c2) := by rw [hW]; simp
  have hz : w.heap.size < W.heap.size := by rw [hW]; simp
  have HC := hidP (pTakes a1 a2 a3 c1 c2 c3 lo hi p W (h1.next hB) (h2.next hB) (h3.next hB) n1 n2 n3)
  have HB := hidP hB
  rcases ht : toldX (lo, hi) p with _ | _
  · rw [ht] at HC
    have HI : Hid (toBoxV (lo, hi) p = -1) := by show _ = _; simp [toBoxV, ht]
    clear h1 h2 h3 hB
    go_enter Tryz.func126, Tryz.ntmps126
    go_wp2_with fail
    rw [← hW]
    clear hW
    refine HC.out.mono ?_
    rintro e w2 ⟨rfl, L2⟩
    go_wp2_with fail
    go_ret
    exact ⟨ret_int HI.out.symm, chain HB.out L2⟩
  · rw [ht] at HC
    have HI := hidP (near_far ht)
    have HT2 := hidP (near_two ht)
    obtain ⟨hbx, htw⟩ := toldX_of ht
    obtain ⟨ha, hb, hl⟩ := twoB_of (boxB_two hbx)
    obtain ⟨_, hc, hl2⟩ := twoB_of htw
    have h4 := okB_len hc
    have hl' : lo.length = hi.length := hl
    have hl2' : lo.length = p.length := hl2
    obtain ⟨b1, o1, rfl, hb1, s1⟩ := h1.seg (by omega)
    obtain ⟨b2, o2, rfl, hb2, s2⟩ := h2.seg (by omega)
    obtain ⟨b3, o3, rfl, hb3, s3⟩ := h3.seg (by omega)
    have HL := hidP (And.intro hl2' (show hi.length = p.length by omega))
    have HS := hidP (And.intro s1 (And.intro s2 s3))
    clear hl hl2 hl' hl2' s1 s2 s3 hbx htw h1 h2 h3 hB
    go_enter Tryz.func126, Tryz.ntmps126
    go_wp2_with fail
    rw [← hW]
    clear hW
    refine HC.out.mono ?_
    rintro e w2 ⟨rfl, L2⟩
    have q0 := (L2.cell (p := ⟨w.heap.size, 0, none⟩) hz).trans k0
    have q1 := (L2.cell (p := ⟨w.heap.size, 1, none⟩) hz).trans k1
    have L3 := chain HB.out L2
    have hz2 : w.heap.size < w2.heap.size := Nat.lt_of_lt_of_le hz L2.size
    have hne := World.new_ne w2 ⟨w.heap.size, 0, none⟩ q0
    have HL3 := hidP L3
    have hA := (alloc_below w2 (.cells #[.slice (some ⟨b3, o3, none⟩) p.length c3, .slice (some ⟨b1, o1, none⟩) lo.length c1] 80)).drew
    have HA := hidP hA
    have HH := hidP (pHigh2 w2.heap.size b3 o3 c3 b1 o1 c1 p.length lo.length p lo (w2.alloc (.cells #[.slice (some ⟨b3, o3, none⟩) p.length c3, .slice (some ⟨b1, o1, none⟩) lo.length c1] 80)).drew (by simp) (by simp) (by simp)
      (HS.out.2.2.below hb3 (chain L3 hA)) (HS.out.1.below hb1 (chain L3 hA)) (Nat.lt_of_lt_of_le hb3 (chain L3 hA).size) (Nat.lt_of_lt_of_le hb1 (chain L3 hA).size) rfl rfl HL.out.1 h4.2)
    have HW : Hid (∀ (w3 : World) (g1 d1 : Nat) (X : List Int), Below w2.heap.size w2 w3 → X.length = p.length → Seg w3 g1 0 X → g1 < w3.heap.size →
        Calls Tryz.prog 154 #[.slice (some ⟨w3.heap.size, 0, none⟩) 2 2] (w3.alloc (.cells #[.slice (some ⟨g1, 0, none⟩) p.length d1, .slice (some ⟨b2, o2, none⟩) hi.length c2] 80)) fun e w' => ∃ g c, e = .returned (.slice (some ⟨g, 0, none⟩) p.length c) ∧ IRow (w3.heap.size + 1) w' g c (tabL (fun k => min (nth hi k) (nth X k)) p.length) ∧ Below w3.heap.size w3 w') := fun w3 g1 d1 X hb hX hs hg => by
      have hA3 := alloc_below w3 (.cells #[.slice (some ⟨g1, 0, none⟩) p.length d1, .slice (some ⟨b2, o2, none⟩) hi.length c2] 80)
      have hs2 := HS.out.2.1.below hb2 (chain HL3.out hb)
      have hb2' := Nat.lt_of_lt_of_le hb2 (chain HL3.out hb).size
      refine (pLow2 w3.heap.size g1 0 d1 b2 o2 c2 p.length hi.length X hi _ (by simp) (by simp) (by simp) (hs.below hg hA3) (hs2.below hb2' hA3) (Nat.lt_of_lt_of_le hg hA3.size) (Nat.lt_of_lt_of_le hb2' hA3.size) hX rfl HL.out.2 h4.2).mono ?_
      rintro e w' ⟨g, c, he, hr, hbl⟩
      exact ⟨g, c, he, by simpa using hr, chain hA3 hbl⟩
    clear L2 L3 HC HB k0 k1 hA
    go_wp2_with fail
    go_region_held3 (fun w' => w'.cell? ⟨w.heap.size, 0, none⟩ = some (.slice (some ⟨b1, o1, none⟩) lo.length c1) ∧ w'.cell? ⟨w.heap.size, 1, none⟩ = some (.slice (some ⟨b2, o2, none⟩) hi.length c2))
      (first
        | go_keep
        | (refine ⟨((chain HA.out L4).cell (p := ⟨w.heap.size, 0, none⟩) hz2).trans q0, ((chain HA.out L4).cell (p := ⟨w.heap.size, 1, none⟩) hz2).trans q1⟩)
        | (refine ⟨((chain (chain HA.out L4) L5).cell (p := ⟨w.heap.size, 0, none⟩) hz2).trans q0, ((chain (chain HA.out L4) L5).cell (p := ⟨w.heap.size, 1, none⟩) hz2).trans q1⟩))
      (first
        | (go_at_call 155; refine HH.out.mono ?_; rintro e w4 ⟨g1, d1, rfl, r1, L4⟩)
        | (go_at_call 154; refine (HW.out w4 g1 d1 _ (chain HA.out L4) (tabL_length _ _) r1.seg r1.lt.2).mono ?_; rintro e w5 ⟨g2, d2, rfl, r2, L5⟩))
    have M5 := chain (chain HL3.out HA.out) (chain L4 L5)
    rw [near_eq] at r2
    have hf := pFar g2 0 d2 b3 o3 c3 (tabL (nearF lo hi p) p.length) p w5 r2.seg (HS.out.2.2.below hb3 M5) r2.lt.2 (Nat.lt_of_lt_of_le hb3 M5.size) HT2.out
    rw [tabL_length] at hf
    have HF := hidP hf
    have HM := hidP M5
    clear hf M5 r2 r1 L4 L5 q0 q1 HH HW HA HL3
    go_wp2_with fail
    refine HF.out.mono ?_
    rintro e w6 ⟨rfl, L6⟩
    go_wp2_with fail
    go_ret
    exact ⟨ret_int HI.out, chain HM.out L6⟩

end Go.Proofs.YtodielfilhodeaaGreat
