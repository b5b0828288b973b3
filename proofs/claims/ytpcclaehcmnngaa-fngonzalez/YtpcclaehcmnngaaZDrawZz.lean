/-
  The draws of chapter 11: DrawBestRadius and DrawRadius.
-/
import Derived.Test.YtpcclaehcmnngaaMAnyZz
import Derived.Test.YtpcclaehcmnngaaBMarkZz
import Derived.Test.YtpcclaehcmnngaaMHighZz
namespace Go.Proofs.Ytpcclaehcmnngaa
open Go Go.RowKit

set_option maxRecDepth 100000 in
set_option maxHeartbeats 1000000 in
theorem cDrawBR (ao : Option Addr) (n cap : Nat) (w : World) (hv : CodeV w ao n) (hn : n ≤ 4096) :
    Calls Try.prog 8 #[.slice ao n cap] w fun e w' => ∃ g c ms k kd, e = .returned (.tuple #[.slice (some ⟨g, 0, none⟩) ms.length c, .int .i64 k, .int .i64 kd]) ∧ MView w' (some ⟨g, 0, none⟩) ms ∧ MSmall ms ∧ 0 ≤ k ∧ k ≤ 5 ∧ Below w.heap.size w w' := by
  go_enter Try.func8, Try.ntmps8
  go_wp2_with fail
  refine (cNew ao n cap _ hv hn).mono ?_
  rintro e w1 ⟨rfl, c1, L1⟩
  have hv1 := hv.below (Nat.le_refl _) L1
  go_wp2_with fail
  refine (cMarksAny _ ao n cap 7 _ c1 hv1 hn (by omega) (by omega)).mono ?_
  rintro e w2 ⟨⟨g, c, ms, rfl, hnew⟩, c2, g2⟩
  have L2 : Below w.heap.size w w2 := L1.grown g2 L1.size (by intro k hk; cases hk; exact Nat.le_refl _)
  have hv2 := hv1.grown c1 g2
  have hq := c1.lt
  have HN2 := hidP hnew
  clear hnew L1 hv1
  go_wp2_with fail
  refine (cOnce _ ao n cap 20 _ c2 hv2 hn (by omega) (by omega)).mono ?_
  rintro e w3 ⟨⟨x, rfl⟩, c3, g3⟩
  have L3 : Below w.heap.size w w3 := L2.grown g3 L2.size (by intro k hk; cases hk; exact Nat.le_refl _)
  have hv3 := hv2.grown c2 g3
  have HN3 := hidP (HN2.out.kept g3 (by intro k hk; cases hk; exact hq))
  have hq3 := c3.lt
  have hz13 := Nat.le_trans g2.size g3.size
  clear HN2 L2 hv2 g3
  cases x with
  | false =>
    go_wp2_with fail
    refine (cFrom _ ao n cap 0 5 _ c3 hv3 hn (by omega) (by omega) (by omega) (by omega)).mono ?_
    rintro e w4 ⟨⟨k, hk0, hk1, rfl⟩, c4, g4⟩
    have L4 : Below w.heap.size w w4 := L3.grown g4 L3.size (by intro k hk; cases hk; exact Nat.le_refl _)
    have hv4 := hv3.grown c3 g4
    have HN4 := hidP (HN3.out.kept g4 (by intro k hk; cases hk; exact hq))
    clear HN3 L3 g4
    go_wp2_with fail
    refine (cKind _ ao n cap _ c4 hv4 hn).mono ?_
    rintro e w5 ⟨⟨kd, rfl⟩, c5, g5⟩
    have L5 : Below w.heap.size w w5 := L4.grown g5 L4.size (by intro k hk; cases hk; exact Nat.le_refl _)
    have HN5 := hidP (HN4.out.kept g5 (by intro k hk; cases hk; exact hq))
    have HL5 := hidP L5
    clear HN4 L4 g5 L5 c1 c2 c3 c4 c5 g2 hv3 hv4
    go_wp2_with fail
    go_ret3
    exact ⟨g, c, ms, k, kd, rfl, HN5.out.view, HN5.out.small (by omega), hk0, hk1, HL5.out⟩
  | true =>
    go_wp2_with fail
    refine (cMarks _ ao n cap 10 _ c3 hv3 hn (by omega) (by omega)).mono ?_
    rintro e w4 ⟨⟨g', c', ds, rfl, hnew⟩, c4, g4⟩
    have L4 : Below w.heap.size w w4 := L3.grown g4 L3.size (by intro k hk; cases hk; exact Nat.le_refl _)
    have hv4 := hv3.grown c3 g4
    have HM4 := hidP hnew.any
    have hdl := dMarks_length ds
    clear HN3 L3 g4 hnew
    go_wp2_with fail
    refine (cFrom _ ao n cap 0 5 _ c4 hv4 hn (by omega) (by omega) (by omega) (by omega)).mono ?_
    rintro e w5 ⟨⟨k, hk0, hk1, rfl⟩, c5, g5⟩
    have L5 : Below w.heap.size w w5 := L4.grown g5 L4.size (by intro k hk; cases hk; exact Nat.le_refl _)
    have hv5 := hv4.grown c4 g5
    have HM5 := hidP (HM4.out.kept g5 (by intro k hk; cases hk; exact hq3))
    clear HM4 L4 g5
    go_wp2_with fail
    refine (cKind _ ao n cap _ c5 hv5 hn).mono ?_
    rintro e w6 ⟨⟨kd, rfl⟩, c6, g6⟩
    have L6 : Below w.heap.size w w6 := L5.grown g6 L5.size (by intro k hk; cases hk; exact Nat.le_refl _)
    have HM6 := hidP (HM5.out.kept g6 (by intro k hk; cases hk; exact hq3))
    have HL6 := hidP L6
    have HDL := hidP hdl
    clear HM5 L5 g6 L6 c1 c2 c3 c4 c5 c6 g2 hv3 hv4 hv5 hdl
    go_wp2_with fail
    go_ret3
    exact ⟨g', c', dMarks ds, k, kd, by rw [HDL.out]; rfl, HM6.out.view, HM6.out.small (by omega), hk0, hk1, HL6.out⟩

/-- The draw of numbers, between two steps. -/
structure DrI (w w1 w2 : World) (ao : Option Addr) (n cap : Nat) (wr : World) (gi ci : Nat) (xs : List Int) : Prop where
  cur : Cur wr w.heap.size ao n cap
  kin : Kin w1.heap.size w2.heap.size w2 wr
  row : IRow w2.heap.size wr gi ci xs
  low : Below w.heap.size w wr
theorem DrI.cursor {w w1 w2 wr wr' : World} {ao : Option Addr} {n cap gi ci : Nat} {xs : List Int} (h : DrI w w1 w2 ao n cap wr gi ci xs) (hq : w.heap.size < w1.heap.size) (h12 : w1.heap.size ≤ w2.heap.size) (c : Cur wr' w.heap.size ao n cap) (g : wr.grownBy wr' (some w.heap.size)) : DrI w w1 w2 ao n cap wr' gi ci xs :=
  ⟨c, h.kin.grown (Nat.le_refl _) g (fun k e => by cases e; exact Or.inl hq), h.row.kept g (fun e => by injection e with e; have := h.row.lt.1; omega), h.low.grown g h.low.size (fun k e => by cases e; exact Nat.le_refl _)⟩
theorem DrI.append {w w1 w2 wr w8 : World} {ao : Option Addr} {n cap gi ci gg cc : Nat} {xs : List Int} {x : Int} (h : DrI w w1 w2 ao n cap wr gi ci xs) (hq : w.heap.size < w1.heap.size) (h12 : w1.heap.size ≤ w2.heap.size)
    (hown : w8.ownsRow w2.heap.size 2 1 (.slice (some ⟨gg, 0, none⟩) (xs.length + 1) cc) (xs.length + 1) (xs.map (Value.int .i64) ++ [.int .i64 x])) (hg : (wr.alloc (.cells #[.int .i64 x] 2)).grownBy w8 (some gi)) : DrI w w1 w2 ao n cap w8 gg cc (xs ++ [x]) := by
  have hl := h.row.lt
  have ga := World.grownBy_alloc wr (.cells #[.int .i64 x] 2) none
  refine ⟨(h.cur.alloc _).grown hg (fun e => by injection e with e; omega), (h.kin.grown (Nat.le_refl _) ga (by simp)).grown (Nat.le_refl _) hg (fun k e => by cases e; exact Or.inr hl.1), IRow.of hown (by simp) (by simp), ?_⟩
  refine (h.low.alloc h.low.size _).grown hg (by have := h.low.size; simp; omega) (fun k e => by cases e; omega)

set_option maxRecDepth 100000 in
set_option maxHeartbeats 2000000 in
theorem cDrawR (ao : Option Addr) (n cap : Nat) (w : World) (hv : CodeV w ao n) (hn : n ≤ 4096) :
    Calls Try.prog 12 #[.slice ao n cap] w fun e w' => ∃ g c ms gi ci xs kd, e = .returned (.tuple #[.slice (some ⟨g, 0, none⟩) ms.length c, .slice (some ⟨gi, 0, none⟩) xs.length ci, .int .i64 kd]) ∧ MView w' (some ⟨g, 0, none⟩) ms ∧ MSmall ms ∧ View w' (some ⟨gi, 0, none⟩) xs ∧ xs.length ≤ 4 ∧ Below w.heap.size w w' := by
  obtain ⟨i0, hi0, hz0, hz1, hz2⟩ := info_parts Try.info2
  go_enter Try.func12, Try.ntmps12
  go_wp2_with fail
  refine (cNew ao n cap _ hv hn).mono ?_
  rintro e w1 ⟨rfl, c1, L1⟩
  have hv1 := hv.below (Nat.le_refl _) L1
  go_wp2_with fail
  refine (cMarksAny _ ao n cap 7 _ c1 hv1 hn (by omega) (by omega)).mono ?_
  rintro e w2 ⟨⟨g, c, ms, rfl, hnew⟩, c2, g2⟩
  have L2 : Below w.heap.size w w2 := L1.grown g2 L1.size (by intro k hk; cases hk; exact Nat.le_refl _)
  have hq := c1.lt
  have h12 := g2.size
  have HN2 := hidP hnew
  have hl7 := hnew.1
  have HV := hidP hv
  have I2 : Hid (DrI w w1 w2 ao n cap (w2.alloc (.cells #[] 2)) w2.heap.size 0 []) := ⟨c2.alloc _, (Kin.refl _ _ _).grown (Nat.le_refl _) (World.grownBy_alloc w2 _ none) (by simp), IRow.start w2 _ (Nat.le_refl _), L2.alloc L2.size _⟩
  clear hnew L1 hv1 c1 c2 g2 L2 hv
  go_wp2_with fail
  refine (cBelow _ ao n cap 4 _ I2.out.cur (HV.out.below (Nat.le_refl _) I2.out.low) hn (by omega) (by omega)).mono ?_
  rintro e w3 ⟨⟨y, y0, y1, rfl⟩, c3, g3⟩
  have I3 := hidP (I2.out.cursor hq h12 c3 g3)
  clear I2 c3 g3
  go_wp2_with fail
  go_loopw [7, 8] (fun v i wr => ∃ (m : Int) (gi ci : Nat) (xs : List Int), 0 ≤ m ∧ m ≤ 3 ∧ (xs.length : Int) + m ≤ 3 ∧ i = .int .i64 m ∧ v = .slice (some ⟨gi, 0, none⟩) xs.length ci ∧ DrI w w1 w2 ao n cap wr gi ci xs) (fun _ i _ => (intOf i).toNat)
  case atStart => exact ⟨y, w2.heap.size, 0, [], y0, by omega, by simp; omega, rfl, rfl, I3.out⟩
  case round =>
    obtain ⟨m, gi, ci, xs, hm0, hm3, hxm, rfl, rfl, I⟩ := hrel
    have HI := hidP I
    clear I
    have hgl := HI.out.row.lt
    have hzl := HI.out.low.size
    have hgo : Hid (∀ (wr : World) (gi ci : Nat) (xs : List Int) (HI : DrI w w1 w2 ao n cap wr gi ci xs), xs.length ≤ 3 → MNew w1.heap.size wr g c ms 7) := fun wr gi ci xs HI _ => HN2.out.kin HI.kin
    by_cases hgo2 : 0 < m ∧ 0 < ms.length
    · obtain ⟨hmp, hl0⟩ := hgo2
      have hlp : (0 : Int) < (ms.length : Int) := by omega
      go_wp2_with fail
      refine (cBelow _ ao n cap ms.length _ HI.out.cur (HV.out.below (Nat.le_refl _) HI.out.low) hn (by omega) (by omega)).mono ?_
      rintro e w4 ⟨⟨z, z0, z1, rfl⟩, c4, g4⟩
      have I4 := hidP (HI.out.cursor hq h12 c4 g4)
      obtain ⟨zn, rfl⟩ := Int.eq_ofNat_of_zero_le z0
      have hzn : zn < ms.length := by omega
      have hcell := ((HN2.out.kin I4.out.kin).2.2.1.2.2.1 zn hzn).1
      have HOW := hidP I4.out.row
      have hgl4 := I4.out.row.lt
      have hzl4 := I4.out.low.size
      generalize mid ms zn = x at *
      clear c4 g4 HI hgl hzl hgo
      go_wp2_with (at_builtin; refine wpList_append_lies _ rfl (.tmp 25) (.tmp 34) 28 rfl w2.heap.size 2 i0 _ 1 8 Try.underlying28 hi0 hz0 hz1 hz2 rfl (by omega) (.slice (some ⟨gi, 0, none⟩) xs.length ci) xs.length (xs.map (Value.int .i64)) rfl (World.ownsRow.alloc HOW.out _) ⟨w4.heap.size, 0, none⟩ 1 1 [.int .i64 x] rfl rfl (World.news_of_block (cs := #[.int .i64 x]) (t := 2) (fr := (0, 0)) (heap_alloc_new w4 _)) (by simp [Value.oneCell']) (by omega) (by unfold maxLen; omega) (by omega) (by simp; omega) (w4.heap.size + 1) (by simp) ?_; intro gg cc w8 hown hgrow hat8 hlt8)
      go_roundw
      case rel => exact ⟨m - 1, gg, cc, xs ++ [x], by omega, by omega, by simp; omega, by go_num, by simp, I4.out.append hq h12 hown hgrow⟩
      case measure => simp [intOf]; omega
    · have hstop : ¬ 0 < m ∨ (0 < m ∧ ¬ ((0 : Int) < (ms.length : Int))) := by omega
      have hx3 : xs.length ≤ 3 := by omega
      clear hgo2 hgo
      rcases hstop with h | ⟨h, h'⟩
      all_goals
        go_wp2_with fail
        refine (cOnce _ ao n cap 10 _ HI.out.cur (HV.out.below (Nat.le_refl _) HI.out.low) hn (by omega) (by omega)).mono ?_
        rintro e w4 ⟨⟨b, rfl⟩, c4, g4⟩
        have I4 := hidP (HI.out.cursor hq h12 c4 g4)
        clear c4 g4 HI hgl hzl
        cases b with
        | false =>
          go_wp2_with fail
          refine (cKind _ ao n cap _ I4.out.cur (HV.out.below (Nat.le_refl _) I4.out.low) hn).mono ?_
          rintro e w5 ⟨⟨kd, rfl⟩, c5, g5⟩
          have I5 := hidP (I4.out.cursor hq h12 c5 g5)
          clear c5 g5 I4
          go_wp2_with fail
          go_ret3
          exact ⟨g, c, ms, gi, ci, xs, kd, rfl, (HN2.out.kin I5.out.kin).view, HN2.out.small (by omega), I5.out.row.view, by omega, I5.out.low⟩
        | true =>
          go_wp2_with fail
          refine (cBelow _ ao n cap 9 _ I4.out.cur (HV.out.below (Nat.le_refl _) I4.out.low) hn (by omega) (by omega)).mono ?_
          rintro e w5 ⟨⟨x, x0, x1, rfl⟩, c5, g5⟩
          have I5 := hidP (I4.out.cursor hq h12 c5 g5)
          have HOW := hidP I5.out.row
          have hgl5 := I5.out.row.lt
          have hzl5 := I5.out.low.size
          clear c5 g5 I4
          go_wp2_with (at_builtin; refine wpList_append_lies _ rfl (.tmp 38) (.tmp 41) 28 rfl w2.heap.size 2 i0 _ 1 8 Try.underlying28 hi0 hz0 hz1 hz2 rfl (by omega) (.slice (some ⟨gi, 0, none⟩) xs.length ci) xs.length (xs.map (Value.int .i64)) rfl (World.ownsRow.alloc HOW.out _) ⟨w5.heap.size, 0, none⟩ 1 1 [.int .i64 x] rfl rfl (World.news_of_block (cs := #[.int .i64 x]) (t := 2) (fr := (0, 0)) (heap_alloc_new w5 _)) (by simp [Value.oneCell']) (by omega) (by unfold maxLen; omega) (by omega) (by simp; omega) (w5.heap.size + 1) (by simp) ?_; intro gg cc w8 hown hgrow hat8 hlt8; have I8 := hidP (I5.out.append hq h12 hown hgrow); clear hown hgrow)
          refine (cKind _ ao n cap _ I8.out.cur (HV.out.below (Nat.le_refl _) I8.out.low) hn).mono ?_
          rintro e w9 ⟨⟨kd, rfl⟩, c9, g9⟩
          have I9 := hidP (I8.out.cursor hq h12 c9 g9)
          clear c9 g9 I8 I5 HOW
          go_wp2_with fail
          go_ret3
          exact ⟨g, c, ms, gg, cc, xs ++ [x], kd, by rw [List.length_append]; rfl, (HN2.out.kin I9.out.kin).view, HN2.out.small (by omega), I9.out.row.view, by simp; omega, I9.out.low⟩

end Go.Proofs.Ytpcclaehcmnngaa
