/-
  The given DrawMarksOk and DrawAround.
-/
import Derived.Test.YtodielfilhodeaaBDraw3Zz
import Derived.Test.YtodielfilhodeaaMAnyZz
namespace Go.Proofs.Ytodielfilhodeaa
open Go Go.RowKit

theorem dMarks_len {ds : List Dm} {k : Nat} (h : ∀ d ∈ ds, d.2.2.2.length ≤ k) (i : Nat) : (mat (dMarks ds) i).length ≤ k := by
  rcases Nat.lt_or_ge i ds.length with hi | hi
  · rw [dMarks_mat ds i hi]; exact h _ (mdnth_mem ds i hi)
  · simp [mat, dMarks, List.getD, hi]

set_option maxRecDepth 100000 in
set_option maxHeartbeats 2000000 in
theorem cMarksOkD (ao : Option Addr) (n cap : Nat) (w : World) (hv : CodeV w ao n) (hn : n ≤ 4096) :
    Calls Try.prog 63 #[.slice ao n cap] w fun e w' => ∃ g c ms base, e = .returned (.slice (some ⟨g, 0, none⟩) ms.length c) ∧ MNew base w' g c ms 61 ∧ w.heap.size ≤ base ∧ Below w.heap.size w w' := by
  obtain ⟨j0, hj0, hy0, hy1, hy2⟩ := info_parts Try.info37
  have HC := hidP (cNew ao n cap w hv hn)
  have HV0 := hidP hv
  clear hv
  go_enter Try.func63, Try.ntmps63
  go_wp2_with fail
  refine HC.out.mono ?_
  rintro e w1 ⟨rfl, c1, L1⟩
  have HF := hidP (cOnce w.heap.size ao n cap 30 w1 c1 (HV0.out.below (Nat.le_refl _) L1) hn (by omega) (by omega))
  have HL1 := hidP L1
  clear c1 L1 HC
  go_wp2_with fail
  refine HF.out.mono ?_
  rintro e w2 ⟨⟨x, rfl⟩, c2, g2⟩
  have L2 : Below w.heap.size w w2 := HL1.out.grown g2 HL1.out.size (by intro k hk; cases hk; exact Nat.le_refl _)
  have HP := hidP (And.intro c2 (And.intro (HV0.out.below (Nat.le_refl _) L2) L2))
  have hq := c2.lt
  clear c2 g2 L2 HF HL1
  cases x with
  | false =>
    have HM := hidP (cMarksAny w.heap.size ao n cap 7 w2 HP.out.1 HP.out.2.1 hn (by omega) (by omega))
    go_wp2_with fail
    refine HM.out.mono ?_
    rintro e w3 ⟨⟨g, c, ms, rfl, hnew⟩, _, g3⟩
    have HE := hidP (And.intro hnew (HP.out.2.2.grown g3 HP.out.2.2.size (by intro k hk; cases hk; exact Nat.le_refl _)))
    clear hnew g3 HM
    go_wp2_with fail
    go_ret
    exact ⟨g, c, ms, w2.heap.size, rfl, ⟨by have := HE.out.1.1; omega, HE.out.1.2⟩, by omega, HE.out.2⟩
  | true =>
    have D0 := hidP (DRow.start w2 w2.heap.size (Nat.le_refl _))
    have C0 := HP.out.1.alloc (.cells #[] 37)
    have G0 := World.grownBy_alloc w2 (.cells #[] 37) (some w.heap.size)
    go_wp2_with fail
    generalize w2.alloc (.cells #[] 37) = W0 at *
    go_loopw [4, 5] (fun v i wr => ∃ (ds : List Dm) (g c : Nat), v = .slice (some ⟨g, 0, none⟩) ds.length c ∧ i = .int .i64 ((ds.length : Int) + 1) ∧ ds.length ≤ 61 ∧ (∀ d ∈ ds, d.2.2.2.length ≤ 5) ∧ DRow w2.heap.size wr g c ds ∧ Cur wr w.heap.size ao n cap ∧ w2.grownBy wr (some w.heap.size)) (fun _ i _ => (100 - intOf i).toNat)
    case atStart => exact ⟨[], w2.heap.size, 0, rfl, rfl, by simp, fun d hd => (by cases hd), D0.out, C0, G0⟩
    case round =>
      obtain ⟨ds, g, c, rfl, rfl, hdl, hds, D, cr, G⟩ := hrel
      have HS := hidP hds
      have HB := hidP (cBelow w.heap.size ao n cap 2 wr cr (HP.out.2.1.grown HP.out.1 G) hn (by omega) (by omega))
      have HD := hidP D
      have HG := hidP G
      clear hds D cr G
      go_wp2_with fail
      refine HB.out.mono ?_
      rintro e w3 ⟨⟨y, hya, hyb, rfl⟩, c3, g3⟩
      have D3 := HD.out.kept g3 (by intro k hk; cases hk; exact hq)
      have G3 := grown_trans HG.out g3
      have hz3 := G3.size
      have HC3 := hidP c3
      clear g3 HD HG HB c3
      by_cases hle : (ds.length : Int) + 1 ≤ 60 + y
      · have hrm : ((ds.length : Int) + 1).tmod 7 = ((ds.length : Int) + 1) % 7 := Int.tmod_eq_emod_of_nonneg (by omega)
        have R4 : Row w2.heap.size (w3.alloc (.cells #[.int .i64 (((ds.length : Int) + 1) % 7)] 2)) w3.heap.size 1 [((ds.length : Int) + 1) % 7] := World.ownsRow_lit (e := 2) (size := 1) w3 #[.int .i64 (((ds.length : Int) + 1) % 7)] 1 hz3 (by unfold maxLen; omega) rfl
        have hgl := D3.lt
        have HDL : Hid (∀ d ∈ ds, d.2.1 < w3.heap.size) := fun d hd => (D3.2.1 d hd).1.lt2.2
        have D4 := D3.kept (World.grownBy_alloc w3 (.cells #[.int .i64 (((ds.length : Int) + 1) % 7)] 2) none) (by intro k hk; cases hk)
        have C4 := HC3.out.alloc (.cells #[.int .i64 (((ds.length : Int) + 1) % 7)] 2)
        have G4 := grown_far G3 (World.grownBy_alloc w3 (.cells #[.int .i64 (((ds.length : Int) + 1) % 7)] 2) none) (by simp)
        have hs4 : (w3.alloc (.cells #[.int .i64 (((ds.length : Int) + 1) % 7)] 2)).heap.size = w3.heap.size + 1 := by simp
        obtain ⟨W4, hW4⟩ : ∃ W4, W4 = w3.alloc (.cells #[.int .i64 (((ds.length : Int) + 1) % 7)] 2) := ⟨_, rfl⟩
        rw [← hW4] at R4 D4 C4 G4 hs4
        have D5 := D4.kept (World.grownBy_alloc W4 (.cells #[.int .i64 ((ds.length : Int) + 1), .slice (some ⟨w3.heap.size, 0, none⟩) 1 1] 37) none) (by intro k hk; cases hk)
        have R5 : Row w2.heap.size (W4.alloc (.cells #[.int .i64 ((ds.length : Int) + 1), .slice (some ⟨w3.heap.size, 0, none⟩) 1 1] 37)) w3.heap.size 1 [((ds.length : Int) + 1) % 7] := World.ownsRow.alloc R4 _
        have HQ := hidP (And.intro D5 (And.intro R5 (And.intro C4 G4)))
        clear D3 D4 D5 R4 R5 C4 G3 G4 HC3
        go_wp2_with (at_builtin; rw [← hW4]; rw [← hs4]; refine wpList_append_lies _ rfl (.tmp 18) (.tmp 24) 30 rfl w2.heap.size 37 j0 _ 2 32 Try.underlying30 hj0 hy0 hy1 hy2 rfl (by omega) (.slice (some ⟨g, 0, none⟩) ds.length c) ds.length (dCells ds) rfl HQ.out.1.1 ⟨W4.heap.size, 0, none⟩ 1 1 [.int .i64 ((ds.length : Int) + 1), .slice (some ⟨w3.heap.size, 0, none⟩) 1 1] rfl rfl (World.news_of_block (cs := #[.int .i64 ((ds.length : Int) + 1), .slice (some ⟨w3.heap.size, 0, none⟩) 1 1]) (t := 37) (fr := (0, 0)) (heap_alloc_new W4 _)) (by simp [Value.oneCell']) (by omega) (by unfold maxLen; omega) (by omega) (by simp; omega) (W4.heap.size + 1) (by simp) ?_; intro gg cc w6 hown2 hgrow hat hlt1)
        go_wp2
        go_roundw
        case rel =>
          refine ⟨ds ++ [((ds.length : Int) + 1, w3.heap.size, 1, [((ds.length : Int) + 1) % 7])], gg, cc, ?_, ?_, by simp; omega, ?_, ?_, ?_, ?_⟩
          · rw [List.length_append, List.length_singleton]
          · rw [List.length_append, List.length_singleton]; go_num
          · intro d hd
            rcases List.mem_append.1 hd with h | h
            · exact HS.out d h
            · rw [List.mem_singleton.1 h]; simp
          · exact HQ.out.1.snoc HQ.out.2.1 (by omega) HDL.out hown2 hgrow (by rcases hat with h | h; exact Or.inl (by simpa [Value.ownBlock] using h.symm); exact Or.inr (by rw [h]; simp))
          · exact (HQ.out.2.2.1.alloc _).grown hgrow (by simp [Value.ownBlock]; omega)
          · exact grown_far (grown_far HQ.out.2.2.2 (World.grownBy_alloc W4 _ none) (by simp)) hgrow (by intro k hk; simp [Value.ownBlock] at hk; omega)
        case measure => simp [intOf]; omega
      · have HE := hidP (And.intro D3 G3)
        clear D3 G3
        go_wp2_with fail
        go_ret
        have hc := HE.out.1.cap
        exact ⟨g, c, dMarks ds, w2.heap.size, by rw [dMarks_length]; rfl, ⟨by rw [dMarks_length]; omega, by rw [dMarks_length]; exact hc, HE.out.1.high _, dMarks_len HS.out⟩, by omega, HP.out.2.2.grown HE.out.2 HP.out.2.2.size (by intro k hk; cases hk; exact Nat.le_refl _)⟩

set_option maxHeartbeats 1000000 in
theorem cAround (ao : Option Addr) (n cap : Nat) (w : World) (hv : CodeV w ao n) (hn : n ≤ 4096) :
    Calls Try.prog 12 #[.slice ao n cap] w fun e w' => ∃ g c ms base, e = .returned (.slice (some ⟨g, 0, none⟩) ms.length c) ∧ MNew base w' g c ms 61 ∧ w.heap.size ≤ base ∧ Below w.heap.size w w' := by
  have HC := hidP (cMarksOkD ao n cap w hv hn)
  clear hv
  go_enter Try.func12, Try.ntmps12
  go_wp2_with fail
  refine HC.out.mono ?_
  rintro e w1 ⟨g, c, ms, base, rfl, hm⟩
  have HE := hidP hm
  clear hm HC
  go_wp2_with fail
  go_ret
  exact ⟨g, c, ms, base, rfl, HE.out⟩

end Go.Proofs.Ytodielfilhodeaa
