/-
  The given draws of words.
-/
import Derived.Test.YtiddimmifjklmaaODraw
import Derived.Test.YtiddimmifjklmaaWIm5
namespace Go.Proofs.Ytiddimmifjklmaa
open Go Go.RowKit

theorem word_at4 (y : Nat) (h : y < 4) : ∃ v, (#[.int .i64 (-1), .int .i64 65535, .int .i64 65536, .int .i64 0] : Array Value)[y]? = some (.int .i64 v) := by
  rcases (show y = 0 ∨ y = 1 ∨ y = 2 ∨ y = 3 by omega) with rfl | rfl | rfl | rfl <;> exact ⟨_, rfl⟩

set_option maxRecDepth 100000 in
set_option maxHeartbeats 1000000 in
theorem c9Word (q : Nat) (ao : Option Addr) (n cap : Nat) (w : World) (hc : Cur w q ao n cap) (hv : CodeV w ao n) (hn : n ≤ 4096) :
    Calls Try.prog 32 #[.pointer (some ⟨q, 0, none⟩)] w fun e w' => (∃ x : Int, e = .returned (.int .i64 x)) ∧ Cur w' q ao n cap ∧ w.grownBy w' (some q) := by
  go_enter Try.func32, Try.ntmps32
  go_wp2_with fail
  refine (cOnce q ao n cap 20 _ hc hv hn (by omega) (by omega)).mono ?_
  rintro e w6 ⟨⟨t, rfl⟩, c6, g6⟩
  have hv6 := hv.grown hc g6
  cases t with
  | false =>
    go_wp2_with fail
    refine (cBelowM q ao n cap 65536 _ c6 hv6 hn (by omega)).mono ?_
    rintro e w7 ⟨⟨y, hy0, hy1, rfl⟩, c7, g7⟩
    have G7 := grown_trans g6 g7
    clear hv hc hv6 c6 g6 g7
    go_wp2_with fail
    go_ret
    exact ⟨⟨_, rfl⟩, c7, G7⟩
  | true =>
    go_wp2_with fail
    refine (cBelow q ao n cap 4 _ (c6.alloc _) (hv6.below (Nat.le_refl _) ((Below.refl _ _).alloc (Nat.le_refl _) _)) hn (by omega) (by omega)).mono ?_
    rintro e w7 ⟨⟨y, hy0, hy1, rfl⟩, c7, g7⟩
    obtain ⟨y3, rfl⟩ : ∃ y' : Nat, y = (y' : Int) := ⟨y.toNat, by omega⟩
    have hlt6 := c6.lt
    obtain ⟨v, hvv⟩ := word_at4 y3 (by omega)
    have hcell : w7.cell? ⟨w6.heap.size, y3, none⟩ = some (.int .i64 v) := by
      refine g7.cell ?_ (by simp; omega)
      rw [World.cell?_alloc_at _ _ _ _ rfl]
      exact hvv
    have G7 := grown_trans (grown_trans g6 (World.grownBy_alloc w6 _ (some q))) g7
    clear hv hc hv6 c6 g6 g7
    go_wp2_with fail
    go_ret
    exact ⟨⟨_, rfl⟩, c7, G7⟩

set_option maxRecDepth 100000 in
set_option maxHeartbeats 4000000 in
theorem c9Words (q : Nat) (ao : Option Addr) (n cap : Nat) (x : Int) (w : World) (hc : Cur w q ao n cap) (hv : CodeV w ao n) (hn : n ≤ 4096) :
    Calls Try.prog 33 #[.pointer (some ⟨q, 0, none⟩), .int .i64 x] w fun e w' => (∃ g c xs, e = .returned (.slice (some ⟨g, 0, none⟩) xs.length c) ∧ xs.length ≤ 61 ∧ IRow w.heap.size w' g c xs) ∧ Cur w' q ao n cap ∧ w.grownBy w' (some q) := by
  have hq := hc.lt
  obtain ⟨i0, hi0, hz0, hz1, hz2⟩ := info_parts Try.info2
  have R0 := hidP (IRow.start w w.heap.size (Nat.le_refl _))
  go_enter Try.func33, Try.ntmps33
  go_wp2_with fail
  refine (cBelow q ao n cap 7 _ (hc.alloc _) (hv.below (Nat.le_refl _) ((Below.refl _ _).alloc (Nat.le_refl _) _)) hn (by omega) (by omega)).mono ?_
  rintro e w1 ⟨⟨m, hm0, hm1, rfl⟩, c1, g1⟩
  have hgl0 := R0.out.lt
  have R1 := hidP (R0.out.kept g1 (by simp; omega))
  have G1 := hidP (grown_trans (World.grownBy_alloc w (.cells #[] 2) (some q)) g1)
  clear g1
  go_wp2_with fail
  go_loopw [6, 5] (fun s v wr => ∃ (xs : List Int) (k g c : Nat), xs.length + k ≤ 7 ∧ s = .int .i64 (k : Int) ∧ v = .slice (some ⟨g, 0, none⟩) xs.length c ∧ IRow w.heap.size wr g c xs ∧ Cur wr q ao n cap ∧ w.grownBy wr (some q)) (fun s _ _ => (intOf s).toNat)
  case atStart => exact ⟨[], m.toNat, w.heap.size, 0, by simp; omega, by congr 1; omega, rfl, R1.out, c1, G1.out⟩
  case round =>
    obtain ⟨xs, k, g, c, hk, rfl, rfl, hrow, hcr, hg⟩ := hrel
    have hvr := hv.grown hc hg
    have hgl := hrow.lt
    have HR := hidP hrow
    have HG := hidP hg
    have hgs := hg.size
    clear hrow hg
    by_cases hlt : 0 < k
    · go_wp2_with fail
      refine (cBelow q ao n cap 6 _ hcr hvr hn (by omega) (by omega)).mono ?_
      rintro e w2 ⟨⟨y, hy0, hy1, rfl⟩, c2, g2⟩
      have hv2 := hvr.grown hcr g2
      have HG2 := hidP (grown_trans HG.out g2)
      have HR2 := hidP (HR.out.kept g2 (by simp; omega))
      clear hcr hvr g2 HG HR
      go_wp2_with fail
      go_loopw [7, 8] (fun s v wq => ∃ (z : Int) (j : Nat), j ≤ 6 ∧ s = .int .i64 z ∧ v = .int .i64 (j : Int) ∧ IRow w.heap.size wq g c xs ∧ Cur wq q ao n cap ∧ CodeV wq ao n ∧ w.grownBy wq (some q)) (fun _ v _ => (intOf v).toNat)
      case atStart => exact ⟨x, y.toNat, by omega, rfl, by congr 1; omega, HR2.out, c2, hv2, HG2.out⟩
      case round =>
        obtain ⟨z, j, hj, rfl, rfl, hrow3, hc3, hv3, hg3⟩ := hrel
        have HR3 := hidP hrow3
        have HG3 := hidP hg3
        have hgl3 := hrow3.lt
        clear hrow3 hg3
        by_cases hj0 : 0 < j
        · go_wp2_with fail
          refine (cBelow q ao n cap 16 _ hc3 hv3 hn (by omega) (by omega)).mono ?_
          rintro e w4 ⟨⟨u, hu0, hu1, rfl⟩, c4, g4⟩
          have hv4 := hv3.grown hc3 g4
          have HG4 := hidP (grown_trans HG3.out g4)
          have HR4 := hidP (HR3.out.kept g4 (by simp; omega))
          obtain ⟨u', rfl⟩ : ∃ u' : Nat, u = (u' : Int) := ⟨u.toNat, by omega⟩
          clear hc3 hv3 g4 HG3 HR3
          go_wp2_with fail
          go_roundw
          case rel => exact ⟨_, j - 1, by omega, rfl, by congr 1; omega, HR4.out, c4, hv4, HG4.out⟩
          case measure => simp [intOf]; omega
        · obtain rfl : j = 0 := by omega
          go_wp2_with fail
          refine (cOnce q ao n cap 4 _ hc3 hv3 hn (by omega) (by omega)).mono ?_
          rintro e w5 ⟨⟨t, rfl⟩, c5, g5⟩
          have hv5 := hv3.grown hc3 g5
          have HG5 := hidP (grown_trans HG3.out g5)
          have HR5 := hidP (HR3.out.kept g5 (by simp; omega))
          clear hc3 hv3 g5 HG3 HR3
          cases t with
          | false =>
            have HOW := hidP (show w5.ownsRow w.heap.size 2 1 (.slice (some ⟨g, 0, none⟩) xs.length c) xs.length (xs.map (Value.int .i64)) from HR5.out)
            have hglz := HR5.out.lt
            have hgsz := HG5.out.size
            go_wp2_with (at_builtin; refine wpList_append_lies _ rfl (.tmp 33) (.tmp 35) 24 rfl w.heap.size 2 i0 _ 1 8 Try.underlying24 hi0 hz0 hz1 hz2 rfl (by omega) (.slice (some ⟨g, 0, none⟩) xs.length c) xs.length (xs.map (Value.int .i64)) rfl (World.ownsRow.alloc HOW.out _) ⟨w5.heap.size, 0, none⟩ 1 1 [.int .i64 z] rfl rfl (World.news_of_block (cs := #[.int .i64 z]) (t := 2) (fr := (0, 0)) (heap_alloc_new w5 _)) (by simp [Value.oneCell']) (by omega) (by unfold maxLen; omega) (by omega) (by simp; omega) (w5.heap.size + 1) (by simp) ?_; intro gg cc w8 hown hgrow hat8 hlt8)
            go_roundw
            case rel =>
              refine ⟨xs ++ [z], k - 1, gg, cc, by simp; omega, by congr 1; omega, by simp, IRow.of hown (by simp) (by simp), ?_, ?_⟩
              · exact (c5.alloc _).grown hgrow (by simp [Value.ownBlock]; omega)
              · exact grown_far (grown_far HG5.out (World.grownBy_alloc w5 _ none) (by simp)) hgrow (by intro k hk; simp [Value.ownBlock] at hk; omega)
            case measure => simp [intOf]; omega
          | true =>
            go_wp2_with fail
            refine (c9Word q ao n cap _ c5 hv5 hn).mono ?_
            rintro e w6 ⟨⟨v, rfl⟩, c6, g6⟩
            have hgl5 := HR5.out.lt
            have HG6 := hidP (grown_trans HG5.out g6)
            have HR6 := hidP (HR5.out.kept g6 (by simp; omega))
            clear hv5 c5 g6 HG5 HR5
            have HOW := hidP (show w6.ownsRow w.heap.size 2 1 (.slice (some ⟨g, 0, none⟩) xs.length c) xs.length (xs.map (Value.int .i64)) from HR6.out)
            have hglz := HR6.out.lt
            have hgsz := HG6.out.size
            go_wp2_with (at_builtin; refine wpList_append_lies _ rfl (.tmp 33) (.tmp 35) 24 rfl w.heap.size 2 i0 _ 1 8 Try.underlying24 hi0 hz0 hz1 hz2 rfl (by omega) (.slice (some ⟨g, 0, none⟩) xs.length c) xs.length (xs.map (Value.int .i64)) rfl (World.ownsRow.alloc HOW.out _) ⟨w6.heap.size, 0, none⟩ 1 1 [.int .i64 v] rfl rfl (World.news_of_block (cs := #[.int .i64 v]) (t := 2) (fr := (0, 0)) (heap_alloc_new w6 _)) (by simp [Value.oneCell']) (by omega) (by unfold maxLen; omega) (by omega) (by simp; omega) (w6.heap.size + 1) (by simp) ?_; intro gg cc w8 hown hgrow hat8 hlt8)
            go_roundw
            case rel =>
              refine ⟨xs ++ [v], k - 1, gg, cc, by simp; omega, by congr 1; omega, by simp, IRow.of hown (by simp) (by simp), ?_, ?_⟩
              · exact (c6.alloc _).grown hgrow (by simp [Value.ownBlock]; omega)
              · exact grown_far (grown_far HG6.out (World.grownBy_alloc w6 _ none) (by simp)) hgrow (by intro k hk; simp [Value.ownBlock] at hk; omega)
            case measure => simp [intOf]; omega
    · obtain rfl : k = 0 := by omega
      go_wp2_with fail
      refine (cOnce q ao n cap 30 _ hcr hvr hn (by omega) (by omega)).mono ?_
      rintro e w2 ⟨⟨t, rfl⟩, c2, g2⟩
      have hv2 := hvr.grown hcr g2
      have HG2 := hidP (grown_trans HG.out g2)
      have HR2 := hidP (HR.out.kept g2 (by simp; omega))
      clear hcr hvr g2 HG HR
      cases t with
      | false =>
        go_wp2_with fail
        go_ret
        exact ⟨⟨g, c, xs, rfl, by omega, HR2.out⟩, c2, HG2.out⟩
      | true =>
        go_wp2_with fail
        refine (cBelow q ao n cap 2 _ c2 hv2 hn (by omega) (by omega)).mono ?_
        rintro e w3 ⟨⟨y, hy0, hy1, rfl⟩, c3, g3⟩
        have HG3 := hidP (grown_trans HG2.out g3)
        have hgs3 := HG3.out.size
        clear hv2 c2 g3 HG2 HR2
        rcases (show y = 0 ∨ y = 1 by omega) with rfl | rfl
        · have hmk : ∀ w, Sem.run Try.prog (Instr.makeSlice 24 (.int .i64 60) (.int .i64 60)) w = .ok (.slice (some ⟨w.heap.size, 0, none⟩) 60 60) (w.alloc (.cells (rowC (List.replicate 60 0)) 2)) := by
            have h := run_make_row' (P := Try.prog) 24 2 (.int .i64 0) 8 Try.underlying24 Try.info2 rfl .i64 .i64 60 (by omega) (by omega)
            rw [made_zeros] at h
            exact h
          go_wp2_with fail
          go_ret
          have hO : Own (w3.alloc (.cells (rowC (List.replicate 60 0)) 2)) w3.heap.size (List.replicate 60 0) := Own.new w3 _
          exact ⟨⟨w3.heap.size, 60, List.replicate 60 0, rfl, by simp, hO.irow (base := w.heap.size) hgs3 (by simp [maxLen])⟩, c3.alloc _, grown_far HG3.out (World.grownBy_alloc w3 _ none) (by simp)⟩
        · have hmk : ∀ w, Sem.run Try.prog (Instr.makeSlice 24 (.int .i64 61) (.int .i64 61)) w = .ok (.slice (some ⟨w.heap.size, 0, none⟩) 61 61) (w.alloc (.cells (rowC (List.replicate 61 0)) 2)) := by
            have h := run_make_row' (P := Try.prog) 24 2 (.int .i64 0) 8 Try.underlying24 Try.info2 rfl .i64 .i64 61 (by omega) (by omega)
            rw [made_zeros] at h
            exact h
          go_wp2_with fail
          go_ret
          have hO : Own (w3.alloc (.cells (rowC (List.replicate 61 0)) 2)) w3.heap.size (List.replicate 61 0) := Own.new w3 _
          exact ⟨⟨w3.heap.size, 61, List.replicate 61 0, rfl, by simp, hO.irow (base := w.heap.size) hgs3 (by simp [maxLen])⟩, c3.alloc _, grown_far HG3.out (World.grownBy_alloc w3 _ none) (by simp)⟩
end Go.Proofs.Ytiddimmifjklmaa
