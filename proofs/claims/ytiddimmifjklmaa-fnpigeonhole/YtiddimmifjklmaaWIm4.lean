/-
  The program's numbersWhere with both of its closures, Alike and Close.
-/
import Derived.Test.YtiddimmifjklmaaWIm3
namespace Go.Proofs.Ytiddimmifjklmaa
open Go Go.RowKit

set_option maxRecDepth 100000 in
set_option maxHeartbeats 2000000 in
theorem wAlike_seg (b off cap : Nat) (xs : List Int) (q n m : Nat) (A Nb : Nat) (w : World) (hs : Seg w b off xs) (hb : b < w.heap.size) (hl : listB xs = true) (hA : Arr w A (bit16 q)) (hm : m * n = 16) (hN : Boxed w Nb 2 (.int .i64 (n : Int))) :
    Calls Try.prog 41 #[.slice (some ⟨b, off, none⟩) xs.length cap, .func (.func 42) #[] #[.pointer (some ⟨A, 0, none⟩), .pointer (some ⟨Nb, 0, none⟩)]] w fun e w' => ∃ g c, e = .returned (.slice (some ⟨g, 0, none⟩) (idsF (fun i => alikeB (nth xs i).toNat q m n) xs.length).length c) ∧ IRow w.heap.size w' g c (idsF (fun i => alikeB (nth xs i).toNat q m n) xs.length) ∧ Below w.heap.size w w' := by
  obtain ⟨F, hF⟩ : ∃ F : Nat → Bool, F = fun i => alikeB (nth xs i).toNat q m n := ⟨_, rfl⟩
  have HF := hidP hF
  rw [← hF]
  clear hF
  have hlen60 := listB_len hl
  have HL := hidP hl
  have HAA := hidP hA
  have HNN := hidP hN
  have hAlt := hA.lt
  have hNlt := hN.lt
  clear hl hA hN
  obtain ⟨i0, hi0, hz0, hz1, hz2⟩ := info_parts Try.info2
  have R1 := hidP (IRow.start w w.heap.size (Nat.le_refl _))
  have L1 := hidP ((Below.refl w.heap.size w).alloc (Nat.le_refl _) (.cells #[] 2))
  go_enter Try.func41, Try.ntmps41
  go_wp2_with fail
  go_loopw [5, 11] (fun v i wr => ∃ (k g c : Nat), k ≤ xs.length ∧ i = .int .i64 k ∧ v = .slice (some ⟨g, 0, none⟩) (idsF F k).length c ∧ IRow w.heap.size wr g c (idsF F k) ∧ Below w.heap.size w wr) (fun _ i _ => xs.length - (intOf i).toNat)
  case atStart => exact ⟨0, w.heap.size, 0, Nat.zero_le _, rfl, rfl, R1.out, L1.out⟩
  case round =>
    obtain ⟨k, g, c, hk, rfl, rfl, hrow, L⟩ := hrel
    have HR := hidP hrow
    have HLL := hidP L
    have hz := L.size
    have hgl := hrow.lt
    have hil := idsF_len F k
    by_cases hlt : k < xs.length
    · have hcell : wr.cell? ⟨b, off + k, none⟩ = some (.int .i64 (nth xs k)) := (L.cell (p := ⟨b, off + k, none⟩) hb).trans (hs k hlt)
      obtain ⟨x, hx, hx16⟩ : ∃ x : Nat, nth xs k = (x : Int) ∧ x < 65536 := ⟨(nth xs k).toNat, by have := wordB_lt (listB_at HL.out hlt); omega, (wordB_lt (listB_at HL.out hlt)).1⟩
      have HFK := hidP (show F k = alikeB x q m n by rw [HF.out]; simp [hx])
      have HIS := hidP (ids_succ F k)
      rw [hx] at hcell
      clear hx hrow L
      go_wp2_with fail
      refine (iWordOf x _ hx16).mono ?_
      rintro e w2 ⟨rfl, L2⟩
      have HR2 := hidP (HR.out.below L2)
      have hL2 := chain HLL.out L2
      have HL2 := hidP hL2
      have HA2 := hidP (HAA.out.below hAlt hL2)
      have HN2 := hidP ((hL2.block Nb hNlt).trans HNN.out)
      have hz2w := hL2.size
      have hgl2 := HR2.out.lt
      clear L2 hL2 HR HLL hcell
      go_wp2_with fail
      refine (iAlikeFn x q n m A Nb w2 hm HA2.out HN2.out).mono ?_
      rintro e w3 ⟨rfl, L3⟩
      rw [← HFK.out]
      have HR3 := hidP (HR2.out.below L3)
      have HL3 := hidP (chain HL2.out L3)
      have hz3 := L3.size
      clear L3 HR2 HL2 HA2 HN2
      rcases hb : F k with _ | _
      · have HE : Hid (idsF F (k + 1) = idsF F k) := by show idsF F (k + 1) = _; rw [HIS.out, hb]; simp
        clear hb
        go_wp2
        go_roundw
        case rel =>
          refine ⟨k + 1, g, c, by omega, by go_num, by rw [HE.out], ?_, HL3.out⟩
          rw [HE.out]; exact HR3.out
        case measure => simp [intOf]; omega
      · have HE : Hid (idsF F (k + 1) = idsF F k ++ [(k : Int)]) := by show idsF F (k + 1) = _; rw [HIS.out, hb]; simp
        have HOW := hidP (show w3.ownsRow w.heap.size 2 1 (.slice (some ⟨g, 0, none⟩) (idsF F k).length c) (idsF F k).length ((idsF F k).map (Value.int .i64)) from HR3.out)
        clear hb
        go_wp2_with (at_builtin; refine wpList_append_lies _ rfl (.tmp 20) (.tmp 22) 24 rfl w.heap.size 2 i0 _ 1 8 Try.underlying24 hi0 hz0 hz1 hz2 rfl (by omega) (.slice (some ⟨g, 0, none⟩) (idsF F k).length c) (idsF F k).length ((idsF F k).map (Value.int .i64)) rfl (World.ownsRow.alloc HOW.out _) ⟨w3.heap.size, 0, none⟩ 1 1 [.int .i64 (k : Int)] rfl rfl (World.news_of_block (cs := #[.int .i64 (k : Int)]) (t := 2) (fr := (0, 0)) (heap_alloc_new w3 _)) (by simp [Value.oneCell']) (by omega) (by unfold maxLen; omega) (by omega) (by simp; omega) (w3.heap.size + 1) (by simp) ?_; intro gg cc w8 hown hgrow hat8 hlt8)
        go_roundw
        case rel =>
          refine ⟨k + 1, gg, cc, by omega, by go_num, by rw [HE.out]; simp, ?_, ?_⟩
          · rw [HE.out]; exact IRow.of hown (by simp) (by simp)
          · refine (HL3.out.alloc (by omega) _).grown hgrow (by simp; omega) ?_
            intro q hq
            simp [Value.ownBlock] at hq
            omega
        case measure => simp [intOf]; omega
    · obtain rfl : k = xs.length := by omega
      clear hrow L
      go_wp2
      go_ret
      exact ⟨g, c, rfl, HR.out, HLL.out⟩

set_option maxRecDepth 100000 in
set_option maxHeartbeats 1000000 in
theorem wAlike_nil (ao : Option Addr) (cap : Nat) (A Nb : Nat) (w : World) :
    Calls Try.prog 41 #[.slice ao 0 cap, .func (.func 42) #[] #[.pointer (some ⟨A, 0, none⟩), .pointer (some ⟨Nb, 0, none⟩)]] w fun e w' => ∃ g c, e = .returned (.slice (some ⟨g, 0, none⟩) 0 c) ∧ IRow w.heap.size w' g c [] ∧ Below w.heap.size w w' := by
  have R1 := hidP (IRow.start w w.heap.size (Nat.le_refl _))
  have L1 := hidP ((Below.refl w.heap.size w).alloc (Nat.le_refl _) (.cells #[] 2))
  go_enter Try.func41, Try.ntmps41
  go_wp2_with fail
  refine wp_loop_rounds 1 ?_
  rw [rounds_succ]
  go_wp2
  go_ret
  exact ⟨w.heap.size, 0, rfl, R1.out, L1.out⟩

set_option maxRecDepth 100000 in
set_option maxHeartbeats 2000000 in
theorem wClose_seg (b off cap : Nat) (xs : List Int) (q : Nat) (most : Int) (A Nb : Nat) (w : World) (hs : Seg w b off xs) (hb : b < w.heap.size) (hl : listB xs = true) (hA : Arr w A (bit16 q)) (hq : q < 65536) (hN : Boxed w Nb 2 (.int .i64 most)) :
    Calls Try.prog 41 #[.slice (some ⟨b, off, none⟩) xs.length cap, .func (.func 45) #[] #[.pointer (some ⟨A, 0, none⟩), .pointer (some ⟨Nb, 0, none⟩)]] w fun e w' => ∃ g c, e = .returned (.slice (some ⟨g, 0, none⟩) (idsF (fun i => decide (apartV (nth xs i) (q : Int) ≤ most)) xs.length).length c) ∧ IRow w.heap.size w' g c (idsF (fun i => decide (apartV (nth xs i) (q : Int) ≤ most)) xs.length) ∧ Below w.heap.size w w' := by
  obtain ⟨F, hF⟩ : ∃ F : Nat → Bool, F = fun i => decide (apartV (nth xs i) (q : Int) ≤ most) := ⟨_, rfl⟩
  have HF := hidP hF
  rw [← hF]
  clear hF
  have hlen60 := listB_len hl
  have HL := hidP hl
  have HAA := hidP hA
  have HNN := hidP hN
  have hAlt := hA.lt
  have hNlt := hN.lt
  clear hl hA hN
  obtain ⟨i0, hi0, hz0, hz1, hz2⟩ := info_parts Try.info2
  have R1 := hidP (IRow.start w w.heap.size (Nat.le_refl _))
  have L1 := hidP ((Below.refl w.heap.size w).alloc (Nat.le_refl _) (.cells #[] 2))
  go_enter Try.func41, Try.ntmps41
  go_wp2_with fail
  go_loopw [5, 11] (fun v i wr => ∃ (k g c : Nat), k ≤ xs.length ∧ i = .int .i64 k ∧ v = .slice (some ⟨g, 0, none⟩) (idsF F k).length c ∧ IRow w.heap.size wr g c (idsF F k) ∧ Below w.heap.size w wr) (fun _ i _ => xs.length - (intOf i).toNat)
  case atStart => exact ⟨0, w.heap.size, 0, Nat.zero_le _, rfl, rfl, R1.out, L1.out⟩
  case round =>
    obtain ⟨k, g, c, hk, rfl, rfl, hrow, L⟩ := hrel
    have HR := hidP hrow
    have HLL := hidP L
    have hz := L.size
    have hgl := hrow.lt
    have hil := idsF_len F k
    by_cases hlt : k < xs.length
    · have hcell : wr.cell? ⟨b, off + k, none⟩ = some (.int .i64 (nth xs k)) := (L.cell (p := ⟨b, off + k, none⟩) hb).trans (hs k hlt)
      obtain ⟨x, hx, hx16⟩ : ∃ x : Nat, nth xs k = (x : Int) ∧ x < 65536 := ⟨(nth xs k).toNat, by have := wordB_lt (listB_at HL.out hlt); omega, (wordB_lt (listB_at HL.out hlt)).1⟩
      have HFK := hidP (show F k = decide ((wtN (x ^^^ q) : Int) ≤ most) by rw [HF.out]; simp only [hx, apartV_in hx16 hq])
      have HIS := hidP (ids_succ F k)
      rw [hx] at hcell
      clear hx hrow L
      go_wp2_with fail
      refine (iWordOf x _ hx16).mono ?_
      rintro e w2 ⟨rfl, L2⟩
      have HR2 := hidP (HR.out.below L2)
      have hL2 := chain HLL.out L2
      have HL2 := hidP hL2
      have HA2 := hidP (HAA.out.below hAlt hL2)
      have HN2 := hidP ((hL2.block Nb hNlt).trans HNN.out)
      have hz2w := hL2.size
      have hgl2 := HR2.out.lt
      clear L2 hL2 HR HLL hcell
      go_wp2_with fail
      refine (iCloseFn x q A Nb most w2 HA2.out HN2.out).mono ?_
      rintro e w3 ⟨rfl, L3⟩
      rw [← HFK.out]
      have HR3 := hidP (HR2.out.below L3)
      have HL3 := hidP (chain HL2.out L3)
      have hz3 := L3.size
      clear L3 HR2 HL2 HA2 HN2
      rcases hb : F k with _ | _
      · have HE : Hid (idsF F (k + 1) = idsF F k) := by show idsF F (k + 1) = _; rw [HIS.out, hb]; simp
        clear hb
        go_wp2
        go_roundw
        case rel =>
          refine ⟨k + 1, g, c, by omega, by go_num, by rw [HE.out], ?_, HL3.out⟩
          rw [HE.out]; exact HR3.out
        case measure => simp [intOf]; omega
      · have HE : Hid (idsF F (k + 1) = idsF F k ++ [(k : Int)]) := by show idsF F (k + 1) = _; rw [HIS.out, hb]; simp
        have HOW := hidP (show w3.ownsRow w.heap.size 2 1 (.slice (some ⟨g, 0, none⟩) (idsF F k).length c) (idsF F k).length ((idsF F k).map (Value.int .i64)) from HR3.out)
        clear hb
        go_wp2_with (at_builtin; refine wpList_append_lies _ rfl (.tmp 20) (.tmp 22) 24 rfl w.heap.size 2 i0 _ 1 8 Try.underlying24 hi0 hz0 hz1 hz2 rfl (by omega) (.slice (some ⟨g, 0, none⟩) (idsF F k).length c) (idsF F k).length ((idsF F k).map (Value.int .i64)) rfl (World.ownsRow.alloc HOW.out _) ⟨w3.heap.size, 0, none⟩ 1 1 [.int .i64 (k : Int)] rfl rfl (World.news_of_block (cs := #[.int .i64 (k : Int)]) (t := 2) (fr := (0, 0)) (heap_alloc_new w3 _)) (by simp [Value.oneCell']) (by omega) (by unfold maxLen; omega) (by omega) (by simp; omega) (w3.heap.size + 1) (by simp) ?_; intro gg cc w8 hown hgrow hat8 hlt8)
        go_roundw
        case rel =>
          refine ⟨k + 1, gg, cc, by omega, by go_num, by rw [HE.out]; simp, ?_, ?_⟩
          · rw [HE.out]; exact IRow.of hown (by simp) (by simp)
          · refine (HL3.out.alloc (by omega) _).grown hgrow (by simp; omega) ?_
            intro q hq
            simp [Value.ownBlock] at hq
            omega
        case measure => simp [intOf]; omega
    · obtain rfl : k = xs.length := by omega
      clear hrow L
      go_wp2
      go_ret
      exact ⟨g, c, rfl, HR.out, HLL.out⟩

set_option maxRecDepth 100000 in
set_option maxHeartbeats 1000000 in
theorem wClose_nil (ao : Option Addr) (cap : Nat) (A Nb : Nat) (w : World) :
    Calls Try.prog 41 #[.slice ao 0 cap, .func (.func 45) #[] #[.pointer (some ⟨A, 0, none⟩), .pointer (some ⟨Nb, 0, none⟩)]] w fun e w' => ∃ g c, e = .returned (.slice (some ⟨g, 0, none⟩) 0 c) ∧ IRow w.heap.size w' g c [] ∧ Below w.heap.size w w' := by
  have R1 := hidP (IRow.start w w.heap.size (Nat.le_refl _))
  have L1 := hidP ((Below.refl w.heap.size w).alloc (Nat.le_refl _) (.cells #[] 2))
  go_enter Try.func41, Try.ntmps41
  go_wp2_with fail
  refine wp_loop_rounds 1 ?_
  rw [rounds_succ]
  go_wp2
  go_ret
  exact ⟨w.heap.size, 0, rfl, R1.out, L1.out⟩
end Go.Proofs.Ytiddimmifjklmaa
