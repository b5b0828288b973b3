/-
  The given Close of chapter 9.
-/
import Derived.Test.YtiddimmifjklmaaWSp3
namespace Go.Proofs.Ytiddimmifjklmaa
open Go Go.RowKit

theorem closeL_bad {xs : List Int} {q k : Int} (h : ¬ (listB xs = true ∧ wordB q = true ∧ inR k 0 16 = true)) : closeL xs q k = [] := by
  rw [closeL, if_neg]
  rintro ⟨h1, h2, h3, h4⟩
  exact h ⟨h1, h2, inR_true h3 h4⟩
theorem closeL_in {xs : List Int} {q k : Int} (hl : listB xs = true) (hq : wordB q = true) (hk : inR k 0 16 = true) : closeL xs q k = idsF (fun i => decide (apartV (nth xs i) q ≤ k)) xs.length := by
  rw [closeL, if_pos ⟨hl, hq, inR_of hk⟩]

set_option maxRecDepth 100000 in
set_option maxHeartbeats 2000000 in
theorem sClose_in (b off cap : Nat) (xs : List Int) (q most : Int) (w : World) (hs : Seg w b off xs) (hb : b < w.heap.size) (hl : listB xs = true) (hq : wordB q = true) (hk : inR most 0 16 = true) :
    Calls Try.prog 19 #[.slice (some ⟨b, off, none⟩) xs.length cap, .int .i64 q, .int .i64 most] w fun e w' => ∃ g c, e = .returned (.slice (some ⟨g, 0, none⟩) (idsF (fun i => decide (apartV (nth xs i) q ≤ most)) xs.length).length c) ∧ IRow w.heap.size w' g c (idsF (fun i => decide (apartV (nth xs i) q ≤ most)) xs.length) ∧ Below w.heap.size w w' := by
  obtain ⟨F, hF⟩ : ∃ F : Nat → Bool, F = fun i => decide (apartV (nth xs i) q ≤ most) := ⟨_, rfl⟩
  have HF := hidP hF
  rw [← hF]
  clear hF
  have hlen60 := listB_len hl
  have HL := hidP hl
  have HQ := hidP hq
  have HK := hidP hk
  clear hl hq hk
  obtain ⟨i0, hi0, hz0, hz1, hz2⟩ := info_parts Try.info2
  obtain ⟨w1, hw1⟩ : ∃ w1, w.alloc (.cells #[] 2) = w1 := ⟨_, rfl⟩
  have R1 := hidP (show IRow w.heap.size w1 w.heap.size 0 [] by rw [← hw1]; exact IRow.start w w.heap.size (Nat.le_refl _))
  have L1 := hidP (show Below w.heap.size w w1 by rw [← hw1]; exact (Below.refl w.heap.size w).alloc (Nat.le_refl _) (.cells #[] 2))
  have HW1 := hidP (sWords (some ⟨b, off, none⟩) cap xs w1 (Or.inr ⟨b, off, rfl, by have := L1.out.size; omega, hs.below hb L1.out⟩) (by omega))
  go_enter Try.func19, Try.ntmps19
  go_upto_region 2 with fail
  clear hw1
  go_wp2_with first
    | (go_at_call 49; refine HW1.out.mono ?_; rintro e w' ⟨rfl, rfl⟩; rw [HL.out])
    | (go_at_call 50; refine (sWord q _).mono ?_; rintro e w' ⟨rfl, rfl⟩; rw [HQ.out])
    | (go_at_call 51; refine (sIn most 0 16 _).mono ?_; rintro e w' ⟨rfl, rfl⟩; rw [HK.out])
  go_loopw [7, 8] (fun v i wr => ∃ (k g c : Nat), k ≤ xs.length ∧ i = .int .i64 k ∧ v = .slice (some ⟨g, 0, none⟩) (idsF F k).length c ∧ IRow w.heap.size wr g c (idsF F k) ∧ Below w.heap.size w wr) (fun _ i _ => xs.length - (intOf i).toNat)
  case atStart => exact ⟨0, w.heap.size, 0, Nat.zero_le _, rfl, rfl, R1.out, L1.out⟩
  case round =>
    obtain ⟨k, g, c, hk, rfl, rfl, hrow, L⟩ := hrel
    have HR := hidP hrow
    have HLL := hidP L
    have hz := L.size
    have hgl := hrow.lt
    have hil := idsF_len F k
    by_cases hlt : k < xs.length
    · have hcell : wr.cell? ⟨b, off + k, none⟩ = some (.int .i64 (nth xs k)) := (L.cell (p := ⟨b, off + k, none⟩) hb).trans (hs k hlt)
      have HFK := hidP (show F k = decide (apartV (nth xs k) q ≤ most) by rw [HF.out])
      have HIS := hidP (ids_succ F k)
      clear hrow L
      by_cases hle : apartV (nth xs k) q ≤ most
      · have HE : Hid (idsF F (k + 1) = idsF F k ++ [(k : Int)]) := by show idsF F (k + 1) = _; rw [HIS.out, HFK.out]; simp [hle]
        have HOW := hidP (show wr.ownsRow w.heap.size 2 1 (.slice (some ⟨g, 0, none⟩) (idsF F k).length c) (idsF F k).length ((idsF F k).map (Value.int .i64)) from HR.out)
        go_wp2_with first
          | (go_at_call 22; refine (sApart (nth xs k) q _).mono ?_; rintro e w' ⟨rfl, rfl⟩)
          | (at_builtin; refine wpList_append_lies _ rfl (.tmp 38) (.tmp 40) 24 rfl w.heap.size 2 i0 _ 1 8 Try.underlying24 hi0 hz0 hz1 hz2 rfl (by omega) (.slice (some ⟨g, 0, none⟩) (idsF F k).length c) (idsF F k).length ((idsF F k).map (Value.int .i64)) rfl (World.ownsRow.alloc HOW.out _) ⟨w'.heap.size, 0, none⟩ 1 1 [.int .i64 (k : Int)] rfl rfl (World.news_of_block (cs := #[.int .i64 (k : Int)]) (t := 2) (fr := (0, 0)) (heap_alloc_new w' _)) (by simp [Value.oneCell']) (by omega) (by unfold maxLen; omega) (by omega) (by simp; omega) (w'.heap.size + 1) (by simp) ?_; intro gg cc w8 hown hgrow hat8 hlt8)
        go_roundw
        case rel =>
          refine ⟨k + 1, gg, cc, by omega, by go_num, by rw [HE.out]; simp, ?_, ?_⟩
          · rw [HE.out]; exact IRow.of hown (by simp) (by simp)
          · refine (HLL.out.alloc (by omega) _).grown hgrow (by simp; omega) ?_
            intro q hq
            simp [Value.ownBlock] at hq
            omega
        case measure => simp [intOf]; omega
      · have HE : Hid (idsF F (k + 1) = idsF F k) := by show idsF F (k + 1) = _; rw [HIS.out, HFK.out]; simp [hle]
        go_wp2_with (go_at_call 22; refine (sApart (nth xs k) q _).mono ?_; rintro e w' ⟨rfl, rfl⟩)
        go_roundw
        case rel =>
          refine ⟨k + 1, g, c, by omega, by go_num, by rw [HE.out], ?_, HLL.out⟩
          rw [HE.out]; exact HR.out
        case measure => simp [intOf]; omega
    · obtain rfl : k = xs.length := by omega
      clear hrow L
      go_wp2
      go_ret
      exact ⟨g, c, rfl, HR.out, HLL.out⟩

set_option maxRecDepth 100000 in
set_option maxHeartbeats 2000000 in
theorem sClose_nil (ao : Option Addr) (cap : Nat) (q most : Int) (w : World) (hq : wordB q = true) (hk : inR most 0 16 = true) :
    Calls Try.prog 19 #[.slice ao 0 cap, .int .i64 q, .int .i64 most] w fun e w' => ∃ g c, e = .returned (.slice (some ⟨g, 0, none⟩) 0 c) ∧ IRow w.heap.size w' g c [] ∧ Below w.heap.size w w' := by
  have HL := hidP (show listB [] = true from rfl)
  have HQ := hidP hq
  have HK := hidP hk
  clear hq hk
  obtain ⟨w1, hw1⟩ : ∃ w1, w.alloc (.cells #[] 2) = w1 := ⟨_, rfl⟩
  have R1 := hidP (show IRow w.heap.size w1 w.heap.size 0 [] by rw [← hw1]; exact IRow.start w w.heap.size (Nat.le_refl _))
  have L1 := hidP (show Below w.heap.size w w1 by rw [← hw1]; exact (Below.refl w.heap.size w).alloc (Nat.le_refl _) (.cells #[] 2))
  have HW1 := hidP (sWords ao cap [] w1 (Or.inl rfl) (by simp))
  go_enter Try.func19, Try.ntmps19
  go_upto_region 2 with fail
  clear hw1
  go_wp2_with first
    | (go_at_call 49; refine HW1.out.mono ?_; rintro e w' ⟨rfl, rfl⟩; rw [HL.out])
    | (go_at_call 50; refine (sWord q _).mono ?_; rintro e w' ⟨rfl, rfl⟩; rw [HQ.out])
    | (go_at_call 51; refine (sIn most 0 16 _).mono ?_; rintro e w' ⟨rfl, rfl⟩; rw [HK.out])
  refine wp_loop_rounds 1 ?_
  rw [rounds_succ]
  go_wp2
  go_ret
  exact ⟨w.heap.size, 0, rfl, R1.out, L1.out⟩

set_option maxRecDepth 100000 in
set_option maxHeartbeats 2000000 in
theorem sClose_bad (ao : Option Addr) (cap : Nat) (xs : List Int) (q most : Int) (w : World) (hv : View w ao xs) (hn : xs.length ≤ 1048576) (h : ¬ (listB xs = true ∧ wordB q = true ∧ inR most 0 16 = true)) :
    Calls Try.prog 19 #[.slice ao xs.length cap, .int .i64 q, .int .i64 most] w fun e w' => ∃ g c, e = .returned (.slice (some ⟨g, 0, none⟩) 0 c) ∧ IRow w.heap.size w' g c [] ∧ Below w.heap.size w w' := by
  obtain ⟨w1, hw1⟩ : ∃ w1, w.alloc (.cells #[] 2) = w1 := ⟨_, rfl⟩
  have R1 := hidP (show IRow w.heap.size w1 w.heap.size 0 [] by rw [← hw1]; exact IRow.start w w.heap.size (Nat.le_refl _))
  have L1 := hidP (show Below w.heap.size w w1 by rw [← hw1]; exact (Below.refl w.heap.size w).alloc (Nat.le_refl _) (.cells #[] 2))
  have HW1 := hidP (sWords ao cap xs w1 (hv.below (Nat.le_refl _) L1.out) hn)
  rcases hl : listB xs with _ | _
  · have HL := hidP hl
    clear hl h
    go_enter Try.func19, Try.ntmps19
    go_upto_region 2 with fail
    clear hw1
    go_wp2_with (go_at_call 49; refine HW1.out.mono ?_; rintro e w' ⟨rfl, rfl⟩; rw [HL.out])
    go_ret
    exact ⟨w.heap.size, 0, rfl, R1.out, L1.out⟩
  · rcases hq : wordB q with _ | _
    · have HL := hidP hl
      have HQ := hidP hq
      clear hl hq h
      go_enter Try.func19, Try.ntmps19
      go_upto_region 2 with fail
      clear hw1
      go_wp2_with first
        | (go_at_call 49; refine HW1.out.mono ?_; rintro e w' ⟨rfl, rfl⟩; rw [HL.out])
        | (go_at_call 50; refine (sWord q _).mono ?_; rintro e w' ⟨rfl, rfl⟩; rw [HQ.out])
      go_ret
      exact ⟨w.heap.size, 0, rfl, R1.out, L1.out⟩
    · have hk : inR most 0 16 = false := by
        rcases hk : inR most 0 16 with _ | _
        · rfl
        · exact absurd ⟨hl, hq, hk⟩ h
      have HL := hidP hl
      have HQ := hidP hq
      have HK := hidP hk
      clear hl hq hk h
      go_enter Try.func19, Try.ntmps19
      go_upto_region 2 with fail
      clear hw1
      go_wp2_with first
        | (go_at_call 49; refine HW1.out.mono ?_; rintro e w' ⟨rfl, rfl⟩; rw [HL.out])
        | (go_at_call 50; refine (sWord q _).mono ?_; rintro e w' ⟨rfl, rfl⟩; rw [HQ.out])
        | (go_at_call 51; refine (sIn most 0 16 _).mono ?_; rintro e w' ⟨rfl, rfl⟩; rw [HK.out])
      go_ret
      exact ⟨w.heap.size, 0, rfl, R1.out, L1.out⟩

theorem sClose (ao : Option Addr) (cap : Nat) (xs : List Int) (q most : Int) (w : World) (hv : View w ao xs) (hn : xs.length ≤ 1048576) :
    Calls Try.prog 19 #[.slice ao xs.length cap, .int .i64 q, .int .i64 most] w fun e w' => ∃ g c, e = .returned (.slice (some ⟨g, 0, none⟩) (closeL xs q most).length c) ∧ IRow w.heap.size w' g c (closeL xs q most) ∧ Below w.heap.size w w' := by
  by_cases h : listB xs = true ∧ wordB q = true ∧ inR most 0 16 = true
  · rw [closeL_in h.1 h.2.1 h.2.2]
    rcases hv with rfl | ⟨b, off, rfl, hb, hs⟩
    · exact sClose_nil ao cap q most w h.2.1 h.2.2
    · exact sClose_in b off cap xs q most w hs hb h.1 h.2.1 h.2.2
  · rw [closeL_bad h]
    exact sClose_bad ao cap xs q most w hv hn h
end Go.Proofs.Ytiddimmifjklmaa
