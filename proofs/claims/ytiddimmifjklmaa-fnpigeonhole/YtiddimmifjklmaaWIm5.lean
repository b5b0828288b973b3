/-
  The program's Alike and Close.
-/
import Derived.Test.YtiddimmifjklmaaWIm4
namespace Go.Proofs.Ytiddimmifjklmaa
open Go Go.RowKit

set_option maxRecDepth 100000 in
set_option maxHeartbeats 2000000 in
theorem iAlike_in (ao : Option Addr) (cap : Nat) (xs : List Int) (q n m : Nat) (w : World) (hv : View w ao xs) (hl : listB xs = true) (hq : q < 65536) (hc : countB (n : Int) = true) (hm : m * n = 16) :
    Calls Try.prog 11 #[.slice ao xs.length cap, .int .i64 (q : Int), .int .i64 (n : Int)] w fun e w' => ∃ g c, e = .returned (.slice (some ⟨g, 0, none⟩) (idsF (fun i => alikeB (nth xs i).toNat q m n) xs.length).length c) ∧ IRow w.heap.size w' g c (idsF (fun i => alikeB (nth xs i).toNat q m n) xs.length) ∧ Below w.heap.size w w' := by
  obtain ⟨L, hL⟩ : ∃ L, L = idsF (fun i => alikeB (nth xs i).toNat q m n) xs.length := ⟨_, rfl⟩
  have HLL := hidP hL
  rw [← hL]
  clear hL
  have hlen60 := listB_len hl
  have HL := hidP hl
  have HQ := hidP (wordB_nat hq)
  have HX := hidP hq
  have HC := hidP hc
  have HM := hidP hm
  clear hc hm
  clear hl
  obtain ⟨w1, hw1⟩ : ∃ w1, w.alloc (.cells #[.int .i64 (n : Int)] 2) = w1 := ⟨_, rfl⟩
  have b1 : Boxed w1 w.heap.size 2 (.int .i64 (n : Int)) := by rw [← hw1]; exact Boxed.new w 2 _
  have L1 : Below w.heap.size w w1 := by rw [← hw1]; exact (Below.refl _ _).alloc (Nat.le_refl _) _
  have v1 := hv.below (Nat.le_refl _) L1
  have c1 := b1.cell
  have HB1 := hidP b1
  have HL1 := hidP L1
  have HV1 := hidP v1
  clear b1 L1 v1 hv
  have hmf : ∀ (fn : Fn) (first cap : Array Value) (w : World), (Instr.makeFunc fn first cap).run Try.prog w = .ok (.func fn first cap) w := fun _ _ _ _ => rfl
  go_enter Try.func11, Try.ntmps11
  go_upto_region 1 with fail
  clear hw1
  go_wp2_with first
    | (go_at_call 37; refine (iWords ao cap xs _ HV1.out (by omega)).mono ?_; rintro e w' ⟨rfl, rfl⟩; rw [HL.out])
    | (go_at_call 38; refine (iWord (q : Int) _).mono ?_; rintro e w' ⟨rfl, rfl⟩; rw [HQ.out])
    | (go_at_call 39; refine (iCountB (n : Int) _).mono ?_; rintro e w' ⟨rfl, rfl⟩; rw [HC.out])
  refine (iWordOf q _ HX.out).mono ?_
  rintro e w2 ⟨rfl, L2⟩
  have hsc := run_storeCells_new (P := Try.prog) w2 47 #[.int .i64 0, .int .i64 0, .int .i64 0, .int .i64 0, .int .i64 0, .int .i64 0, .int .i64 0, .int .i64 0, .int .i64 0, .int .i64 0, .int .i64 0, .int .i64 0, .int .i64 0, .int .i64 0, .int .i64 0, .int .i64 0] (rowC (bit16 q)) (row16 (bit16_len q)) (by rw [rowC_size, bit16_len]; rfl) (rowC_one _)
  have hb2 := HB1.out.lt
  go_wp2_with fail
  obtain ⟨w3, hw3⟩ : ∃ w3, w2.alloc (.cells (rowC (bit16 q)) 47) = w3 := ⟨_, rfl⟩
  have L3 : Below w'.heap.size w' w3 := by rw [← hw3]; exact L2.alloc L2.size _
  have a3 : Arr w3 w2.heap.size (bit16 q) := by rw [← hw3]; exact heap_alloc_new w2 _
  have b3 : Boxed w3 w.heap.size 2 (.int .i64 (n : Int)) := (L3.block _ hb2).trans HB1.out
  have v3 := HV1.out.below (Nat.le_refl _) L3
  have HF3 := hidP (chain HL1.out L3)
  have hs3 := HF3.out.size
  rw [hw3]
  clear hw3 hsc L2 L3
  have HW : Hid (Calls Try.prog 41 #[.slice ao xs.length cap, .func (.func 42) #[] #[.pointer (some ⟨w2.heap.size, 0, none⟩), .pointer (some ⟨w.heap.size, 0, none⟩)]] w3 fun e w' => ∃ g c, e = .returned (.slice (some ⟨g, 0, none⟩) L.length c) ∧ IRow w3.heap.size w' g c L ∧ Below w3.heap.size w3 w') := by
    rw [HLL.out]
    rcases v3 with rfl | ⟨b, off, rfl, hb, hs⟩
    · exact wAlike_nil ao cap w2.heap.size w.heap.size w3
    · exact wAlike_seg b off cap xs q n m w2.heap.size w.heap.size w3 hs hb HL.out a3 HM.out b3
  refine HW.out.mono ?_
  rintro e w4 ⟨g, c, rfl, hr, L4⟩
  go_wp2_with fail
  go_ret
  exact ⟨g, c, rfl, hr.mono hs3, chain HF3.out L4⟩

set_option maxRecDepth 100000 in
set_option maxHeartbeats 2000000 in
theorem iClose_in (ao : Option Addr) (cap : Nat) (xs : List Int) (q : Nat) (most : Int) (w : World) (hv : View w ao xs) (hl : listB xs = true) (hq : q < 65536) (hk : inR most 0 16 = true) :
    Calls Try.prog 13 #[.slice ao xs.length cap, .int .i64 (q : Int), .int .i64 most] w fun e w' => ∃ g c, e = .returned (.slice (some ⟨g, 0, none⟩) (idsF (fun i => decide (apartV (nth xs i) (q : Int) ≤ most)) xs.length).length c) ∧ IRow w.heap.size w' g c (idsF (fun i => decide (apartV (nth xs i) (q : Int) ≤ most)) xs.length) ∧ Below w.heap.size w w' := by
  obtain ⟨L, hL⟩ : ∃ L, L = idsF (fun i => decide (apartV (nth xs i) (q : Int) ≤ most)) xs.length := ⟨_, rfl⟩
  have HLL := hidP hL
  rw [← hL]
  clear hL
  have hlen60 := listB_len hl
  have HL := hidP hl
  have HQ := hidP (wordB_nat hq)
  have HX := hidP hq
  obtain ⟨hk0, hk1⟩ := inR_of hk
  have hd0 : ¬ (most < 0) := by omega
  have hd1 : ¬ ((16 : Int) < most) := by omega
  clear hk
  clear hl
  obtain ⟨w1, hw1⟩ : ∃ w1, w.alloc (.cells #[.int .i64 most] 2) = w1 := ⟨_, rfl⟩
  have b1 : Boxed w1 w.heap.size 2 (.int .i64 most) := by rw [← hw1]; exact Boxed.new w 2 _
  have L1 : Below w.heap.size w w1 := by rw [← hw1]; exact (Below.refl _ _).alloc (Nat.le_refl _) _
  have v1 := hv.below (Nat.le_refl _) L1
  have c1 := b1.cell
  have HB1 := hidP b1
  have HL1 := hidP L1
  have HV1 := hidP v1
  clear b1 L1 v1 hv
  have hmf : ∀ (fn : Fn) (first cap : Array Value) (w : World), (Instr.makeFunc fn first cap).run Try.prog w = .ok (.func fn first cap) w := fun _ _ _ _ => rfl
  go_enter Try.func13, Try.ntmps13
  go_upto_region 1 with fail
  clear hw1
  go_wp2_with first
    | (go_at_call 37; refine (iWords ao cap xs _ HV1.out (by omega)).mono ?_; rintro e w' ⟨rfl, rfl⟩; rw [HL.out])
    | (go_at_call 38; refine (iWord (q : Int) _).mono ?_; rintro e w' ⟨rfl, rfl⟩; rw [HQ.out])
  refine (iWordOf q _ HX.out).mono ?_
  rintro e w2 ⟨rfl, L2⟩
  have hsc := run_storeCells_new (P := Try.prog) w2 47 #[.int .i64 0, .int .i64 0, .int .i64 0, .int .i64 0, .int .i64 0, .int .i64 0, .int .i64 0, .int .i64 0, .int .i64 0, .int .i64 0, .int .i64 0, .int .i64 0, .int .i64 0, .int .i64 0, .int .i64 0, .int .i64 0] (rowC (bit16 q)) (row16 (bit16_len q)) (by rw [rowC_size, bit16_len]; rfl) (rowC_one _)
  have hb2 := HB1.out.lt
  go_wp2_with fail
  obtain ⟨w3, hw3⟩ : ∃ w3, w2.alloc (.cells (rowC (bit16 q)) 47) = w3 := ⟨_, rfl⟩
  have L3 : Below w'.heap.size w' w3 := by rw [← hw3]; exact L2.alloc L2.size _
  have a3 : Arr w3 w2.heap.size (bit16 q) := by rw [← hw3]; exact heap_alloc_new w2 _
  have b3 : Boxed w3 w.heap.size 2 (.int .i64 most) := (L3.block _ hb2).trans HB1.out
  have v3 := HV1.out.below (Nat.le_refl _) L3
  have HF3 := hidP (chain HL1.out L3)
  have hs3 := HF3.out.size
  rw [hw3]
  clear hw3 hsc L2 L3
  have HW : Hid (Calls Try.prog 41 #[.slice ao xs.length cap, .func (.func 45) #[] #[.pointer (some ⟨w2.heap.size, 0, none⟩), .pointer (some ⟨w.heap.size, 0, none⟩)]] w3 fun e w' => ∃ g c, e = .returned (.slice (some ⟨g, 0, none⟩) L.length c) ∧ IRow w3.heap.size w' g c L ∧ Below w3.heap.size w3 w') := by
    rw [HLL.out]
    rcases v3 with rfl | ⟨b, off, rfl, hb, hs⟩
    · exact wClose_nil ao cap w2.heap.size w.heap.size w3
    · exact wClose_seg b off cap xs q most w2.heap.size w.heap.size w3 hs hb HL.out a3 HX.out b3
  refine HW.out.mono ?_
  rintro e w4 ⟨g, c, rfl, hr, L4⟩
  go_wp2_with fail
  go_ret
  exact ⟨g, c, rfl, hr.mono hs3, chain HF3.out L4⟩

set_option maxRecDepth 100000 in
set_option maxHeartbeats 1000000 in
theorem iAlike_bad (ao : Option Addr) (cap : Nat) (xs : List Int) (q n : Int) (w : World) (hv : View w ao xs) (hn : xs.length ≤ 1048576) (h : ¬ (listB xs = true ∧ wordB q = true ∧ countB n = true)) :
    Calls Try.prog 11 #[.slice ao xs.length cap, .int .i64 q, .int .i64 n] w fun e w' => e = .returned (.slice none 0 0) ∧ Below w.heap.size w w' := by
  obtain ⟨w1, hw1⟩ : ∃ w1, w.alloc (.cells #[.int .i64 n] 2) = w1 := ⟨_, rfl⟩
  have b1 : Boxed w1 w.heap.size 2 (.int .i64 n) := by rw [← hw1]; exact Boxed.new w 2 _
  have L1 : Below w.heap.size w w1 := by rw [← hw1]; exact (Below.refl _ _).alloc (Nat.le_refl _) _
  have HV1 := hidP (hv.below (Nat.le_refl _) L1)
  have c1 := b1.cell
  have HL1 := hidP L1
  clear b1 L1 hv
  rcases hl : listB xs with _ | _
  · have HL := hidP hl
    clear hl h
    go_enter Try.func11, Try.ntmps11
    go_upto_region 1 with fail
    clear hw1
    go_wp2_with (go_at_call 37; refine (iWords ao cap xs _ HV1.out hn).mono ?_; rintro e w' ⟨rfl, rfl⟩; rw [HL.out])
    go_ret
    exact ⟨rfl, HL1.out⟩
  · rcases hq : wordB q with _ | _
    · have HL := hidP hl
      have HQ := hidP hq
      clear hl hq h
      go_enter Try.func11, Try.ntmps11
      go_upto_region 1 with fail
      clear hw1
      go_wp2_with first
        | (go_at_call 37; refine (iWords ao cap xs _ HV1.out hn).mono ?_; rintro e w' ⟨rfl, rfl⟩; rw [HL.out])
        | (go_at_call 38; refine (iWord q _).mono ?_; rintro e w' ⟨rfl, rfl⟩; rw [HQ.out])
      go_ret
      exact ⟨rfl, HL1.out⟩
    · have hc : countB n = false := by
        rcases hc : countB n with _ | _
        · rfl
        · exact absurd ⟨hl, hq, hc⟩ h
      have HL := hidP hl
      have HQ := hidP hq
      have HC := hidP hc
      clear hl hq hc h
      go_enter Try.func11, Try.ntmps11
      go_upto_region 1 with fail
      clear hw1
      go_wp2_with first
        | (go_at_call 37; refine (iWords ao cap xs _ HV1.out hn).mono ?_; rintro e w' ⟨rfl, rfl⟩; rw [HL.out])
        | (go_at_call 38; refine (iWord q _).mono ?_; rintro e w' ⟨rfl, rfl⟩; rw [HQ.out])
        | (go_at_call 39; refine (iCountB n _).mono ?_; rintro e w' ⟨rfl, rfl⟩; rw [HC.out])
      go_ret
      exact ⟨rfl, HL1.out⟩

set_option maxRecDepth 100000 in
set_option maxHeartbeats 1000000 in
theorem iClose_bad (ao : Option Addr) (cap : Nat) (xs : List Int) (q most : Int) (w : World) (hv : View w ao xs) (hn : xs.length ≤ 1048576) (h : ¬ (listB xs = true ∧ wordB q = true ∧ inR most 0 16 = true)) :
    Calls Try.prog 13 #[.slice ao xs.length cap, .int .i64 q, .int .i64 most] w fun e w' => e = .returned (.slice none 0 0) ∧ Below w.heap.size w w' := by
  obtain ⟨w1, hw1⟩ : ∃ w1, w.alloc (.cells #[.int .i64 most] 2) = w1 := ⟨_, rfl⟩
  have b1 : Boxed w1 w.heap.size 2 (.int .i64 most) := by rw [← hw1]; exact Boxed.new w 2 _
  have L1 : Below w.heap.size w w1 := by rw [← hw1]; exact (Below.refl _ _).alloc (Nat.le_refl _) _
  have HV1 := hidP (hv.below (Nat.le_refl _) L1)
  have c1 := b1.cell
  have HL1 := hidP L1
  clear b1 L1 hv
  rcases hl : listB xs with _ | _
  · have HL := hidP hl
    clear hl h
    go_enter Try.func13, Try.ntmps13
    go_upto_region 1 with fail
    clear hw1
    go_wp2_with (go_at_call 37; refine (iWords ao cap xs _ HV1.out hn).mono ?_; rintro e w' ⟨rfl, rfl⟩; rw [HL.out])
    go_ret
    exact ⟨rfl, HL1.out⟩
  · rcases hq : wordB q with _ | _
    · have HL := hidP hl
      have HQ := hidP hq
      clear hl hq h
      go_enter Try.func13, Try.ntmps13
      go_upto_region 1 with fail
      clear hw1
      go_wp2_with first
        | (go_at_call 37; refine (iWords ao cap xs _ HV1.out hn).mono ?_; rintro e w' ⟨rfl, rfl⟩; rw [HL.out])
        | (go_at_call 38; refine (iWord q _).mono ?_; rintro e w' ⟨rfl, rfl⟩; rw [HQ.out])
      go_ret
      exact ⟨rfl, HL1.out⟩
    · have hk : most < 0 ∨ 16 < most := by
        rcases Int.lt_or_le most 0 with h1 | h1
        · exact Or.inl h1
        · rcases Int.lt_or_le 16 most with h2 | h2
          · exact Or.inr h2
          · exact absurd ⟨hl, hq, inR_true h1 h2⟩ h
      have HL := hidP hl
      have HQ := hidP hq
      clear hl hq h
      by_cases h1 : most < 0
      · go_enter Try.func13, Try.ntmps13
        go_upto_region 1 with fail
        clear hw1
        go_wp2_with first
          | (go_at_call 37; refine (iWords ao cap xs _ HV1.out hn).mono ?_; rintro e w' ⟨rfl, rfl⟩; rw [HL.out])
          | (go_at_call 38; refine (iWord q _).mono ?_; rintro e w' ⟨rfl, rfl⟩; rw [HQ.out])
        go_ret
        exact ⟨rfl, HL1.out⟩
      · have h2 : (16 : Int) < most := by omega
        go_enter Try.func13, Try.ntmps13
        go_upto_region 1 with fail
        clear hw1
        go_wp2_with first
          | (go_at_call 37; refine (iWords ao cap xs _ HV1.out hn).mono ?_; rintro e w' ⟨rfl, rfl⟩; rw [HL.out])
          | (go_at_call 38; refine (iWord q _).mono ?_; rintro e w' ⟨rfl, rfl⟩; rw [HQ.out])
        go_ret
        exact ⟨rfl, HL1.out⟩

theorem iAlike (ao : Option Addr) (cap : Nat) (xs : List Int) (q n : Int) (w : World) (hv : View w ao xs) (hn : xs.length ≤ 1048576) :
    Calls Try.prog 11 #[.slice ao xs.length cap, .int .i64 q, .int .i64 n] w fun e w' => ∃ a c, e = .returned (.slice a (alikeL xs q n).length c) ∧ IOut w.heap.size w' (.slice a (alikeL xs q n).length c) (alikeL xs q n) ∧ Below w.heap.size w w' := by
  by_cases h : listB xs = true ∧ wordB q = true ∧ countB n = true
  · obtain ⟨hl, hq, hc⟩ := h
    obtain ⟨y, rfl, hy⟩ : ∃ y : Nat, q = (y : Int) ∧ y < 65536 := ⟨q.toNat, by have := wordB_lt hq; omega, (wordB_lt hq).1⟩
    obtain ⟨k, m, rfl, hm, hm', h1, h8, h2⟩ := countB_of hc
    rw [alikeL_in hl hy hc hm']
    refine (iAlike_in ao cap xs y k m w hv hl hy hc hm).mono ?_
    rintro e w' ⟨g, c, rfl, hr, L⟩
    exact ⟨_, c, rfl, Or.inr ⟨g, c, rfl, hr⟩, L⟩
  · rw [alikeL_bad h]
    refine (iAlike_bad ao cap xs q n w hv hn h).mono ?_
    rintro e w' ⟨rfl, L⟩
    exact ⟨none, 0, rfl, Or.inl ⟨rfl, rfl⟩, L⟩
theorem iClose (ao : Option Addr) (cap : Nat) (xs : List Int) (q most : Int) (w : World) (hv : View w ao xs) (hn : xs.length ≤ 1048576) :
    Calls Try.prog 13 #[.slice ao xs.length cap, .int .i64 q, .int .i64 most] w fun e w' => ∃ a c, e = .returned (.slice a (closeL xs q most).length c) ∧ IOut w.heap.size w' (.slice a (closeL xs q most).length c) (closeL xs q most) ∧ Below w.heap.size w w' := by
  by_cases h : listB xs = true ∧ wordB q = true ∧ inR most 0 16 = true
  · obtain ⟨hl, hq, hk⟩ := h
    obtain ⟨y, rfl, hy⟩ : ∃ y : Nat, q = (y : Int) ∧ y < 65536 := ⟨q.toNat, by have := wordB_lt hq; omega, (wordB_lt hq).1⟩
    rw [closeL_in hl hq hk]
    refine (iClose_in ao cap xs y most w hv hl hy hk).mono ?_
    rintro e w' ⟨g, c, rfl, hr, L⟩
    exact ⟨_, c, rfl, Or.inr ⟨g, c, rfl, hr⟩, L⟩
  · rw [closeL_bad h]
    refine (iClose_bad ao cap xs q most w hv hn h).mono ?_
    rintro e w' ⟨rfl, L⟩
    exact ⟨none, 0, rfl, Or.inl ⟨rfl, rfl⟩, L⟩
theorem alikeL_short (xs : List Int) (q n : Int) : (alikeL xs q n).length ≤ 60 := by
  unfold alikeL
  split
  · rename_i h; exact Nat.le_trans (idsF_len _ _) (listB_len h.1)
  · simp
theorem closeL_short (xs : List Int) (q k : Int) : (closeL xs q k).length ≤ 60 := by
  unfold closeL
  split
  · rename_i h; exact Nat.le_trans (idsF_len _ _) (listB_len h.1)
  · simp
theorem partsL_short (a n : Int) : (partsL a n).length ≤ 8 := by
  unfold partsL
  split
  · rename_i h
    obtain ⟨k, m, rfl, _, _, _, h8, _⟩ := countB_of h.2
    rw [tabL_length]; omega
  · simp
end Go.Proofs.Ytiddimmifjklmaa
