/-
  The given Alike of chapter 9.
-/
import Derived.Test.YtiddimmifjklmaaWSp2
namespace Go.Proofs.Ytiddimmifjklmaa
open Go Go.RowKit

theorem alikeB_succ (x q m k : Nat) : alikeB x q m (k + 1) = (alikeB x q m k || decide (partN x m k = partN q m k)) := by
  rw [alikeB, alikeB, List.range_succ, List.any_append]
  simp
theorem alikeL_bad {xs : List Int} {q n : Int} (h : ¬ (listB xs = true ∧ wordB q = true ∧ countB n = true)) : alikeL xs q n = [] := if_neg h
theorem alikeL_in {xs : List Int} {q k m : Nat} (hl : listB xs = true) (hq : q < 65536) (hc : countB (k : Int) = true) (hm : m = 16 / k) : alikeL xs (q : Int) (k : Int) = idsF (fun i => alikeB (nth xs i).toNat q m k) xs.length := by
  rw [alikeL, if_pos ⟨hl, wordB_nat hq, hc⟩, hm]; rfl
theorem ids_succ (f : Nat → Bool) (k : Nat) : idsF f (k + 1) = idsF f k ++ if f k = true then [(k : Int)] else [] := rfl
theorem parts_none {q n : Int} (h : ¬ (wordB q = true ∧ countB n = true)) : ((partsL q n).length : Int) = 0 := by rw [partsL_bad h]; rfl

set_option maxRecDepth 100000 in
set_option maxHeartbeats 4000000 in
theorem sAlike_in (b off cap : Nat) (xs : List Int) (q n m : Nat) (w : World) (hs : Seg w b off xs) (hb : b < w.heap.size) (hl : listB xs = true) (hq : q < 65536) (hc : countB (n : Int) = true) (hn : m * n = 16) (hm : m = 16 / n) :
    Calls Try.prog 18 #[.slice (some ⟨b, off, none⟩) xs.length cap, .int .i64 (q : Int), .int .i64 (n : Int)] w fun e w' => ∃ g c, e = .returned (.slice (some ⟨g, 0, none⟩) (idsF (fun i => alikeB (nth xs i).toNat q m n) xs.length).length c) ∧ IRow w.heap.size w' g c (idsF (fun i => alikeB (nth xs i).toNat q m n) xs.length) ∧ Below w.heap.size w w' := by
  obtain ⟨F, hF⟩ : ∃ F : Nat → Bool, F = fun i => alikeB (nth xs i).toNat q m n := ⟨_, rfl⟩
  have HF := hidP hF
  rw [← hF]
  clear hF
  have hlen60 := listB_len hl
  have HL := hidP hl
  have hn0 : 0 < n := by rcases Nat.eq_zero_or_pos n with h | h; (subst h; simp at hn); exact h
  have hn16 : n ≤ 16 := by rw [← hn]; exact Nat.le_mul_of_pos_left n (by rcases Nat.eq_zero_or_pos m with h | h; (subst h; simp at hn); exact h)
  have HN := hidP hn
  have HC := hidP hc
  have HQ := hidP hq
  have hm16 : m ≤ 16 := by rw [← hn]; exact Nat.le_mul_of_pos_right m hn0
  clear hl hn hm hc
  obtain ⟨i0, hi0, hz0, hz1, hz2⟩ := info_parts Try.info2
  obtain ⟨w1, hw1⟩ : ∃ w1, w.alloc (.cells #[] 2) = w1 := ⟨_, rfl⟩
  have R1 := hidP (show IRow w.heap.size w1 w.heap.size 0 [] by rw [← hw1]; exact IRow.start w w.heap.size (Nat.le_refl _))
  have L1 := hidP (show Below w.heap.size w w1 by rw [← hw1]; exact (Below.refl w.heap.size w).alloc (Nat.le_refl _) (.cells #[] 2))
  have hz1w : w1.heap.size = w.heap.size + 1 := by rw [← hw1]; simp
  have HZ := hidP hz1w
  have hs1 := hs.below hb L1.out
  have hv1 : View w1 (some ⟨b, off, none⟩) xs := Or.inr ⟨b, off, rfl, by omega, hs1⟩
  go_enter Try.func18, Try.ntmps18
  go_upto_region 2 with fail
  clear hw1 hz1w
  go_wp2_with fail
  refine (sParts_in q n m w1 hq HC.out HN.out).mono ?_
  rintro e w2 ⟨gp, cp, rfl, rp, Lp⟩
  have hv2 : View w2 (some ⟨b, off, none⟩) xs := hv1.below (Nat.le_refl _) Lp
  have HW2 := hidP (sWords (some ⟨b, off, none⟩) cap xs w2 hv2 (by omega))
  have hgp := rp.lt
  have sp := rp.seg
  have L2 := chain L1.out Lp
  have R2 := R1.out.below Lp
  have HS2 := hidP (And.intro sp (And.intro L2 R2))
  have hgp2 : w.heap.size + 1 ≤ gp ∧ gp < w2.heap.size := by have := HZ.out; omega
  clear hs1 hv1 hv2 rp Lp hgp sp L2 R2
  have hne : ((n : Int) == 0) = false := by simp; omega
  go_wp2_with (go_at_call 49; refine HW2.out.mono ?_; rintro e w' ⟨rfl, rfl⟩; rw [HL.out])
  clear HW2 hne
  go_loopw [7, 9] (fun v i wr => ∃ (k g c : Nat), k ≤ xs.length ∧ i = .int .i64 k ∧ v = .slice (some ⟨g, 0, none⟩) (idsF F k).length c ∧ IRow w.heap.size wr g c (idsF F k) ∧ g ≠ gp ∧ gp < wr.heap.size ∧ Seg wr gp 0 (tabL (fun i => (partN q m i : Int)) n) ∧ Below w.heap.size w wr) (fun _ i _ => xs.length - (intOf i).toNat)
  case atStart => exact ⟨0, w.heap.size, 0, Nat.zero_le _, rfl, rfl, HS2.out.2.2, by omega, hgp2.2, HS2.out.1, HS2.out.2.1⟩
  case round =>
    obtain ⟨k, g, c, hk, rfl, rfl, hrow, hgne, hgpr, hsp, L⟩ := hrel
    have HR := hidP hrow
    have HSP := hidP hsp
    have HLL := hidP L
    have hz := L.size
    have hgl := hrow.lt
    have hil := idsF_len F k
    by_cases hlt : k < xs.length
    · have hcell : wr.cell? ⟨b, off + k, none⟩ = some (.int .i64 (nth xs k)) := (L.cell (p := ⟨b, off + k, none⟩) hb).trans (hs k hlt)
      obtain ⟨x, hx, hx16⟩ : ∃ x : Nat, nth xs k = (x : Int) ∧ x < 65536 := ⟨(nth xs k).toNat, by have := wordB_lt (listB_at HL.out hlt); omega, (wordB_lt (listB_at HL.out hlt)).1⟩
      have HFK := hidP (show F k = alikeB x q m n by rw [HF.out]; simp [hx])
      rw [hx] at hcell
      clear hx hrow hsp L
      have HPP := hidP (sParts_in x n m wr hx16 HC.out HN.out)
      go_wp2_with (go_at_call 20; refine HPP.out.mono ?_; rintro e w3 ⟨gx, cx, rfl, rx, Lx⟩)
      have hgx := rx.lt
      have HSX := hidP rx.seg
      have HR3 := hidP (HR.out.below Lx)
      have HSP3 := hidP (HSP.out.below hgpr Lx)
      have HL3 := hidP (chain HLL.out Lx)
      have hz3 := Lx.size
      clear HPP rx Lx hcell HR HSP HLL
      go_loopw [11, 12] (fun v i w4 => ∃ (j d : Nat), j ≤ n ∧ i = .int .i64 j ∧ v = .bool (alikeB x q m j) ∧ w4 = w3.drewN d) (fun _ i _ => n - (intOf i).toNat)
      case atStart => exact ⟨0, 0, Nat.zero_le _, rfl, rfl, rfl⟩
      case round =>
        obtain ⟨j, d, hj, rfl, rfl, rfl⟩ := hrel
        by_cases hjn : j < n
        · have c1 : w3.cell? ⟨gx, j, none⟩ = some (.int .i64 (partN x m j : Int)) := by
            have := HSX.out j (by rw [tabL_length]; exact hjn)
            rw [Nat.zero_add, show nth (tabL (fun i => (partN x m i : Int)) n) j = (partN x m j : Int) from tabL_getD _ _ _ hjn] at this
            exact this
          have c2 : w3.cell? ⟨gp, j, none⟩ = some (.int .i64 (partN q m j : Int)) := by
            have := HSP3.out j (by rw [tabL_length]; exact hjn)
            rw [Nat.zero_add, show nth (tabL (fun i => (partN q m i : Int)) n) j = (partN q m j : Int) from tabL_getD _ _ _ hjn] at this
            exact this
          have HAS := hidP (alikeB_succ x q m j)
          rcases hpb : alikeB x q m j with _ | _
          · rw [hpb] at HAS
            have HEQ := hidP (show decide (partN x m j = partN q m j) = (((partN x m j : Nat) : Int) == ((partN q m j : Nat) : Int)) by rw [Bool.eq_iff_iff]; simp; omega)
            obtain ⟨p1, hp1⟩ : ∃ p1 : Int, ((partN x m j : Nat) : Int) = p1 := ⟨_, rfl⟩
            obtain ⟨p2, hp2⟩ : ∃ p2 : Int, ((partN q m j : Nat) : Int) = p2 := ⟨_, rfl⟩
            rw [hp1] at c1 HEQ
            rw [hp2] at c2 HEQ
            clear hpb hp1 hp2
            go_wp2
            go_quiet (fail)
            go_wp2
            go_roundw
            case rel => exact ⟨j + 1, _, by omega, by go_num, by rw [HAS.out, HEQ.out]; rfl, rfl⟩
            case measure => simp [intOf]; omega
          · rw [hpb] at HAS
            clear hpb c1 c2
            go_wp2
            go_quiet (fail)
            go_wp2
            go_roundw
            case rel => exact ⟨j + 1, _, by omega, by go_num, by rw [HAS.out]; rfl, rfl⟩
            case measure => simp [intOf]; omega
        · obtain rfl : j = n := by omega
          have HIS := hidP (ids_succ F k)
          rcases hpb : alikeB x q m j with _ | _
          · have HPB := hidP (HFK.out.trans hpb)
            clear hpb
            go_wp2
            go_roundw
            case rel =>
              have e : idsF F (k + 1) = idsF F k := by rw [HIS.out, HPB.out]; simp
              refine ⟨k + 1, g, c, by omega, by go_num, by rw [e], ?_, hgne, by simp; omega, HSP3.out.drewN d, below_drewN HL3.out d⟩
              rw [e]; exact HR3.out
            case measure => simp [intOf]; omega
          · have HPB := hidP (HFK.out.trans hpb)
            clear hpb
            have e : idsF F (k + 1) = idsF F k ++ [(k : Int)] := by rw [HIS.out, HPB.out]; simp
            have HE := hidP e
            obtain ⟨W, hW⟩ : ∃ W, w3.drewN d = W := ⟨_, rfl⟩
            have HOW := hidP (show W.ownsRow w.heap.size 2 1 (.slice (some ⟨g, 0, none⟩) (idsF F k).length c) (idsF F k).length ((idsF F k).map (Value.int .i64)) by rw [← hW]; exact HR3.out)
            have HSW := hidP (show Seg W gp 0 (tabL (fun i => (partN q m i : Int)) j) by rw [← hW]; exact HSP3.out.drewN d)
            have HLW := hidP (show Below w.heap.size w W by rw [← hW]; exact below_drewN HL3.out d)
            have hzW : wr.heap.size ≤ W.heap.size := by rw [← hW]; exact hz3
            rw [hW]
            clear e hW HR3 HSP3 HL3 hz3 hgx
            go_wp2_with (at_builtin; refine wpList_append_lies _ rfl (.tmp 57) (.tmp 59) 24 rfl w.heap.size 2 i0 _ 1 8 Try.underlying24 hi0 hz0 hz1 hz2 rfl (by omega) (.slice (some ⟨g, 0, none⟩) (idsF F k).length c) (idsF F k).length ((idsF F k).map (Value.int .i64)) rfl (World.ownsRow.alloc HOW.out _) ⟨W.heap.size, 0, none⟩ 1 1 [.int .i64 (k : Int)] rfl rfl (World.news_of_block (cs := #[.int .i64 (k : Int)]) (t := 2) (fr := (0, 0)) (heap_alloc_new W _)) (by simp [Value.oneCell']) (by omega) (by unfold maxLen; omega) (by omega) (by simp; omega) (W.heap.size + 1) (by simp) ?_; intro gg cc w8 hown hgrow hat8 hlt8)
            go_roundw
            case rel =>
              have hAW : Below W.heap.size W (W.alloc (.cells #[.int .i64 (k : Int)] 2)) := (Below.refl _ _).alloc (Nat.le_refl _) _
              have hS1 := HSW.out.below (by omega : gp < W.heap.size) hAW
              refine ⟨k + 1, gg, cc, by omega, by go_num, by rw [HE.out]; simp, ?_, ?_, ?_, ?_, ?_⟩
              · rw [HE.out]; exact IRow.of hown (by simp) (by simp)
              · rcases hat8 with h | h
                · simp [Value.ownBlock] at h; omega
                · omega
              · have := hgrow.size; simp at this; omega
              · intro i hi
                rw [hgrow.cell_far ⟨gp, 0 + i, none⟩ (by simp; omega) (by simp [Value.ownBlock]; omega)]
                exact hS1 i hi
              · refine (HLW.out.alloc (by omega) _).grown hgrow (by simp; omega) ?_
                intro q hq
                simp [Value.ownBlock] at hq
                omega
            case measure => simp [intOf]; omega
    · obtain rfl : k = xs.length := by omega
      clear hrow hsp L
      go_wp2
      go_ret
      exact ⟨g, c, rfl, HR.out, HLL.out⟩

set_option maxRecDepth 100000 in
set_option maxHeartbeats 2000000 in
theorem sAlike_bad (ao : Option Addr) (cap : Nat) (xs : List Int) (q n : Int) (w : World) (hv : View w ao xs) (hn : xs.length ≤ 1048576) (h : ¬ (listB xs = true ∧ wordB q = true ∧ countB n = true)) :
    Calls Try.prog 18 #[.slice ao xs.length cap, .int .i64 q, .int .i64 n] w fun e w' => ∃ g c, e = .returned (.slice (some ⟨g, 0, none⟩) 0 c) ∧ IRow w.heap.size w' g c [] ∧ Below w.heap.size w w' := by
  obtain ⟨w1, hw1⟩ : ∃ w1, w.alloc (.cells #[] 2) = w1 := ⟨_, rfl⟩
  have R1 := hidP (show IRow w.heap.size w1 w.heap.size 0 [] by rw [← hw1]; exact IRow.start w w.heap.size (Nat.le_refl _))
  have L1 := hidP (show Below w.heap.size w w1 by rw [← hw1]; exact (Below.refl w.heap.size w).alloc (Nat.le_refl _) (.cells #[] 2))
  have hz : w.heap.size ≤ w1.heap.size := L1.out.size
  have hv1 : View w1 ao xs := hv.below (Nat.le_refl _) L1.out
  go_enter Try.func18, Try.ntmps18
  go_upto_region 2 with fail
  clear hw1
  go_wp2_with fail
  refine (sParts q n w1).mono ?_
  rintro e w2 ⟨gp, cp, rfl, rp, Lp⟩
  have HW2 := hidP (sWords ao cap xs w2 (hv1.below (Nat.le_refl _) Lp) hn)
  have HF := hidP (And.intro (R1.out.below Lp) (chain L1.out Lp))
  clear rp Lp hv1
  by_cases hqn : wordB q = true ∧ countB n = true
  · have hl : listB xs = false := by
      rcases hb : listB xs with _ | _
      · rfl
      · exact absurd ⟨hb, hqn⟩ h
    have HL := hidP hl
    clear hl h
    go_wp2_with (go_at_call 49; refine HW2.out.mono ?_; rintro e w' ⟨rfl, rfl⟩; rw [HL.out])
    go_ret
    exact ⟨w.heap.size, 0, rfl, HF.out.1, HF.out.2⟩
  · have h0 : ((partsL q n).length == 0) = true := by rw [partsL_bad hqn]; rfl
    have hl0 : (partsL q n).length = 0 := by rw [partsL_bad hqn]; rfl
    rw [hl0]
    clear hl0 h0 h
    rcases hl : listB xs with _ | _
    · have HL := hidP hl
      clear hl
      go_wp2_with (go_at_call 49; refine HW2.out.mono ?_; rintro e w' ⟨rfl, rfl⟩; rw [HL.out])
      go_ret
      exact ⟨w.heap.size, 0, rfl, HF.out.1, HF.out.2⟩
    · have HL := hidP hl
      clear hl
      go_wp2_with (go_at_call 49; refine HW2.out.mono ?_; rintro e w' ⟨rfl, rfl⟩; rw [HL.out])
      go_ret
      exact ⟨w.heap.size, 0, rfl, HF.out.1, HF.out.2⟩

set_option maxRecDepth 100000 in
set_option maxHeartbeats 2000000 in
theorem sAlike_nil (ao : Option Addr) (cap : Nat) (q n m : Nat) (w : World) (hq : q < 65536) (hc : countB (n : Int) = true) (hm : m * n = 16) :
    Calls Try.prog 18 #[.slice ao 0 cap, .int .i64 (q : Int), .int .i64 (n : Int)] w fun e w' => ∃ g c, e = .returned (.slice (some ⟨g, 0, none⟩) 0 c) ∧ IRow w.heap.size w' g c [] ∧ Below w.heap.size w w' := by
  obtain ⟨w1, hw1⟩ : ∃ w1, w.alloc (.cells #[] 2) = w1 := ⟨_, rfl⟩
  have R1 := hidP (show IRow w.heap.size w1 w.heap.size 0 [] by rw [← hw1]; exact IRow.start w w.heap.size (Nat.le_refl _))
  have L1 := hidP (show Below w.heap.size w w1 by rw [← hw1]; exact (Below.refl w.heap.size w).alloc (Nat.le_refl _) (.cells #[] 2))
  have hn0 : 0 < n := by rcases Nat.eq_zero_or_pos n with h | h; (subst h; simp at hm); exact h
  have hne : ((n : Int) == 0) = false := by simp; omega
  have HM := hidP hm
  clear hm
  go_enter Try.func18, Try.ntmps18
  go_upto_region 2 with fail
  clear hw1
  go_wp2_with fail
  refine (sParts_in q n m w1 hq hc HM.out).mono ?_
  rintro e w2 ⟨gp, cp, rfl, rp, Lp⟩
  have HW2 := hidP (sWords ao cap [] w2 (Or.inl rfl) (by simp))
  have HF := hidP (And.intro (R1.out.below Lp) (chain L1.out Lp))
  have HL := hidP (show listB [] = true from rfl)
  clear rp Lp
  go_wp2_with (go_at_call 49; refine HW2.out.mono ?_; rintro e w' ⟨rfl, rfl⟩; rw [HL.out])
  refine wp_loop_rounds 1 ?_
  rw [rounds_succ]
  go_wp2
  go_ret
  exact ⟨w.heap.size, 0, rfl, HF.out.1, HF.out.2⟩

theorem sAlike (ao : Option Addr) (cap : Nat) (xs : List Int) (q n : Int) (w : World) (hv : View w ao xs) (hn : xs.length ≤ 1048576) :
    Calls Try.prog 18 #[.slice ao xs.length cap, .int .i64 q, .int .i64 n] w fun e w' => ∃ g c, e = .returned (.slice (some ⟨g, 0, none⟩) (alikeL xs q n).length c) ∧ IRow w.heap.size w' g c (alikeL xs q n) ∧ Below w.heap.size w w' := by
  by_cases h : listB xs = true ∧ wordB q = true ∧ countB n = true
  · obtain ⟨hl, hq, hc⟩ := h
    obtain ⟨y, rfl, hy⟩ : ∃ y : Nat, q = (y : Int) ∧ y < 65536 := ⟨q.toNat, by have := wordB_lt hq; omega, (wordB_lt hq).1⟩
    obtain ⟨k, m, rfl, hm, hm', h1, h8, h2⟩ := countB_of hc
    rw [alikeL_in hl hy hc hm']
    rcases hv with rfl | ⟨b, off, rfl, hb, hs⟩
    · exact sAlike_nil ao cap y k m w hy hc hm
    · exact sAlike_in b off cap xs y k m w hs hb hl hy hc hm hm'
  · rw [alikeL_bad h]
    exact sAlike_bad ao cap xs q n w hv hn h
end Go.Proofs.Ytiddimmifjklmaa
