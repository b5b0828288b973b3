/-
  The given Moved: a slice that reads as the plain sum of two points, or as nothing.
-/
import Derived.Test.YtpnccjcgnmhncaaImpl
import Derived.Deep.RegionHeld3
import Derived.Deep.AppendLies
namespace Go.Proofs.Ytpnccjcgnmhncaa
open Go Go.RowKit

theorem hideP {p : Prop} (h : p) : Hid p := h

theorem own_view {w : World} {base g cap n : Nat} {xs : List Int} (h : w.ownsRow base 2 1 (.slice (some ⟨g, 0, none⟩) n cap) n (xs.map (Value.int .i64))) : View w (some ⟨g, 0, none⟩) xs := by
  have hl : xs.length = n := by have := h.1; simpa using this
  refine Or.inr ⟨g, 0, rfl, (h.lt g rfl).2, fun i hi => ?_⟩
  rw [Nat.zero_add, h.cellAt i (by omega)]
  simp [nth, List.getD, hi]

set_option maxRecDepth 100000 in
set_option maxHeartbeats 1000000 in
theorem sMoved (ao ao' : Option Addr) (cap cap' : Nat) (xs ys : List Int) (w : World) (hv : View w ao xs) (hv' : View w ao' ys) (hn : xs.length ≤ 1048576) (hn' : ys.length ≤ 1048576) :
    Calls Try.prog 24 #[.slice ao xs.length cap, .slice ao' ys.length cap'] w fun e w' => ∃ a1 c1, e = .returned (.slice a1 (movedL xs ys).length c1) ∧ View w' a1 (movedL xs ys) ∧ Below w.heap.size w w' := by
  rcases ht : twoB xs ys with _ | _
  · have HV : movedL xs ys = [] := by simp [movedL, ht]
    go_enter Try.func24, Try.ntmps24
    go_wp2_with fail
    refine (sTwo ao ao' cap cap' xs ys _ (hv.below (Nat.le_refl _) ((Below.refl _ _).alloc (Nat.le_refl _) _)) (hv'.below (Nat.le_refl _) ((Below.refl _ _).alloc (Nat.le_refl _) _)) hn hn').mono ?_
    rintro e w' ⟨rfl, hw⟩
    subst hw
    go_wp2_with fail
    go_ret
    refine ⟨some ⟨w.heap.size, 0, none⟩, 0, ?_, Or.inl HV, (Below.refl _ _).alloc (Nat.le_refl _) _⟩
    rw [HV]
    rfl
  · obtain ⟨ha, hb, hl⟩ := twoB_of ht
    have h4 := okB_len ha
    have HV : Hid (movedL xs ys = if okB (tabL (addF xs ys) xs.length) = true then tabL (addF xs ys) xs.length else []) := by show _ = _; simp [movedL, ht]
    obtain ⟨b, off, rfl, hbs, hs⟩ : ∃ b off, ao = some ⟨b, off, none⟩ ∧ b < w.heap.size ∧ Seg w b off xs := by
      rcases hv with rfl | h
      · simp at h4
      · exact h
    obtain ⟨b', off', rfl, hbs', hs'⟩ : ∃ b off, ao' = some ⟨b, off, none⟩ ∧ b < w.heap.size ∧ Seg w b off ys := by
      rcases hv' with rfl | h
      · simp at hl; rw [hl] at h4; simp at h4
      · exact h
    have HL : Hid (xs.length = ys.length) := hl
    clear hl
    obtain ⟨i0, hi0, hz0, hz1, hz2⟩ := info_parts Try.info2
    go_enter Try.func24, Try.ntmps24
    go_wp2_with fail
    refine (sTwo _ _ cap cap' xs ys _ (Or.inr ⟨b, off, rfl, by simp; omega, hs.alloc hbs _⟩) (Or.inr ⟨b', off', rfl, by simp; omega, hs'.alloc hbs' _⟩) hn hn').mono ?_
    rintro e w' ⟨rfl, hw⟩
    subst hw
    go_wp2_with fail
    go_loopw [5, 6] (fun v i wr => ∃ k : Nat, k ≤ xs.length ∧ i = .int .i64 k ∧ ∃ g c, v = .slice (some ⟨g, 0, none⟩) k c ∧ wr.ownsRow w.heap.size 2 1 v k ((tabL (addF xs ys) k).map (Value.int .i64)) ∧ Below w.heap.size w wr) (fun _ i _ => xs.length - (intOf i).toNat)
    case atStart =>
      exact ⟨0, Nat.zero_le _, rfl, w.heap.size, 0, rfl, World.ownsRow_lit w #[] 0 (Nat.le_refl _) (Nat.zero_le _) rfl, (Below.refl _ _).alloc (Nat.le_refl _) _⟩
    case round =>
      obtain ⟨k, hk, rfl, g, c, rfl, hown, L⟩ := hrel
      by_cases hlt : k < xs.length
      · have hc : wr.cell? ⟨b, off + k, none⟩ = some (.int .i64 (nth xs k)) := (L.cell (p := ⟨b, off + k, none⟩) hbs).trans (hs k hlt)
        have hlt' : k < ys.length := by have := HL.out; omega
        have hc' : wr.cell? ⟨b', off' + k, none⟩ = some (.int .i64 (nth ys k)) := (L.cell (p := ⟨b', off' + k, none⟩) hbs').trans (hs' k hlt')
        have hx := okB_at ha k
        have hy := okB_at hb k
        have hz := L.size
        have hgl := hown.lt g rfl
        have hbg : some b ≠ (Value.slice (some ⟨g, 0, none⟩) k c).ownBlock := by intro h; simp [Value.ownBlock] at h; omega
        have hbg' : some b' ≠ (Value.slice (some ⟨g, 0, none⟩) k c).ownBlock := by intro h; simp [Value.ownBlock] at h; omega
        have hnew1 := World.new_ne wr ⟨b, off + k, none⟩ hc
        have hnew2 := World.new_ne wr ⟨b', off' + k, none⟩ hc'
        have hwr : IntKind.i64.wrap (nth xs k + nth ys k) = nth xs k + nth ys k := IntWalk.i64_in _ ⟨by omega, by omega⟩
        have hi0' : (0 : Int) ≤ (k : Int) := Int.natCast_nonneg _
        have hi1 : (k : Int) < (xs.length : Int) := by omega
        have hi2 : (k : Int) < (ys.length : Int) := by omega
        go_wp2_with fail
        go_region_held3 (fun w' => w'.cell? ⟨b, off + k, none⟩ = some (.int .i64 (nth xs k)) ∧ w'.cell? ⟨b', off' + k, none⟩ = some (.int .i64 (nth ys k)))
          (first
            | go_keep
            | (go_split_ands
               refine ⟨?_, ?_⟩
               · (rw [hgrow.cell_far _ (by simp; omega) hbg]; assumption)
               · (rw [hgrow.cell_far _ (by simp; omega) hbg']; assumption)))
          ((refine step_append_lies _ (by rfl) _ _ _ (by rfl) w.heap.size 2 i0 _ 1 8 Try.underlying22 hi0 hz0 hz1 hz2 rfl (by omega) (.slice (some ⟨g, 0, none⟩) k c) k _ (by rfl) ((hown.alloc _).drew)
              ⟨wr.heap.size, 0, none⟩ 1 1 [.int .i64 (nth xs k + nth ys k)] (by rfl) (by rfl) (World.news_of_block (cs := #[.int .i64 (nth xs k + nth ys k)]) (t := 2) (fr := (0, 0)) (heap_alloc_new wr _)) (by simp [Value.oneCell'])
              (by omega) (by unfold maxLen; omega) (by omega) (by simp; omega) (wr.heap.size + 1) (by simp) ?_; intro gg cc w1 hown1 hgrow hat hlt1))
        go_wp2
        go_roundw
        case rel =>
          refine ⟨k + 1, by omega, by go_num, gg, cc, rfl, ?_, ?_⟩
          · rw [tabL_succ, List.map_append]; exact hown1
          · refine (((L.alloc hz _).drew).grown hgrow (by simp; omega) ?_)
            intro q hq
            simp [Value.ownBlock] at hq
            omega
        case measure => simp [intOf]; omega
      · have hok := sOk (some ⟨g, 0, none⟩) c (tabL (addF xs ys) k) wr (own_view hown) (by rw [tabL_length]; omega)
        rw [tabL_length] at hok
        have HO := hideP hok
        clear hok
        obtain rfl : k = xs.length := by omega
        have hvw := own_view hown
        rcases hq : okB (tabL (addF xs ys) xs.length) with _ | _
        · have HE : movedL xs ys = [] := by rw [HV.out, hq]; rfl
          go_wp2_with fail
          refine HO.out.mono ?_
          rintro e w2 ⟨rfl, hw2⟩
          subst hw2
          go_wp2_with fail
          go_ret
          refine ⟨some ⟨w2.heap.size, 0, none⟩, 0, ?_, Or.inl HE, L.alloc L.size _⟩
          rw [HE]
          rfl
        · have HE : movedL xs ys = tabL (addF xs ys) xs.length := by rw [HV.out, hq]; rfl
          go_wp2_with fail
          refine HO.out.mono ?_
          rintro e w2 ⟨rfl, hw2⟩
          subst hw2
          go_wp2_with fail
          go_ret
          refine ⟨some ⟨g, 0, none⟩, c, ?_, ?_, L⟩
          · rw [HE, tabL_length]; rfl
          · rw [HE]; exact hvw

end Go.Proofs.Ytpnccjcgnmhncaa
