/-
  The given BoxOk, l4Told, ToBox, Corner and Inside.
-/
import Derived.Test.YthddhblmnfjciaaBoxes
import Derived.Test.YthddhblmnfjciaaSpec
import Derived.Test.YthddhblmnfjciaaArgs
import Derived.Test.YthddhblmnfjciaaMCells
namespace Go.Proofs.Ythddhblmnfjciaa
open Go Go.RowKit

theorem View.seg {w : World} {ao : Option Addr} {xs : List Int} (h : View w ao xs) (h0 : 0 < xs.length) : ∃ b off, ao = some ⟨b, off, none⟩ ∧ b < w.heap.size ∧ Seg w b off xs := by
  rcases h with h | h
  · subst h; simp at h0
  · exact h

set_option maxRecDepth 100000 in
set_option maxHeartbeats 1000000 in
theorem sBoxOk (a1 a2 : Option Addr) (c1 c2 : Nat) (lo hi : List Int) (w : World) (h1 : View w a1 lo) (h2 : View w a2 hi) (n1 : lo.length ≤ 1048576) (n2 : hi.length ≤ 1048576) :
    Calls Try.prog 117 #[.agg #[.slice a1 lo.length c1, .slice a2 hi.length c2]] w fun e w' => e = .returned (.bool (boxB (lo, hi))) ∧ Below w.heap.size w w' := by
  have hB := (Below.refl w.heap.size w).alloc (Nat.le_refl _) (.cells #[.slice a1 lo.length c1, .slice a2 hi.length c2] 75)
  have HB := hidP hB
  have HT := hidP (sTwo a1 a2 c1 c2 lo hi (w.alloc (.cells #[.slice a1 lo.length c1, .slice a2 hi.length c2] 75)) (h1.next hB) (h2.next hB) n1 n2)
  rcases ht : twoB lo hi with _ | _
  · rw [ht] at HT
    have HV : Hid (boxB (lo, hi) = false) := boxB_not (b := (lo, hi)) ht
    go_enter Try.func117, Try.ntmps117
    go_wp2_with fail
    refine HT.out.mono ?_
    rintro e w' ⟨rfl, rfl⟩
    go_wp2_with fail
    go_ret
    exact ⟨ret_bool HV.out.symm, HB.out⟩
  · rw [ht] at HT
    obtain ⟨ha, hb, hl⟩ := twoB_of ht
    have h4 := okB_len ha
    obtain ⟨b1, o1, rfl, hb1, s1⟩ := h1.seg (by omega)
    obtain ⟨b2, o2, rfl, hb2, s2⟩ := h2.seg (by omega)
    have HL := hidP hl
    have HV := hidP (boxB_mk (b := (lo, hi)) ht)
    obtain ⟨W, hW⟩ : ∃ W, W = w.alloc (.cells #[.slice (some ⟨b1, o1, none⟩) lo.length c1, .slice (some ⟨b2, o2, none⟩) hi.length c2] 75) := ⟨_, rfl⟩
    have k0 : W.cell? ⟨w.heap.size, 0, none⟩ = some (.slice (some ⟨b1, o1, none⟩) lo.length c1) := by rw [hW]; simp
    have k1 : W.cell? ⟨w.heap.size, 1, none⟩ = some (.slice (some ⟨b2, o2, none⟩) hi.length c2) := by rw [hW]; simp
    have s1' : Seg W b1 o1 lo := by rw [hW]; exact s1.below hb1 hB
    have s2' : Seg W b2 o2 hi := by rw [hW]; exact s2.below hb2 hB
    clear hl hB s1 s2
    go_enter Try.func117, Try.ntmps117
    go_wp2_with fail
    refine HT.out.mono ?_
    rintro e w' ⟨rfl, hw'⟩
    rw [← hW] at hw' HB
    subst hw'
    clear hW HT
    go_wp2_with fail
    go_loopw [3] (fun i wr => ∃ k : Nat, k ≤ lo.length ∧ i = .int .i64 k ∧ (∀ j, j < k → nth lo j ≤ nth hi j) ∧ ∃ n, wr = w'.drewN n) (fun i _ => lo.length - (intOf i).toNat)
    case atStart => exact ⟨0, Nat.zero_le _, rfl, fun j hj => by omega, 0, rfl⟩
    case round =>
      obtain ⟨k, hk, rfl, hall, hw⟩ := hrel
      have HW : Hid (∃ n, wr = w'.drewN n) := hw
      have HA := hidP hall
      have q0 : wr.cell? ⟨w.heap.size, 0, none⟩ = some (.slice (some ⟨b1, o1, none⟩) lo.length c1) := by obtain ⟨n, rfl⟩ := HW.out; exact k0
      have q1 : wr.cell? ⟨w.heap.size, 1, none⟩ = some (.slice (some ⟨b2, o2, none⟩) hi.length c2) := by obtain ⟨n, rfl⟩ := HW.out; exact k1
      clear hw hall
      by_cases hlt : k < lo.length
      · have hc : wr.cell? ⟨b1, o1 + k, none⟩ = some (.int .i64 (nth lo k)) := by obtain ⟨n, rfl⟩ := HW.out; exact s1' k hlt
        have hlt' : k < hi.length := by have := HL.out; omega
        have hc' : wr.cell? ⟨b2, o2 + k, none⟩ = some (.int .i64 (nth hi k)) := by obtain ⟨n, rfl⟩ := HW.out; exact s2' k hlt'
        by_cases hgt : nth lo k > nth hi k
        · have HX : Hid (boxB (lo, hi) = false) := boxB_out (b := (lo, hi)) hlt hgt
          go_wp2
          go_quiet (fail)
          go_wp2
          go_ret
          exact ⟨ret_bool HX.out.symm, below_drewN (by obtain ⟨n, rfl⟩ := HW.out; exact below_drewN HB.out n) _⟩
        · go_wp2
          go_quiet (fail)
          go_wp2
          go_roundw
          case rel => exact ⟨k + 1, by omega, by go_num, fun j hj => by
            rcases Nat.lt_or_ge j k with h | h
            · exact HA.out j h
            · rw [show j = k by omega]; omega, by obtain ⟨n, hn⟩ := HW.out; exact ⟨n + nq, by rw [hn]; simp⟩⟩
          case measure => simp [intOf]; omega
      · go_wp2
        go_ret
        refine ⟨ret_bool (HV.out (fun j hj => HA.out j (by have : j < lo.length := hj; omega))).symm, ?_⟩
        obtain ⟨n, rfl⟩ := HW.out; exact below_drewN HB.out n

end Go.Proofs.Ythddhblmnfjciaa
