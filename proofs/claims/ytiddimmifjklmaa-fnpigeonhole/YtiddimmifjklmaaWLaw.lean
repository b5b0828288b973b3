/-
  What FnPigeonhole rests on: plain facts, the laws' helpers rises and has, what the law keeps in hand.
-/
import Derived.Test.YtiddimmifjklmaaWDr2
import Derived.Test.YtiddimmifjklmaaLike
import Derived.Test.YtiddimmifjklmaaBytes
namespace Go.Proofs.Ytiddimmifjklmaa
open Go Go.RowKit

theorem ids_rise (f : Nat → Bool) (n : Nat) {j : Nat} (h : j + 1 < (idsF f n).length) : nth (idsF f n) j < nth (idsF f n) (j + 1) := by
  have hp := List.pairwise_iff_getElem.1 (idsF_pair f n) j (j + 1) (by omega) h (by omega)
  simpa [nth, List.getD, h, show j < (idsF f n).length by omega] using hp
theorem alike_rise (xs : List Int) (q n : Int) {j : Nat} (h : j + 1 < (alikeL xs q n).length) : nth (alikeL xs q n) j < nth (alikeL xs q n) (j + 1) := by
  unfold alikeL at h ⊢
  split at h
  · rw [if_pos (by assumption)]; exact ids_rise _ _ h
  · simp at h
theorem close_rise (xs : List Int) (q k : Int) {j : Nat} (h : j + 1 < (closeL xs q k).length) : nth (closeL xs q k) j < nth (closeL xs q k) (j + 1) := by
  unfold closeL at h ⊢
  split at h
  · rw [if_pos (by assumption)]; exact ids_rise _ _ h
  · simp at h

/-- The weights of the first k of a list, added up. -/
def wsum (R : List Int) : Nat → Int
  | 0 => 0
  | k + 1 => wsum R k + weightV (nth R k)
theorem weight_bd (a : Int) : -1 ≤ weightV a ∧ weightV a ≤ 16 := by
  unfold weightV
  split
  · have := wt_le a.toNat; omega
  · omega
theorem wsum_bd (R : List Int) : ∀ k : Nat, -(k : Int) ≤ wsum R k ∧ wsum R k ≤ 16 * k
  | 0 => by simp [wsum]
  | k + 1 => by
    have h1 := wsum_bd R k
    have h2 := weight_bd (nth R k)
    rw [wsum]; omega
theorem parts_sum {a n : Int} (h : 0 < (partsL a n).length) : wsum (partsL a n) (partsL a n).length = weightV a := by
  by_cases hc : wordB a = true ∧ countB n = true
  · obtain ⟨ha, hn⟩ := hc
    obtain ⟨x, rfl, hx⟩ : ∃ x : Nat, a = (x : Int) ∧ x < 65536 := ⟨a.toNat, by have := wordB_lt ha; omega, (wordB_lt ha).1⟩
    obtain ⟨k, m, rfl, hm, hm', h1, h8, h2⟩ := countB_of hn
    rw [partsL_in hx hn hm', tabL_length]
    have hm16 : m ≤ 16 := by rw [← hm]; exact Nat.le_mul_of_pos_right m h1
    have e : ∀ j, j ≤ k → wsum (tabL (fun i => (partN x m i : Int)) k) j = ((sumN (fun i => wtN (partN x m i)) j : Nat) : Int) := fun j => by
      induction j with
      | zero => intro _; rfl
      | succ j ih =>
        intro hj
        rw [wsum, ih (by omega), sumN, show nth (tabL (fun i => (partN x m i : Int)) k) j = (partN x m j : Int) from tabL_getD _ _ _ (by omega)]
        have : weightV ((partN x m j : Nat) : Int) = (wtN (partN x m j) : Int) := by rw [weightV, if_pos (wordB_nat (part_word hm16))]; rfl
        rw [this]; omega
    rw [e k (Nat.le_refl _), parts_weight x hm hm16, weightV, if_pos (wordB_nat hx)]
    rfl
  · rw [partsL_bad hc] at h; simp at h
theorem apart_words {d e : Int} (h : 0 ≤ apartV d e) : ∃ x y : Nat, d = (x : Int) ∧ e = (y : Int) ∧ x < 65536 ∧ y < 65536 := by
  by_cases hc : wordB d = true ∧ wordB e = true
  · exact ⟨d.toNat, e.toNat, by have := wordB_lt hc.1; omega, by have := wordB_lt hc.2; omega, (wordB_lt hc.1).1, (wordB_lt hc.2).1⟩
  · rw [apartV_bad hc] at h; omega
theorem apart_sym (d e : Int) : apartV e d = apartV d e := by
  unfold apartV
  rw [Nat.xor_comm]
  by_cases h : wordB d = true ∧ wordB e = true
  · rw [if_pos h, if_pos ⟨h.2, h.1⟩]
  · rw [if_neg h, if_neg (fun h' => h ⟨h'.2, h'.1⟩)]
theorem apart_nil {d e : Int} (h : 0 ≤ apartV d e) : apartV d e = 0 ↔ d = e := by
  obtain ⟨x, y, rfl, rfl, hx, hy⟩ := apart_words h
  rw [apartV_in hx hy]
  have := wt_xor_zero hx hy
  omega
theorem apart_le {d e : Int} (h : 0 ≤ apartV d e) : apartV d e ≤ apartV d 0 + apartV 0 e := by
  obtain ⟨x, y, rfl, rfl, hx, hy⟩ := apart_words h
  have e1 := apartV_in (x := x) (y := 0) hx (by decide)
  have e2 := apartV_in (x := 0) (y := y) (by decide) hy
  rw [apartV_in hx hy, show (0 : Int) = ((0 : Nat) : Int) from rfl, e1, e2, Nat.xor_zero, Nat.zero_xor]
  have := wt_xor_le x y
  omega
theorem apart_bd (d e : Int) : -1 ≤ apartV d e ∧ apartV d e ≤ 16 := by
  unfold apartV
  split
  · have := wt_le (d.toNat ^^^ e.toNat); omega
  · omega
theorem alike_none {xs : List Int} {q n : Int} (h : countB n = false) : alikeL xs q n = [] := alikeL_bad (by simp [h])
/-- Who is close by less than n is alike in one of n parts. -/
theorem pigeon_mem {xs : List Int} {q n v : Int} (hc : countB n = true) (h : v ∈ closeL xs q (n - 1)) : v ∈ alikeL xs q n := by
  unfold closeL at h
  split at h
  · rename_i hh
    obtain ⟨hl, hq, _⟩ := hh
    obtain ⟨y, rfl, hy⟩ : ∃ y : Nat, q = (y : Int) ∧ y < 65536 := ⟨q.toNat, by have := wordB_lt hq; omega, (wordB_lt hq).1⟩
    obtain ⟨k, m, rfl, hm, hm', h1, h8, h2⟩ := countB_of hc
    rw [alikeL_in hl hy hc hm']
    obtain ⟨i, hi, rfl, hf⟩ := idsF_mem.1 h
    refine idsF_mem.2 ⟨i, hi, rfl, ?_⟩
    have hw := wordB_lt (listB_at hl hi)
    have e : nth xs i = (((nth xs i).toNat : Nat) : Int) := by omega
    rw [decide_eq_true_eq, e, apartV_in hw.1 hy] at hf
    exact pigeon hm (by omega)
  · cases h

set_option maxHeartbeats 1000000 in
theorem rises9 (ao : Option Addr) (cap : Nat) (xs : List Int) (w : World) (hv : View w ao xs) (hn : xs.length ≤ 1048576) (hr : ∀ j, j + 1 < xs.length → nth xs j < nth xs (j + 1)) :
    Calls Try.prog 25 #[.slice ao xs.length cap] w fun e w' => e = .returned (.bool true) ∧ ∃ n, w' = w.drewN n := by
  have HV := hidP hv
  have HR := hidP hr
  clear hv hr
  go_enter Try.func25, Try.ntmps25
  go_wp2_with fail
  go_loopw [3] (fun i wr => ∃ k : Nat, k ≤ xs.length ∧ i = .int .i64 ((k + 1 : Nat) : Int) ∧ ∃ n, wr = w.drewN n) (fun i _ => xs.length + 1 - (intOf i).toNat)
  case atStart => exact ⟨0, Nat.zero_le _, rfl, 0, rfl⟩
  case round =>
    obtain ⟨k, hk, rfl, n, rfl⟩ := hrel
    by_cases hlt : k + 1 < xs.length
    · rcases HV.out with he | ⟨b, off, rfl, _, hs⟩
      · rw [he] at hlt; simp at hlt
      have hc := hs (k + 1) hlt
      have hc' := hs k (by omega)
      have hlt' : nth xs k < nth xs (k + 1) := HR.out k hlt
      have hx : IntKind.i64.wrap (((k + 1 : Nat) : Int) - 1) = k := by rw [show ((k + 1 : Nat) : Int) - 1 = k by omega]; exact IntWalk.i64_in _ ⟨by omega, by omega⟩
      have hi0 : (0 : Int) ≤ (k : Int) := Int.natCast_nonneg _
      have hi1 : (k : Int) < (xs.length : Int) := by omega
      have hi2 : ((k + 1 : Nat) : Int) < (xs.length : Int) := by omega
      go_wp2_with fail
      have hle : ¬ (nth xs (k + 1) ≤ nth xs k) := by omega
      go_quiet (fail)
      go_wp2_with fail
      go_roundw
      case rel => exact ⟨k + 1, by omega, by go_num, n + nq, by simp⟩
      case measure => simp [intOf]; omega
    · go_wp2_with fail
      go_ret
      exact ⟨rfl, _, rfl⟩

set_option maxHeartbeats 1000000 in
theorem has9 (ao : Option Addr) (cap : Nat) (v : Int) (xs : List Int) (w : World) (hv : View w ao xs) (hn : xs.length ≤ 1048576) (hm : v ∈ xs) :
    Calls Try.prog 26 #[.slice ao xs.length cap, .int .i64 v] w fun e w' => e = .returned (.bool true) ∧ w' = w := by
  have HM := hidP hm
  obtain ⟨b, off, rfl, _, hs⟩ : ∃ b off, ao = some ⟨b, off, none⟩ ∧ b < w.heap.size ∧ Seg w b off xs := by
    rcases hv with rfl | h
    · cases hm
    · exact h
  clear hm
  go_enter Try.func26, Try.ntmps26
  go_wp2
  go_loop [5] (fun i => ∃ k : Nat, k ≤ xs.length ∧ i = .int .i64 k ∧ ∀ j, j < k → nth xs j ≠ v) (fun i => xs.length - (intOf i).toNat)
  case atStart => exact ⟨0, Nat.zero_le _, rfl, fun j hj => by omega⟩
  case round =>
    obtain ⟨k, hk, rfl, hall⟩ := hrel
    have HA := hidP hall
    clear hall
    by_cases hlt : k < xs.length
    · have hc := hs k hlt
      by_cases he : nth xs k = v
      · have heb : (nth xs k == v) = true := by simp [he]
        clear he
        go_wp2
        go_ret
        exact ⟨rfl, rfl⟩
      · have heb : (nth xs k == v) = false := by simp [he]
        have HE := hidP he
        clear he
        go_wp2
        go_round
        case rel => exact ⟨k + 1, by omega, by go_num, fun j hj => by
          rcases Nat.lt_or_ge j k with h | h
          · exact HA.out j h
          · rw [show j = k by omega]; exact HE.out⟩
        case measure => simp [intOf]; omega
    · exfalso
      obtain ⟨j, hj, e⟩ := List.getElem_of_mem HM.out
      have := HA.out j (by omega)
      simp [nth, List.getD, hj, e] at this

/-- What the law keeps in hand. -/
structure PPg (W : World) (al aa ac aw ar : Option Addr) (l A c B R : List Int) : Prop where
  l : View W al l
  a : View W aa A
  c : View W ac c
  w : View W aw B
  r : View W ar R
theorem PPg.next {W W' : World} {al aa ac aw ar : Option Addr} {l A c B R : List Int} (h : PPg W al aa ac aw ar l A c B R) (hb : Below W.heap.size W W') : PPg W' al aa ac aw ar l A c B R :=
  ⟨h.l.below (Nat.le_refl _) hb, h.a.below (Nat.le_refl _) hb, h.c.below (Nat.le_refl _) hb, h.w.below (Nat.le_refl _) hb, h.r.below (Nat.le_refl _) hb⟩
theorem below_draws (w : World) (n : Nat) : Below w.heap.size w (w.drewN n) := below_drewN (Below.refl _ _) n
end Go.Proofs.Ytiddimmifjklmaa
