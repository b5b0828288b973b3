/-
  The program's own coding: nearest, the closures of Coded and Decoded, and what is made by them.
-/
import Derived.Test.YthkaiienfkihmaaLvImp
namespace Go.Proofs.Ythkaiienfkihmaa
open Go Go.RowKit

/-- Going up as long as the middle is passed comes to the nearest one. -/
theorem cod_up {x : Int} {l : List Int} (h : lvRise l = true) {k : Nat} (hk : k < l.length) (hup : ∀ j, j < k → nth l j + nth l (j + 1) < 2 * x) (hend : k + 1 < l.length → 2 * x ≤ nth l k + nth l (k + 1)) : codI x l = k := by
  have hlt := codI_lt (x := x) (l := l) (by omega)
  rcases Nat.lt_trichotomy (codI x l) k with h1 | h1 | h1
  · have h2 := codI_le (x := x) hk
    obtain ⟨j, rfl⟩ : ∃ j, k = j + 1 := ⟨k - 1, by omega⟩
    have h3 := hup j (by omega)
    have h4 := lvRise_lt h (i := j) (j := j + 1) (by omega) hk
    have h5 : nth l (codI x l) ≤ nth l j := by
      rcases Nat.lt_or_ge (codI x l) j with e | e
      · have := lvRise_lt h e (by omega); omega
      · rw [show codI x l = j by omega]; exact Int.le_refl _
    unfold lvD at h2
    omega
  · exact h1
  · have h2 := codI_first h1
    have h3 := hend (by omega)
    have h4 := lvRise_lt h (i := k) (j := k + 1) (by omega) (by omega)
    have h5 : nth l (k + 1) ≤ nth l (codI x l) := by
      rcases Nat.lt_or_ge (k + 1) (codI x l) with e | e
      · have := lvRise_lt h e hlt; omega
      · rw [show codI x l = k + 1 by omega]; exact Int.le_refl _
    unfold lvD at h2
    omega

set_option maxRecDepth 100000 in
set_option maxHeartbeats 1000000 in
theorem iNearS (b off cap : Nat) (l : List Int) (x : Int) (w : World) (hbs : b < w.heap.size) (hs : Seg w b off l) (hok : lvOk l = true) (h1 : -1000 ≤ x) (h2 : x ≤ 1000) :
    Calls Try.prog 42 #[.agg #[.slice (some ⟨b, off, none⟩) l.length cap], .int .i64 x] w fun e w' => e = .returned (.int .i64 (codI x l : Nat)) ∧ Below w.heap.size w w' := by
  obtain ⟨hl1, hl16, hrise, -, -⟩ := (lvOk_iff l).1 hok
  have HAT := hidP (fun k (hk : k < l.length) => lvOk_at hok hk)
  have HUP := hidP (fun k (hk : k < l.length) => cod_up (x := x) hrise hk)
  obtain ⟨w0, hw0⟩ : ∃ w0, w.alloc (.cells #[.slice (some ⟨b, off, none⟩) l.length cap] 54) = w0 := ⟨_, rfl⟩
  have hsz : w.heap.size < w0.heap.size := by rw [← hw0]; simp
  have L0 : Below w.heap.size w w0 := by rw [← hw0]; exact (Below.refl _ _).alloc (Nat.le_refl _) _
  have s0 : Seg w0 b off l := by rw [← hw0]; exact hs.alloc hbs _
  have c0 : w0.cell? ⟨w.heap.size, 0, none⟩ = some (.slice (some ⟨b, off, none⟩) l.length cap) := by rw [← hw0]; simp [go_sem]
  have HL := hidP L0
  clear hok hrise L0 hs
  go_enter Try.func42, Try.ntmps42
  go_wp2_with fail
  go_loopw [5] (fun i wr => ∃ k : Nat, k < l.length ∧ i = .int .i64 k ∧ (∀ j, j < k → nth l j + nth l (j + 1) < 2 * x) ∧ ∃ m, wr = w0.drewN m) (fun i _ => l.length - (intOf i).toNat)
  case atStart => exact ⟨0, by omega, rfl, fun j hj => by omega, 0, by rw [← hw0]; rfl⟩
  case round =>
    obtain ⟨k, hk, rfl, hup, m, rfl⟩ := hrel
    have HU := hidP hup
    clear hup
    have hc := s0 k hk
    have hx := HAT.out k hk
    by_cases hl : k + 1 < l.length
    · have HH : Hid (∀ W : World, Calls Try.prog 61 #[.slice (some ⟨b, off, none⟩) l.length cap, .int .i64 ((k : Int) + 1)] W fun e w' => e = .returned (.bool true) ∧ w' = W) := fun W => by
        have h := pHas (some ⟨b, off, none⟩) l.length cap ((k : Int) + 1) W
        rw [show (decide (0 ≤ ((k : Int) + 1)) && decide (((k : Int) + 1) < (l.length : Int))) = true by simp; omega] at h
        exact h
      have hc2 := s0 (k + 1) hl
      have hx2 := HAT.out (k + 1) hl
      by_cases hm : nth l k + nth l (k + 1) < 2 * x
      · go_wp2_with fail
        go_quiet ((go_at_call 61; refine (HH.out _).mono ?_; rintro e w2 ⟨rfl, rfl⟩; exact ⟨rfl, _, rfl⟩))
        go_wp2_with fail
        go_roundw
        case rel => exact ⟨k + 1, hl, by go_num, fun j hj => by
          rcases Nat.lt_or_ge j k with h | h
          · exact HU.out j h
          · obtain rfl : j = k := by omega
            exact hm, _, rfl⟩
        case measure => simp [intOf]; omega
      · have HE := hidP (HUP.out k hk HU.out (fun _ => by omega))
        go_wp2_with fail
        go_quiet ((go_at_call 61; refine (HH.out _).mono ?_; rintro e w2 ⟨rfl, rfl⟩; exact ⟨rfl, _, rfl⟩))
        go_wp2_with fail
        go_ret
        exact ⟨ret_int (by rw [HE.out]), below_drewN (below_drewN HL.out _) _⟩
    · have HH : Hid (∀ W : World, Calls Try.prog 61 #[.slice (some ⟨b, off, none⟩) l.length cap, .int .i64 ((k : Int) + 1)] W fun e w' => e = .returned (.bool false) ∧ w' = W) := fun W => by
        have h := pHas (some ⟨b, off, none⟩) l.length cap ((k : Int) + 1) W
        rw [show (decide (0 ≤ ((k : Int) + 1)) && decide (((k : Int) + 1) < (l.length : Int))) = false by simp; omega] at h
        exact h
      have HE := hidP (HUP.out k hk HU.out (fun h => absurd h hl))
      go_wp2_with fail
      go_quiet ((go_at_call 61; refine (HH.out _).mono ?_; rintro e w2 ⟨rfl, rfl⟩; exact ⟨rfl, _, rfl⟩))
      go_wp2_with fail
      go_ret
      exact ⟨ret_int (by rw [HE.out]), below_drewN (below_drewN HL.out _) _⟩

def OwnF (w : World) (b : Nat) (g : Nat → Int) (n k : Nat) : Prop := w.heap[b]? = some (.cells (filled g n k) 2)
theorem OwnF.set {w : World} {b n k : Nat} {g : Nat → Int} (h : OwnF w b g n k) (hk : k < n) : OwnF (w.setCell ⟨b, k, none⟩ (.int .i64 (g k))) b g n (k + 1) := by
  unfold OwnF at h ⊢
  simp only [World.setCell, Array.getElem?_modify, h]
  simp [filled_set g n k hk]

set_option maxHeartbeats 1000000 in
theorem pEachCod (g : Nat → Int) (B b' off' cap' : Nat) (ys : List Int) (w : World) (hs' : Seg w b' off' ys) (hb' : b' < w.heap.size) (hn : ys.length ≤ 4)
    (hcall : ∀ (W : World) (k : Nat), k < ys.length → Below w.heap.size w W → Calls Try.prog 40 #[.int .i64 k, .int .i64 (nth ys k), .pointer (some ⟨B, 0, none⟩)] W fun e w' => e = .returned (.int .i64 (g k)) ∧ Below W.heap.size W w') :
    Calls Try.prog 39 #[.slice (some ⟨b', off', none⟩) ys.length cap', .func (Fn.func 40) #[] #[.pointer (some ⟨B, 0, none⟩)]] w fun e w' =>
      e = .returned (.slice (some ⟨w.heap.size, 0, none⟩) ys.length ys.length) ∧ Own w' w.heap.size (tabL g ys.length) ∧ Below w.heap.size w w' := by
  have hmk := run_make_row' (P := Try.prog) 50 2 (.int .i64 0) 8 Try.underlying50 Try.info2 rfl .i64 .i64 ys.length (by omega) (by omega)
  have h0 : OwnF (w.alloc (.cells (filled g ys.length 0) 2)) w.heap.size g ys.length 0 := Own.new w _
  rw [filled_zero] at h0
  have H0 := hidP h0
  have HH := hidP hcall
  clear h0
  have HS := hidP hs'
  clear hcall hs'
  go_enter Try.func39, Try.ntmps39
  go_wp2
  clear hmk
  go_loopw [13] (fun i wr => ∃ k : Nat, k ≤ ys.length ∧ i = .int .i64 k ∧ OwnF wr w.heap.size g ys.length k ∧ Below w.heap.size w wr) (fun i _ => ys.length - (intOf i).toNat)
  case atStart => exact ⟨0, Nat.zero_le _, rfl, H0.out, (Below.refl _ _).alloc (Nat.le_refl _) _⟩
  case round =>
    obtain ⟨k, hk, rfl, ho, L⟩ := hrel
    by_cases hlt : k < ys.length
    · have hc := (L.cell (p := ⟨b', off' + k, none⟩) hb').trans (HS.out k hlt)
      have hnext := filled_next g ys.length k hlt
      have HC := hidP (HH.out wr k hlt L)
      have HO := hidP ho
      have HL := hidP L
      have hsz : w.heap.size < wr.heap.size := by
        unfold OwnF at ho
        rcases Nat.lt_or_ge w.heap.size wr.heap.size with h | h
        · exact h
        · rw [Array.getElem?_eq_none h] at ho; cases ho
      clear ho L
      go_wp2_with fail
      refine HC.out.mono ?_
      rintro e w1 ⟨rfl, L1⟩
      have o1 : OwnF w1 w.heap.size g ys.length k := (L1.block _ hsz).trans HO.out
      have c1 : w1.cell? ⟨w.heap.size, k, none⟩ = some (.int .i64 0) := by
        unfold OwnF at o1
        simp [World.cell?, o1, hnext]
      have f1 : w1.frozen? ⟨w.heap.size, k, none⟩ = false := by
        unfold OwnF at o1
        simp [World.frozen?, o1]
      have HE : Hid (OwnF (w1.setCell ⟨w.heap.size, k, none⟩ (.int .i64 (g k))) w.heap.size g ys.length (k + 1) ∧ Below w.heap.size w (w1.setCell ⟨w.heap.size, k, none⟩ (.int .i64 (g k)))) := ⟨o1.set hlt, (chain HL.out L1).setCell (Nat.le_refl _) _⟩
      clear o1 L1 HO HC hc hnext
      go_wp2_with fail
      go_roundw
      case rel => exact ⟨k + 1, by omega, by go_num, HE.out.1, HE.out.2⟩
      case measure => simp [intOf]; omega
    · have HO := hidP ho
      clear ho
      go_wp2_with fail
      go_ret
      obtain rfl : k = ys.length := by omega
      refine ⟨rfl, ?_, L⟩
      have h := HO.out
      unfold OwnF at h
      rw [filled_all] at h
      exact h

set_option maxHeartbeats 1000000 in
theorem pEachDec (g : Nat → Int) (B b' off' cap' : Nat) (ys : List Int) (w : World) (hs' : Seg w b' off' ys) (hb' : b' < w.heap.size) (hn : ys.length ≤ 4)
    (hcall : ∀ (W : World) (k : Nat), k < ys.length → Below w.heap.size w W → Calls Try.prog 49 #[.int .i64 k, .int .i64 (nth ys k), .pointer (some ⟨B, 0, none⟩)] W fun e w' => e = .returned (.int .i64 (g k)) ∧ Below W.heap.size W w') :
    Calls Try.prog 39 #[.slice (some ⟨b', off', none⟩) ys.length cap', .func (Fn.func 49) #[] #[.pointer (some ⟨B, 0, none⟩)]] w fun e w' =>
      e = .returned (.slice (some ⟨w.heap.size, 0, none⟩) ys.length ys.length) ∧ Own w' w.heap.size (tabL g ys.length) ∧ Below w.heap.size w w' := by
  have hmk := run_make_row' (P := Try.prog) 50 2 (.int .i64 0) 8 Try.underlying50 Try.info2 rfl .i64 .i64 ys.length (by omega) (by omega)
  have h0 : OwnF (w.alloc (.cells (filled g ys.length 0) 2)) w.heap.size g ys.length 0 := Own.new w _
  rw [filled_zero] at h0
  have H0 := hidP h0
  have HH := hidP hcall
  clear h0
  have HS := hidP hs'
  clear hcall hs'
  go_enter Try.func39, Try.ntmps39
  go_wp2
  clear hmk
  go_loopw [13] (fun i wr => ∃ k : Nat, k ≤ ys.length ∧ i = .int .i64 k ∧ OwnF wr w.heap.size g ys.length k ∧ Below w.heap.size w wr) (fun i _ => ys.length - (intOf i).toNat)
  case atStart => exact ⟨0, Nat.zero_le _, rfl, H0.out, (Below.refl _ _).alloc (Nat.le_refl _) _⟩
  case round =>
    obtain ⟨k, hk, rfl, ho, L⟩ := hrel
    by_cases hlt : k < ys.length
    · have hc := (L.cell (p := ⟨b', off' + k, none⟩) hb').trans (HS.out k hlt)
      have hnext := filled_next g ys.length k hlt
      have HC := hidP (HH.out wr k hlt L)
      have HO := hidP ho
      have HL := hidP L
      have hsz : w.heap.size < wr.heap.size := by
        unfold OwnF at ho
        rcases Nat.lt_or_ge w.heap.size wr.heap.size with h | h
        · exact h
        · rw [Array.getElem?_eq_none h] at ho; cases ho
      clear ho L
      go_wp2_with fail
      refine HC.out.mono ?_
      rintro e w1 ⟨rfl, L1⟩
      have o1 : OwnF w1 w.heap.size g ys.length k := (L1.block _ hsz).trans HO.out
      have c1 : w1.cell? ⟨w.heap.size, k, none⟩ = some (.int .i64 0) := by
        unfold OwnF at o1
        simp [World.cell?, o1, hnext]
      have f1 : w1.frozen? ⟨w.heap.size, k, none⟩ = false := by
        unfold OwnF at o1
        simp [World.frozen?, o1]
      have HE : Hid (OwnF (w1.setCell ⟨w.heap.size, k, none⟩ (.int .i64 (g k))) w.heap.size g ys.length (k + 1) ∧ Below w.heap.size w (w1.setCell ⟨w.heap.size, k, none⟩ (.int .i64 (g k)))) := ⟨o1.set hlt, (chain HL.out L1).setCell (Nat.le_refl _) _⟩
      clear o1 L1 HO HC hc hnext
      go_wp2_with fail
      go_roundw
      case rel => exact ⟨k + 1, by omega, by go_num, HE.out.1, HE.out.2⟩
      case measure => simp [intOf]; omega
    · have HO := hidP ho
      clear ho
      go_wp2_with fail
      go_ret
      obtain rfl : k = ys.length := by omega
      refine ⟨rfl, ?_, L⟩
      have h := HO.out
      unfold OwnF at h
      rw [filled_all] at h
      exact h

end Go.Proofs.Ythkaiienfkihmaa
