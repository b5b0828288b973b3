/-
  The laws' draws of chapter 3: marks, a place and a count; hits.
-/
import Derived.Test.YtodielfilhodeaaGreatMHighZz
import Derived.Test.YtodielfilhodeaaGreatWithZz
namespace Go.Proofs.YtodielfilhodeaaGreat
open Go Go.RowKit

theorem hbelow_grown {w w' : World} (r : Option Nat) (h : Below w.heap.size w w') : w.grownBy w' r := ⟨h.os, h.tape, h.output, h.size, fun i hi _ => h.block i hi⟩
def widthV (ms : List Mk) : Nat := if ms.length = 0 then 2 else (mat ms 0).length

set_option maxHeartbeats 400000 in
theorem sWidth (ao : Option Addr) (cap : Nat) (ms : List Mk) (w : World) (hv : MView w ao ms) (hat : ∀ i, (mat ms i).length ≤ 1048576) :
    Calls Tryz.prog 125 #[.slice ao ms.length cap] w fun e w' => e = .returned (.int .i64 (widthV ms)) ∧ w' = w := by
  by_cases h0 : ms.length = 0
  · have HV : Hid (widthV ms = 2) := by show widthV ms = 2; unfold widthV; rw [if_pos h0]
    have hb0 : ((ms.length : Int) == 0) = true := by simp; simpa using h0
    clear h0
    go_enter Tryz.func125, Tryz.ntmps125
    go_wp2
    go_ret
    exact ⟨ret_int (by rw [HV.out]; rfl), rfl⟩
  · have HV : Hid (widthV ms = (mat ms 0).length) := by show widthV ms = _; unfold widthV; rw [if_neg h0]
    have hb0 : ((ms.length : Int) == 0) = false := by simp; simpa using h0
    have hne : ms ≠ [] := by intro h; subst h; simp at h0
    obtain ⟨b, off, rfl, hb, hs⟩ := MSeg.seg hv (by omega)
    obtain ⟨-, ae, ce, hc1, -⟩ := hs.at (i := 0) (by omega)
    rw [Nat.zero_mul, Nat.add_zero] at hc1
    have hpos : (0 : Int) < (ms.length : Int) := by omega
    have hpos2 : 0 < ms.length := by omega
    have hl0 := hat 0
    clear h0
    go_enter Tryz.func125, Tryz.ntmps125
    go_wp2
    go_ret
    exact ⟨ret_int (by rw [HV.out]), rfl⟩

theorem count_at (y : Nat) (h : y < 4) : ∃ v, (#[.int .i64 0, .int .i64 (-1), .int .i64 60, .int .i64 61] : Array Value)[y]? = some (.int .i64 v) := by
  match y, h with
  | 0, _ => exact ⟨_, rfl⟩
  | 1, _ => exact ⟨_, rfl⟩
  | 2, _ => exact ⟨_, rfl⟩
  | 3, _ => exact ⟨_, rfl⟩

set_option maxRecDepth 100000 in
set_option maxHeartbeats 1000000 in
theorem cCount (q : Nat) (ao : Option Addr) (n cap : Nat) (w : World) (hc : Cur w q ao n cap) (hv : CodeV w ao n) (hn : n ≤ 4096) :
    Calls Tryz.prog 56 #[.pointer (some ⟨q, 0, none⟩)] w fun e w' => (∃ x : Int, e = .returned (.int .i64 x)) ∧ Cur w' q ao n cap ∧ w.grownBy w' (some q) := by
  have hq := hc.lt
  go_enter Tryz.func56, Tryz.ntmps56
  go_wp2_with fail
  refine (cOnce q ao n cap 12 _ hc hv hn (by omega) (by omega)).mono ?_
  rintro e w1 ⟨⟨x, rfl⟩, c1, g1⟩
  have v1 := hv.grown hc g1
  have hz1 := g1.size
  cases x with
  | false =>
    go_wp2_with fail
    refine (cBelow q ao n cap 5 _ c1 v1 hn (by omega) (by omega)).mono ?_
    rintro e w2 ⟨⟨y, y0, y1, rfl⟩, c2, g2⟩
    go_wp2_with fail
    go_ret
    exact ⟨⟨_, rfl⟩, c2, grown_trans g1 g2⟩
  | true =>
    have ga := World.grownBy_alloc w1 (.cells #[.int .i64 0, .int .i64 (-1), .int .i64 60, .int .i64 61] 2) (some q)
    have HV2 := hidP (v1.grown c1 ga)
    have HG := hidP (grown_trans g1 ga)
    clear ga
    go_wp2_with fail
    refine (cBelow q ao n cap 4 _ (c1.alloc _) HV2.out hn (by omega) (by omega)).mono ?_
    rintro e w2 ⟨⟨y, y0, y1, rfl⟩, c2, g2⟩
    obtain ⟨yn, rfl⟩ := Int.eq_ofNat_of_zero_le y0
    obtain ⟨v, hv3⟩ := count_at yn (by omega)
    have ht : w2.cell? ⟨w1.heap.size, yn, none⟩ = some (.int .i64 v) := g2.cell (by rw [World.cell?_alloc_at _ _ _ _ rfl]; exact hv3) (by simp; omega)
    have hy2 : (yn : Int) < 4 := by omega
    have HG2 := hidP (grown_trans HG.out g2)
    clear g1 g2
    go_wp2_with fail
    go_ret
    exact ⟨⟨_, rfl⟩, c2, HG2.out⟩

set_option maxRecDepth 100000 in
set_option maxHeartbeats 1000000 in
theorem cQuery (q : Nat) (ao : Option Addr) (n cap : Nat) (am : Option Addr) (cm : Nat) (ms : List Mk) (w : World) (hc : Cur w q ao n cap) (hv : CodeV w ao n) (hn : n ≤ 4096) (hm : MView w am ms) (hat : ∀ i, (mat ms i).length ≤ 5) :
    Calls Tryz.prog 85 #[.pointer (some ⟨q, 0, none⟩), .slice am ms.length cm] w fun e w' => (∃ g c xs, e = .returned (.slice (some ⟨g, 0, none⟩) xs.length c) ∧ xs.length ≤ 6 ∧ Row w.heap.size w' g c xs) ∧ Cur w' q ao n cap ∧ w.grownBy w' (some q) := by
  have hw : widthV ms ≤ 5 := by unfold widthV; split; omega; exact hat 0
  go_enter Tryz.func85, Tryz.ntmps85
  go_wp2_with fail
  refine (sWidth am cm ms _ hm (fun i => by have := hat i; omega)).mono ?_
  rintro e w1 ⟨rfl, rfl⟩
  go_wp2_with fail
  refine (cAny q ao n cap (widthV ms) _ hc hv hn (by omega)).mono ?_
  rintro e w2 ⟨⟨g, c, xs, rfl, hl, hrow⟩, c2, g2⟩
  go_wp2_with fail
  go_ret
  exact ⟨⟨g, c, xs, rfl, by omega, hrow⟩, c2, g2⟩

/-- Marks, a place and a number, ready for a call. -/
def NGot (w : World) (g c : Nat) (ms : List Mk) (g' : Nat) (q : List Int) : Prop := MView w (some ⟨g, 0, none⟩) ms ∧ MSmall ms ∧ ms.length ≤ c ∧ ms.length ≤ 60 ∧ View w (some ⟨g', 0, none⟩) q ∧ q.length ≤ 6

end Go.Proofs.YtodielfilhodeaaGreat
