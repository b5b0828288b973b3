/-
  The box of a cell: the program's (cellKey).box.
-/
import Derived.Test.YtodielfilhodeaaGreatGKeyZz
import Derived.Test.YtodielfilhodeaaGreatGCellIZz
import Derived.Test.YtodielfilhodeaaGreatBSpecZz
namespace Go.Proofs.YtodielfilhodeaaGreat
open Go Go.RowKit

def blowF (ks : List Int) (s : Int) (i : Nat) : Int := if -1000 ≤ nth ks i * s then nth ks i * s else -1000
def bhighF (ks : List Int) (s : Int) (i : Nat) : Int := if nth ks i * s + s - 1 ≤ 1000 then nth ks i * s + s - 1 else 1000
theorem mul_side {x s : Int} (hs : 1 ≤ s) (hs' : s ≤ 1000) (h1 : -1000 ≤ x) (h2 : x ≤ 1000) : -1000000 ≤ x * s ∧ x * s ≤ 1000000 := by
  have a1 : x * s ≤ 1000 * s := Int.mul_le_mul_of_nonneg_right h2 (by omega)
  have a2 : -1000 * s ≤ x * s := Int.mul_le_mul_of_nonneg_right h1 (by omega)
  omega

set_option maxHeartbeats 400000 in
theorem iLowFn (B : Nat) (k : Int) (x s : Int) (w : World) (hc : w.cell? ⟨B, 0, none⟩ = some (.int .i64 s)) (hs : 1 ≤ s) (hs' : s ≤ 1000) (h1 : -1000 ≤ x) (h2 : x ≤ 1000) :
    Calls Tryz.prog 156 #[.int .i64 k, .int .i64 x, .pointer (some ⟨B, 0, none⟩)] w fun e w' => e = .returned (.int .i64 (if -1000 ≤ x * s then x * s else -1000)) ∧ w' = w := by
  have hb := mul_side hs hs' h1 h2
  have hw : IntKind.i64.wrap (x * s) = x * s := IntWalk.i64_in _ ⟨by omega, by omega⟩
  by_cases hle : -1000 ≤ x * s
  · rw [if_pos hle]
    go_enter Tryz.func156, Tryz.ntmps156
    go_wp2_with fail
    go_ret
    exact ⟨rfl, rfl⟩
  · rw [if_neg hle]
    go_enter Tryz.func156, Tryz.ntmps156
    go_wp2_with fail
    go_ret
    exact ⟨rfl, rfl⟩

set_option maxHeartbeats 400000 in
theorem iHighFn (B : Nat) (k : Int) (x s : Int) (w : World) (hc : w.cell? ⟨B, 0, none⟩ = some (.int .i64 s)) (hs : 1 ≤ s) (hs' : s ≤ 1000) (h1 : -1000 ≤ x) (h2 : x ≤ 1000) :
    Calls Tryz.prog 157 #[.int .i64 k, .int .i64 x, .pointer (some ⟨B, 0, none⟩)] w fun e w' => e = .returned (.int .i64 (if x * s + s - 1 ≤ 1000 then x * s + s - 1 else 1000)) ∧ w' = w := by
  have hb := mul_side hs hs' h1 h2
  have hw : IntKind.i64.wrap (x * s) = x * s := IntWalk.i64_in _ ⟨by omega, by omega⟩
  have hw2 : IntKind.i64.wrap (x * s + s) = x * s + s := IntWalk.i64_in _ ⟨by omega, by omega⟩
  have hw3 : IntKind.i64.wrap (x * s + s - 1) = x * s + s - 1 := IntWalk.i64_in _ ⟨by omega, by omega⟩
  by_cases hle : x * s + s - 1 ≤ 1000
  · rw [if_pos hle]
    go_enter Tryz.func157, Tryz.ntmps157
    go_wp2_with fail
    go_ret
    exact ⟨rfl, rfl⟩
  · rw [if_neg hle]
    go_enter Tryz.func157, Tryz.ntmps157
    go_wp2_with fail
    go_ret
    exact ⟨rfl, rfl⟩

set_option maxHeartbeats 400000 in
theorem pEachLow (B : Nat) (s : Int) (b' off' cap' : Nat) (ys : List Int) (w : World) (hs' : Seg w b' off' ys) (hb' : b' < w.heap.size) (hn : ys.length ≤ 4)
    (hB : B < w.heap.size) (hc : w.cell? ⟨B, 0, none⟩ = some (.int .i64 s)) (hs1 : 1 ≤ s) (hs2 : s ≤ 1000) (hbd : ∀ k, -1000 ≤ nth ys k ∧ nth ys k ≤ 1000) :
    Calls Tryz.prog 121 #[.slice (some ⟨b', off', none⟩) ys.length cap', .func (Fn.func 156) #[] #[.pointer (some ⟨B, 0, none⟩)]] w fun e w' =>
      e = .returned (.slice (some ⟨w.heap.size, 0, none⟩) ys.length ys.length) ∧ Own w' w.heap.size (tabL (blowF ys s) ys.length) ∧ Below w.heap.size w w' := by
  have hmk := run_make_row' (P := Tryz.prog) 80 2 (.int .i64 0) 8 Tryz.underlying80 Tryz.info2 rfl .i64 .i64 ys.length (by omega) (by omega)
  have HH := hideP (fun (W : World) (k : Nat) (h : W.cell? ⟨B, 0, none⟩ = some (.int .i64 s)) => iLowFn B (k : Int) (nth ys k) s W h hs1 hs2 (hbd k).1 (hbd k).2)
  have HE : Hid (∀ k, blowF ys s k = if -1000 ≤ nth ys k * s then nth ys k * s else -1000) := fun k => rfl
  have HC : Hid (∀ (o : Obj) m, ((w.alloc o).drewN m).cell? ⟨B, 0, none⟩ = some (.int .i64 s)) := fun o m => by
    have L : Below w.heap.size w ((w.alloc o).drewN m) := below_drewN ((Below.refl _ _).alloc (Nat.le_refl _) _) m
    exact (L.cell (p := ⟨B, 0, none⟩) hB).trans hc
  clear hbd hc
  go_enter Tryz.func121, Tryz.ntmps121
  go_wp2
  clear hmk
  go_loopw [13] (fun i wr => ∃ k : Nat, k ≤ ys.length ∧ i = .int .i64 k ∧ ∃ m, wr = (w.alloc (.cells (filled (blowF ys s) ys.length k) 2)).drewN m) (fun i _ => ys.length - (intOf i).toNat)
  case atStart => exact ⟨0, Nat.zero_le _, rfl, 0, by rw [filled_zero]; rfl⟩
  case round =>
    obtain ⟨k, hk, rfl, m, rfl⟩ := hrel
    by_cases hlt : k < ys.length
    · have hc := hs' k hlt
      have hnext := filled_next (blowF ys s) ys.length k hlt
      have HC1 := hideP (HH.out _ k (HC.out (.cells (filled (blowF ys s) ys.length k) 2) m))
      have HEk := hideP (HE.out k)
      go_wp2_with fail
      refine HC1.out.mono ?_
      rintro e w1 ⟨rfl, rfl⟩
      rw [← HEk.out]
      go_wp2
      go_roundw
      case rel => exact ⟨k + 1, by omega, by go_num, m, by rw [← filled_set (blowF ys s) ys.length k hlt, set_new]⟩
      case measure => simp [intOf]; omega
    · go_wp2
      go_ret
      obtain rfl : k = ys.length := by omega
      refine ⟨rfl, ?_, ?_⟩
      · rw [filled_all]; exact (Own.new w _).drewN m
      · exact below_drewN ((Below.refl _ _).alloc (Nat.le_refl _) _) m

set_option maxHeartbeats 400000 in
theorem pEachHigh (B : Nat) (s : Int) (b' off' cap' : Nat) (ys : List Int) (w : World) (hs' : Seg w b' off' ys) (hb' : b' < w.heap.size) (hn : ys.length ≤ 4)
    (hB : B < w.heap.size) (hc : w.cell? ⟨B, 0, none⟩ = some (.int .i64 s)) (hs1 : 1 ≤ s) (hs2 : s ≤ 1000) (hbd : ∀ k, -1000 ≤ nth ys k ∧ nth ys k ≤ 1000) :
    Calls Tryz.prog 121 #[.slice (some ⟨b', off', none⟩) ys.length cap', .func (Fn.func 157) #[] #[.pointer (some ⟨B, 0, none⟩)]] w fun e w' =>
      e = .returned (.slice (some ⟨w.heap.size, 0, none⟩) ys.length ys.length) ∧ Own w' w.heap.size (tabL (bhighF ys s) ys.length) ∧ Below w.heap.size w w' := by
  have hmk := run_make_row' (P := Tryz.prog) 80 2 (.int .i64 0) 8 Tryz.underlying80 Tryz.info2 rfl .i64 .i64 ys.length (by omega) (by omega)
  have HH := hideP (fun (W : World) (k : Nat) (h : W.cell? ⟨B, 0, none⟩ = some (.int .i64 s)) => iHighFn B (k : Int) (nth ys k) s W h hs1 hs2 (hbd k).1 (hbd k).2)
  have HE : Hid (∀ k, bhighF ys s k = if nth ys k * s + s - 1 ≤ 1000 then nth ys k * s + s - 1 else 1000) := fun k => rfl
  have HC : Hid (∀ (o : Obj) m, ((w.alloc o).drewN m).cell? ⟨B, 0, none⟩ = some (.int .i64 s)) := fun o m => by
    have L : Below w.heap.size w ((w.alloc o).drewN m) := below_drewN ((Below.refl _ _).alloc (Nat.le_refl _) _) m
    exact (L.cell (p := ⟨B, 0, none⟩) hB).trans hc
  clear hbd hc
  go_enter Tryz.func121, Tryz.ntmps121
  go_wp2
  clear hmk
  go_loopw [13] (fun i wr => ∃ k : Nat, k ≤ ys.length ∧ i = .int .i64 k ∧ ∃ m, wr = (w.alloc (.cells (filled (bhighF ys s) ys.length k) 2)).drewN m) (fun i _ => ys.length - (intOf i).toNat)
  case atStart => exact ⟨0, Nat.zero_le _, rfl, 0, by rw [filled_zero]; rfl⟩
  case round =>
    obtain ⟨k, hk, rfl, m, rfl⟩ := hrel
    by_cases hlt : k < ys.length
    · have hc := hs' k hlt
      have hnext := filled_next (bhighF ys s) ys.length k hlt
      have HC1 := hideP (HH.out _ k (HC.out (.cells (filled (bhighF ys s) ys.length k) 2) m))
      have HEk := hideP (HE.out k)
      go_wp2_with fail
      refine HC1.out.mono ?_
      rintro e w1 ⟨rfl, rfl⟩
      rw [← HEk.out]
      go_wp2
      go_roundw
      case rel => exact ⟨k + 1, by omega, by go_num, m, by rw [← filled_set (bhighF ys s) ys.length k hlt, set_new]⟩
      case measure => simp [intOf]; omega
    · go_wp2
      go_ret
      obtain rfl : k = ys.length := by omega
      refine ⟨rfl, ?_, ?_⟩
      · rw [filled_all]; exact (Own.new w _).drewN m
      · exact below_drewN ((Below.refl _ _).alloc (Nat.le_refl _) _) m


def boxLow (ks : List Int) (s : Int) : List Int := tabL (blowF ks s) ks.length
def boxHigh (ks : List Int) (s : Int) : List Int := tabL (bhighF ks s) ks.length

set_option maxRecDepth 100000 in
set_option maxHeartbeats 1000000 in
theorem iBox (ks : List Int) (s : Int) (w : World) (hl : ks.length ≤ 4) (hs1 : 1 ≤ s) (hs2 : s ≤ 1000) (hbd : ∀ k, -1000 ≤ nth ks k ∧ nth ks k ≤ 1000) :
    Calls Tryz.prog 130 #[keyV ks, .int .i64 ks.length, .int .i64 s] w fun e w' => ∃ g1 g2, e = .returned (.agg #[.slice (some ⟨g1, 0, none⟩) ks.length ks.length, .slice (some ⟨g2, 0, none⟩) ks.length ks.length]) ∧ w.heap.size ≤ g1 ∧ w.heap.size ≤ g2 ∧ Own w' g1 (boxLow ks s) ∧ Own w' g2 (boxHigh ks s) ∧ Below w.heap.size w w' := by
  obtain ⟨W, hW⟩ : ∃ W, W = ((w.alloc (.cells #[.int .i64 (nth ks 0), .int .i64 (nth ks 1), .int .i64 (nth ks 2), .int .i64 (nth ks 3)] 106)).alloc (.cells #[.int .i64 s] 2)).alloc (.cells #[.slice none 0 0, .slice none 0 0] 155) := ⟨_, rfl⟩
  have L0 : Below w.heap.size w W := by rw [hW]; exact (((Below.refl _ _).alloc (Nat.le_refl _) _).alloc (by simp) _).alloc (by simp; omega) _
  have hz : W.heap.size = w.heap.size + 3 := by rw [hW]; simp
  have F : Four W w.heap.size (.int .i64 (nth ks 0)) (.int .i64 (nth ks 1)) (.int .i64 (nth ks 2)) (.int .i64 (nth ks 3)) 106 := by
    rw [hW]
    unfold Four
    rw [Below.heap_alloc _ _ _ (by simp; omega), Below.heap_alloc _ _ _ (by simp)]
    exact heap_alloc_new w _
  have hseg : Seg W w.heap.size 0 ks := fun i hi => by
    obtain ⟨f0, f1, f2, f3⟩ := F.cells
    have h4 : i = 0 ∨ i = 1 ∨ i = 2 ∨ i = 3 := by omega
    rcases h4 with rfl | rfl | rfl | rfl
    · simpa using f0
    · simpa using f1
    · simpa using f2
    · simpa using f3
  have hc : W.cell? ⟨w.heap.size + 1, 0, none⟩ = some (.int .i64 s) := by rw [hW]; go_simp
  have T : Two W (w.heap.size + 2) (.slice none 0 0) (.slice none 0 0) 155 := by
    rw [hW]
    have h := Two.new ((w.alloc (.cells #[.int .i64 (nth ks 0), .int .i64 (nth ks 1), .int .i64 (nth ks 2), .int .i64 (nth ks 3)] 106)).alloc (.cells #[.int .i64 s] 2)) (.slice none 0 0) (.slice none 0 0) 155
    simpa using h
  have H1 := hideP (pEachLow (w.heap.size + 1) s w.heap.size 0 4 ks W hseg (by omega) hl (by omega) hc hs1 hs2 hbd)
  have H2 : Hid (∀ w2, Below W.heap.size W w2 → Calls Tryz.prog 121 #[.slice (some ⟨w.heap.size, 0, none⟩) ks.length 4, .func (Fn.func 157) #[] #[.pointer (some ⟨w.heap.size + 1, 0, none⟩)]] w2 fun e w' =>
      e = .returned (.slice (some ⟨w2.heap.size, 0, none⟩) ks.length ks.length) ∧ Own w' w2.heap.size (boxHigh ks s) ∧ Below w2.heap.size w2 w') := fun w2 L2 => by
    refine pEachHigh (w.heap.size + 1) s w.heap.size 0 4 ks w2 (fun i hi => (L2.cell (p := ⟨w.heap.size, 0 + i, none⟩) (by show w.heap.size < _; omega)).trans (hseg i hi)) (by have := L2.size; omega) hl (by have := L2.size; omega) ((L2.cell (p := ⟨w.heap.size + 1, 0, none⟩) (by show w.heap.size + 1 < _; omega)).trans hc) hs1 hs2 hbd
  have HP := hideP (And.intro L0 (And.intro T hz))
  have hl4 : (ks.length : Int) ≤ 4 := by omega
  have hl0 : (0 : Int) ≤ (ks.length : Int) := Int.natCast_nonneg _
  clear L0 T F hseg hc hbd hz
  unfold keyV
  go_enter Tryz.func130, Tryz.ntmps130
  go_wp2_with fail
  rw [← hW]
  clear hW
  refine H1.out.mono ?_
  rintro e w1 ⟨rfl, o1, L1⟩
  have HA := hideP (And.intro o1 L1)
  have HB := hideP (H2.out w1 L1)
  clear o1 L1
  go_wp2_with fail
  refine HB.out.mono ?_
  rintro e w2 ⟨rfl, o2, L2⟩
  have hz := HP.out.2.2
  have hz1 := HA.out.2.size
  have L12 := chain HA.out.2 L2
  have t : Two w2 (w.heap.size + 1 + 1) (.slice none 0 0) (.slice none 0 0) 155 := HP.out.2.1.below L12
  have f0 := t.frozen 0
  have f1 := t.frozen 1
  have e0 := t.c0
  have e1 := t.c1
  have t4 := (t.set0 (.slice (some ⟨W.heap.size, 0, none⟩) ks.length ks.length)).set1 (.slice (some ⟨w1.heap.size, 0, none⟩) ks.length ks.length)
  have k0 := t4.c0
  have k1 := t4.c1
  have o1 := HA.out.1.below HA.out.1.lt L2
  have q1 := (o1.setOther (b := W.heap.size) (a := ⟨w.heap.size + 1 + 1, 0, none⟩) (by simp; omega) (.slice (some ⟨W.heap.size, 0, none⟩) ks.length ks.length)).setOther (a := ⟨w.heap.size + 1 + 1, 1, none⟩) (by simp; omega) (.slice (some ⟨w1.heap.size, 0, none⟩) ks.length ks.length)
  have q2 := (o2.setOther (b := w1.heap.size) (a := ⟨w.heap.size + 1 + 1, 0, none⟩) (by simp; omega) (.slice (some ⟨W.heap.size, 0, none⟩) ks.length ks.length)).setOther (a := ⟨w.heap.size + 1 + 1, 1, none⟩) (by simp; omega) (.slice (some ⟨w1.heap.size, 0, none⟩) ks.length ks.length)
  have L3 : Below w.heap.size w w2 := chain HP.out.1 L12
  have L6 := (L3.setCell (p := ⟨w.heap.size + 1 + 1, 0, none⟩) (by show w.heap.size ≤ w.heap.size + 1 + 1; omega) (.slice (some ⟨W.heap.size, 0, none⟩) ks.length ks.length)).setCell (p := ⟨w.heap.size + 1 + 1, 1, none⟩) (by show w.heap.size ≤ w.heap.size + 1 + 1; omega) (.slice (some ⟨w1.heap.size, 0, none⟩) ks.length ks.length)
  have HE := hideP (And.intro q1 (And.intro q2 L6))
  have HZ := hideP (And.intro hz hz1)
  clear t t4 o1 o2 q1 q2 L2 L3 L6 L12 HA HB H1 H2 hz hz1
  go_wp2_with fail
  refine bodyPost_ret (v := .agg #[.slice (some ⟨W.heap.size, 0, none⟩) ks.length ks.length, .slice (some ⟨w1.heap.size, 0, none⟩) ks.length ks.length]) (by simp [results, Tryz.results130, go_sem, k0, k1]) rfl ?_
  obtain ⟨hz, hz1⟩ := HZ.out
  exact ⟨W.heap.size, w1.heap.size, rfl, by omega, by omega, HE.out.1, HE.out.2.1, HE.out.2.2⟩

end Go.Proofs.YtodielfilhodeaaGreat
