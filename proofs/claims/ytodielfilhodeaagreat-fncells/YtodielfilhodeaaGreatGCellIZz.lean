/-
  The program's Cell: new numbers, one for each of the point's, by a closure over the side.
-/
import Derived.Test.YtodielfilhodeaaGreatGCellZz
import Derived.Test.YtodielfilhodeaaGreatArgsZz
namespace Go.Proofs.YtodielfilhodeaaGreat
open Go Go.RowKit

set_option maxHeartbeats 400000 in
theorem iCellFn (B : Nat) (k : Int) (x s : Int) (w : World) (hc : w.cell? ⟨B, 0, none⟩ = some (.int .i64 s)) (hs : 1 ≤ s) (hs' : s ≤ 1000) (h1 : -1000 ≤ x) (h2 : x ≤ 1000) :
    Calls Tryz.prog 122 #[.int .i64 k, .int .i64 x, .pointer (some ⟨B, 0, none⟩)] w fun e w' => e = .returned (.int .i64 (x / s)) ∧ w' = w := by
  have HD := hideP (iDownG x s w hs hs' h1 h2)
  go_enter Tryz.func122, Tryz.ntmps122
  go_wp2_with fail
  refine HD.out.mono ?_
  rintro e w1 ⟨rfl, rfl⟩
  go_wp2_with fail
  go_ret
  exact ⟨rfl, rfl⟩

set_option maxHeartbeats 400000 in
theorem pEachCell (B : Nat) (s : Int) (b' off' cap' : Nat) (ys : List Int) (w : World) (hs' : Seg w b' off' ys) (hb' : b' < w.heap.size) (hn : ys.length ≤ 4)
    (hB : B < w.heap.size) (hc : w.cell? ⟨B, 0, none⟩ = some (.int .i64 s)) (hs1 : 1 ≤ s) (hs2 : s ≤ 1000) (hbd : ∀ k, -1000 ≤ nth ys k ∧ nth ys k ≤ 1000) :
    Calls Tryz.prog 121 #[.slice (some ⟨b', off', none⟩) ys.length cap', .func (Fn.func 122) #[] #[.pointer (some ⟨B, 0, none⟩)]] w fun e w' =>
      e = .returned (.slice (some ⟨w.heap.size, 0, none⟩) ys.length ys.length) ∧ Own w' w.heap.size (tabL (cellF ys s) ys.length) ∧ Below w.heap.size w w' := by
  have hmk := run_make_row' (P := Tryz.prog) 80 2 (.int .i64 0) 8 Tryz.underlying80 Tryz.info2 rfl .i64 .i64 ys.length (by omega) (by omega)
  have HH := hideP (fun (W : World) (k : Nat) (h : W.cell? ⟨B, 0, none⟩ = some (.int .i64 s)) => iCellFn B (k : Int) (nth ys k) s W h hs1 hs2 (hbd k).1 (hbd k).2)
  have HE : Hid (∀ k, cellF ys s k = nth ys k / s) := fun k => rfl
  have HC : Hid (∀ (o : Obj) m, ((w.alloc o).drewN m).cell? ⟨B, 0, none⟩ = some (.int .i64 s)) := fun o m => by
    have L : Below w.heap.size w ((w.alloc o).drewN m) := below_drewN ((Below.refl _ _).alloc (Nat.le_refl _) _) m
    exact (L.cell (p := ⟨B, 0, none⟩) hB).trans hc
  clear hbd hc
  go_enter Tryz.func121, Tryz.ntmps121
  go_wp2
  clear hmk
  go_loopw [13] (fun i wr => ∃ k : Nat, k ≤ ys.length ∧ i = .int .i64 k ∧ ∃ m, wr = (w.alloc (.cells (filled (cellF ys s) ys.length k) 2)).drewN m) (fun i _ => ys.length - (intOf i).toNat)
  case atStart => exact ⟨0, Nat.zero_le _, rfl, 0, by rw [filled_zero]; rfl⟩
  case round =>
    obtain ⟨k, hk, rfl, m, rfl⟩ := hrel
    by_cases hlt : k < ys.length
    · have hc := hs' k hlt
      have hnext := filled_next (cellF ys s) ys.length k hlt
      have HC1 := hideP (HH.out _ k (HC.out (.cells (filled (cellF ys s) ys.length k) 2) m))
      have HEk := hideP (HE.out k)
      go_wp2_with fail
      refine HC1.out.mono ?_
      rintro e w1 ⟨rfl, rfl⟩
      rw [← HEk.out]
      go_wp2
      go_roundw
      case rel => exact ⟨k + 1, by omega, by go_num, m, by rw [← filled_set (cellF ys s) ys.length k hlt, set_new]⟩
      case measure => simp [intOf]; omega
    · go_wp2
      go_ret
      obtain rfl : k = ys.length := by omega
      refine ⟨rfl, ?_, ?_⟩
      · rw [filled_all]; exact (Own.new w _).drewN m
      · exact below_drewN ((Below.refl _ _).alloc (Nat.le_refl _) _) m

set_option maxHeartbeats 400000 in
theorem iCellOf (ao : Option Addr) (cap : Nat) (p : List Int) (s : Int) (w : World) (hv : View w ao p) (hok : okB p = true) (hs1 : 1 ≤ s) (hs2 : s ≤ 1000) :
    Calls Tryz.prog 80 #[.slice ao p.length cap, .int .i64 s] w fun e w' => ∃ g, e = .returned (.slice (some ⟨g, 0, none⟩) p.length p.length) ∧ w.heap.size ≤ g ∧ Own w' g (cellV p s) ∧ Below w.heap.size w w' := by
  have h4 := okB_len hok
  obtain ⟨b, off, rfl, hbs, hseg⟩ : ∃ b off, ao = some ⟨b, off, none⟩ ∧ b < w.heap.size ∧ Seg w b off p := by
    rcases hv with rfl | h
    · simp at h4
    · exact h
  have LA : Below w.heap.size w (w.alloc (.cells #[.int .i64 s] 2)) := (Below.refl _ _).alloc (Nat.le_refl _) _
  have HC := hideP (pEachCell w.heap.size s b off cap p (w.alloc (.cells #[.int .i64 s] 2)) (hseg.alloc hbs _) (by simp; omega) h4.2 (by simp) (by simp [go_sem]) hs1 hs2 (okB_at hok))
  have HLA := hideP LA
  clear LA
  go_enter Tryz.func80, Tryz.ntmps80
  go_wp2_with fail
  refine HC.out.mono ?_
  rintro e w1 ⟨rfl, o1, L1⟩
  have HL := hideP (And.intro o1 (chain HLA.out L1))
  have hsz : w.heap.size ≤ (w.alloc (.cells #[.int .i64 s] 2)).heap.size := HLA.out.size
  clear o1 L1
  go_wp2_with fail
  go_ret
  exact ⟨_, rfl, Nat.le_succ _, by have h := HL.out.1; simpa [cellV] using h, HL.out.2⟩

set_option maxHeartbeats 400000 in
theorem iCell (ao : Option Addr) (cap : Nat) (p : List Int) (s : Int) (w : World) (hv : View w ao p) (hn : p.length ≤ 1048576) :
    Calls Tryz.prog 35 #[.slice ao p.length cap, .int .i64 s] w fun e w' => ∃ a1, e = .returned (.slice a1 (cellL p s).length (cellL p s).length) ∧ OwnV w.heap.size w' a1 (cellL p s) ∧ Below w.heap.size w w' := by
  have HOK := hideP (iOk ao cap p w hv hn)
  rcases hok : okB p with _ | _
  · have HV : Hid (cellL p s = []) := by show cellL p s = []; simp [cellL, hok]
    rw [hok] at HOK
    rw [HV.out]
    go_enter Tryz.func35, Tryz.ntmps35
    go_wp2_with fail
    refine HOK.out.mono ?_
    rintro e w1 ⟨rfl, rfl⟩
    go_wp2_with fail
    go_ret
    exact ⟨none, rfl, Or.inl rfl, Below.refl _ _⟩
  · rw [hok] at HOK
    have HIN := hideP (iSideOk s w)
    rcases hsd : gsideB s with _ | _
    · have HV : Hid (cellL p s = []) := by show cellL p s = []; simp [cellL, hsd]
      rw [hsd] at HIN
      rw [HV.out]
      go_enter Tryz.func35, Tryz.ntmps35
      go_wp2_with fail
      refine HOK.out.mono ?_
      rintro e w1 ⟨rfl, rfl⟩
      go_wp2_with fail
      refine HIN.out.mono ?_
      rintro e w2 ⟨rfl, rfl⟩
      go_wp2_with fail
      go_ret
      exact ⟨none, rfl, Or.inl rfl, Below.refl _ _⟩
    · rw [hsd] at HIN
      obtain ⟨hs1, hs2⟩ := (gsideB_iff s).1 hsd
      have HV : Hid (cellL p s = cellV p s) := by show cellL p s = _; simp [cellL, hok, hsd]
      have HVL := hideP (cellV_length p s)
      rw [HV.out, HVL.out]
      have HC := hideP (iCellOf ao cap p s w hv hok hs1 hs2)
      go_enter Tryz.func35, Tryz.ntmps35
      go_wp2_with fail
      refine HOK.out.mono ?_
      rintro e w1 ⟨rfl, rfl⟩
      go_wp2_with fail
      refine HIN.out.mono ?_
      rintro e w2 ⟨rfl, rfl⟩
      go_wp2_with fail
      refine HC.out.mono ?_
      rintro e w3 ⟨g, rfl, hg, o3, L3⟩
      go_wp2_with fail
      go_ret
      exact ⟨_, rfl, Or.inr ⟨g, rfl, hg, o3⟩, L3⟩

end Go.Proofs.YtodielfilhodeaaGreat
