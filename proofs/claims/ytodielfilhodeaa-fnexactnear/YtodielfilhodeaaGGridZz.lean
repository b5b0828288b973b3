/-
  Grids: both ways of asking whether one is right, and the laws' own helpers toGrid, szGrid, eqGrid, markGrid.
-/
import Derived.Test.YtodielfilhodeaaGOfZz
import Derived.Test.YtodielfilhodeaaMMarkZz
import Derived.Test.YtodielfilhodeaaMSizeZz
import Derived.Test.YtodielfilhodeaaMCopyZz
namespace Go.Proofs.Ytodielfilhodeaa
open Go Go.RowKit

def gridB (s : Int) (ms : List Mk) : Bool := gsideB s && marksB ms

set_option maxHeartbeats 1000000 in
theorem sGrid (ao : Option Addr) (cap : Nat) (s : Int) (ms : List Mk) (w : World) (hv : MView w ao ms) (hsm : MSmall ms) :
    Calls Try.prog 103 #[.agg #[.int .i64 s, .slice ao ms.length cap]] w fun e w' => e = .returned (.bool (gridB s ms)) ∧ Below w.heap.size w w' := by
  obtain ⟨W, hW⟩ : ∃ W, W = w.alloc (.cells #[.int .i64 s, .slice ao ms.length cap] 72) := ⟨_, rfl⟩
  have LA : Below w.heap.size w W := by rw [hW]; exact alloc_below w _
  have HIN := hidP (sIn s 1 1000 W)
  have es : inR s 1 1000 = gsideB s := rfl
  rw [es] at HIN
  have HM := hidP (sMarks ao cap ms W (hv.next LA) hsm)
  have HLA := hidP LA
  clear LA hv
  rcases hsd : gsideB s with _ | _
  · have HV : Hid (gridB s ms = false) := by show gridB s ms = false; simp [gridB, hsd]
    rw [hsd] at HIN
    subst hW
    go_enter Try.func103, Try.ntmps103
    go_wp2_with fail
    refine HIN.out.mono ?_
    rintro e w2 ⟨rfl, rfl⟩
    go_wp2_with fail
    go_ret
    exact ⟨ret_bool HV.out.symm, HLA.out⟩
  · have HV : Hid (gridB s ms = marksB ms) := by show gridB s ms = marksB ms; simp [gridB, hsd]
    rw [hsd] at HIN
    subst hW
    go_enter Try.func103, Try.ntmps103
    go_wp2_with fail
    refine HIN.out.mono ?_
    rintro e w2 ⟨rfl, rfl⟩
    go_wp2_with fail
    refine HM.out.mono ?_
    rintro e w3 ⟨rfl, n3, rfl⟩
    go_wp2_with fail
    go_ret
    exact ⟨ret_bool HV.out.symm, below_drewN HLA.out n3⟩

set_option maxHeartbeats 1000000 in
theorem szG (ao : Option Addr) (cap : Nat) (s : Int) (ms : List Mk) (w : World) (hv : MView w ao ms) (hn : ms.length ≤ maxLen) (hat : ∀ i, (mat ms i).length ≤ maxLen) :
    Calls Try.prog 45 #[.agg #[.int .i64 s, .slice ao ms.length cap], .int .i64 1048576] w fun e w' => ∃ r, e = .returned (.int .i64 r) ∧ (r < 0 ∨ MSmall ms) ∧ Below w.heap.size w w' := by
  obtain ⟨W, hW⟩ : ∃ W, W = w.alloc (.cells #[.int .i64 s, .slice ao ms.length cap] 67) := ⟨_, rfl⟩
  have LA : Below w.heap.size w W := by rw [hW]; exact alloc_below w _
  have HM := hidP (szMS ao cap ms W (hv.next LA) hn hat)
  have HLA := hidP LA
  clear LA hv hn hat
  subst hW
  go_enter Try.func45, Try.ntmps45
  go_wp2_with fail
  refine HM.out.mono ?_
  rintro e w2 ⟨r, rfl, hr, L2⟩
  have HL2 := hidP (And.intro hr (chain HLA.out L2))
  clear L2 hr
  by_cases hneg : r < 0
  · go_wp2_with fail
    go_ret
    exact ⟨-1, rfl, Or.inl (by omega), HL2.out.2⟩
  · go_wp2_with fail
    go_ret
    exact ⟨r, rfl, HL2.out.1, HL2.out.2⟩

set_option maxHeartbeats 1000000 in
theorem eqGd (ao ao' : Option Addr) (cap cap' : Nat) (s : Int) (ms : List Mk) (w : World) (hv : MView w ao ms) (hv' : MView w ao' ms) (hsm : MSmall ms) :
    Calls Try.prog 50 #[.agg #[.int .i64 s, .slice ao ms.length cap], .agg #[.int .i64 s, .slice ao' ms.length cap']] w fun e w' => e = .returned (.bool true) ∧ Below w.heap.size w w' := by
  obtain ⟨W1, hW1⟩ : ∃ W, W = w.alloc (.cells #[.int .i64 s, .slice ao ms.length cap] 72) := ⟨_, rfl⟩
  obtain ⟨W, hW⟩ : ∃ W, W = W1.alloc (.cells #[.int .i64 s, .slice ao' ms.length cap'] 72) := ⟨_, rfl⟩
  have L1 : Below w.heap.size w W1 := by rw [hW1]; exact alloc_below w _
  have LA : Below w.heap.size w W := by rw [hW]; exact L1.alloc L1.size _
  have T1 : Two W1 w.heap.size (.int .i64 s) (.slice ao ms.length cap) 72 := by rw [hW1]; exact Two.new w _ _ _
  have T2 : Two W w.heap.size (.int .i64 s) (.slice ao ms.length cap) 72 := by rw [hW]; exact T1.below (alloc_below _ _)
  have HM := hidP (eqMS ao ao' cap cap' ms ms W (hv.next LA) (hv'.next LA) hsm)
  have hse : decide (ms = ms) = true := by simp
  rw [hse] at HM
  have c0 := T2.c0
  have c1 := T2.c1
  have hss : (s != s) = false := by simp
  have HLA := hidP LA
  clear LA hv hv' L1 T1 T2 hse
  subst hW
  subst hW1
  go_enter Try.func50, Try.ntmps50
  go_wp2_with fail
  refine HM.out.mono ?_
  rintro e w2 ⟨rfl, L2⟩
  have HL2 := hidP (chain HLA.out L2)
  clear L2
  go_wp2_with fail
  go_ret
  exact ⟨rfl, HL2.out⟩

set_option maxHeartbeats 1000000 in
theorem markGd (b hi cap : Nat) (k0 s : Int) (ms : List Mk) (w : World) (hm : MOver w b hi ms) (hhi : hi ≤ w.heap.size) (hsm : MSmall ms) (h0 : 1 ≤ k0) (h1 : k0 ≤ 10000000) :
    Calls Try.prog 51 #[.agg #[.int .i64 s, .slice (some ⟨b, 0, none⟩) ms.length cap], .int .i64 k0] w fun e w' => (∃ k1 : Int, 1 ≤ k1 ∧ k1 ≤ 2305843009213693952 ∧ e = .returned (.int .i64 k1)) ∧ GIn b hi w w' := by
  obtain ⟨W, hW⟩ : ∃ W, W = w.alloc (.cells #[.int .i64 s, .slice (some ⟨b, 0, none⟩) ms.length cap] 72) := ⟨_, rfl⟩
  have LA : Below w.heap.size w W := by rw [hW]; exact alloc_below w _
  have HM := hidP (markMS b hi cap k0 ms W (hm.below hhi LA) hsm h0 h1)
  have HLA := hidP LA
  clear LA hm
  subst hW
  go_enter Try.func51, Try.ntmps51
  go_wp2_with fail
  refine HM.out.mono ?_
  rintro e w2 ⟨⟨k1, hk1, hk2, rfl⟩, hg⟩
  have HG := hidP hg
  clear hg
  go_wp2_with fail
  go_ret
  obtain ⟨a1, a2, a3, a4, a5⟩ := HG.out
  refine ⟨⟨k1, hk1, hk2, rfl⟩, a1.trans HLA.out.os, a2.trans HLA.out.tape, a3.trans HLA.out.output, Nat.le_trans HLA.out.size a4, fun i hi' hc => (a5 i (Nat.lt_of_lt_of_le hi' HLA.out.size) hc).trans (HLA.out.block i hi')⟩

theorem MPart.setLow {w : World} {b k n q i : Nat} {ms : List Mk} (h : MPart w b k n ms) (hq : q < b) (v : Value) : MPart (w.setCell ⟨q, i, none⟩ v) b k n ms := by
  have hblk : ∀ j, b ≤ j → (w.setCell ⟨q, i, none⟩ v).heap[j]? = w.heap[j]? := fun j hj => Below.heap_setCell _ _ _ _ (by simp only; omega)
  have hc : ∀ j o, b ≤ j → (w.setCell ⟨q, i, none⟩ v).cell? ⟨j, o, none⟩ = w.cell? ⟨j, o, none⟩ := fun j o hj => by simp only [World.cell?, hblk j hj]
  have hf : ∀ j o, b ≤ j → (w.setCell ⟨q, i, none⟩ v).frozen? ⟨j, o, none⟩ = w.frozen? ⟨j, o, none⟩ := fun j o hj => by simp only [World.frozen?, hblk j hj]
  obtain ⟨h1, h2, h3, h4⟩ := h
  refine ⟨by simpa [World.setCell] using h1, fun i' hi => ?_, fun j a b' => ?_, fun j => (hf b j (Nat.le_refl _)).trans (h4 j)⟩
  · obtain ⟨c0, g, hg, c1, ho⟩ := h2 i' hi
    exact ⟨(hc _ _ (Nat.le_refl _)).trans c0, g, hg, (hc _ _ (Nat.le_refl _)).trans c1, (hblk g (by omega)).trans ho⟩
  · obtain ⟨v', hv, hfz⟩ := h3 j a b'
    exact ⟨v', (hc _ _ (Nat.le_refl _)).trans hv, (hf _ _ (Nat.le_refl _)).trans hfz⟩

set_option maxRecDepth 100000 in
set_option maxHeartbeats 1000000 in
theorem toG (ao : Option Addr) (cap : Nat) (s : Int) (ms : List Mk) (w : World) (hv : MView w ao ms) (hsm : MSmall ms) :
    Calls Try.prog 47 #[.agg #[.int .i64 s, .slice ao ms.length cap]] w fun e w' => ∃ b, e = .returned (.agg #[.int .i64 s, .slice (some ⟨b, 0, none⟩) ms.length ms.length]) ∧ MPart w' b ms.length ms.length ms ∧ w.heap.size ≤ b ∧ Below w.heap.size w w' := by
  obtain ⟨W1, hW1⟩ : ∃ W, W = w.alloc (.cells #[.int .i64 s, .slice ao ms.length cap] 67) := ⟨_, rfl⟩
  obtain ⟨W2, hW2⟩ : ∃ W, W = W1.alloc (.cells #[.int .i64 0, .slice none 0 0] 72) := ⟨_, rfl⟩
  obtain ⟨W3, hW3⟩ : ∃ W, W = W2.alloc (.cells #[.int .i64 s, .slice none 0 0] 72) := ⟨_, rfl⟩
  have hz1 : W1.heap.size = w.heap.size + 1 := by rw [hW1]; simp
  have hz2 : W2.heap.size = w.heap.size + 1 + 1 := by rw [hW2]; simp [hz1]
  have hz3 : W3.heap.size = w.heap.size + 1 + 1 + 1 := by rw [hW3]; simp [hz2]
  have B2 : Two W2 (w.heap.size + 1) (.int .i64 0) (.slice none 0 0) 72 := by rw [hW2, ← hz1]; exact Two.new W1 _ _ _
  have C3 : Two W3 (w.heap.size + 1 + 1) (.int .i64 s) (.slice none 0 0) 72 := by rw [hW3, ← hz2]; exact Two.new W2 _ _ _
  have M1 : Below w.heap.size w W1 := by rw [hW1]; exact alloc_below w _
  have M2 : Below W1.heap.size W1 W2 := by rw [hW2]; exact alloc_below W1 _
  have M3 : Below W2.heap.size W2 W3 := by rw [hW3]; exact alloc_below W2 _
  have B3 := B2.below M3
  have L3 := chain (chain M1 M2) M3
  have HT := hidP (toMS ao cap ms W3 (hv.next L3) hsm)
  have HS := hidP (And.intro B3 (And.intro C3 (And.intro L3 hz3)))
  clear B2 C3 M1 M2 M3 B3 L3 hv hz1 hz2 hz3
  subst hW3
  subst hW2
  subst hW1
  go_enter Try.func47, Try.ntmps47
  go_wp2_with fail
  refine HT.out.mono ?_
  rintro e w4 ⟨b, rfl, p4, hb, L4⟩
  obtain ⟨B3, C3, L3, hz3⟩ := HS.out
  have B4 := B3.below L4
  have C4 := C3.below L4
  have L34 := chain L3 L4
  have f1 := C4.frozen 1
  have c0 := C4.c0
  have c1 := C4.c1
  have C5 := C4.set1 (.slice (some ⟨b, 0, none⟩) ms.length ms.length)
  have B5 : Two (w4.setCell ⟨w.heap.size + 1 + 1, 1, none⟩ (.slice (some ⟨b, 0, none⟩) ms.length ms.length)) (w.heap.size + 1) (.int .i64 0) (.slice none 0 0) 72 := B4.far (by omega) _
  have d0 := C5.c0
  have d1 := C5.c1
  have g0 := B5.frozen 0
  have g1 := B5.frozen 1
  have e0 := B5.c0
  have e1 := B5.c1
  have B6 := (B5.set0 (.int .i64 s)).set1 (.slice (some ⟨b, 0, none⟩) ms.length ms.length)
  have h0 := B6.c0
  have h1 := B6.c1
  have hbz : w.heap.size + 1 + 1 + 1 ≤ b := by omega
  have P5 : MPart (((w4.setCell ⟨w.heap.size + 1 + 1, 1, none⟩ (.slice (some ⟨b, 0, none⟩) ms.length ms.length)).setCell ⟨w.heap.size + 1, 0, none⟩ (.int .i64 s)).setCell ⟨w.heap.size + 1, 1, none⟩ (.slice (some ⟨b, 0, none⟩) ms.length ms.length)) b ms.length ms.length ms :=
    ((p4.setLow (by omega) _).setLow (by omega) _).setLow (by omega) _
  have HE := hidP (And.intro P5 (And.intro (show w.heap.size ≤ b by omega) (below_setCell (i := 1) (below_setCell (i := 0) (below_setCell (i := 1) L34 (show w.heap.size ≤ w.heap.size + 1 + 1 by omega) (.slice (some ⟨b, 0, none⟩) ms.length ms.length)) (show w.heap.size ≤ w.heap.size + 1 by omega) (.int .i64 s)) (show w.heap.size ≤ w.heap.size + 1 by omega) (.slice (some ⟨b, 0, none⟩) ms.length ms.length))))
  clear B3 C3 L3 B4 C4 L34 C5 B5 B6 P5 p4 L4 hz3 hb hbz HS HT
  go_wp2_with fail
  refine bodyPost_ret (v := .agg #[.int .i64 s, .slice (some ⟨b, 0, none⟩) ms.length ms.length]) (by simp [results, Try.results47, go_sem, h0, h1]) rfl ?_
  exact ⟨b, rfl, HE.out.1, HE.out.2.1, HE.out.2.2⟩

end Go.Proofs.Ytodielfilhodeaa
