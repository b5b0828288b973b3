/-
  container/heap's Init and Pop over the program's hits, and the program's own next.
-/
import Derived.Test.YtgfcdfiekancnaaHM2
namespace Go.Proofs.Ytgfcdfiekancnaa
open Go Go.RowKit

set_option maxRecDepth 100000 in
set_option maxHeartbeats 4000000 in
theorem iInit (base p g c : Nat) (l : List Ht) (w : World) (h : HAt base w p g c l) (hl : l.length ≤ 1048576) :
    Calls Try.prog 68 #[.iface 64 (.pointer (some ⟨p, 0, none⟩))] w fun e w' => e = .returned (.tuple #[]) ∧ ∃ l', HAt base w' p g c l' ∧ w.grownBy w' (some g) ∧ l'.Perm l ∧ HeapN l' l'.length := by
  have ML := method_val row_Len p _ _ _ w h.cell
  obtain ⟨m, hm⟩ : ∃ m, m = l.length / 2 := ⟨_, rfl⟩
  have hm2 : m ≤ 1048576 := by omega
  have HL := hidP (iLen (some ⟨g, 0, none⟩) l.length c w)
  have HM := hidP hm
  clear hm
  go_enter Try.func68, Try.ntmps68
  go_wp2_with fail
  refine HL.out.mono ?_
  rintro e w2 ⟨rfl, rfl⟩
  go_wp2
  go_loopw [3] (fun vi wr => ∃ (k : Nat) (l' : List Ht), vi = .int .i64 ((k : Int) - 1) ∧ k ≤ m ∧ HKept base w2 wr p g c l l' l.length ∧ HeapS k l' l.length) (fun vi _ => (intOf vi + 1).toNat)
  case atStart => exact ⟨m, l, by congr 1; have := HM.out; omega, Nat.le_refl _, ⟨h, grown_refl _ _, List.Perm.refl _, fun _ _ => rfl⟩, by rw [HM.out]; exact heapS_half l l.length⟩
  case round =>
    obtain ⟨k, l', rfl, hk, hkept, hs⟩ := hrel
    have HK := hidP hkept
    have HS := hidP hs
    have HLL := hidP (hkept.2.2.1.length_eq)
    clear hkept hs
    match k, hk, HS with
    | 0, hk, HS =>
      have d1 : ¬ ((((0 : Nat) : Int) - 1) ≥ 0) := by omega
      go_wp2
      go_end0
      exact ⟨rfl, l', HK.out.1, HK.out.2.1, HK.out.2.2.1, by rw [HLL.out]; exact heapS_zero HS.out⟩
    | j + 1, hk, HS =>
      have e1 : (((j + 1 : Nat) : Int) - 1) = (j : Int) := by omega
      have x3 : wrap64 ((j : Int) - 1) = (j : Int) - 1 := by unfold wrap64; omega
      have d1 : (j : Int) ≥ 0 := by omega
      have HD := hidP (iDown base p g c j j l.length l' wr HK.out.1 (by rw [HLL.out]; exact Nat.le_refl _) (by rw [HLL.out]; exact hl) (Nat.le_refl _) (by have := HM.out; omega) (downS_init HS.out))
      rw [e1]
      clear e1
      go_wp2_with fail
      refine HD.out.mono ?_
      rintro e w3 ⟨⟨b, rfl⟩, l2, hk2, hs2⟩
      have HK2 : Hid (HKept base w2 w3 p g c l l2 l.length) := ⟨hk2.1, grown_trans HK.out.2.1 hk2.2.1, hk2.2.2.1.trans HK.out.2.2.1, fun q hq => (hk2.2.2.2 q hq).trans (HK.out.2.2.2 q hq)⟩
      have HS2 := hidP hs2
      clear hk2 hs2
      go_wp2
      go_roundw
      case rel => exact ⟨j, l2, by go_num, by omega, HK2.out, HS2.out⟩
      case measure => simp [intOf]

set_option maxRecDepth 100000 in
set_option maxHeartbeats 1000000 in
theorem iInit0 (p : Nat) (w : World) (h : w.cell? ⟨p, 0, none⟩ = some (.slice none 0 0)) :
    Calls Try.prog 68 #[.iface 64 (.pointer (some ⟨p, 0, none⟩))] w fun e w' => e = .returned (.tuple #[]) ∧ w' = w := by
  have ML := method_val row_Len p _ _ _ w h
  have HL := hidP (iLen none 0 0 w)
  go_enter Try.func68, Try.ntmps68
  go_wp2_with fail
  refine HL.out.mono ?_
  rintro e w2 ⟨rfl, rfl⟩
  go_wp2
  go_loop [3] (fun vi => vi = .int .i64 (-1)) (fun _ => 0)
  case atStart => exact rfl
  case round =>
    subst hrel
    go_wp2
    go_end0
    exact ⟨rfl, rfl⟩

/-- Of the blocks that were there, at most p and g have changed. -/
def Chg (p g : Nat) (w w' : World) : Prop := w'.os = w.os ∧ w'.tape = w.tape ∧ w'.output = w.output ∧ w.heap.size ≤ w'.heap.size ∧ ∀ i, i < w.heap.size → i ≠ p → i ≠ g → w'.heap[i]? = w.heap[i]?
theorem Chg.refl (p g : Nat) (w : World) : Chg p g w w := ⟨rfl, rfl, rfl, Nat.le_refl _, fun _ _ _ _ => rfl⟩
theorem Chg.trans {p g : Nat} {w w1 w2 : World} (h : Chg p g w w1) (k : Chg p g w1 w2) : Chg p g w w2 :=
  ⟨k.1.trans h.1, k.2.1.trans h.2.1, k.2.2.1.trans h.2.2.1, Nat.le_trans h.2.2.2.1 k.2.2.2.1, fun i hi h1 h2 => (k.2.2.2.2 i (Nat.lt_of_lt_of_le hi h.2.2.2.1) h1 h2).trans (h.2.2.2.2 i hi h1 h2)⟩
theorem Chg.row {p g : Nat} {w w' : World} (h : w.grownBy w' (some g)) : Chg p g w w' := ⟨h.os, h.tape, h.output, h.size, fun i hi _ h2 => h.block i hi (fun e => h2 (by injection e))⟩
theorem Chg.ptr {p g : Nat} {w w' : World} (h : w.grownBy w' (some p)) : Chg p g w w' := ⟨h.os, h.tape, h.output, h.size, fun i hi h1 _ => h.block i hi (fun e => h1 (by injection e))⟩
theorem Chg.below {p g : Nat} {w w' : World} (h : Below w.heap.size w w') : Chg p g w w' := ⟨h.os, h.tape, h.output, h.size, fun i hi _ _ => h.block i hi⟩
theorem Chg.far {p g q : Nat} {w w1 w2 : World} (h : Chg p g w w1) (k : w1.grownBy w2 (some q)) (hq : w.heap.size ≤ q) : Chg p g w w2 :=
  ⟨k.os.trans h.1, k.tape.trans h.2.1, k.output.trans h.2.2.1, Nat.le_trans h.2.2.2.1 k.size, fun i hi h1 h2 => (k.block i (Nat.lt_of_lt_of_le hi h.2.2.2.1) (fun e => by injection e with e; omega)).trans (h.2.2.2.2 i hi h1 h2)⟩

theorem take_last {l : List Ht} {n : Nat} (h : l.length = n + 1) : l.take n ++ [hnth l n] = l := by
  have : hnth l n = l[n] := by simp [hnth, List.getD, h]
  rw [this, List.take_append_getElem]
  exact List.take_of_length_le (by omega)
theorem heap_take {l : List Ht} {n : Nat} (h : HeapN l n) (hn : n ≤ l.length) : HeapN (l.take n) (l.take n).length := fun c h0 hc => by
  have hc2 : c < n := by simp at hc; omega
  have hp : par c < n := by unfold par; omega
  rw [hnth_take _ _ _ hc2, hnth_take _ _ _ hp]
  exact h c h0 hc2

set_option maxRecDepth 100000 in
set_option maxHeartbeats 4000000 in
/-- The first one is handed out. -/
theorem iHPop (base p g c n : Nat) (l : List Ht) (w : World) (h : HAt base w p g c l) (hl : l.length = n + 1) (hn : n ≤ 1048575) (hh : HeapN l l.length) :
    Calls Try.prog 82 #[.iface 64 (.pointer (some ⟨p, 0, none⟩))] w fun e w' => e = .returned (.iface 68 (.agg #[.int .i64 (hnth l 0).1, .int .i64 (hnth l 0).2])) ∧ ∃ l', HAt base w' p g c l' ∧ Chg p g w w' ∧ (hnth l 0 :: l').Perm l ∧ HeapN l' l'.length := by
  have ML := method_val row_Len p _ _ _ w h.cell
  have MS := method_val row_Swap p _ _ _ w h.cell
  have HL := hidP (iLen (some ⟨g, 0, none⟩) l.length c w)
  have HS := hidP (iSwap base g c 0 n l w h.2.2 (by omega) (by omega))
  have HH := hidP (And.intro h (And.intro hl hh))
  have x1 : wrap64 ((l.length : Int) - 1) = (n : Int) := by unfold wrap64; omega
  clear h hl hh
  go_enter Try.func82, Try.ntmps82
  go_wp2_with fail
  refine HL.out.mono ?_
  rintro e w2 ⟨rfl, rfl⟩
  go_wp2_with fail
  refine HS.out.mono ?_
  rintro e w3 ⟨rfl, hr3, hg3⟩
  obtain ⟨h, hl, hh⟩ := HH.out
  have h3 := h.put hr3 (swapL_length _ _ _) hg3
  rw [hl] at hh
  have hd := iDown base p g c 0 0 n (swapL l 0 n) w3 h3 (by rw [swapL_length]; omega) (by rw [swapL_length]; omega) (Nat.le_refl _) (Nat.zero_le _) (downS_pop hh (by omega))
  have HD := hidP hd
  have HG3 := hidP hg3
  clear h hl hh h3 hd hr3 hg3 MS ML HS HL
  go_wp2_with fail
  refine HD.out.mono ?_
  rintro e w4 ⟨⟨b, rfl⟩, l4, hk4, hs4⟩
  obtain ⟨h, hl, hh⟩ := HH.out
  have hl4 : l4.length = n + 1 := by rw [hk4.2.2.1.length_eq, swapL_length]; exact hl
  have e4 : hnth l4 n = hnth l 0 := by
    rw [hk4.2.2.2 n (Nat.le_refl _), swapL_at l 0 n n (by omega) (by omega) (by omega), if_pos rfl]
  have hp4 : (hnth l 0 :: l4.take n).Perm l := by
    have := take_last hl4
    rw [e4] at this
    refine List.Perm.trans ?_ (hk4.2.2.1.trans (swapL_perm l 0 n (by omega) (by omega)))
    rw [← this]
    exact (List.perm_append_singleton _ _).symm.trans (by rw [List.take_left' (by simp; omega)])
  have HP := hidP (iPop base p g c n l4 w4 hk4.1 hl4 (by omega))
  rw [e4] at HP
  have HF : Hid (Chg p g w2 w4 ∧ (hnth l 0 :: l4.take n).Perm l ∧ HeapN (l4.take n) (l4.take n).length) := ⟨(Chg.row HG3.out).trans (Chg.row hk4.2.1), hp4, heap_take (heapS_zero hs4) (by omega)⟩
  have MP := method_ptr row_Pop p w4
  clear h hl hh hl4 e4 hp4 hk4 hs4 HD
  go_wp2_with fail
  refine HP.out.mono ?_
  rintro e w5 ⟨rfl, h5, hg5⟩
  go_wp2
  go_ret
  exact ⟨rfl, _, h5, HF.out.1.trans (Chg.ptr hg5), HF.out.2.1, HF.out.2.2⟩

end Go.Proofs.Ytgfcdfiekancnaa
