/-
  A method that is called through an interface value, of the type of a pointer to threads: which function is entered, with what receiver. And the program's own Less.
  The program's own Swap, Len and Pop of threads.
  container/heap's down and Init over the program's threads.
  container/heap's Init and Pop over the program's threads, and the program's own next.
  The program's own next, hasId, first and upTo.
-/
import Derived.Test.YtfbindjacmaeoaaQCmpZz
import Derived.Test.YtfbindjacmaeoaaESpAZz
import Derived.Laws.ByValue
import Derived.RegionTactic
import Derived.ChangeAlike
namespace Go.Proofs.Ytfbindjacmaeoaa
open Go Go.RowKit

def methodRowT (P : Program) (t : TypeId) (name : String) : Option (Bool × Option (FuncId × Bool)) := ((P.info? t).bind fun i => i.methods.find? (·.name == name)).map fun m => (m.path.isEmpty, m.func)
theorem row_LessT : methodRowT Try.prog 73 "Less" = some (true, some (134, false)) := by kernel_rfl
theorem row_SwapT : methodRowT Try.prog 73 "Swap" = some (true, some (136, false)) := by kernel_rfl
theorem row_LenT : methodRowT Try.prog 73 "Len" = some (true, some (133, false)) := by kernel_rfl
theorem row_PopT : methodRowT Try.prog 73 "Pop" = some (true, some (135, true)) := by kernel_rfl
theorem method_rowT {t : TypeId} {name : String} {f : FuncId} {b : Bool} (h : methodRowT Try.prog t name = some (true, some (f, b))) : ∃ i m, Try.prog.info? t = some i ∧ i.methods.find? (·.name == name) = some m ∧ m.path.toList = [] ∧ m.func = some (f, b) := by
  unfold methodRowT at h
  cases hi : Try.prog.info? t with
  | none => rw [hi] at h; cases h
  | some i =>
    rw [hi] at h
    cases hm : i.methods.find? (·.name == name) with
    | none => simp [hm] at h
    | some m =>
      simp [hm] at h
      exact ⟨i, m, rfl, hm, by simpa using h.1, h.2⟩
theorem wrap_nilT (P : Program) (t : TypeId) (a : Addr) (s nm : String) (w : World) : Sem.run P (Builtin.ssaWrapNilChk_ #[t] t #[.pointer (some a), strVal s, strVal nm]) w = .ok (.pointer (some a)) w := rfl
theorem depth_allT : Try.prog.types.size + 100 = 257 := by kernel_rfl
theorem method_valT {name : String} {f : FuncId} (h : methodRowT Try.prog 73 name = some (true, some (f, false))) (p : Nat) (ao : Option Addr) (n c : Nat) (w : World) (hc : w.cell? ⟨p, 0, none⟩ = some (.slice ao n c)) :
    Sem.run Try.prog (method 257 73 (.pointer (some ⟨p, 0, none⟩)) name) w = .ok (f, .slice ao n c) w := by
  obtain ⟨i, m, h1, h2, h3, h4⟩ := method_rowT h
  have ht : (typeInfo 73).run Try.prog w = .ok i w := by simp [typeInfo, h1]
  have hf : (follow [] 73 (.val (.pointer (some ⟨p, 0, none⟩)))).run Try.prog w = .ok (73, .val (.pointer (some ⟨p, 0, none⟩))) w := by simp [follow]
  have hr : ∀ nm, (receiverAt 73 (.val (.pointer (some ⟨p, 0, none⟩))) false nm).run Try.prog w = .ok (.slice ao n c) w := fun nm => by
    unfold receiverAt
    cases nm with
    | none => simp [go_sem, Place.get, hc]
    | some nm => simp [go_sem, Place.get, hc, wrap_nilT]
  rw [← depth_allT]
  unfold method
  simp only [Sem.run_bind, ht, Result.andThen_ok, h2, h3, hf, h4, hr, Sem.run_pure]
theorem method_ptrT {name : String} {f : FuncId} (h : methodRowT Try.prog 73 name = some (true, some (f, true))) (p : Nat) (w : World) :
    Sem.run Try.prog (method 257 73 (.pointer (some ⟨p, 0, none⟩)) name) w = .ok (f, .pointer (some ⟨p, 0, none⟩)) w := by
  obtain ⟨i, m, h1, h2, h3, h4⟩ := method_rowT h
  have ht : (typeInfo 73).run Try.prog w = .ok i w := by simp [typeInfo, h1]
  have hf : (follow [] 73 (.val (.pointer (some ⟨p, 0, none⟩)))).run Try.prog w = .ok (73, .val (.pointer (some ⟨p, 0, none⟩))) w := by simp [follow]
  have hr : ∀ nm, (receiverAt 73 (.val (.pointer (some ⟨p, 0, none⟩))) true nm).run Try.prog w = .ok (.pointer (some ⟨p, 0, none⟩)) w := fun nm => by
    unfold receiverAt
    simp [go_sem, Place.get]
  rw [← depth_allT]
  unfold method
  simp only [Sem.run_bind, ht, Result.andThen_ok, h2, h3, hf, h4, hr, Sem.run_pure]

set_option maxRecDepth 100000 in
set_option maxHeartbeats 1600000 in
theorem iLessT (b off n c i j : Nat) (l : List Th) (w : World) (hb : b < w.heap.size) (hs : TSeg w b off l) (hn : n ≤ l.length) (hi : i < n) (hj : j < n) :
    Calls Try.prog 134 #[.slice (some ⟨b, off, none⟩) n c, .int .i64 i, .int .i64 j] w fun e w' => e = .returned (.bool (thAhead (tnth l i) (tnth l j))) ∧ Below w.heap.size w w' := by
  obtain ⟨hc0, hc1, hc2⟩ := hs i (by omega)
  obtain ⟨hd0, hd1, hd2⟩ := hs j (by omega)
  have hgi0 : (0 : Int) ≤ (i : Int) := by omega
  have hgi : (i : Int) < (n : Int) := by omega
  have hgj0 : (0 : Int) ≤ (j : Int) := by omega
  have hgj : (j : Int) < (n : Int) := by omega
  have HC := hidP (iOrder (tnth l i) (tnth l j) w.drew)
  have HO := hidP (ordT_neg (tnth l i) (tnth l j))
  clear hs
  generalize ordT (tnth l i) (tnth l j) = O at *
  go_enter Try.func134, Try.ntmps134
  go_wp2
  go_region_held3 (fun w' => w'.cell? ⟨b, off + i * 3, none⟩ = some (.int .i64 (tnth l i).1) ∧ w'.cell? ⟨b, off + i * 3 + 1, none⟩ = some (.int .i64 (tnth l i).2.1) ∧ w'.cell? ⟨b, off + i * 3 + 2, none⟩ = some (.int .i64 (tnth l i).2.2) ∧ w'.cell? ⟨b, off + j * 3, none⟩ = some (.int .i64 (tnth l j).1) ∧ w'.cell? ⟨b, off + j * 3 + 1, none⟩ = some (.int .i64 (tnth l j).2.1) ∧ w'.cell? ⟨b, off + j * 3 + 2, none⟩ = some (.int .i64 (tnth l j).2.2))
    (first
      | go_keep
      | (refine ⟨(L3.cell (p := ⟨b, off + i * 3, none⟩) hb).trans hc0, (L3.cell (p := ⟨b, off + i * 3 + 1, none⟩) hb).trans hc1, (L3.cell (p := ⟨b, off + i * 3 + 2, none⟩) hb).trans hc2, (L3.cell (p := ⟨b, off + j * 3, none⟩) hb).trans hd0, (L3.cell (p := ⟨b, off + j * 3 + 1, none⟩) hb).trans hd1, (L3.cell (p := ⟨b, off + j * 3 + 2, none⟩) hb).trans hd2⟩))
    (first
      | (go_at_call 137; refine HC.out.mono ?_; rintro e w2 ⟨rfl, L3⟩))
  go_wp2
  go_ret
  exact ⟨by rw [← HO.out]; rfl, ⟨L3.os, L3.tape, L3.output, L3.size, L3.block⟩⟩

end Go.Proofs.Ytfbindjacmaeoaa
namespace Go.Proofs.Ytfbindjacmaeoaa
open Go Go.RowKit

theorem grown_drewT {w W : World} {r : Option Nat} (h : w.grownBy W r) : w.grownBy W.drew r := ⟨h.os, h.tape, h.output, h.size, h.block⟩
set_option maxRecDepth 100000 in
set_option maxHeartbeats 4000000 in
theorem iSwapT (base g c i j : Nat) (l : List Th) (w : World) (hr : TRow base w g c l) (hi : i < l.length) (hj : j < l.length) :
    Calls Try.prog 136 #[.slice (some ⟨g, 0, none⟩) l.length c, .int .i64 i, .int .i64 j] w fun e w' => e = .returned (.tuple #[]) ∧ TRow base w' g c (swapLT l i j) ∧ w.grownBy w' (some g) := by
  obtain ⟨hc0, hc1, hc2⟩ := hr.seg i hi
  obtain ⟨hd0, hd1, hd2⟩ := hr.seg j hj
  rw [Nat.zero_add] at hc0 hc1 hc2 hd0 hd1 hd2
  have hfi0 := World.ownsRow.frozenAt hr (i * 3)
  have hfi1 := World.ownsRow.frozenAt hr (i * 3 + 1)
  have hfi2 := World.ownsRow.frozenAt hr (i * 3 + 2)
  have hfj0 := World.ownsRow.frozenAt hr (j * 3)
  have hfj1 := World.ownsRow.frozenAt hr (j * 3 + 1)
  have hfj2 := World.ownsRow.frozenAt hr (j * 3 + 2)
  have h1 := hr.store i (tnth l j)
  obtain ⟨he0, he1, he2⟩ := h1.seg j (by simpa using hj)
  rw [Nat.zero_add] at he0 he1 he2
  have HR : Hid (TRow base ((((((w.setCell ⟨g, i * 3, none⟩ (.int .i64 (tnth l j).1)).setCell ⟨g, i * 3 + 1, none⟩ (.int .i64 (tnth l j).2.1)).setCell ⟨g, i * 3 + 2, none⟩ (.int .i64 (tnth l j).2.2)).setCell ⟨g, j * 3, none⟩ (.int .i64 (tnth l i).1)).setCell ⟨g, j * 3 + 1, none⟩ (.int .i64 (tnth l i).2.1)).setCell ⟨g, j * 3 + 2, none⟩ (.int .i64 (tnth l i).2.2)).drew g c (swapLT l i j)) := World.ownsRow.drew (h1.store j (tnth l i))
  have HG : Hid (w.grownBy ((((((w.setCell ⟨g, i * 3, none⟩ (.int .i64 (tnth l j).1)).setCell ⟨g, i * 3 + 1, none⟩ (.int .i64 (tnth l j).2.1)).setCell ⟨g, i * 3 + 2, none⟩ (.int .i64 (tnth l j).2.2)).setCell ⟨g, j * 3, none⟩ (.int .i64 (tnth l i).1)).setCell ⟨g, j * 3 + 1, none⟩ (.int .i64 (tnth l i).2.1)).setCell ⟨g, j * 3 + 2, none⟩ (.int .i64 (tnth l i).2.2)) (some g)) := grown_set (grown_set (grown_set (grown_set (grown_set (grown_set (grown_refl w _))))))
  have hgi0 : (0 : Int) ≤ (i : Int) := by omega
  have hgi : (i : Int) < (l.length : Int) := by omega
  have hgj0 : (0 : Int) ≤ (j : Int) := by omega
  have hgj : (j : Int) < (l.length : Int) := by omega
  clear h1 hr
  go_enter Try.func136, Try.ntmps136
  go_upto_region 0 with fail
  refine wp_region_takes (S := fun _ => True) (fuel := 6) [0, 1, 2, 3, 4, 5, 6, 8, 9, 10] (by kernel_rfl) (by kernel_rfl) (by kernel_rfl) (by kernel_rfl) trivial (fun _ => ?_)
  iterate 10
    refine ⟨_, rfl, ?_⟩
    apply Exists.intro
    refine ⟨Or.inl ⟨by rfl, fun w' hw' => ?_⟩, ?_⟩
    · first
      | (go_simp; done)
      | (go_simp; with_reducible rfl)
    simp only [Act.put, List.getElem_toArray, List.getElem_cons_succ, List.getElem_cons_zero, List.setIfInBounds_toArray, List.set_cons_zero, List.set_cons_succ]
  refine calm_two12 7 11 (by kernel_rfl) rfl rfl (fun K hK => ?_) (fun K hK => ?_)
  · go_simp
    refine hK.out _ _ trivial (fun _ => ?_)
    clear hK K
    refine calm_one 11 (by kernel_rfl) rfl (fun K hK => ?_)
    go_simp
    refine hK.out _ _ trivial (fun _ => ?_)
    clear hK K
    refine calm_one 12 (by kernel_rfl) rfl (fun K hK => ?_)
    go_simp
    refine hK.out _ _ trivial (fun _ => ?_)
    clear hK K
    refine calm_one 13 (by kernel_rfl) rfl (fun K hK => ?_)
    go_simp
    refine hK.out _ _ trivial (fun _ => ?_)
    clear hK K
    refine calm_one 14 (by kernel_rfl) rfl (fun K hK => ?_)
    go_simp
    refine hK.out _ _ trivial (fun _ => ?_)
    clear hK K
    refine calm_one 15 (by kernel_rfl) rfl (fun K hK => ?_)
    go_simp
    refine hK.out _ _ trivial (fun _ => ?_)
    clear hK K
    refine wpAnyH_done (by kernel_rfl) ?_ _
    refine NoPanic.normal ?_
    go_end0
    exact ⟨rfl, HR.out, grown_drewT HG.out⟩
  · go_simp
    refine hK.out _ _ trivial (fun _ => ?_)
    clear hK K
    refine calm_one 7 (by kernel_rfl) rfl (fun K hK => ?_)
    go_simp
    refine hK.out _ _ trivial (fun _ => ?_)
    clear hK K
    refine calm_one 12 (by kernel_rfl) rfl (fun K hK => ?_)
    go_simp
    refine hK.out _ _ trivial (fun _ => ?_)
    clear hK K
    refine calm_one 13 (by kernel_rfl) rfl (fun K hK => ?_)
    go_simp
    refine hK.out _ _ trivial (fun _ => ?_)
    clear hK K
    refine calm_one 14 (by kernel_rfl) rfl (fun K hK => ?_)
    go_simp
    refine hK.out _ _ trivial (fun _ => ?_)
    clear hK K
    refine calm_one 15 (by kernel_rfl) rfl (fun K hK => ?_)
    go_simp
    refine hK.out _ _ trivial (fun _ => ?_)
    clear hK K
    refine wpAnyH_done (by kernel_rfl) ?_ _
    refine NoPanic.normal ?_
    go_end0
    exact ⟨rfl, HR.out, grown_drewT HG.out⟩

theorem iLenT (ao : Option Addr) (n c : Nat) (w : World) :
    Calls Try.prog 133 #[.slice ao n c] w fun e w' => e = .returned (.int .i64 n) ∧ w' = w := by
  go_enter Try.func133, Try.ntmps133
  go_wp2
  go_ret
  exact ⟨rfl, rfl⟩

/-- A heap of threads in memory: the pointer's cell at p, the row at g. -/
def HAtT (base : Nat) (w : World) (p g c : Nat) (l : List Th) : Prop := p ≠ g ∧ w.heap[p]? = some (.cells #[.slice (some ⟨g, 0, none⟩) l.length c] 113 (0, 0)) ∧ TRow base w g c l
theorem block_ltT {w : World} {p : Nat} {o : Obj} (h : w.heap[p]? = some o) : p < w.heap.size := by
  rcases Nat.lt_or_ge p w.heap.size with h1 | h1
  · exact h1
  · rw [Array.getElem?_eq_none h1] at h; cases h
theorem HAtT.cell {base : Nat} {w : World} {p g c : Nat} {l : List Th} (h : HAtT base w p g c l) : w.cell? ⟨p, 0, none⟩ = some (.slice (some ⟨g, 0, none⟩) l.length c) := by simp [World.cell?, h.2.1]
theorem HAtT.frozen {base : Nat} {w : World} {p g c : Nat} {l : List Th} (h : HAtT base w p g c l) : w.frozen? ⟨p, 0, none⟩ = false := by simp [World.frozen?, h.2.1]
theorem HAtT.lt {base : Nat} {w : World} {p g c : Nat} {l : List Th} (h : HAtT base w p g c l) : p < w.heap.size := block_ltT h.2.1
theorem HAtT.below {base : Nat} {w w' : World} {p g c : Nat} {l : List Th} (h : HAtT base w p g c l) (hw : Below w.heap.size w w') : HAtT base w' p g c l :=
  ⟨h.1, (hw.block p h.lt).trans h.2.1, h.2.2.below (Nat.le_refl _) hw⟩
theorem HAtT.put {base : Nat} {w w' : World} {p g c : Nat} {l l' : List Th} (h : HAtT base w p g c l) (hr : TRow base w' g c l') (hl : l'.length = l.length) (hg : w.grownBy w' (some g)) : HAtT base w' p g c l' :=
  ⟨h.1, by rw [hl]; exact (hg.block p h.lt (fun e => h.1 (by injection e))).trans h.2.1, hr⟩
theorem row_cutT {base : Nat} {w : World} {g c : Nat} {l : List Th} (h : TRow base w g c l) (n : Nat) : TRow base w g c (l.take n) := by
  obtain ⟨h1, ⟨h2, _⟩ | ⟨g', c', cur, e, hb, hh, hn, hc, hs, hx⟩⟩ := h
  · cases h2
  · injection e with e1 e2 e3
    injection e1 with e1
    injection e1 with e1
    subst e1 e3
    have ht : tCells (l.take n) = cur.toList.take ((l.take n).length * 3) := by
      have e4 : tCells l = tCells (l.take n) ++ tCells (l.drop n) := by rw [← tCells_append, List.take_append_drop]
      rw [← tCells_length, show cur.toList.take (tCells (l.take n)).length = (cur.toList.take (l.length * 3)).take (tCells (l.take n)).length by
        rw [List.take_take, tCells_length, Nat.min_eq_left]; simp; omega, hx, e4, List.take_left]
    refine ⟨tCells_length _, Or.inr ⟨g, c, cur, rfl, hb, hh, ?_, hc, hs, ht.symm⟩⟩
    simp; omega

theorem cell_setBlockT (w : World) (p i q j : Nat) (v : Value) (h : p ≠ q) : (w.setCell ⟨p, i, none⟩ v).cell? ⟨q, j, none⟩ = w.cell? ⟨q, j, none⟩ := by
  exact World.cell?_setCell_far w _ _ v h
theorem setCell_block0T {w : World} {p : Nat} {u : Value} {t : TypeId} (h : w.heap[p]? = some (.cells #[u] t (0, 0))) (v : Value) : (w.setCell ⟨p, 0, none⟩ v).heap[p]? = some (.cells #[v] t (0, 0)) := by
  unfold World.setCell
  rw [Array.getElem?_modify, if_pos rfl, h]
  rfl

set_option maxHeartbeats 1600000 in
/-- The last one is handed out; one less is in the row. -/
theorem iPopT (base p g c n : Nat) (l : List Th) (w : World) (h : HAtT base w p g c l) (hl : l.length = n + 1) (hn : n ≤ 1048576) :
    Calls Try.prog 135 #[.pointer (some ⟨p, 0, none⟩)] w fun e w' => e = .returned (.iface 41 (.agg #[.int .i64 (tnth l n).1, .int .i64 (tnth l n).2.1, .int .i64 (tnth l n).2.2])) ∧ HAtT base w' p g c (l.take n) ∧ w.grownBy w' (some p) := by
  obtain ⟨hc0, hc1, hc2⟩ := h.2.2.seg n (by omega)
  rw [Nat.zero_add] at hc0 hc1 hc2
  have hp := h.cell
  have hf := h.frozen
  have hcap := h.2.2.cap
  have HH := hidP h
  have HL := hidP hl
  rw [hl] at hp hcap
  have hx : wrap64 ((n : Int) + 1 - 1) = n := by unfold wrap64; omega
  have hpl := h.lt
  have hne : p ≠ w.heap.size := by omega
  obtain ⟨O, hO⟩ : ∃ O, O = Obj.cells #[.int .i64 (tnth l n).1, .int .i64 (tnth l n).2.1, .int .i64 (tnth l n).2.2] 41 := ⟨_, rfl⟩
  have hB := (Below.refl w.heap.size w).alloc (Nat.le_refl _) O
  have h2 := h.below hB
  have hp2 := h2.cell
  have hf2 := h2.frozen
  rw [hl] at hp2
  obtain ⟨v, hv⟩ : ∃ v : Value, v = .slice (some ⟨g, 0, none⟩) n c := ⟨_, rfl⟩
  have hq0 : ((w.alloc O).setCell ⟨p, 0, none⟩ v).cell? ⟨w.heap.size, 0, none⟩ = some (.int .i64 (tnth l n).1) := by
    rw [cell_setBlockT _ _ _ _ _ _ hne, hO]; simp
  have hq1 : ((w.alloc O).setCell ⟨p, 0, none⟩ v).cell? ⟨w.heap.size, 1, none⟩ = some (.int .i64 (tnth l n).2.1) := by
    rw [cell_setBlockT _ _ _ _ _ _ hne, hO]; simp
  have hq2 : ((w.alloc O).setCell ⟨p, 0, none⟩ v).cell? ⟨w.heap.size, 2, none⟩ = some (.int .i64 (tnth l n).2.2) := by
    rw [cell_setBlockT _ _ _ _ _ _ hne, hO]; simp
  have HE : Hid (HAtT base ((w.alloc O).setCell ⟨p, 0, none⟩ v) p g c (l.take n) ∧ w.grownBy ((w.alloc O).setCell ⟨p, 0, none⟩ v) (some p)) := by
    refine ⟨⟨h.1, ?_, ?_⟩, grown_set ⟨hB.os, hB.tape, hB.output, hB.size, fun i hi _ => hB.block i hi⟩⟩
    · rw [setCell_block0T (h2.2.1) v, hv, List.length_take, hl, Nat.min_eq_left (by omega)]
    · exact row_cutT (h2.2.2.kept (r := some p) (grown_set (grown_refl _ _)) (fun e => h.1 (by injection e with e; exact e.symm))) n
  rw [World.setCell_alloc_past O p 0 v hpl] at HE
  subst hO hv
  clear h hl h2 hB
  go_enter Try.func135, Try.ntmps135
  go_wp2
  go_ret
  exact ⟨rfl, HE.out.1, HE.out.2⟩

end Go.Proofs.Ytfbindjacmaeoaa
namespace Go.Proofs.Ytfbindjacmaeoaa
open Go Go.RowKit

/-- What a walk down leaves: the same hits, those from n on where they were, a heap from s on; in the row's block alone. -/
def HKeptT (base : Nat) (w w' : World) (p g c : Nat) (l l' : List Th) (n : Nat) : Prop := HAtT base w' p g c l' ∧ w.grownBy w' (some g) ∧ l'.Perm l ∧ ∀ k, n ≤ k → tnth l' k = tnth l k
theorem HKeptT.below {base : Nat} {w w1 w2 : World} {p g c n : Nat} {l l' : List Th} (h : HKeptT base w w1 p g c l l' n) (hb : Below w1.heap.size w1 w2) : HKeptT base w w2 p g c l l' n :=
  ⟨h.1.below hb, grown_trans h.2.1 ⟨hb.os, hb.tape, hb.output, hb.size, fun i hi _ => hb.block i hi⟩, h.2.2⟩
theorem swapL_farT (l : List Th) (i j k : Nat) (hi : i < l.length) (hj : j < l.length) (h1 : k ≠ i) (h2 : k ≠ j) : tnth (swapLT l i j) k = tnth l k := by
  rcases Nat.lt_or_ge k l.length with h | h
  · rw [swapL_atT l i j k hi hj h, if_neg h2, if_neg h1]
  · simp [tnth, List.getD, swapLT, h]
theorem HKeptT.swap {base : Nat} {w w1 w2 : World} {p g c n i j : Nat} {l l' : List Th} (h : HKeptT base w w1 p g c l l' n) (hr : TRow base w2 g c (swapLT l' i j)) (hg : w1.grownBy w2 (some g)) (hi : i < n) (hj : j < n) (hn : n ≤ l'.length) : HKeptT base w w2 p g c l (swapLT l' i j) n :=
  ⟨h.1.put hr (swapL_lengthT _ _ _) hg, grown_trans h.2.1 hg, (swapL_permT _ _ _ (by omega) (by omega)).trans h.2.2.1, fun k hk => by rw [swapL_farT _ _ _ _ (by omega) (by omega) (by omega) (by omega)]; exact h.2.2.2 k hk⟩

set_option maxRecDepth 100000 in
set_option maxHeartbeats 4000000 in
theorem iDownT (base p g c s i0 n : Nat) (l : List Th) (w : World) (h : HAtT base w p g c l) (hn : n ≤ l.length) (hl : l.length ≤ 1048576) (hs : s ≤ i0) (hi : i0 ≤ n) (hd : DownST s l n i0) :
    Calls Try.prog 112 #[.iface 73 (.pointer (some ⟨p, 0, none⟩)), .int .i64 i0, .int .i64 n] w fun e w' => (∃ b, e = .returned (.bool b)) ∧ ∃ l', HKeptT base w w' p g c l l' n ∧ HeapST s l' n := by
  go_enter Try.func112, Try.ntmps112
  go_wp2
  go_loopw [7] (fun vi wr => ∃ (i : Nat) (l' : List Th), vi = .int .i64 i ∧ s ≤ i ∧ i ≤ n ∧ HKeptT base w wr p g c l l' n ∧ DownST s l' n i) (fun vi _ => n - (intOf vi).toNat)
  case atStart => exact ⟨i0, l, rfl, hs, hi, ⟨h, grown_refl _ _, List.Perm.refl _, fun _ _ => rfl⟩, hd⟩
  case round =>
    obtain ⟨i, l', rfl, hsi, hin, hk, hdn⟩ := hrel
    have HK := hidP hk
    have HD := hidP hdn
    have HL := hidP (hk.2.2.1.length_eq)
    have hn' : n ≤ l'.length := by rw [HL.out]; exact hn
    have hl' : l'.length ≤ 1048576 := by rw [HL.out]; exact hl
    have hc := hk.1.cell
    have ML := method_valT row_LessT p _ _ _ wr hc
    have x1 : wrap64 (2 * (i : Int)) = 2 * (i : Int) := by unfold wrap64; omega
    have x2 : wrap64 (2 * (i : Int) + 1) = 2 * (i : Int) + 1 := by unfold wrap64; omega
    have x3 : wrap64 (2 * (i : Int) + 1 + 1) = 2 * (i : Int) + 1 + 1 := by unfold wrap64; omega
    have e1 : ((2 * i + 1 : Nat) : Int) = 2 * (i : Int) + 1 := by omega
    have e2 : ((2 * i + 2 : Nat) : Int) = 2 * (i : Int) + 1 + 1 := by omega
    by_cases hlt : 2 * i + 1 < n
    · have HC := hidP (iLessT g 0 l'.length c (2 * i + 2) (2 * i + 1) l' wr hk.1.2.2.lt.2 hk.1.2.2.seg (Nat.le_refl _))
      rw [e1, e2] at HC
      clear hk hdn e1 e2
      by_cases hr : 2 * i + 2 < n
      · have d1 : ¬ (2 * (i : Int) + 1 ≥ (n : Int)) := by omega
        have d2 : (2 * (i : Int) + 1 + 1 < (n : Int)) := by omega
        go_wp2_with fail
        refine (HC.out (by omega) (by omega)).mono ?_
        rintro e w2 ⟨rfl, hb⟩
        have HK2 := hidP (HK.out.below hb)
        have ML2 := method_valT row_LessT p _ _ _ w2 HK2.out.1.cell
        clear hb hc ML
        rcases ha : thAhead (tnth l' (2 * i + 2)) (tnth l' (2 * i + 1)) with _ | _
        · have HM : Hid (∀ c, 0 < c → c < n → parT c = i → leT (tnth l' (2 * i + 1)) (tnth l' c)) := fun c h0 h1 h2 => by
                    rcases kidsT c i h0 h2 with rfl | rfl
                    · exact leT_refl _
                    · exact (thAhead_false _ _).1 ha
          have HC2 := hidP (iLessT g 0 l'.length c (2 * i + 1) i l' w2 HK2.out.1.2.2.lt.2 HK2.out.1.2.2.seg (Nat.le_refl _))
          have HS2 := hidP (fun w3 h3 => iSwapT base g c i (2 * i + 1) l' w3 h3)
          rw [show ((2 * i + 1 : Nat) : Int) = 2 * (i : Int) + 1 by omega] at HC2 HS2
          go_wp2_with fail
          refine (HC2.out (by omega) (by omega)).mono ?_
          rintro e w3 ⟨rfl, hb3⟩
          have HK3 := hidP (HK2.out.below hb3)
          have MS3 := method_valT row_SwapT p _ _ _ w3 HK3.out.1.cell
          clear hb3 ML2
          rcases hf : thAhead (tnth l' (2 * i + 1)) (tnth l' i) with _ | _
          · go_wp2
            go_ret
            exact ⟨⟨_, rfl⟩, l', HK3.out, downS_doneT HD.out (fun c h0 h1 h2 => leT_trans ((thAhead_false _ _).1 hf) (HM.out c h0 h1 h2))⟩
          · go_wp2_with fail
            refine (HS2.out w3 HK3.out.1.2.2 (by omega) (by omega)).mono ?_
            rintro e w4 ⟨rfl, hr4, hg4⟩
            have HK4 := hidP (HK3.out.swap hr4 hg4 (by omega) (by omega) hn')
            have HD4 := hidP (downS_stepT HD.out hsi hn' (by omega) (by omega) (by unfold parT; omega) HM.out hf)
            clear hr4 hg4 MS3
            go_wp2
            go_roundw
            case rel => exact ⟨2 * i + 1, _, by go_num, by omega, by omega, HK4.out, HD4.out⟩
            case measure => simp [intOf]; omega
        · have HM : Hid (∀ c, 0 < c → c < n → parT c = i → leT (tnth l' (2 * i + 2)) (tnth l' c)) := fun c h0 h1 h2 => by
                    rcases kidsT c i h0 h2 with rfl | rfl
                    · exact leT_of_ahead ha
                    · exact leT_refl _
          have HC2 := hidP (iLessT g 0 l'.length c (2 * i + 2) i l' w2 HK2.out.1.2.2.lt.2 HK2.out.1.2.2.seg (Nat.le_refl _))
          have HS2 := hidP (fun w3 h3 => iSwapT base g c i (2 * i + 2) l' w3 h3)
          rw [show ((2 * i + 2 : Nat) : Int) = 2 * (i : Int) + 1 + 1 by omega] at HC2 HS2
          go_wp2_with fail
          refine (HC2.out (by omega) (by omega)).mono ?_
          rintro e w3 ⟨rfl, hb3⟩
          have HK3 := hidP (HK2.out.below hb3)
          have MS3 := method_valT row_SwapT p _ _ _ w3 HK3.out.1.cell
          clear hb3 ML2
          rcases hf : thAhead (tnth l' (2 * i + 2)) (tnth l' i) with _ | _
          · go_wp2
            go_ret
            exact ⟨⟨_, rfl⟩, l', HK3.out, downS_doneT HD.out (fun c h0 h1 h2 => leT_trans ((thAhead_false _ _).1 hf) (HM.out c h0 h1 h2))⟩
          · go_wp2_with fail
            refine (HS2.out w3 HK3.out.1.2.2 (by omega) (by omega)).mono ?_
            rintro e w4 ⟨rfl, hr4, hg4⟩
            have HK4 := hidP (HK3.out.swap hr4 hg4 (by omega) (by omega) hn')
            have HD4 := hidP (downS_stepT HD.out hsi hn' (by omega) (by omega) (by unfold parT; omega) HM.out hf)
            clear hr4 hg4 MS3
            go_wp2
            go_roundw
            case rel => exact ⟨2 * i + 2, _, by go_num, by omega, by omega, HK4.out, HD4.out⟩
            case measure => simp [intOf]; omega
      · have d1 : ¬ (2 * (i : Int) + 1 ≥ (n : Int)) := by omega
        have d2 : ¬ (2 * (i : Int) + 1 + 1 < (n : Int)) := by omega
        obtain ⟨w2, hw2⟩ : ∃ w2, w2 = wr := ⟨_, rfl⟩
        have HK2 : Hid (HKeptT base w w2 p g c l l' n) := by rw [hw2]; exact HK
        have ML2 := method_valT row_LessT p _ _ _ w2 HK2.out.1.cell
        subst hw2
        clear hc ML HC
        have HM : Hid (∀ c, 0 < c → c < n → parT c = i → leT (tnth l' (2 * i + 1)) (tnth l' c)) := fun c h0 h1 h2 => by
                rcases kidsT c i h0 h2 with rfl | rfl
                · exact leT_refl _
                · omega
        have HC2 := hidP (iLessT g 0 l'.length c (2 * i + 1) i l' w2 HK2.out.1.2.2.lt.2 HK2.out.1.2.2.seg (Nat.le_refl _))
        have HS2 := hidP (fun w3 h3 => iSwapT base g c i (2 * i + 1) l' w3 h3)
        rw [show ((2 * i + 1 : Nat) : Int) = 2 * (i : Int) + 1 by omega] at HC2 HS2
        go_wp2_with fail
        refine (HC2.out (by omega) (by omega)).mono ?_
        rintro e w3 ⟨rfl, hb3⟩
        have HK3 := hidP (HK2.out.below hb3)
        have MS3 := method_valT row_SwapT p _ _ _ w3 HK3.out.1.cell
        clear hb3 ML2
        rcases hf : thAhead (tnth l' (2 * i + 1)) (tnth l' i) with _ | _
        · go_wp2
          go_ret
          exact ⟨⟨_, rfl⟩, l', HK3.out, downS_doneT HD.out (fun c h0 h1 h2 => leT_trans ((thAhead_false _ _).1 hf) (HM.out c h0 h1 h2))⟩
        · go_wp2_with fail
          refine (HS2.out w3 HK3.out.1.2.2 (by omega) (by omega)).mono ?_
          rintro e w4 ⟨rfl, hr4, hg4⟩
          have HK4 := hidP (HK3.out.swap hr4 hg4 (by omega) (by omega) hn')
          have HD4 := hidP (downS_stepT HD.out hsi hn' (by omega) (by omega) (by unfold parT; omega) HM.out hf)
          clear hr4 hg4 MS3
          go_wp2
          go_roundw
          case rel => exact ⟨2 * i + 1, _, by go_num, by omega, by omega, HK4.out, HD4.out⟩
          case measure => simp [intOf]; omega
    · have d1 : (2 * (i : Int) + 1 ≥ (n : Int)) := by omega
      clear hk hdn hc ML e1 e2
      go_wp2
      go_ret
      exact ⟨⟨_, rfl⟩, l', HK.out, downS_doneT HD.out (fun c h0 h1 h2 => by
        rcases kidsT c i h0 h2 with rfl | rfl
        · omega
        · omega)⟩

end Go.Proofs.Ytfbindjacmaeoaa
namespace Go.Proofs.Ytfbindjacmaeoaa
open Go Go.RowKit

set_option maxRecDepth 100000 in
set_option maxHeartbeats 4000000 in
theorem iInitT (base p g c : Nat) (l : List Th) (w : World) (h : HAtT base w p g c l) (hl : l.length ≤ 1048576) :
    Calls Try.prog 89 #[.iface 73 (.pointer (some ⟨p, 0, none⟩))] w fun e w' => e = .returned (.tuple #[]) ∧ ∃ l', HAtT base w' p g c l' ∧ w.grownBy w' (some g) ∧ l'.Perm l ∧ HeapNT l' l'.length := by
  have ML := method_valT row_LenT p _ _ _ w h.cell
  obtain ⟨m, hm⟩ : ∃ m, m = l.length / 2 := ⟨_, rfl⟩
  have hm2 : m ≤ 1048576 := by omega
  have HL := hidP (iLenT (some ⟨g, 0, none⟩) l.length c w)
  have HM := hidP hm
  clear hm
  go_enter Try.func89, Try.ntmps89
  go_wp2_with fail
  refine HL.out.mono ?_
  rintro e w2 ⟨rfl, rfl⟩
  go_wp2
  go_loopw [3] (fun vi wr => ∃ (k : Nat) (l' : List Th), vi = .int .i64 ((k : Int) - 1) ∧ k ≤ m ∧ HKeptT base w2 wr p g c l l' l.length ∧ HeapST k l' l.length) (fun vi _ => (intOf vi + 1).toNat)
  case atStart => exact ⟨m, l, by congr 1; have := HM.out; omega, Nat.le_refl _, ⟨h, grown_refl _ _, List.Perm.refl _, fun _ _ => rfl⟩, by rw [HM.out]; exact heapS_halfT l l.length⟩
  case round =>
    obtain ⟨k, l', rfl, hk, hkept, hs⟩ := hrel
    have HK := hidP hkept
    have HS := hidP hs
    have HLL := hidP (hkept.2.2.1.length_eq)
    clear hkept hs
    match k, hk, HS with
    | 0, hk, HS =>
      have d1 : ¬ ((((0 : Nat) : Int) - 1) ≥ 0) := by omega
      go_wp2
      go_end0
      exact ⟨rfl, l', HK.out.1, HK.out.2.1, HK.out.2.2.1, by rw [HLL.out]; exact heapS_zeroT HS.out⟩
    | j + 1, hk, HS =>
      have e1 : (((j + 1 : Nat) : Int) - 1) = (j : Int) := by omega
      have x3 : wrap64 ((j : Int) - 1) = (j : Int) - 1 := by unfold wrap64; omega
      have d1 : (j : Int) ≥ 0 := by omega
      have HD := hidP (iDownT base p g c j j l.length l' wr HK.out.1 (by rw [HLL.out]; exact Nat.le_refl _) (by rw [HLL.out]; exact hl) (Nat.le_refl _) (by have := HM.out; omega) (downS_initT HS.out))
      rw [e1]
      clear e1
      go_wp2_with fail
      refine HD.out.mono ?_
      rintro e w3 ⟨⟨b, rfl⟩, l2, hk2, hs2⟩
      have HK2 : Hid (HKeptT base w2 w3 p g c l l2 l.length) := ⟨hk2.1, grown_trans HK.out.2.1 hk2.2.1, hk2.2.2.1.trans HK.out.2.2.1, fun q hq => (hk2.2.2.2 q hq).trans (HK.out.2.2.2 q hq)⟩
      have HS2 := hidP hs2
      clear hk2 hs2
      go_wp2
      go_roundw
      case rel => exact ⟨j, l2, by go_num, by omega, HK2.out, HS2.out⟩
      case measure => simp [intOf]

set_option maxRecDepth 100000 in
set_option maxHeartbeats 1000000 in
theorem iInit0T (p : Nat) (w : World) (h : w.cell? ⟨p, 0, none⟩ = some (.slice none 0 0)) :
    Calls Try.prog 89 #[.iface 73 (.pointer (some ⟨p, 0, none⟩))] w fun e w' => e = .returned (.tuple #[]) ∧ w' = w := by
  have ML := method_valT row_LenT p _ _ _ w h
  have HL := hidP (iLenT none 0 0 w)
  go_enter Try.func89, Try.ntmps89
  go_wp2_with fail
  refine HL.out.mono ?_
  rintro e w2 ⟨rfl, rfl⟩
  go_wp2
  go_loop [3] (fun vi => vi = .int .i64 (-1)) (fun _ => 0)
  case atStart => exact rfl
  case round =>
    subst hrel
    go_wp2
    go_end0
    exact ⟨rfl, rfl⟩

/-- Of the blocks that were there, at most p and g have changed. -/
def ChgT (p g : Nat) (w w' : World) : Prop := w'.os = w.os ∧ w'.tape = w.tape ∧ w'.output = w.output ∧ w.heap.size ≤ w'.heap.size ∧ ∀ i, i < w.heap.size → i ≠ p → i ≠ g → w'.heap[i]? = w.heap[i]?
theorem ChgT.refl (p g : Nat) (w : World) : ChgT p g w w := ⟨rfl, rfl, rfl, Nat.le_refl _, fun _ _ _ _ => rfl⟩
theorem ChgT.trans {p g : Nat} {w w1 w2 : World} (h : ChgT p g w w1) (k : ChgT p g w1 w2) : ChgT p g w w2 :=
  ⟨k.1.trans h.1, k.2.1.trans h.2.1, k.2.2.1.trans h.2.2.1, Nat.le_trans h.2.2.2.1 k.2.2.2.1, fun i hi h1 h2 => (k.2.2.2.2 i (Nat.lt_of_lt_of_le hi h.2.2.2.1) h1 h2).trans (h.2.2.2.2 i hi h1 h2)⟩
theorem ChgT.row {p g : Nat} {w w' : World} (h : w.grownBy w' (some g)) : ChgT p g w w' := ⟨h.os, h.tape, h.output, h.size, fun i hi _ h2 => h.block i hi (fun e => h2 (by injection e))⟩
theorem ChgT.ptr {p g : Nat} {w w' : World} (h : w.grownBy w' (some p)) : ChgT p g w w' := ⟨h.os, h.tape, h.output, h.size, fun i hi h1 _ => h.block i hi (fun e => h1 (by injection e))⟩
theorem ChgT.below {p g : Nat} {w w' : World} (h : Below w.heap.size w w') : ChgT p g w w' := ⟨h.os, h.tape, h.output, h.size, fun i hi _ _ => h.block i hi⟩
theorem ChgT.far {p g q : Nat} {w w1 w2 : World} (h : ChgT p g w w1) (k : w1.grownBy w2 (some q)) (hq : w.heap.size ≤ q) : ChgT p g w w2 :=
  ⟨k.os.trans h.1, k.tape.trans h.2.1, k.output.trans h.2.2.1, Nat.le_trans h.2.2.2.1 k.size, fun i hi h1 h2 => (k.block i (Nat.lt_of_lt_of_le hi h.2.2.2.1) (fun e => by injection e with e; omega)).trans (h.2.2.2.2 i hi h1 h2)⟩

theorem take_lastT {l : List Th} {n : Nat} (h : l.length = n + 1) : l.take n ++ [tnth l n] = l := by
  have : tnth l n = l[n] := by simp [tnth, List.getD, h]
  rw [this, List.take_append_getElem]
  exact List.take_of_length_le (by omega)
theorem heap_takeT {l : List Th} {n : Nat} (h : HeapNT l n) (hn : n ≤ l.length) : HeapNT (l.take n) (l.take n).length := fun c h0 hc => by
  have hc2 : c < n := by simp at hc; omega
  have hp : parT c < n := by unfold parT; omega
  rw [tnth_take _ _ _ hc2, tnth_take _ _ _ hp]
  exact h c h0 hc2

set_option maxRecDepth 100000 in
set_option maxHeartbeats 4000000 in
/-- The first one is handed out. -/
theorem iHPopT (base p g c n : Nat) (l : List Th) (w : World) (h : HAtT base w p g c l) (hl : l.length = n + 1) (hn : n ≤ 1048575) (hh : HeapNT l l.length) :
    Calls Try.prog 113 #[.iface 73 (.pointer (some ⟨p, 0, none⟩))] w fun e w' => e = .returned (.iface 41 (.agg #[.int .i64 (tnth l 0).1, .int .i64 (tnth l 0).2.1, .int .i64 (tnth l 0).2.2])) ∧ ∃ l', HAtT base w' p g c l' ∧ ChgT p g w w' ∧ (tnth l 0 :: l').Perm l ∧ HeapNT l' l'.length := by
  have ML := method_valT row_LenT p _ _ _ w h.cell
  have MS := method_valT row_SwapT p _ _ _ w h.cell
  have HL := hidP (iLenT (some ⟨g, 0, none⟩) l.length c w)
  have HS := hidP (iSwapT base g c 0 n l w h.2.2 (by omega) (by omega))
  have HH := hidP (And.intro h (And.intro hl hh))
  have x1 : wrap64 ((l.length : Int) - 1) = (n : Int) := by unfold wrap64; omega
  clear h hl hh
  go_enter Try.func113, Try.ntmps113
  go_wp2_with fail
  refine HL.out.mono ?_
  rintro e w2 ⟨rfl, rfl⟩
  go_wp2_with fail
  refine HS.out.mono ?_
  rintro e w3 ⟨rfl, hr3, hg3⟩
  obtain ⟨h, hl, hh⟩ := HH.out
  have h3 := h.put hr3 (swapL_lengthT _ _ _) hg3
  rw [hl] at hh
  have hd := iDownT base p g c 0 0 n (swapLT l 0 n) w3 h3 (by rw [swapL_lengthT]; omega) (by rw [swapL_lengthT]; omega) (Nat.le_refl _) (Nat.zero_le _) (downS_popT hh (by omega))
  have HD := hidP hd
  have HG3 := hidP hg3
  clear h hl hh h3 hd hr3 hg3 MS ML HS HL
  go_wp2_with fail
  refine HD.out.mono ?_
  rintro e w4 ⟨⟨b, rfl⟩, l4, hk4, hs4⟩
  obtain ⟨h, hl, hh⟩ := HH.out
  have hl4 : l4.length = n + 1 := by rw [hk4.2.2.1.length_eq, swapL_lengthT]; exact hl
  have e4 : tnth l4 n = tnth l 0 := by
    rw [hk4.2.2.2 n (Nat.le_refl _), swapL_atT l 0 n n (by omega) (by omega) (by omega), if_pos rfl]
  have hp4 : (tnth l 0 :: l4.take n).Perm l := by
    have := take_lastT hl4
    rw [e4] at this
    refine List.Perm.trans ?_ (hk4.2.2.1.trans (swapL_permT l 0 n (by omega) (by omega)))
    rw [← this]
    exact (List.perm_append_singleton _ _).symm.trans (by rw [List.take_left' (by simp; omega)])
  have HP := hidP (iPopT base p g c n l4 w4 hk4.1 hl4 (by omega))
  rw [e4] at HP
  have HF : Hid (ChgT p g w2 w4 ∧ (tnth l 0 :: l4.take n).Perm l ∧ HeapNT (l4.take n) (l4.take n).length) := ⟨(ChgT.row HG3.out).trans (ChgT.row hk4.2.1), hp4, heap_takeT (heapS_zeroT hs4) (by omega)⟩
  have MP := method_ptrT row_PopT p w4
  clear h hl hh hl4 e4 hp4 hk4 hs4 HD
  go_wp2_with fail
  refine HP.out.mono ?_
  rintro e w5 ⟨rfl, h5, hg5⟩
  go_wp2
  go_ret
  exact ⟨rfl, _, h5, HF.out.1.trans (ChgT.ptr hg5), HF.out.2.1, HF.out.2.2⟩

end Go.Proofs.Ytfbindjacmaeoaa
namespace Go.Proofs.Ytfbindjacmaeoaa
open Go Go.RowKit

theorem HAtT.other {base : Nat} {w w' : World} {p g c q : Nat} {l : List Th} (h : HAtT base w p g c l) (hg : w.grownBy w' (some q)) (h1 : p ≠ q) (h2 : g ≠ q) : HAtT base w' p g c l :=
  ⟨h.1, (hg.block p h.lt (fun e => h1 (by injection e))).trans h.2.1, h.2.2.kept hg (fun e => h2 (by injection e))⟩
theorem assert_hitT (v : Value) (w : World) : Sem.run Try.prog (Instr.typeAssert (.iface 41 v) 20 41 false) w = .ok v w := by
  unfold Instr.typeAssert
  simp [go_sem]

theorem three_set (w : World) (b : Nat) (t : Th) {x0 x1 x2 : Value} (h0 : w.cell? ⟨b, 0, none⟩ = some x0) (h1 : w.cell? ⟨b, 1, none⟩ = some x1) (h2 : w.cell? ⟨b, 2, none⟩ = some x2) :
    (((w.setCell ⟨b, 0, none⟩ (.int .i64 t.1)).setCell ⟨b, 1, none⟩ (.int .i64 t.2.1)).setCell ⟨b, 2, none⟩ (.int .i64 t.2.2)).cell? ⟨b, 0, none⟩ = some (.int .i64 t.1) ∧ (((w.setCell ⟨b, 0, none⟩ (.int .i64 t.1)).setCell ⟨b, 1, none⟩ (.int .i64 t.2.1)).setCell ⟨b, 2, none⟩ (.int .i64 t.2.2)).cell? ⟨b, 1, none⟩ = some (.int .i64 t.2.1) ∧ (((w.setCell ⟨b, 0, none⟩ (.int .i64 t.1)).setCell ⟨b, 1, none⟩ (.int .i64 t.2.1)).setCell ⟨b, 2, none⟩ (.int .i64 t.2.2)).cell? ⟨b, 2, none⟩ = some (.int .i64 t.2.2) ∧ w.grownBy (((w.setCell ⟨b, 0, none⟩ (.int .i64 t.1)).setCell ⟨b, 1, none⟩ (.int .i64 t.2.1)).setCell ⟨b, 2, none⟩ (.int .i64 t.2.2)) (some b) := by
  refine ⟨?_, ?_, ?_, grown_set (grown_set (grown_set (grown_refl _ _)))⟩
  · rw [cell_setOther _ _ _ _ _ (by omega), cell_setOther _ _ _ _ _ (by omega)]
    exact World.cell?_setCell_same _ _ _ h0
  · rw [cell_setOther _ _ _ _ _ (by omega)]
    exact World.cell?_setCell_same _ _ _ (by rw [cell_setOther _ _ _ _ _ (by omega)]; exact h1)
  · exact World.cell?_setCell_same _ _ _ (by rw [cell_setOther _ _ _ _ _ (by omega), cell_setOther _ _ _ _ _ (by omega)]; exact h2)
set_option maxRecDepth 100000 in
set_option maxHeartbeats 2000000 in
theorem iNextT (base p g c n : Nat) (l : List Th) (w : World) (h : HAtT base w p g c l) (hl : l.length = n + 1) (hn : n ≤ 1048575) (hh : HeapNT l l.length) :
    Calls Try.prog 90 #[.pointer (some ⟨p, 0, none⟩)] w fun e w' => e = .returned (.agg #[.int .i64 (tnth l 0).1, .int .i64 (tnth l 0).2.1, .int .i64 (tnth l 0).2.2]) ∧ ∃ l', HAtT base w' p g c l' ∧ ChgT p g w w' ∧ (tnth l 0 :: l').Perm l ∧ HeapNT l' l'.length := by
  have hB := (Below.refl w.heap.size w).alloc (Nat.le_refl _) (.cells #[.int .i64 0, .int .i64 0, .int .i64 0] 41)
  have HP := hidP (iHPopT base p g c n l _ (h.below hB) hl hn hh)
  have HB := hidP (And.intro hB (And.intro h.lt h.2.2.lt.2))
  have hx : (w.alloc (.cells #[.int .i64 0, .int .i64 0, .int .i64 0] 41)).heap[w.heap.size]? = some (.cells #[.int .i64 0, .int .i64 0, .int .i64 0] 41 (0, 0)) := by unfold World.alloc; simp only [Array.getElem?_push_size]
  have HX := hidP hx
  clear h hl hh hB hx
  go_enter Try.func90, Try.ntmps90
  go_wp2_with fail
  refine HP.out.mono ?_
  rintro e w2 ⟨rfl, l2, h2, hc2, hp2, hh2⟩
  have hb2 : w2.heap[w.heap.size]? = some (.cells #[.int .i64 0, .int .i64 0, .int .i64 0] 41 (0, 0)) := by
    obtain ⟨_, h1, h3⟩ := HB.out
    rw [hc2.2.2.2.2 w.heap.size (by simp) (by omega) (by omega)]
    exact HX.out
  have hc0 : w2.cell? ⟨w.heap.size, 0, none⟩ = some (.int .i64 0) := by simp [World.cell?, hb2]
  have hc1 : w2.cell? ⟨w.heap.size, 1, none⟩ = some (.int .i64 0) := by simp [World.cell?, hb2]
  have hc2x : w2.cell? ⟨w.heap.size, 2, none⟩ = some (.int .i64 0) := by simp [World.cell?, hb2]
  have hf0 : w2.frozen? ⟨w.heap.size, 0, none⟩ = false := by simp [World.frozen?, hb2]
  have hf1 : w2.frozen? ⟨w.heap.size, 1, none⟩ = false := by simp [World.frozen?, hb2]
  have hf2 : w2.frozen? ⟨w.heap.size, 2, none⟩ = false := by simp [World.frozen?, hb2]
  have HE := hidP (And.intro h2 (And.intro hc2 (And.intro hp2 hh2)))
  clear h2 hc2 hp2 hh2 hb2
  have TA := assert_hitT (.agg #[.int .i64 (tnth l 0).1, .int .i64 (tnth l 0).2.1, .int .i64 (tnth l 0).2.2]) w2
  go_wp2
  obtain ⟨k0, k1, k2, hg⟩ := three_set w2 w.heap.size (tnth l 0) hc0 hc1 hc2x
  refine bodyPost_ret (v := .agg #[.int .i64 (tnth l 0).1, .int .i64 (tnth l 0).2.1, .int .i64 (tnth l 0).2.2]) (by simp [results, Try.results90, go_sem, k0, k1, k2]) rfl ?_
  obtain ⟨h2, hc2, hp2, hh2⟩ := HE.out
  obtain ⟨hB, hlp, hlg⟩ := HB.out
  exact ⟨rfl, l2, h2.other hg (by omega) (by omega), ((ChgT.below hB).trans hc2).far hg (Nat.le_refl _), hp2, hh2⟩

end Go.Proofs.Ytfbindjacmaeoaa
