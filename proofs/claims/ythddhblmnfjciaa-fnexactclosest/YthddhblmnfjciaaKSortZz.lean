/-
  The program's inOrder: a copy of some marks, sorted by whatever order parts them.
  The program's inOrder, walked.
-/
import Derived.Test.YthddhblmnfjciaaKCmpZz
import Derived.Test.YthddhblmnfjciaaKLay
import Derived.Laws.CopyOwn
import Derived.Test.YthddhblmnfjciaaMCopyZz
namespace Go.Proofs.Ythddhblmnfjciaa
open Go Go.RowKit

/-- copy(dst, src) over the whole of a row that is known whole, elements of some cells. -/
theorem run_copy_whole {P : Program} (w : World) (dT sT ty elem : TypeId) (g n size dCap : Nat) (a : Addr) (sCap : Nat) (cur : Array Value) (t : TypeId) (cs : List Value)
    (hu : P.underlying dT = some (.slice elem)) (hs : (P.info? elem).map (·.size) = some size)
    (hg : w.heap[g]? = some (.cells cur t (0, 0))) (hn : cs.length = n * size) (hz : cur.size = n * size)
    (hsrc : ∀ j v, cs[j]? = some v → w.cell? (a.add j) = some v) (h1 : ∀ v ∈ cs, v.oneCell' = true) :
    (Builtin.copy_ #[dT, sT] ty #[.slice (some ⟨g, 0, none⟩) n dCap, .slice (some a) n sCap]).run P w = .ok (goInt n) (w.setRow g cs.toArray) := by
  have hl := run_loadCells_list (P := P) w a cs hsrc
  have hst := run_storeCells_at P g 0 t cs 0 cur w hg (by simp; omega) h1
  have e : (cur.toList.take (0 + 0) ++ cs ++ cur.toList.drop (0 + 0 + cs.length)).toArray = cs.toArray := by
    rw [List.drop_of_length_le (by simp; omega)]; simp
  rw [e] at hst
  cases hq : P.info? elem with
  | none => simp [hq] at hs
  | some i =>
    have hi : i.size = size := by simpa [hq] using hs
    rw [hn] at hl
    simp [Builtin.copy_, run_underlying hu, Builtin.lenOf, Builtin.firstCells, sizeOf, typeInfo, hq, hi, hl, hst]

def smEnc (d : Sm) : List Value := [.int .i64 d.1, .slice d.2.1 d.2.2.2.length d.2.2.1]
abbrev InL (ds : List Sm) := { d : Sm // d ∈ ds }
def enL (ds : List Sm) (x : InL ds) : List Value := smEnc x.1
def valsL {ds : List Sm} (d : Array (InL ds)) : List Sm := d.toList.map (·.1)

theorem flat_cells {ds : List Sm} [Inhabited (InL ds)] (d : Array (InL ds)) (t : Nat) (h : t < d.size * 2) : (smCells (valsL d))[t]? = some ((Go.Sort.flatK (enL ds) 2 d)[t]!) := by
  rw [Go.Sort.get_flatK _ _ _ _ h]
  have hi : t / 2 < d.size := by omega
  have hl : t / 2 < (valsL d).length := by simp [valsL]; exact hi
  obtain ⟨c0, c1⟩ := smCells_at (valsL d) (t / 2) hl
  have e : snth (valsL d) (t / 2) = (d[t / 2]!).1 := by
    rw [snth_get hl]; simp [valsL, hi]
  rcases Nat.mod_two_eq_zero_or_one t with hm | hm
  · have e2 : t = t / 2 * 2 := by omega
    rw [← e2, e] at c0
    rw [c0, hm]; rfl
  · have e2 : t = t / 2 * 2 + 1 := by omega
    rw [← e2, e] at c1
    rw [c1, hm]; rfl
theorem holds_of {ds : List Sm} [Inhabited (InL ds)] (d : Array (InL ds)) (w : World) (b : Nat) (T : TypeId) (h : w.heap[b]? = some (.cells (smCells (valsL d)).toArray T (0, 0))) : Go.Sort.HoldsK (enL ds) 2 w b 0 d := by
  intro j hj
  rw [Go.Sort.size_flatK] at hj
  refine ⟨?_, by simp [World.frozen?, h]⟩
  have := flat_cells d j hj
  simp [World.cell?, h]
  simpa using this
theorem seg_of {ds : List Sm} [Inhabited (InL ds)] (d : Array (InL ds)) (w : World) (b : Nat) (h : Go.Sort.HoldsK (enL ds) 2 w b 0 d) : SSeg w b 0 (valsL d) := by
  intro i hi
  have hl : i < d.size := by simpa [valsL] using hi
  obtain ⟨c0, c1⟩ := smCells_at (valsL d) i hi
  have h0 := (h (i * 2) (by rw [Go.Sort.size_flatK]; omega)).1
  have h1 := (h (i * 2 + 1) (by rw [Go.Sort.size_flatK]; omega)).1
  rw [flat_cells d (i * 2) (by omega)] at c0
  rw [flat_cells d (i * 2 + 1) (by omega)] at c1
  injection c0 with c0
  injection c1 with c1
  simp only [id] at h0 h1
  rw [c0] at h0
  rw [c1] at h1
  exact ⟨h0, by rw [Nat.add_assoc]; exact h1⟩
theorem below_sorted {α : Type} [Inhabited α] (enc : α → List Value) (k : Nat) (w : World) (blk off m : Nat) (d : Array α) (os : Array Obj) (hb : blk ≤ w.heap.size) : Below blk w (Go.Proofs.sortWorldK enc k w blk off m d os) := by
  refine ⟨rfl, rfl, rfl, ?_, fun i hi => ?_⟩
  · simp [Go.Proofs.sortWorldK, Go.Sort.grow, Go.Sort.putRowK, Go.Sort.putRow, Go.Sort.mapBlock, Go.Sort.ahead]
  · rcases Nat.lt_or_ge i w.heap.size with h | h
    · simp only [Go.Proofs.sortWorldK, Go.Sort.grow, Go.Sort.putRowK, Go.Sort.putRow, Go.Sort.mapBlock, Go.Sort.ahead]
      rw [Array.getElem?_append_left (by simpa using h), Array.getElem?_modify, if_neg (by omega)]
    · omega
theorem perm_vals {ds : List Sm} [Inhabited (InL ds)] (d d' : Array (InL ds)) (h : Go.Sort.PermIn 0 d.size d d') : (valsL d').Perm (valsL d) := by
  obtain ⟨hs, _, hp⟩ := h
  have e1 : d'.extract 0 d.size = d' := by rw [← hs]; simp
  have e2 : d.extract 0 d.size = d := by simp
  rw [e1, e2] at hp
  exact hp.map _
theorem sorted_vals {ds : List Sm} [Inhabited (InL ds)] (cf : Sm → Sm → Int) (d : Array (InL ds)) (n : Nat) (hn : d.size = n) (h : Go.Sort.SortedIn (Go.Proofs.ltOf fun x y : InL ds => cf x.1 y.1) 0 n d) : SortedBy (fun a b => decide (cf a b < 0)) (valsL d) := by
  unfold SortedBy valsL
  rw [List.pairwise_iff_getElem]
  intro i j hi hj hij
  simp at hi hj
  have := h i j (Nat.zero_le _) hij (by omega)
  simp only [Go.Proofs.ltOf] at this
  simpa [hi, hj] using this

end Go.Proofs.Ythddhblmnfjciaa
namespace Go.Proofs.Ythddhblmnfjciaa
open Go Go.RowKit

theorem vals_attach (ds : List Sm) : valsL (ds.attach.toArray) = ds := List.attach_map_subtype_val ds

set_option maxRecDepth 100000 in
set_option maxHeartbeats 1000000 in
theorem iInOrder (gf : Nat) (cb : Array Value) (cf : Sm → Sm → Int) (ao : Option Addr) (cap : Nat) (ds : List Sm) (w : World) (h0 : 0 < ds.length) (hn : ds.length ≤ 1048576) (hv : SView w ao ds)
    (eg : ∀ args w, (callFunc gf args).run Try.prog w = .ok (.enter gf args) w) (hO : Go.Sort.SWO (Go.Proofs.ltOf fun x y : InL ds => cf x.1 y.1))
    (hcmp : ∀ W, Below w.heap.size w W → ∀ x ∈ ds, ∀ y ∈ ds, Calls Try.prog gf (#[.agg (smEnc x).toArray, .agg (smEnc y).toArray] ++ cb) W fun e w' => e = .returned (.int .i64 (cf x y)) ∧ Grows W w') :
    Calls Try.prog 126 #[.slice ao ds.length cap, .func (.func gf) #[] cb] w fun e w' => ∃ b ds', e = .returned (.slice (some ⟨b, 0, none⟩) ds.length ds.length) ∧ ds'.Perm ds ∧ SortedBy (fun a b => decide (cf a b < 0)) ds' ∧ SSeg w' b 0 ds' ∧ w.heap.size ≤ b ∧ b < w'.heap.size ∧ Below w.heap.size w w' := by
  obtain ⟨b0, o0, rfl, hb0, hs0⟩ := hv.seg h0
  haveI : Inhabited (InL ds) := ⟨⟨snth ds 0, snth_mem h0⟩⟩
  have hmk := run_make_rows (P := Try.prog) 34 93 (.agg #[.int .i64 0, .slice none 0 0]) 2 32 Try.underlying34 Try.info93 .i64 .i64 ds.length (by omega) (by omega)
  have hA := alloc_belowK w (.cells (madeCells #[.int .i64 0, .slice none 0 0] (ds.length * 2)) 93)
  have hW1 : (w.alloc (.cells (madeCells #[.int .i64 0, .slice none 0 0] (ds.length * 2)) 93)).heap[w.heap.size]? = some (.cells (madeCells #[.int .i64 0, .slice none 0 0] (ds.length * 2)) 93 (0, 0)) := heap_alloc_new w _
  have hz1 : (w.alloc (.cells (madeCells #[.int .i64 0, .slice none 0 0] (ds.length * 2)) 93)).heap.size = w.heap.size + 1 := by simp
  have hcp := fun ty => run_copy_whole (P := Try.prog) (w.alloc (.cells (madeCells #[.int .i64 0, .slice none 0 0] (ds.length * 2)) 93)) 34 34 ty 93 w.heap.size ds.length 2 ds.length ⟨b0, o0, none⟩ cap _ 93 (smCells ds) Try.underlying34 (by have := Try.info93; cases hq : Try.prog.info? 93 with | none => rw [hq] at this; cases this | some i => rw [hq] at this; simp at this; simp [this]) hW1 (smCells_length ds) (by rw [size_madeCells]) (fun j v hv => (hs0.below hb0 hA).cells j v hv) (smCells_one ds)
  obtain ⟨W2, hW2⟩ : ∃ W2, W2 = (w.alloc (.cells (madeCells #[.int .i64 0, .slice none 0 0] (ds.length * 2)) 93)).setRow w.heap.size (smCells ds).toArray := ⟨_, rfl⟩
  have hB2 : Below w.heap.size w W2 := by rw [hW2]; exact below_setRow hA (Nat.le_refl _) _
  have hR2 : W2.heap[w.heap.size]? = some (.cells (smCells ds).toArray 93 (0, 0)) := by rw [hW2]; exact setRow_heap _ _ _ _ _ _ hW1
  have hz2 : W2.heap.size = w.heap.size + 1 := by rw [hW2]; simp [World.setRow]
  rw [← hW2] at hcp
  have hH : Go.Sort.HoldsK (enL ds) 2 W2 w.heap.size 0 ds.attach.toArray := holds_of _ _ _ 93 (by rw [vals_attach]; exact hR2)
  have hsz : ds.attach.toArray.size = ds.length := by simp
  have hcon := AnyQ.slices_SortFunc Try.sortM 2 Try.isAgg93 Try.sizeOf93 (enL ds) (fun _ => rfl) (fun x v hv => by simp [enL, smEnc] at hv; rcases hv with rfl | rfl <;> rfl) (fun x y => cf x.1 y.1) hO gf cb w.heap.size 0 ds.length ds.attach.toArray W2 eg
    (fun m os dk hdk x y => (hcmp _ (hB2.trans (below_sorted _ _ _ _ _ _ _ _ (by omega))) x.1 x.2 y.1 y.2)) hH (by omega) (by rw [hsz]; omega)
  rw [hsz] at hcon
  change Calls Try.prog 158 _ _ _ at hcon
  have HC : Hid (Calls Try.prog 158 #[.slice (some ⟨w.heap.size, 0, none⟩) ds.length ds.length, .func (.func gf) #[] cb] W2 fun e w' => e = .returned (.tuple #[]) ∧ ∃ ds', ds'.Perm ds ∧ SortedBy (fun a b => decide (cf a b < 0)) ds' ∧ SSeg w' w.heap.size 0 ds' ∧ w.heap.size < w'.heap.size ∧ Below w.heap.size w w') := by
    refine hcon.mono ?_
    rintro e w' ⟨he, d', n, os, hp, hso, rfl⟩
    have hp' : Go.Sort.PermIn 0 ds.attach.toArray.size ds.attach.toArray d' := by rw [hsz]; exact hp
    have hB3 := below_sorted (enL ds) 2 W2 w.heap.size 0 n d' os (by omega)
    refine ⟨he, valsL d', by have := perm_vals _ _ hp'; rwa [vals_attach] at this, sorted_vals cf d' ds.length (by rw [hp'.1, hsz]) hso, seg_of d' _ _ (holdsK_sortWorldK_c _ _ _ _ _ _ _ _ _ hH (by omega) hp'.1), by have := hB3.size; omega, hB2.trans hB3⟩
  clear hcon hH hsz hR2 hcmp hO eg hs0 hv hW1 hA this hB2
  go_enter Try.func126, Try.ntmps126
  go_wp2_with fail
  rw [← hW2]
  refine HC.out.mono ?_
  rintro e w3 ⟨rfl, ds', hp, hs, hseg, hlt, hL⟩
  have HE : Hid (ds'.Perm ds ∧ SortedBy (fun a b => decide (cf a b < 0)) ds' ∧ SSeg w3 w.heap.size 0 ds' ∧ w.heap.size < w3.heap.size ∧ Below w.heap.size w w3) := ⟨hp, hs, hseg, hlt, hL⟩
  clear hp hs hseg hlt hL HC hcp hmk hW2
  go_wp2_with fail
  go_ret
  exact ⟨w.heap.size, ds', rfl, HE.out.1, HE.out.2.1, HE.out.2.2.1, Nat.le_refl _, HE.out.2.2.2.1, HE.out.2.2.2.2⟩

theorem swo_ax {ds : List Sm} (ax : Nat) : Go.Sort.SWO (Go.Proofs.ltOf fun x y : InL ds => cfAx ax x.1 y.1) where
  irrefl x := by simp only [Go.Proofs.ltOf, cfAx_lt, smlt]; rw [axlt_not]; omega
  trans x y z h1 h2 := by simp only [Go.Proofs.ltOf, cfAx_lt, smlt] at *; rw [axlt_iff] at *; omega
  ntrans x y z h1 h2 := by simp only [Go.Proofs.ltOf, cfAx_lt, smlt] at *; rw [axlt_not] at *; omega
theorem swo_id {ds : List Sm} : Go.Sort.SWO (Go.Proofs.ltOf fun x y : InL ds => cfId x.1 y.1) where
  irrefl x := by simp only [Go.Proofs.ltOf, cfId_lt, smid, idlt]; simp
  trans x y z h1 h2 := by simp only [Go.Proofs.ltOf, cfId_lt, smid, idlt] at *; simp at *; omega
  ntrans x y z h1 h2 := by simp only [Go.Proofs.ltOf, cfId_lt, smid, idlt] at *; simp at *; omega
theorem sorted_ax {ax : Nat} {ds : List Sm} (h : SortedBy (fun a b => decide (cfAx ax a b < 0)) ds) : SortedBy (smlt ax) ds := by
  have e : (fun a b => decide (cfAx ax a b < 0)) = smlt ax := by funext a b; exact cfAx_lt ax a b
  rwa [e] at h
theorem sorted_id {ds : List Sm} (h : SortedBy (fun a b => decide (cfId a b < 0)) ds) : SortedBy smid ds := by
  have e : (fun a b => decide (cfId a b < 0)) = smid := by funext a b; exact cfId_lt a b
  rwa [e] at h

/-- By the axis whose number lies in block B. -/
theorem iByAxis (B ax : Nat) (ao : Option Addr) (cap : Nat) (ds : List Sm) (w : World) (h0 : 0 < ds.length) (hn : ds.length ≤ 1048576) (hv : SView w ao ds) (hl : SLies w ds) (hax : ∀ d ∈ ds, ax < d.2.2.2.length) (hB : B < w.heap.size) (hc : w.cell? ⟨B, 0, none⟩ = some (.int .i64 ax)) :
    Calls Try.prog 126 #[.slice ao ds.length cap, .func (.func 169) #[] #[.pointer (some ⟨B, 0, none⟩)]] w fun e w' => ∃ b ds', e = .returned (.slice (some ⟨b, 0, none⟩) ds.length ds.length) ∧ ds'.Perm ds ∧ SortedBy (smlt ax) ds' ∧ SSeg w' b 0 ds' ∧ w.heap.size ≤ b ∧ b < w'.heap.size ∧ Below w.heap.size w w' := by
  have eg : ∀ args w, (callFunc 169 args).run Try.prog w = .ok (.enter 169 args) w := enters_of Try.func169 (by kernel_rfl) rfl
  refine (iInOrder 169 #[.pointer (some ⟨B, 0, none⟩)] (cfAx ax) ao cap ds w h0 hn hv eg (swo_ax ax) (fun W L x hx y hy => ?_)).mono ?_
  · have hsz := L.size
    exact pByAxis B ax x y W (by omega) ((L.cell (p := ⟨B, 0, none⟩) hB).trans hc) ((hl x hx).next L) ((hl y hy).next L) (hax x hx) (hax y hy)
  · rintro e w' ⟨b, ds', he, hp, hs, h⟩
    exact ⟨b, ds', he, hp, sorted_ax hs, h⟩
theorem iSortId (ao : Option Addr) (cap : Nat) (ds : List Sm) (w : World) (h0 : 0 < ds.length) (hn : ds.length ≤ 1048576) (hv : SView w ao ds) :
    Calls Try.prog 126 #[.slice ao ds.length cap, .func (.func 127) #[] #[]] w fun e w' => ∃ b ds', e = .returned (.slice (some ⟨b, 0, none⟩) ds.length ds.length) ∧ ds'.Perm ds ∧ SortedBy smid ds' ∧ SSeg w' b 0 ds' ∧ w.heap.size ≤ b ∧ b < w'.heap.size ∧ Below w.heap.size w w' := by
  have eg : ∀ args w, (callFunc 127 args).run Try.prog w = .ok (.enter 127 args) w := enters_of Try.func127 (by kernel_rfl) rfl
  refine (iInOrder 127 #[] cfId ao cap ds w h0 hn hv eg swo_id (fun W L x hx y hy => ?_)).mono ?_
  · refine (pById x y W).mono ?_
    rintro e w' ⟨rfl, rfl⟩
    exact ⟨rfl, ((Grows.refl W).alloc _).alloc _⟩
  · rintro e w' ⟨b, ds', he, hp, hs, h⟩
    exact ⟨b, ds', he, hp, sorted_id hs, h⟩

end Go.Proofs.Ythddhblmnfjciaa
