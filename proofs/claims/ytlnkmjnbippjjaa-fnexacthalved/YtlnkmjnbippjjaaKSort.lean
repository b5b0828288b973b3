/-
  The program's inOrder: a copy of some marks, sorted by whatever order parts them.
-/
import Derived.Test.YtlnkmjnbippjjaaKCmp
import Derived.Test.YtlnkmjnbippjjaaKLay
import Derived.Laws.CopyOwn
namespace Go.Proofs.Ytlnkmjnbippjjaa
open Go Go.RowKit

/-- copy(dst, src) over the whole of a row that is known whole, elements of some cells. -/
theorem run_copy_whole {P : Program} (w : World) (dT sT ty elem : TypeId) (g n size dCap : Nat) (a : Addr) (sCap : Nat) (cur : Array Value) (t : TypeId) (cs : List Value)
    (hu : P.underlying dT = some (.slice elem)) (hs : (P.info? elem).map (·.size) = some size)
    (hg : w.heap[g]? = some (.cells cur t (0, 0))) (hn : cs.length = n * size) (hz : cur.size = n * size)
    (hsrc : ∀ j v, cs[j]? = some v → w.cell? (a.add j) = some v) (h1 : ∀ v ∈ cs, v.oneCell' = true) :
    (Builtin.copy_ #[dT, sT] ty #[.slice (some ⟨g, 0, none⟩) n dCap, .slice (some a) n sCap]).run P w = .ok (goInt n) (w.setRow g cs.toArray) := by
  have hl := run_loadCells_list (P := P) w a cs hsrc
  have hst := run_storeCells_at P g 0 t cs 0 cur w hg (by simp; omega) h1
  have e : (cur.toList.take (0 + 0) ++ cs ++ cur.toList.drop (0 + 0 + cs.length)).toArray = cs.toArray := by
    rw [List.drop_of_length_le (by simp; omega)]; simp
  rw [e] at hst
  cases hq : P.info? elem with
  | none => simp [hq] at hs
  | some i =>
    have hi : i.size = size := by simpa [hq] using hs
    rw [hn] at hl
    simp [Builtin.copy_, run_underlying hu, Builtin.lenOf, Builtin.firstCells, sizeOf, typeInfo, hq, hi, hl, hst]

def smEnc (d : Sm) : List Value := [.int .i64 d.1, .slice d.2.1 d.2.2.2.length d.2.2.1]
abbrev InL (ds : List Sm) := { d : Sm // d ∈ ds }
def enL (ds : List Sm) (x : InL ds) : List Value := smEnc x.1
def valsL {ds : List Sm} (d : Array (InL ds)) : List Sm := d.toList.map (·.1)

theorem flat_cells {ds : List Sm} [Inhabited (InL ds)] (d : Array (InL ds)) (t : Nat) (h : t < d.size * 2) : (smCells (valsL d))[t]? = some ((Go.Sort.flatK (enL ds) 2 d)[t]!) := by
  rw [Go.Sort.get_flatK _ _ _ _ h]
  have hi : t / 2 < d.size := by omega
  have hl : t / 2 < (valsL d).length := by simp [valsL]; exact hi
  obtain ⟨c0, c1⟩ := smCells_at (valsL d) (t / 2) hl
  have e : snth (valsL d) (t / 2) = (d[t / 2]!).1 := by
    rw [snth_get hl]; simp [valsL, hi]
  rcases Nat.mod_two_eq_zero_or_one t with hm | hm
  · have e2 : t = t / 2 * 2 := by omega
    rw [← e2, e] at c0
    rw [c0, hm]; rfl
  · have e2 : t = t / 2 * 2 + 1 := by omega
    rw [← e2, e] at c1
    rw [c1, hm]; rfl
theorem holds_of {ds : List Sm} [Inhabited (InL ds)] (d : Array (InL ds)) (w : World) (b : Nat) (T : TypeId) (h : w.heap[b]? = some (.cells (smCells (valsL d)).toArray T (0, 0))) : Go.Sort.HoldsK (enL ds) 2 w b 0 d := by
  intro j hj
  rw [Go.Sort.size_flatK] at hj
  refine ⟨?_, by simp [World.frozen?, h]⟩
  have := flat_cells d j hj
  simp [World.cell?, h]
  simpa using this
theorem seg_of {ds : List Sm} [Inhabited (InL ds)] (d : Array (InL ds)) (w : World) (b : Nat) (h : Go.Sort.HoldsK (enL ds) 2 w b 0 d) : SSeg w b 0 (valsL d) := by
  intro i hi
  have hl : i < d.size := by simpa [valsL] using hi
  obtain ⟨c0, c1⟩ := smCells_at (valsL d) i hi
  have h0 := (h (i * 2) (by rw [Go.Sort.size_flatK]; omega)).1
  have h1 := (h (i * 2 + 1) (by rw [Go.Sort.size_flatK]; omega)).1
  rw [flat_cells d (i * 2) (by omega)] at c0
  rw [flat_cells d (i * 2 + 1) (by omega)] at c1
  injection c0 with c0
  injection c1 with c1
  simp only [id] at h0 h1
  rw [c0] at h0
  rw [c1] at h1
  exact ⟨h0, by rw [Nat.add_assoc]; exact h1⟩
theorem below_sorted {α : Type} [Inhabited α] (enc : α → List Value) (k : Nat) (w : World) (blk off m : Nat) (d : Array α) (os : Array Obj) (hb : blk ≤ w.heap.size) : Below blk w (Go.Proofs.sortWorldK enc k w blk off m d os) := by
  refine ⟨rfl, rfl, rfl, ?_, fun i hi => ?_⟩
  · simp [Go.Proofs.sortWorldK, Go.Sort.grow, Go.Sort.putRowK, Go.Sort.putRow, Go.Sort.mapBlock, Go.Sort.ahead]
  · rcases Nat.lt_or_ge i w.heap.size with h | h
    · simp only [Go.Proofs.sortWorldK, Go.Sort.grow, Go.Sort.putRowK, Go.Sort.putRow, Go.Sort.mapBlock, Go.Sort.ahead]
      rw [Array.getElem?_append_left (by simpa using h), Array.getElem?_modify, if_neg (by omega)]
    · omega
theorem perm_vals {ds : List Sm} [Inhabited (InL ds)] (d d' : Array (InL ds)) (h : Go.Sort.PermIn 0 d.size d d') : (valsL d').Perm (valsL d) := by
  obtain ⟨hs, _, hp⟩ := h
  have e1 : d'.extract 0 d.size = d' := by rw [← hs]; simp
  have e2 : d.extract 0 d.size = d := by simp
  rw [e1, e2] at hp
  exact hp.map _
theorem sorted_vals {ds : List Sm} [Inhabited (InL ds)] (cf : Sm → Sm → Int) (d : Array (InL ds)) (n : Nat) (hn : d.size = n) (h : Go.Sort.SortedIn (Go.Proofs.ltOf fun x y : InL ds => cf x.1 y.1) 0 n d) : SortedBy (fun a b => decide (cf a b < 0)) (valsL d) := by
  unfold SortedBy valsL
  rw [List.pairwise_iff_getElem]
  intro i j hi hj hij
  simp at hi hj
  have := h i j (Nat.zero_le _) hij (by omega)
  simp only [Go.Proofs.ltOf] at this
  simpa [hi, hj] using this

end Go.Proofs.Ytlnkmjnbippjjaa
