/-
  A map of rows of marks under keys of four numbers, as the call makes it: its entries stand in the order in which they came.
-/
import Derived.Test.YtodielfilhodeaaProg
import Derived.Test.YtodielfilhodeaaMathZz
import Derived.Test.YtodielfilhodeaaPutZz
import Derived.DeepKeys4
import Derived.MapFrom
namespace Go.Proofs.Ytodielfilhodeaa
open Go Go.RowKit

theorem laidOutG : laidOutB Try.prog = true := by kernel_rfl
theorem keyLaw : WideMaps.KeyLaw Try.prog 148 := deep_law_laid laidOutG (m := 2) (by omega) (of_decide_eq_true (by kernel_rfl)) (by kernel_rfl) (by kernel_rfl)
/-- A cell as a key. -/
def keyV (xs : List Int) : Value := .agg #[.int .i64 (nth xs 0), .int .i64 (nth xs 1), .int .i64 (nth xs 2), .int .i64 (nth xs 3)]
def I64s (xs : List Int) : Prop := ∀ i, (Lit.int .i64 (nth xs i)).wf = true
theorem keyV_inj {xs ys : List Int} (hl : xs.length = ys.length) (h4 : xs.length ≤ 4) (h : keyV xs = keyV ys) : xs = ys := by
  simp only [keyV, Value.agg.injEq, Array.mk.injEq, List.cons.injEq, Value.int.injEq, true_and, and_true] at h
  refine list_eq_of_nth hl fun j hj => ?_
  have hj4 : j = 0 ∨ j = 1 ∨ j = 2 ∨ j = 3 := by omega
  rcases hj4 with rfl | rfl | rfl | rfl
  · exact h.1
  · exact h.2.1
  · exact h.2.2.1
  · exact h.2.2.2
theorem keyOf_keyV (xs : List Int) (h : I64s xs) : ∃ l, keyOf Try.prog 148 (keyV xs) = some l := by
  have hsz : ∃ n, Try.prog.types.size = n + 1 := ⟨Try.prog.types.size - 1, by have : 0 < Try.prog.types.size := of_decide_eq_true (by kernel_rfl); omega⟩
  obtain ⟨n, hsz⟩ := hsz
  have hk : Try.prog.keyType 148 = true := by kernel_rfl
  have hc : Try.prog.cellsOf 148 = 4 := by kernel_rfl
  have hc2 : Try.prog.cellsOf 2 = 1 := by kernel_rfl
  have h0 := h 0
  have h1 := h 1
  have h2 := h 2
  have h3 := h 3
  simp only [keyOf, Try.underlying148, hk, keyV, Value.formed, hc, Value.cells, hsz]
  simp only [Program.keyLits, Try.underlying148, hc, hc2]
  simp [List.range_succ, Try.underlying2, h0, h1, h2, h3]

/-- The entries, each with the number of its birth. -/
def mkE (gs : List (Value × Value)) : Array MapEntry := (gs.mapIdx fun i g => (⟨g.1, g.2, i⟩ : MapEntry)).toArray
def MapIs (w : World) (B : Nat) (gs : List (Value × Value)) : Prop := w.heap[B]? = some (.map (mkE gs) gs.length)
def setMap (w : World) (B : Nat) (gs : List (Value × Value)) : World := { w with heap := w.heap.setIfInBounds B (.map (mkE gs) gs.length) }
theorem mkE_size (gs : List (Value × Value)) : (mkE gs).size = gs.length := by simp [mkE]
theorem mkE_get (gs : List (Value × Value)) (i : Nat) (h : i < gs.length) : (mkE gs)[i]? = some ⟨gs[i].1, gs[i].2, i⟩ := by simp [mkE, h]
theorem mkE_push (gs : List (Value × Value)) (k v : Value) : (mkE gs).push ⟨k, v, gs.length⟩ = mkE (gs ++ [(k, v)]) := by
  apply Array.ext'
  simp [mkE, List.mapIdx_append]
theorem mkE_mem {gs : List (Value × Value)} {e : MapEntry} (h : e ∈ (mkE gs).toList) : ∃ g ∈ gs, e.key = g.1 ∧ e.val = g.2 := by
  obtain ⟨i, hi, rfl⟩ := List.getElem_of_mem h
  simp [mkE] at hi
  exact ⟨gs[i], List.getElem_mem hi, by simp [mkE], by simp [mkE]⟩
theorem mkE_modify (gs : List (Value × Value)) (j : Nat) (h : j < gs.length) (k v : Value) (f : MapEntry → MapEntry) (hf : f ⟨gs[j].1, gs[j].2, j⟩ = ⟨k, v, j⟩) : (mkE gs).modify j f = mkE (gs.set j (k, v)) := by
  apply Array.ext
  · simp [mkE]
  · intro i h1 h2
    rw [Array.getElem_modify]
    simp only [Array.size_modify, mkE_size] at h1
    by_cases hij : j = i
    · subst hij
      rw [if_pos rfl]
      have e1 : (mkE gs)[j]'(by rw [mkE_size]; exact h1) = ⟨gs[j].1, gs[j].2, j⟩ := by simp [mkE]
      have e2 : (mkE (gs.set j (k, v)))[j]'h2 = ⟨k, v, j⟩ := by simp [mkE]
      rw [e1, e2, hf]
    · rw [if_neg hij]
      simp [mkE, List.getElem_set_ne hij]
theorem setMap_same {w : World} {B : Nat} {gs : List (Value × Value)} (h : MapIs w B gs) : setMap w B gs = w := by
  unfold setMap
  have : w.heap.setIfInBounds B (.map (mkE gs) gs.length) = w.heap := by
    apply Array.ext
    · simp
    · intro i h1 h2
      simp only [Array.size_setIfInBounds] at h1
      rw [Array.getElem_setIfInBounds h1]
      split
      · rename_i e
        subst e
        unfold MapIs at h
        rw [Array.getElem?_eq_getElem h2] at h
        exact (Option.some.inj h).symm
      · rfl
  rw [this]
theorem MapIs.lt {w : World} {B : Nat} {gs : List (Value × Value)} (h : MapIs w B gs) : B < w.heap.size := (Array.getElem?_eq_some_iff.1 h).1
theorem MapIs.set {w : World} {B : Nat} {gs : List (Value × Value)} (h : MapIs w B gs) (hs : List (Value × Value)) : MapIs (setMap w B hs) B hs := by
  have := h.lt
  simp [MapIs, setMap, this]
theorem setMap_grown (w : World) (B : Nat) (hs : List (Value × Value)) : w.grownBy (setMap w B hs) (some B) :=
  ⟨rfl, rfl, rfl, by simp [setMap], fun i _ hi => by
    have hne : B ≠ i := fun e => hi (by rw [e])
    simp [setMap, hne]⟩
def KeysOk (gs : List (Value × Value)) : Prop := ∀ g ∈ gs, ∃ l, keyOf Try.prog 148 g.1 = some l
theorem run_find {w : World} {gs : List (Value × Value)} (hk : KeysOk gs) {key : Value} (hkey : ∃ l, keyOf Try.prog 148 key = some l) :
    ((Instr.findKey 148 key (mkE gs).toList).run Try.prog w = .ok none w ∧ ∀ g ∈ gs, g.1 ≠ key) ∨ ∃ j, ∃ h : j < gs.length, (Instr.findKey 148 key (mkE gs).toList).run Try.prog w = .ok (some (j, gs[j].2)) w ∧ gs[j].1 = key := by
  obtain ⟨l, hl⟩ := hkey
  rcases keyLaw.find w hl (mkE gs).toList (fun e he => by obtain ⟨g, hg, e1, _⟩ := mkE_mem he; rw [e1]; exact hk g hg) with ⟨h1, h2⟩ | ⟨j, e, h1, h2, h3⟩
  · refine Or.inl ⟨h1, fun g hg => ?_⟩
    obtain ⟨i, hi, rfl⟩ := List.getElem_of_mem hg
    exact h2 ⟨gs[i].1, gs[i].2, i⟩ (List.mem_of_getElem? (i := i) (by have := mkE_get gs i hi; simpa using this))
  · have hj : j < gs.length := by
      rcases Nat.lt_or_ge j gs.length with h | h
      · exact h
      · rw [List.getElem?_eq_none (by rw [Array.length_toList, mkE_size]; exact h)] at h2; cases h2
    have he : e = ⟨gs[j].1, gs[j].2, j⟩ := by
      have := mkE_get gs j hj
      rw [← Array.getElem?_toList] at this
      rw [this] at h2
      exact (Option.some.inj h2).symm
    subst he
    exact Or.inr ⟨j, hj, h1, h3⟩
theorem zeroMarks (w : World) : (zeroValue 30).run Try.prog w = .ok (.slice none 0 0) w := by kernel_rfl
theorem run_entry_new {w : World} {B : Nat} {gs : List (Value × Value)} (h : MapIs w B gs) (hk : KeysOk gs) {key : Value} (hkey : ∃ l, keyOf Try.prog 148 key = some l) (hno : ∀ g ∈ gs, g.1 ≠ key) :
    (Instr.mapEntry 138 (.map (some B)) key).run Try.prog w = .ok (.tuple #[.slice none 0 0, .int .i64 (gs.length : Int)]) (setMap w B (gs ++ [(key, .slice none 0 0)])) := by
  have hf : (Instr.findKey 148 key (mkE gs).toList).run Try.prog w = .ok none w := by
    rcases run_find (w := w) hk hkey with ⟨h1, _⟩ | ⟨j, hj, _, h3⟩
    · exact h1
    · exact absurd h3 (hno _ (List.getElem_mem hj))
  obtain ⟨l, hl⟩ := hkey
  have hz := zeroMarks w
  unfold MapIs at h
  simp only [Instr.mapEntry, Sem.run_bind, run_underlying Try.underlying138, MapKept.run_getObj_map h, keyLaw.check w false hl, hf, hz, MapKept.run_setObj_map _ h, Result.andThen]
  simp [setMap, mkE_push, goInt]
theorem run_entry_old {w : World} {B : Nat} {gs : List (Value × Value)} (h : MapIs w B gs) (hk : KeysOk gs) (hn : (gs.map (·.1)).Nodup) {j : Nat} (hj : j < gs.length) {key : Value} (hkey : ∃ l, keyOf Try.prog 148 key = some l) (he : gs[j].1 = key) :
    (Instr.mapEntry 138 (.map (some B)) key).run Try.prog w = .ok (.tuple #[gs[j].2, .int .i64 (j : Int)]) w := by
  have hf : (Instr.findKey 148 key (mkE gs).toList).run Try.prog w = .ok (some (j, gs[j].2)) w := by
    rcases run_find (w := w) hk hkey with ⟨_, h2⟩ | ⟨i, hi, h1, h3⟩
    · exact absurd he (h2 _ (List.getElem_mem hj))
    · have a1 : i < (gs.map (·.1)).length := by simpa using hi
      have a2 : j < (gs.map (·.1)).length := by simpa using hj
      have h4 : (gs.map (·.1))[i] = (gs.map (·.1))[j] := by simp [h3, he]
      have e := (List.getElem_inj hn).1 h4
      subst e
      exact h1
  obtain ⟨l, hl⟩ := hkey
  have hs := keyLaw.stays w hl
  have hsame := setMap_same h
  have hg := mkE_get gs j hj
  have hm : (mkE gs).modify j (fun e => { e with key := key }) = mkE gs := by
    rw [mkE_modify gs j hj key gs[j].2 _ rfl]
    have e1 : gs.set j (key, gs[j].2) = gs := by
      rw [← he]
      exact List.set_getElem_self hj
    rw [e1]
  unfold MapIs at h
  simp only [Instr.mapEntry, Sem.run_bind, run_underlying Try.underlying138, MapKept.run_getObj_map h, keyLaw.check w false hl, hf, hg, Option.map_some, Option.getD_some, he, hs, MapKept.run_setObj_map _ h, Result.andThen, hm]
  have hs2 : { w with heap := w.heap.setIfInBounds B (.map (mkE gs) gs.length) } = w := hsame
  rw [hs2]
  rfl
theorem run_entry_store {w : World} {B : Nat} {gs : List (Value × Value)} (h : MapIs w B gs) {j : Nat} (hj : j < gs.length) (v : Value) :
    (Instr.entryStore 138 (.map (some B)) (.int .i64 (j : Int)) v).run Try.prog w = .ok () (setMap w B (gs.set j (gs[j].1, v))) := by
  have hx : (mkE gs).findIdx? (fun e => (e.born : Int) == (j : Int)) = some j := by
    rw [Array.findIdx?_eq_some_iff_getElem]
    refine ⟨by rw [mkE_size]; exact hj, by simp [mkE], fun i hi => ?_⟩
    simp [mkE]
    omega
  have hm := mkE_modify gs j hj gs[j].1 v (fun e => { e with val := v }) rfl
  unfold MapIs at h
  simp only [Instr.entryStore, Sem.run_bind, MapKept.run_getObj_map h, asInt, asIntOf, Result.andThen]
  simp only [Sem.run_pure]
  rw [hx]
  simp only [MapKept.run_setObj_map _ h, hm]
  simp [setMap]
theorem run_look_new {w : World} {B : Nat} {gs : List (Value × Value)} (h : MapIs w B gs) (hk : KeysOk gs) {key : Value} (hkey : ∃ l, keyOf Try.prog 148 key = some l) (hno : ∀ g ∈ gs, g.1 ≠ key) :
    (Instr.lookup 138 (.map (some B)) key false).run Try.prog w = .ok (.slice none 0 0) w := by
  have hf : (Instr.findKey 148 key (mkE gs).toList).run Try.prog w = .ok none w := by
    rcases run_find (w := w) hk hkey with ⟨h1, _⟩ | ⟨j, hj, _, h3⟩
    · exact h1
    · exact absurd h3 (hno _ (List.getElem_mem hj))
  obtain ⟨l, hl⟩ := hkey
  have hz := zeroMarks w
  unfold MapIs at h
  simp only [Instr.lookup, Sem.run_bind, run_underlying Try.underlying138, MapKept.run_getObj_map h, Result.andThen]
  simp [keyLaw.check w _ hl, hf, hz]
theorem run_look_old {w : World} {B : Nat} {gs : List (Value × Value)} (h : MapIs w B gs) (hk : KeysOk gs) (hn : (gs.map (·.1)).Nodup) {j : Nat} (hj : j < gs.length) {key : Value} (hkey : ∃ l, keyOf Try.prog 148 key = some l) (he : gs[j].1 = key) :
    (Instr.lookup 138 (.map (some B)) key false).run Try.prog w = .ok gs[j].2 w := by
  have hf : (Instr.findKey 148 key (mkE gs).toList).run Try.prog w = .ok (some (j, gs[j].2)) w := by
    rcases run_find (w := w) hk hkey with ⟨_, h2⟩ | ⟨i, hi, h1, h3⟩
    · exact absurd he (h2 _ (List.getElem_mem hj))
    · have a1 : i < (gs.map (·.1)).length := by simpa using hi
      have a2 : j < (gs.map (·.1)).length := by simpa using hj
      have h4 : (gs.map (·.1))[i] = (gs.map (·.1))[j] := by simp [h3, he]
      have e := (List.getElem_inj hn).1 h4
      subst e
      exact h1
  obtain ⟨l, hl⟩ := hkey
  unfold MapIs at h
  simp only [Instr.lookup, Sem.run_bind, run_underlying Try.underlying138, MapKept.run_getObj_map h, Result.andThen]
  simp [keyLaw.check w _ hl, hf]

end Go.Proofs.Ytodielfilhodeaa
