/-
  A map of rows of marks under keys of four numbers, as the call makes it: its entries stand in the order in which they came.
  The draws of chapter 7: a drawn point's numbers are numbers of the machine.
-/
import Derived.Test.YtodielfilhodeaaGreatProg
import Derived.Test.YtodielfilhodeaaGreatMathZz
import Derived.Test.YtodielfilhodeaaGreatPutZz
import Derived.DeepKeys4
import Derived.MapFrom
import Derived.Test.YtodielfilhodeaaGreatMovedSZz
namespace Go.Proofs.YtodielfilhodeaaGreat
open Go Go.RowKit

theorem laidOutG : laidOutB Tryz.prog = true := by kernel_rfl
theorem keyLaw : WideMaps.KeyLaw Tryz.prog 106 := deep_law_laid laidOutG (m := 2) (by omega) (of_decide_eq_true (by kernel_rfl)) (by kernel_rfl) (by kernel_rfl)
/-- A cell as a key. -/
def keyV (xs : List Int) : Value := .agg #[.int .i64 (nth xs 0), .int .i64 (nth xs 1), .int .i64 (nth xs 2), .int .i64 (nth xs 3)]
def I64s (xs : List Int) : Prop := ∀ i, (Lit.int .i64 (nth xs i)).wf = true
theorem keyV_inj {xs ys : List Int} (hl : xs.length = ys.length) (h4 : xs.length ≤ 4) (h : keyV xs = keyV ys) : xs = ys := by
  simp only [keyV, Value.agg.injEq, Array.mk.injEq, List.cons.injEq, Value.int.injEq, true_and, and_true] at h
  refine list_eq_of_nth hl fun j hj => ?_
  have hj4 : j = 0 ∨ j = 1 ∨ j = 2 ∨ j = 3 := by omega
  rcases hj4 with rfl | rfl | rfl | rfl
  · exact h.1
  · exact h.2.1
  · exact h.2.2.1
  · exact h.2.2.2
theorem keyOf_keyV (xs : List Int) (h : I64s xs) : ∃ l, keyOf Tryz.prog 106 (keyV xs) = some l := by
  have hsz : ∃ n, Tryz.prog.types.size = n + 1 := ⟨Tryz.prog.types.size - 1, by have : 0 < Tryz.prog.types.size := of_decide_eq_true (by kernel_rfl); omega⟩
  obtain ⟨n, hsz⟩ := hsz
  have hk : Tryz.prog.keyType 106 = true := by kernel_rfl
  have hc : Tryz.prog.cellsOf 106 = 4 := by kernel_rfl
  have hc2 : Tryz.prog.cellsOf 2 = 1 := by kernel_rfl
  have h0 := h 0
  have h1 := h 1
  have h2 := h 2
  have h3 := h 3
  simp only [keyOf, Tryz.underlying106, hk, keyV, Value.formed, hc, Value.cells, hsz]
  simp only [Program.keyLits, Tryz.underlying106, hc, hc2]
  simp [List.range_succ, Tryz.underlying2, h0, h1, h2, h3]

/-- The entries, each with the number of its birth. -/
def mkE (gs : List (Value × Value)) : Array MapEntry := (gs.mapIdx fun i g => (⟨g.1, g.2, i⟩ : MapEntry)).toArray
def MapIs (w : World) (B : Nat) (gs : List (Value × Value)) : Prop := w.heap[B]? = some (.map (mkE gs) gs.length)
def setMap (w : World) (B : Nat) (gs : List (Value × Value)) : World := { w with heap := w.heap.setIfInBounds B (.map (mkE gs) gs.length) }
theorem mkE_size (gs : List (Value × Value)) : (mkE gs).size = gs.length := by simp [mkE]
theorem mkE_get (gs : List (Value × Value)) (i : Nat) (h : i < gs.length) : (mkE gs)[i]? = some ⟨gs[i].1, gs[i].2, i⟩ := by simp [mkE, h]
theorem mkE_push (gs : List (Value × Value)) (k v : Value) : (mkE gs).push ⟨k, v, gs.length⟩ = mkE (gs ++ [(k, v)]) := by
  apply Array.ext'
  simp [mkE, List.mapIdx_append]
theorem mkE_mem {gs : List (Value × Value)} {e : MapEntry} (h : e ∈ (mkE gs).toList) : ∃ g ∈ gs, e.key = g.1 ∧ e.val = g.2 := by
  obtain ⟨i, hi, rfl⟩ := List.getElem_of_mem h
  simp [mkE] at hi
  exact ⟨gs[i], List.getElem_mem hi, by simp [mkE], by simp [mkE]⟩
theorem mkE_modify (gs : List (Value × Value)) (j : Nat) (h : j < gs.length) (k v : Value) (f : MapEntry → MapEntry) (hf : f ⟨gs[j].1, gs[j].2, j⟩ = ⟨k, v, j⟩) : (mkE gs).modify j f = mkE (gs.set j (k, v)) := by
  apply Array.ext
  · simp [mkE]
  · intro i h1 h2
    rw [Array.getElem_modify]
    simp only [Array.size_modify, mkE_size] at h1
    by_cases hij : j = i
    · subst hij
      rw [if_pos rfl]
      have e1 : (mkE gs)[j]'(by rw [mkE_size]; exact h1) = ⟨gs[j].1, gs[j].2, j⟩ := by simp [mkE]
      have e2 : (mkE (gs.set j (k, v)))[j]'h2 = ⟨k, v, j⟩ := by simp [mkE]
      rw [e1, e2, hf]
    · rw [if_neg hij]
      simp [mkE, List.getElem_set_ne hij]
theorem setMap_same {w : World} {B : Nat} {gs : List (Value × Value)} (h : MapIs w B gs) : setMap w B gs = w := by
  unfold setMap
  have : w.heap.setIfInBounds B (.map (mkE gs) gs.length) = w.heap := by
    apply Array.ext
    · simp
    · intro i h1 h2
      simp only [Array.size_setIfInBounds] at h1
      rw [Array.getElem_setIfInBounds h1]
      split
      · rename_i e
        subst e
        unfold MapIs at h
        rw [Array.getElem?_eq_getElem h2] at h
        exact (Option.some.inj h).symm
      · rfl
  rw [this]
theorem MapIs.lt {w : World} {B : Nat} {gs : List (Value × Value)} (h : MapIs w B gs) : B < w.heap.size := (Array.getElem?_eq_some_iff.1 h).1
theorem MapIs.set {w : World} {B : Nat} {gs : List (Value × Value)} (h : MapIs w B gs) (hs : List (Value × Value)) : MapIs (setMap w B hs) B hs := by
  have := h.lt
  simp [MapIs, setMap, this]
theorem setMap_grown (w : World) (B : Nat) (hs : List (Value × Value)) : w.grownBy (setMap w B hs) (some B) :=
  ⟨rfl, rfl, rfl, by simp [setMap], fun i _ hi => by
    have hne : B ≠ i := fun e => hi (by rw [e])
    simp [setMap, hne]⟩
def KeysOk (gs : List (Value × Value)) : Prop := ∀ g ∈ gs, ∃ l, keyOf Tryz.prog 106 g.1 = some l
theorem run_find {w : World} {gs : List (Value × Value)} (hk : KeysOk gs) {key : Value} (hkey : ∃ l, keyOf Tryz.prog 106 key = some l) :
    ((Instr.findKey 106 key (mkE gs).toList).run Tryz.prog w = .ok none w ∧ ∀ g ∈ gs, g.1 ≠ key) ∨ ∃ j, ∃ h : j < gs.length, (Instr.findKey 106 key (mkE gs).toList).run Tryz.prog w = .ok (some (j, gs[j].2)) w ∧ gs[j].1 = key := by
  obtain ⟨l, hl⟩ := hkey
  rcases keyLaw.find w hl (mkE gs).toList (fun e he => by obtain ⟨g, hg, e1, _⟩ := mkE_mem he; rw [e1]; exact hk g hg) with ⟨h1, h2⟩ | ⟨j, e, h1, h2, h3⟩
  · refine Or.inl ⟨h1, fun g hg => ?_⟩
    obtain ⟨i, hi, rfl⟩ := List.getElem_of_mem hg
    exact h2 ⟨gs[i].1, gs[i].2, i⟩ (List.mem_of_getElem? (i := i) (by have := mkE_get gs i hi; simpa using this))
  · have hj : j < gs.length := by
      rcases Nat.lt_or_ge j gs.length with h | h
      · exact h
      · rw [List.getElem?_eq_none (by rw [Array.length_toList, mkE_size]; exact h)] at h2; cases h2
    have he : e = ⟨gs[j].1, gs[j].2, j⟩ := by
      have := mkE_get gs j hj
      rw [← Array.getElem?_toList] at this
      rw [this] at h2
      exact (Option.some.inj h2).symm
    subst he
    exact Or.inr ⟨j, hj, h1, h3⟩
theorem zeroMarks (w : World) : (zeroValue 24).run Tryz.prog w = .ok (.slice none 0 0) w := by kernel_rfl
theorem run_entry_new {w : World} {B : Nat} {gs : List (Value × Value)} (h : MapIs w B gs) (hk : KeysOk gs) {key : Value} (hkey : ∃ l, keyOf Tryz.prog 106 key = some l) (hno : ∀ g ∈ gs, g.1 ≠ key) :
    (Instr.mapEntry 102 (.map (some B)) key).run Tryz.prog w = .ok (.tuple #[.slice none 0 0, .int .i64 (gs.length : Int)]) (setMap w B (gs ++ [(key, .slice none 0 0)])) := by
  have hf : (Instr.findKey 106 key (mkE gs).toList).run Tryz.prog w = .ok none w := by
    rcases run_find (w := w) hk hkey with ⟨h1, _⟩ | ⟨j, hj, _, h3⟩
    · exact h1
    · exact absurd h3 (hno _ (List.getElem_mem hj))
  obtain ⟨l, hl⟩ := hkey
  have hz := zeroMarks w
  unfold MapIs at h
  simp only [Instr.mapEntry, Sem.run_bind, run_underlying Tryz.underlying102, MapKept.run_getObj_map h, keyLaw.check w false hl, hf, hz, MapKept.run_setObj_map _ h, Result.andThen]
  simp [setMap, mkE_push, goInt]
theorem run_entry_old {w : World} {B : Nat} {gs : List (Value × Value)} (h : MapIs w B gs) (hk : KeysOk gs) (hn : (gs.map (·.1)).Nodup) {j : Nat} (hj : j < gs.length) {key : Value} (hkey : ∃ l, keyOf Tryz.prog 106 key = some l) (he : gs[j].1 = key) :
    (Instr.mapEntry 102 (.map (some B)) key).run Tryz.prog w = .ok (.tuple #[gs[j].2, .int .i64 (j : Int)]) w := by
  have hf : (Instr.findKey 106 key (mkE gs).toList).run Tryz.prog w = .ok (some (j, gs[j].2)) w := by
    rcases run_find (w := w) hk hkey with ⟨_, h2⟩ | ⟨i, hi, h1, h3⟩
    · exact absurd he (h2 _ (List.getElem_mem hj))
    · have a1 : i < (gs.map (·.1)).length := by simpa using hi
      have a2 : j < (gs.map (·.1)).length := by simpa using hj
      have h4 : (gs.map (·.1))[i] = (gs.map (·.1))[j] := by simp [h3, he]
      have e := (List.getElem_inj hn).1 h4
      subst e
      exact h1
  obtain ⟨l, hl⟩ := hkey
  have hs := keyLaw.stays w hl
  have hsame := setMap_same h
  have hg := mkE_get gs j hj
  have hm : (mkE gs).modify j (fun e => { e with key := key }) = mkE gs := by
    rw [mkE_modify gs j hj key gs[j].2 _ rfl]
    have e1 : gs.set j (key, gs[j].2) = gs := by
      rw [← he]
      exact List.set_getElem_self hj
    rw [e1]
  unfold MapIs at h
  simp only [Instr.mapEntry, Sem.run_bind, run_underlying Tryz.underlying102, MapKept.run_getObj_map h, keyLaw.check w false hl, hf, hg, Option.map_some, Option.getD_some, he, hs, MapKept.run_setObj_map _ h, Result.andThen, hm]
  have hs2 : { w with heap := w.heap.setIfInBounds B (.map (mkE gs) gs.length) } = w := hsame
  rw [hs2]
  rfl
theorem run_entry_store {w : World} {B : Nat} {gs : List (Value × Value)} (h : MapIs w B gs) {j : Nat} (hj : j < gs.length) (v : Value) :
    (Instr.entryStore 102 (.map (some B)) (.int .i64 (j : Int)) v).run Tryz.prog w = .ok () (setMap w B (gs.set j (gs[j].1, v))) := by
  have hx : (mkE gs).findIdx? (fun e => (e.born : Int) == (j : Int)) = some j := by
    rw [Array.findIdx?_eq_some_iff_getElem]
    refine ⟨by rw [mkE_size]; exact hj, by simp [mkE], fun i hi => ?_⟩
    simp [mkE]
    omega
  have hm := mkE_modify gs j hj gs[j].1 v (fun e => { e with val := v }) rfl
  unfold MapIs at h
  simp only [Instr.entryStore, Sem.run_bind, MapKept.run_getObj_map h, asInt, asIntOf, Result.andThen]
  simp only [Sem.run_pure]
  rw [hx]
  simp only [MapKept.run_setObj_map _ h, hm]
  simp [setMap]
theorem run_look_new {w : World} {B : Nat} {gs : List (Value × Value)} (h : MapIs w B gs) (hk : KeysOk gs) {key : Value} (hkey : ∃ l, keyOf Tryz.prog 106 key = some l) (hno : ∀ g ∈ gs, g.1 ≠ key) :
    (Instr.lookup 102 (.map (some B)) key false).run Tryz.prog w = .ok (.slice none 0 0) w := by
  have hf : (Instr.findKey 106 key (mkE gs).toList).run Tryz.prog w = .ok none w := by
    rcases run_find (w := w) hk hkey with ⟨h1, _⟩ | ⟨j, hj, _, h3⟩
    · exact h1
    · exact absurd h3 (hno _ (List.getElem_mem hj))
  obtain ⟨l, hl⟩ := hkey
  have hz := zeroMarks w
  unfold MapIs at h
  simp only [Instr.lookup, Sem.run_bind, run_underlying Tryz.underlying102, MapKept.run_getObj_map h, Result.andThen]
  simp [keyLaw.check w _ hl, hf, hz]
theorem run_look_old {w : World} {B : Nat} {gs : List (Value × Value)} (h : MapIs w B gs) (hk : KeysOk gs) (hn : (gs.map (·.1)).Nodup) {j : Nat} (hj : j < gs.length) {key : Value} (hkey : ∃ l, keyOf Tryz.prog 106 key = some l) (he : gs[j].1 = key) :
    (Instr.lookup 102 (.map (some B)) key false).run Tryz.prog w = .ok gs[j].2 w := by
  have hf : (Instr.findKey 106 key (mkE gs).toList).run Tryz.prog w = .ok (some (j, gs[j].2)) w := by
    rcases run_find (w := w) hk hkey with ⟨_, h2⟩ | ⟨i, hi, h1, h3⟩
    · exact absurd he (h2 _ (List.getElem_mem hj))
    · have a1 : i < (gs.map (·.1)).length := by simpa using hi
      have a2 : j < (gs.map (·.1)).length := by simpa using hj
      have h4 : (gs.map (·.1))[i] = (gs.map (·.1))[j] := by simp [h3, he]
      have e := (List.getElem_inj hn).1 h4
      subst e
      exact h1
  obtain ⟨l, hl⟩ := hkey
  unfold MapIs at h
  simp only [Instr.lookup, Sem.run_bind, run_underlying Tryz.underlying102, MapKept.run_getObj_map h, Result.andThen]
  simp [keyLaw.check w _ hl, hf]

end Go.Proofs.YtodielfilhodeaaGreat
namespace Go.Proofs.YtodielfilhodeaaGreat
open Go Go.RowKit

theorem i64s_nil : I64s [] := fun i => by simp [nth, List.getD]; decide
theorem i64s_snoc {xs : List Int} {x : Int} (h : I64s xs) (hx : -9223372036854775808 ≤ x ∧ x < 9223372036854775808) : I64s (xs ++ [x]) := fun i => by
  have hi := h i
  simp only [nth, List.getD] at hi ⊢
  rcases Nat.lt_trichotomy i xs.length with h1 | h1 | h1
  · rw [List.getElem?_append_left h1]; exact hi
  · subst h1; simp; exact WalkArith.wf_i64 (by omega)
  · rw [List.getElem?_eq_none (by simp; omega)]; decide
theorem i64s_set {xs : List Int} {x : Int} (h : I64s xs) (hx : -9223372036854775808 ≤ x ∧ x < 9223372036854775808) : I64s (xs.set 0 x) := fun i => by
  have hi := h i
  simp only [nth, List.getD, List.getElem?_set] at hi ⊢
  split
  · split
    · exact WalkArith.wf_i64 (by simp only [Option.getD_some]; omega)
    · decide
  · exact hi
theorem six_atW (y : Nat) (h : y < 6) : ∃ v : Int, (-9223372036854775808 ≤ v ∧ v < 9223372036854775808) ∧ (#[.int .i64 1000, .int .i64 (-1000), .int .i64 1001, .int .i64 (-1001), .int .i64 4611686018427387904, .int .i64 (-9223372036854775808)] : Array Value)[y]? = some (.int .i64 v) := by
  match y, h with
  | 0, _ => exact ⟨_, by omega, rfl⟩
  | 1, _ => exact ⟨_, by omega, rfl⟩
  | 2, _ => exact ⟨_, by omega, rfl⟩
  | 3, _ => exact ⟨_, by omega, rfl⟩
  | 4, _ => exact ⟨_, by omega, rfl⟩
  | 5, _ => exact ⟨_, by omega, rfl⟩

set_option maxRecDepth 100000 in
set_option maxHeartbeats 1000000 in
theorem cPointW (q : Nat) (ao : Option Addr) (n cap m : Nat) (w : World) (hc : Cur w q ao n cap) (hv : CodeV w ao n) (hn : n ≤ 4096) (hm : m ≤ 100) :
    Calls Tryz.prog 84 #[.pointer (some ⟨q, 0, none⟩), .int .i64 m] w fun e w' => (∃ g c xs, e = .returned (.slice (some ⟨g, 0, none⟩) xs.length c) ∧ xs.length = m ∧ I64s xs ∧ Row w.heap.size w' g c xs) ∧ Cur w' q ao n cap ∧ w.grownBy w' (some q) := by
  have hq := hc.lt
  obtain ⟨i0, hi0, hz0, hz1, hz2⟩ := info_parts Tryz.info2
  go_enter Tryz.func84, Tryz.ntmps84
  go_wp2_with fail
  go_loopw [1, 5] (fun s v wr => ∃ (xs : List Int) (g c : Nat), xs.length ≤ m ∧ s = .int .i64 ((m : Int) - xs.length) ∧ v = .slice (some ⟨g, 0, none⟩) xs.length c ∧ I64s xs ∧ Row w.heap.size wr g c xs ∧ Cur wr q ao n cap ∧ w.grownBy wr (some q)) (fun s _ _ => (intOf s).toNat)
  case atStart =>
    exact ⟨[], w.heap.size, 0, Nat.zero_le _, by simp, rfl, i64s_nil, World.ownsRow_lit w #[] 0 (Nat.le_refl _) (Nat.zero_le _) rfl, hc.alloc _, World.grownBy_alloc w _ _⟩
  case round =>
    obtain ⟨xs, g, c, hk, rfl, rfl, hw64, hrow, hcr, hg⟩ := hrel
    have HW := hidP hw64
    clear hw64
    have hvr := hv.grown hc hg
    have hgl := hrow.lt g rfl
    by_cases hlt : xs.length < m
    · go_wp2_with fail
      refine (cFrom q ao n cap (-6) 13 _ hcr hvr hn (by omega) (by omega) (by omega) (by omega)).mono ?_
      rintro e w1 ⟨⟨x, hx0, hx1, rfl⟩, c1, g1⟩
      have hrow1 : Row w.heap.size w1 g c xs := World.ownsRow.kept hrow g1 (Or.inr (by simp [Value.ownBlock]; omega))
      have hs1 := g1.size
      clear hrow hcr hvr
      go_wp2_with (at_builtin; refine wpList_append_lies _ rfl (.tmp 11) (.tmp 14) 28 rfl w.heap.size 2 i0 _ 1 8 Tryz.underlying28 hi0 hz0 hz1 hz2 rfl (by omega) (.slice (some ⟨g, 0, none⟩) xs.length c) xs.length (xs.map (Value.int .i64)) rfl (World.ownsRow.alloc hrow1 _) ⟨w1.heap.size, 0, none⟩ 1 1 [.int .i64 x] rfl rfl (World.news_of_block (cs := #[.int .i64 x]) (t := 2) (fr := (0, 0)) (heap_alloc_new w1 _)) (by simp [Value.oneCell']) (by omega) (by unfold maxLen; omega) (by omega) (by simp; omega) (w1.heap.size + 1) (by simp) ?_; intro gg cc w2 hown2 hgrow hat hlt1)
      go_wp2
      go_roundw
      case rel =>
        refine ⟨xs ++ [x], gg, cc, by simp; omega, ?_, ?_, i64s_snoc HW.out (by omega), ?_, ?_, ?_⟩
        · rw [List.length_append, List.length_singleton, show ((xs.length + 1 : Nat) : Int) = (xs.length : Int) + 1 by omega]; congr 1; omega
        · rw [List.length_append, List.length_singleton]
        · unfold Row; rw [List.length_append, List.length_singleton, List.map_append]; exact hown2
        · exact (c1.alloc _).grown hgrow (by simp [Value.ownBlock]; omega)
        · exact grown_far (grown_far (grown_trans hg g1) (World.grownBy_alloc w1 _ none) (by simp)) hgrow (by intro k hk; simp [Value.ownBlock] at hk; omega)
      case measure => simp [intOf]; omega
    · have hml : xs.length = m := by omega
      go_wp2_with fail
      refine (cOnce q ao n cap 20 _ hcr hvr hn (by omega) (by omega)).mono ?_
      rintro e w1 ⟨⟨x, rfl⟩, c1, g1⟩
      have hrow1 : Row w.heap.size w1 g c xs := World.ownsRow.kept hrow g1 (Or.inr (by simp [Value.ownBlock]; omega))
      have hg1 := grown_trans hg g1
      have hv1 := hv.grown hc hg1
      have hs1 := g1.size
      have HM := hideP hml
      clear hrow hcr hvr g1 hg hml
      cases x with
      | false =>
        go_wp2_with fail
        go_ret
        exact ⟨⟨g, c, xs, rfl, HM.out, HW.out, hrow1⟩, c1, hg1⟩
      | true =>
        by_cases h0 : xs.length = 0
        · have h0b : ¬ ((0 : Int) < (xs.length : Int)) := by omega
          have H0 := hideP h0
          clear h0
          go_wp2_with fail
          go_ret
          exact ⟨⟨g, c, xs, rfl, HM.out, HW.out, hrow1⟩, c1, hg1⟩
        · have h0b : (0 : Int) < (xs.length : Int) := by omega
          go_wp2_with fail
          refine (cBelow q ao n cap 6 _ (c1.alloc _) (hv.grown hc (grown_far hg1 (World.grownBy_alloc w1 _ none) (by simp))) hn (by omega) (by omega)).mono ?_
          rintro e w2 ⟨⟨y, hy0, hy1, rfl⟩, c2, g2⟩
          obtain ⟨yn, rfl⟩ := Int.eq_ofNat_of_zero_le hy0
          obtain ⟨v, hb6, hv6⟩ := six_atW yn (by omega)
          have HB6 := hidP hb6
          clear hb6
          have ht : w2.cell? ⟨w1.heap.size, yn, none⟩ = some (.int .i64 v) := g2.cell (by rw [World.cell?_alloc_at _ _ _ _ rfl]; exact hv6) (by simp; omega)
          have hrow2 : Row w.heap.size w2 g c xs := World.ownsRow.kept (World.ownsRow.alloc hrow1 _) g2 (Or.inr (by simp [Value.ownBlock]; omega))
          have hl0 : 0 < (xs.map (Value.int .i64)).length := by simp; omega
          have hcg := World.ownsRow.cellAt hrow2 0 (by omega)
          rw [List.getElem?_eq_getElem hl0] at hcg
          have hfg := World.ownsRow.frozenAt hrow2 0
          have R := World.ownsRow.stored hrow2 0 (.int .i64 v)
          have HR := hideP R
          clear R
          have hy2 : (yn : Int) < 6 := by omega
          have hgw := grown_far (grown_trans hg1 (grown_refl _ _)) (World.grownBy_alloc w1 (.cells #[.int .i64 1000, .int .i64 (-1000), .int .i64 1001, .int .i64 (-1001), .int .i64 4611686018427387904, .int .i64 (-9223372036854775808)] 2) none) (by simp)
          have hgw2 := grown_trans hgw g2
          clear g2 hgw hg1 hrow1
          go_wp2_with fail
          go_ret
          have e1 : (xs.set 0 v).length = xs.length := by simp
          refine ⟨⟨g, c, xs.set 0 v, ?_, by rw [e1]; exact HM.out, i64s_set HW.out HB6.out, ?_⟩, ?_, ?_⟩
          · rw [e1]; rfl
          · unfold Row; rw [e1, List.map_set]; exact HR.out.1
          · exact c2.grown HR.out.2 (by simp; omega)
          · exact grown_far hgw2 HR.out.2 (by intro k hk; cases hk; omega)

end Go.Proofs.YtodielfilhodeaaGreat
