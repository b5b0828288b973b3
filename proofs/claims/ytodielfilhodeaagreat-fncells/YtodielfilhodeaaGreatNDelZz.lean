/-
  The library's maps.DeleteFunc over the cells: what is to go goes, the rest stays.
-/
import Derived.Test.YtodielfilhodeaaGreatNFnZz
import Derived.Test.YtodielfilhodeaaGreatGOfZz
import Derived.Maps.RangeRun
namespace Go.Proofs.YtodielfilhodeaaGreat
open Go Go.RowKit
open Go.ChangeMaps (setBlock)

theorem nmkE_born {gs : List (Value × Value)} {e : MapEntry} (h : e ∈ (mkE gs).toList) : ∃ hi : e.born < gs.length, e.key = gs[e.born].1 ∧ e.val = gs[e.born].2 := by
  obtain ⟨i, hi, rfl⟩ := List.getElem_of_mem h
  simp [mkE] at hi
  simp [mkE, hi]
theorem nmkE_nodup (gs : List (Value × Value)) : ((mkE gs).toList.map (·.born)).Nodup := by
  have e : (mkE gs).toList.map (·.born) = List.range gs.length := by
    apply List.ext_getElem
    · simp [mkE]
    · intro i h1 h2
      simp [mkE]
  rw [e]; exact List.nodup_range
theorem nsetBlock_grown (w : World) (r : Nat) (o : Obj) : w.grownBy (setBlock w r o) (some r) :=
  ⟨rfl, rfl, rfl, by simp [setBlock], fun i _ hi => by
    have hne : r ≠ i := fun e => hi (by rw [e])
    simp [setBlock, hne]⟩
theorem grown_below_some {w w' : World} (h : Below w.heap.size w w') (B : Nat) : w.grownBy w' (some B) := ⟨h.os, h.tape, h.output, h.size, fun i hi _ => h.block i hi⟩
/-- Some of the entries, in their order. -/
structure Some0 (gs : List (Value × Value)) (es : Array MapEntry) : Prop where
  sub : es.toList.Sublist (mkE gs).toList
theorem Some0.mem {gs : List (Value × Value)} {es : Array MapEntry} (h : Some0 gs es) {e : MapEntry} (he : e ∈ es.toList) : e ∈ (mkE gs).toList := h.sub.subset he
theorem Some0.born {gs : List (Value × Value)} {es : Array MapEntry} (h : Some0 gs es) : (es.toList.map (·.born)).Nodup := (h.sub.map _).nodup (nmkE_nodup gs)
theorem Some0.nodup {gs : List (Value × Value)} {es : Array MapEntry} (h : Some0 gs es) : es.toList.Nodup := by
  have := h.born
  exact List.Pairwise.imp (fun {a b} hab e => hab (by rw [e])) (List.pairwise_map.1 this)
theorem mem_eraseIdx_nodup {α : Type} {l : List α} (h : l.Nodup) {j : Nat} (hj : j < l.length) (x : α) : x ∈ l.eraseIdx j ↔ x ∈ l ∧ x ≠ l[j] := by
  rw [List.mem_eraseIdx_iff_getElem?]
  constructor
  · rintro ⟨i, hne, hi⟩
    obtain ⟨hi2, rfl⟩ := List.getElem?_eq_some_iff.1 hi
    exact ⟨List.getElem_mem hi2, fun e => hne ((List.getElem_inj h).1 e)⟩
  · rintro ⟨hx, hne⟩
    obtain ⟨i, hi, rfl⟩ := List.getElem_of_mem hx
    exact ⟨i, fun e => hne (by subst e; rfl), List.getElem?_eq_getElem hi⟩
theorem run_del {w : World} {B n : Nat} {gs : List (Value × Value)} {es : Array MapEntry} (hb : w.heap[B]? = some (.map es n)) (hs : Some0 gs es) (hk : KeysOk gs) (hn : (gs.map (·.1)).Nodup) {e : MapEntry} (he : e ∈ es.toList) (ty : TypeId) :
    ∃ es', (Builtin.delete_ #[102, 106] ty #[.map (some B), e.key]).run Tryz.prog w = .ok (.tuple #[]) (setBlock w B (.map es' n)) ∧ Some0 gs es' ∧ ∀ x, x ∈ es'.toList ↔ x ∈ es.toList ∧ x ≠ e := by
  have hkey : ∀ x ∈ es.toList, ∃ l, keyOf Tryz.prog 106 x.key = some l := fun x hx => by
    obtain ⟨hi, h1, _⟩ := nmkE_born (hs.mem hx)
    rw [h1]; exact hk _ (List.getElem_mem hi)
  obtain ⟨l, hl⟩ := hkey e he
  rcases keyLaw.find w hl es.toList hkey with ⟨h1, h2⟩ | ⟨j, e0, h1, h2, h3⟩
  · exact absurd rfl (h2 e he)
  · have hjl : j < es.toList.length := (List.getElem?_eq_some_iff.1 h2).1
    have hjs : j < es.size := by simpa using hjl
    have he0 : es.toList[j] = e0 := (List.getElem?_eq_some_iff.1 h2).2
    have hsub : (es.eraseIdxIfInBounds j).toList = es.toList.eraseIdx j := by
      unfold Array.eraseIdxIfInBounds
      rw [dif_pos hjs]
      simp
    have hee : e0 = e := by
      have hm0 : e0 ∈ es.toList := by rw [← he0]; exact List.getElem_mem hjl
      obtain ⟨i0, a0, b0⟩ := nmkE_born (hs.mem hm0)
      obtain ⟨i1, a1, b1⟩ := nmkE_born (hs.mem he)
      have c0 : e0.born < (gs.map (·.1)).length := by simpa using i0
      have c1 : e.born < (gs.map (·.1)).length := by simpa using i1
      have hq : (gs.map (·.1))[e0.born] = (gs.map (·.1))[e.born] := by simp only [List.getElem_map]; rw [← a0, ← a1]; exact h3
      have hbb := (List.getElem_inj hn).1 hq
      cases e0
      cases e
      simp only at *
      subst hbb
      rw [a0, a1, b0, b1]
    subst hee
    refine ⟨es.eraseIdxIfInBounds j, ?_, ⟨?_⟩, fun x => ?_⟩
    · simp [Builtin.delete_, run_underlying Tryz.underlying102, MapKept.run_getObj_map hb, keyLaw.check w _ hl, h1, MapKept.run_setObj_map _ hb, Result.andThen, setBlock]
    · rw [hsub]; exact (List.eraseIdx_sublist _ _).trans hs.sub
    · rw [hsub, mem_eraseIdx_nodup hs.nodup hjl, he0]

set_option maxRecDepth 100000 in
set_option maxHeartbeats 2000000 in
theorem iDelete (B : Nat) (gs : List Gp) (gone : List Int → Bool) (fv : Array Value) (w : World) (hm : MapIs w B (gs.map gpV)) (hk : KeysOk (gs.map gpV)) (hn : ((gs.map gpV).map (·.1)).Nodup)
    (hf : ∀ X, w.grownBy X (some B) → ∀ x ∈ gs, ∀ v, Calls Tryz.prog 129 (#[keyV x.1, v] ++ fv) X fun e w' => e = .returned (.bool (gone x.1)) ∧ Below X.heap.size X w') :
    Calls Tryz.prog 128 #[.map (some B), .func (Fn.func 129) #[] fv] w fun e w' => e = .returned (.tuple #[]) ∧ (∃ es, w'.heap[B]? = some (.map es gs.length) ∧ Some0 (gs.map gpV) es ∧ ∀ x ∈ (mkE (gs.map gpV)).toList, x ∈ es.toList ↔ ∀ h : x.born < gs.length, gone gs[x.born].1 = false) ∧ w.grownBy w' (some B) := by
  have hgl : (gs.map gpV).length = gs.length := by simp
  have hBl := hm.lt
  have hmap : w.heap[B]? = some (.map (mkE (gs.map gpV)) gs.length) := by unfold MapIs at hm; rwa [hgl] at hm
  have hrg := run_range_map (P := Tryz.prog) w 102 106 24 B (mkE (gs.map gpV)) gs.length Tryz.underlying102 hmap
  have HI := hidP (heap_alloc_new w (.mapIter (some B) gs.length #[] gs.length))
  have HM0 : Hid ((w.alloc (.mapIter (some B) gs.length #[] gs.length)).heap[B]? = some (.map (mkE (gs.map gpV)) gs.length)) := (Below.heap_alloc _ _ _ hBl).trans hmap
  have HG0 : Hid (w.grownBy (w.alloc (.mapIter (some B) gs.length #[] gs.length)) (some B)) := grown_below_some (alloc_below w _) B
  have HF := hidP hf
  have HK := hidP (And.intro hk hn)
  have HGL := hidP hgl
  clear hm hmap hf hk hn hgl
  go_enter Tryz.func128, Tryz.ntmps128
  go_wp2_with fail
  clear hrg
  go_loopw [5] (fun _ wr => ∃ (seen : Array Nat) (es : Array MapEntry), Some0 (gs.map gpV) es ∧ (∀ x ∈ (mkE (gs.map gpV)).toList, x ∈ es.toList ↔ (seen.contains x.born = true → ∀ h : x.born < gs.length, gone gs[x.born].1 = false)) ∧ wr.heap[w.heap.size]? = some (.mapIter (some B) gs.length seen gs.length) ∧ wr.heap[B]? = some (.map es gs.length) ∧ w.grownBy wr (some B)) (fun _ wr => (leftOf (mkE (gs.map gpV)) (wr.iterSeen w.heap.size)).size)
  case atStart => exact ⟨#[], mkE (gs.map gpV), ⟨List.Sublist.refl _⟩, fun x hx => ⟨fun _ h => by simp at h, fun _ => hx⟩, HI.out, HM0.out, HG0.out⟩
  case round =>
    obtain ⟨seen, es, hs, hmem, hit, hmap, hg⟩ := hrel
    have hseen : wr.iterSeen w.heap.size = seen := by unfold World.iterSeen; rw [hit]
    rcases run_next_at (P := Tryz.prog) wr 0 w.heap.size B gs.length gs.length seen es gs.length hit hmap (fun x hx => by obtain ⟨h, _⟩ := nmkE_born (hs.mem hx); rw [HGL.out] at h; exact h) (Nat.le_refl _) with ⟨hz, hrun⟩ | ⟨e, he, w1, hw1, hrun⟩
    · have hall : ∀ x ∈ es.toList, seen.contains x.born = true := fun x hx => by
        rcases hc : seen.contains x.born with _ | _
        · have hm : x ∈ leftOf es seen := by
            unfold leftOf
            refine Array.mem_filter.2 ⟨by simpa using hx, ?_⟩
            rw [hc]; rfl
          have : leftOf es seen = #[] := Array.eq_empty_of_size_eq_zero hz
          rw [this] at hm
          simp at hm
        · rfl
      have HE : Hid ((∃ es, wr.heap[B]? = some (.map es gs.length) ∧ Some0 (gs.map gpV) es ∧ ∀ x ∈ (mkE (gs.map gpV)).toList, x ∈ es.toList ↔ ∀ h : x.born < gs.length, gone gs[x.born].1 = false) ∧ w.grownBy wr (some B)) :=
        ⟨⟨es, hmap, hs, fun x hx => ⟨fun h => (hmem x hx).1 h (hall x h), fun h => (hmem x hx).2 fun _ => h⟩⟩, hg⟩
      clear hall hz hs hmem hit hmap hg hseen
      go_wp2_with fail
      exact bodyPost_end (v := .tuple #[]) (by simp [results, Tryz.results128, go_sem]) rfl ⟨rfl, HE.out⟩
    · obtain ⟨hel, hes⟩ := mem_left he
      have he0 := hs.mem hel
      obtain ⟨hj, hkey, hval⟩ := nmkE_born he0
      have hj2 : e.born < gs.length := by rw [HGL.out] at hj; exact hj
      have hl0 : e ∈ (leftOf (mkE (gs.map gpV)) seen).toList := by
        have hm := he
        unfold leftOf at hm ⊢
        simp only [Array.toList_filter, List.mem_filter] at hm ⊢
        exact ⟨he0, hm.2⟩
      have hsh := left_shrinks (mkE (gs.map gpV)) seen e hl0
      obtain ⟨W2, hW2⟩ : ∃ W, W = setBlock w1 w.heap.size (.mapIter (some B) gs.length (seen.push e.born) gs.length) := ⟨_, rfl⟩
      have hg1 : wr.grownBy w1 none := by rcases hw1 with rfl | rfl <;> exact ⟨rfl, rfl, rfl, Nat.le_refl _, fun _ _ _ => rfl⟩
      have hg2 : w1.grownBy W2 (some w.heap.size) := by rw [hW2]; exact nsetBlock_grown _ _ _
      have hlr : w.heap.size < wr.heap.size := (Array.getElem?_eq_some_iff.1 hit).1
      have hlr1 : w.heap.size < w1.heap.size := Nat.lt_of_lt_of_le hlr hg1.size
      have hit2 : W2.heap[w.heap.size]? = some (.mapIter (some B) gs.length (seen.push e.born) gs.length) := by rw [hW2]; simp [setBlock, hlr1]
      have hmap2 : W2.heap[B]? = some (.map es gs.length) := (hg2.block B (by omega) (by simp; omega)).trans ((hg1.block B (by omega) (by simp)).trans hmap)
      have hz2 : w.heap.size < W2.heap.size := Nat.lt_of_lt_of_le hlr1 hg2.size
      have hent := run_entry_at (P := Tryz.prog) W2 w.heap.size B gs.length seen es gs.length e hit2 hmap2 hel hs.born
      have hgW : w.grownBy W2 (some B) := ⟨hg2.os.trans (hg1.os.trans hg.os), hg2.tape.trans (hg1.tape.trans hg.tape), hg2.output.trans (hg1.output.trans hg.output), Nat.le_trans hg.size (Nat.le_trans hg1.size hg2.size), fun i hi hne =>
        (hg2.block i (by have := hg.size; have := hg1.size; omega) (by simp; omega)).trans ((hg1.block i (by have := hg.size; omega) (by simp)).trans (hg.block i hi hne))⟩
      have hkey2 : e.key = keyV gs[e.born].1 := by rw [hkey]; simp [gpV]
      have L3 := alloc_below W2 (.cells #[.int .i64 (nth gs[e.born].1 0), .int .i64 (nth gs[e.born].1 1), .int .i64 (nth gs[e.born].1 2), .int .i64 (nth gs[e.born].1 3)] 106)
      have hFour := Four.new W2 (.int .i64 (nth gs[e.born].1 0)) (.int .i64 (nth gs[e.born].1 1)) (.int .i64 (nth gs[e.born].1 2)) (.int .i64 (nth gs[e.born].1 3)) 106
      obtain ⟨W3, hW3⟩ : ∃ W, W = W2.alloc (.cells #[.int .i64 (nth gs[e.born].1 0), .int .i64 (nth gs[e.born].1 1), .int .i64 (nth gs[e.born].1 2), .int .i64 (nth gs[e.born].1 3)] 106) := ⟨_, rfl⟩
      rw [← hW3] at L3 hFour
      have hgW3 : w.grownBy W3 (some B) := ⟨L3.os.trans hgW.os, L3.tape.trans hgW.tape, L3.output.trans hgW.output, Nat.le_trans hgW.size L3.size, fun i hi hne => (L3.block i (by have := hgW.size; omega)).trans (hgW.block i hi hne)⟩
      have HC := hidP (HF.out W3 hgW3 gs[e.born] (List.getElem_mem hj2) e.val)
      have hsame : ∀ x ∈ (mkE (gs.map gpV)).toList, x.born = e.born → x = e := fun x hx hb => by
        obtain ⟨i0, a0, b0⟩ := nmkE_born hx
        cases x
        cases e
        simp only at *
        subst hb
        rw [a0, b0, hkey, hval]
      have HP4 : Hid (∀ w4, Below W3.heap.size W3 w4 → w4.heap[w.heap.size]? = some (.mapIter (some B) gs.length (seen.push e.born) gs.length) ∧ w4.heap[B]? = some (.map es gs.length) ∧ w.grownBy w4 (some B)) := fun w4 L4 => by
        have hz3 := L3.size
        refine ⟨(L4.block _ (by omega)).trans ((L3.block _ (by omega)).trans hit2), (L4.block _ (by omega)).trans ((L3.block _ (by omega)).trans hmap2), ?_⟩
        exact ⟨L4.os.trans hgW3.os, L4.tape.trans hgW3.tape, L4.output.trans hgW3.output, Nat.le_trans hgW3.size L4.size, fun i hi hne => (L4.block i (by have := hgW3.size; omega)).trans (hgW3.block i hi hne)⟩
      have HMEM := hidP (And.intro hs (And.intro hmem (And.intro hsame (And.intro hel (And.intro hsh hseen)))))
      have HKEY := hidP hkey2
      obtain ⟨f0, f1, f2, f3⟩ := hFour.cells
      have hlF := hFour.lt
      rw [← hW2] at hrun
      rw [hkey2] at hrun hent
      clear hs hmem hit hmap hg he hel hes he0 hkey hval hl0 hsh hg1 hg2 hlr hlr1 hit2 hmap2 hgW L3 hgW3 hsame hFour hseen hw1 hW2 hj
      unfold keyV at hrun hent HC
      generalize hkk : gs[e.born].1 = key at *
      go_wp2_with fail
      rw [← hW3]
      clear hW3
      refine HC.out.mono ?_
      rintro e4 w4 ⟨rfl, L4⟩
      obtain ⟨hit4, hmap4, hg4⟩ := HP4.out w4 L4
      have z0 := (L4.cell (p := ⟨W2.heap.size, 0, none⟩) hlF).trans f0
      have z1 := (L4.cell (p := ⟨W2.heap.size, 1, none⟩) hlF).trans f1
      have z2 := (L4.cell (p := ⟨W2.heap.size, 2, none⟩) hlF).trans f2
      have z3 := (L4.cell (p := ⟨W2.heap.size, 3, none⟩) hlF).trans f3
      have hcp : ∀ j, (seen.push e.born).contains j = (seen.contains j || (j == e.born)) := fun j => contains_push ..
      rcases hgn : gone key with _ | _
      · have HREL : Hid (Some0 (gs.map gpV) es ∧ (∀ x ∈ (mkE (gs.map gpV)).toList, x ∈ es.toList ↔ ((seen.push e.born).contains x.born = true → ∀ h : x.born < gs.length, gone gs[x.born].1 = false)) ∧ w4.heap[w.heap.size]? = some (.mapIter (some B) gs.length (seen.push e.born) gs.length) ∧ w4.heap[B]? = some (.map es gs.length) ∧ w.grownBy w4 (some B)) := by
          obtain ⟨hs, hmem, hsame, hel, _⟩ := HMEM.out
          refine ⟨hs, fun x hx => ?_, hit4, hmap4, hg4⟩
          rw [hmem x hx, hcp]
          constructor
          · intro h hc hb
            rcases Bool.or_eq_true _ _ ▸ hc with h1 | h1
            · exact h h1 hb
            · have hb2 : e.born = x.born := (by simpa using h1 : x.born = e.born).symm
              have := hsame x hx hb2.symm
              subst this
              rw [hkk]; exact hgn
          · intro h hc hb
            exact h (by rw [hc]; rfl) hb
        have HME : Hid ((leftOf (mkE (gs.map gpV)) (w4.iterSeen w.heap.size)).size < (leftOf (mkE (gs.map gpV)) (wr.iterSeen w.heap.size)).size) := by
          obtain ⟨_, _, _, _, hsh, hseen⟩ := HMEM.out
          have h1 : w4.iterSeen w.heap.size = seen.push e.born := by unfold World.iterSeen; rw [hit4]
          show _ < _
          rw [h1, hseen]; exact hsh
        clear hit4 hmap4 hg4 z0 z1 z2 z3 hcp L4 f0 f1 f2 f3 hent hrun
        go_wp2_with fail
        go_roundw
        case rel => exact ⟨seen.push e.born, es, HREL.out⟩
        case measure => exact HME.out
      · obtain ⟨es', hdel, hs', hmem'⟩ := run_del hmap4 HMEM.out.1 HK.out.1 HK.out.2 HMEM.out.2.2.2.1 0
        rw [HKEY.out] at hdel
        unfold keyV at hdel
        have hB4 : B < w4.heap.size := (Array.getElem?_eq_some_iff.1 hmap4).1
        have g5 := nsetBlock_grown w4 B (.map es' gs.length)
        have HREL : Hid (∀ W5, W5 = setBlock w4 B (.map es' gs.length) → (Some0 (gs.map gpV) es' ∧ (∀ x ∈ (mkE (gs.map gpV)).toList, x ∈ es'.toList ↔ ((seen.push e.born).contains x.born = true → ∀ h : x.born < gs.length, gone gs[x.born].1 = false)) ∧ W5.heap[w.heap.size]? = some (.mapIter (some B) gs.length (seen.push e.born) gs.length) ∧ W5.heap[B]? = some (.map es' gs.length) ∧ w.grownBy W5 (some B)) ∧ (leftOf (mkE (gs.map gpV)) (W5.iterSeen w.heap.size)).size < (leftOf (mkE (gs.map gpV)) (wr.iterSeen w.heap.size)).size) := fun W5 e5 => by
          obtain ⟨hs, hmem, hsame, hel, hsh, hseen⟩ := HMEM.out
          rw [← e5] at g5
          have hit5 : W5.heap[w.heap.size]? = some (.mapIter (some B) gs.length (seen.push e.born) gs.length) := (g5.block _ (by have := (Array.getElem?_eq_some_iff.1 hit4).1; exact this) (by simp; omega)).trans hit4
          refine ⟨⟨hs', fun x hx => ?_, hit5, by rw [e5]; simp [setBlock, hB4], ?_⟩, ?_⟩
          · rw [hmem', hmem x hx, hcp]
            constructor
            · rintro ⟨h, hne⟩ hc hb
              rcases Bool.or_eq_true _ _ ▸ hc with h1 | h1
              · exact h h1 hb
              · have hb2 : e.born = x.born := (by simpa using h1 : x.born = e.born).symm
                exact absurd (hsame x hx hb2.symm) hne
            · intro h
              refine ⟨fun hc hb => h (by rw [hc]; rfl) hb, fun e1 => ?_⟩
              subst e1
              have := h (by simp) hj2
              rw [hkk, hgn] at this
              cases this
          · exact ⟨g5.os.trans hg4.os, g5.tape.trans hg4.tape, g5.output.trans hg4.output, Nat.le_trans hg4.size g5.size, fun i hi hne => (g5.block i (by have := hg4.size; omega) hne).trans (hg4.block i hi hne)⟩
          · have h1 : W5.iterSeen w.heap.size = seen.push e.born := by unfold World.iterSeen; rw [hit5]
            rw [h1, hseen]; exact hsh
        clear hit4 hmap4 hg4 hcp L4 f0 f1 f2 f3 hent hrun g5 hs' hmem' hB4
        go_wp2_with fail
        go_roundw
        case rel => exact ⟨seen.push e.born, es', (HREL.out _ rfl).1⟩
        case measure => exact (HREL.out _ rfl).2

end Go.Proofs.YtodielfilhodeaaGreat
