/-
  A loop over the bits of a number whose body never leaves it, for what is kept by new blocks and by the loop's own book-keeping alone: how often the tape was asked may be kept too.
-/
import Derived.Test.YtibkfdefoaimiaaORng
namespace Go.Proofs.Ytibkfdefoaimiaa
open Go Go.RowKit Go.Shelf

def bitsPost {m : Nat} (B Bx : Nat) (I : List (Fin m) → World → Prop) (ys : List (Fin m)) (W : World) : Exit → Act → World → Prop
  | .normal, _, W' => KeepsFrom B W W' ∧ W'.heap[Bx]? = W.heap[Bx]? ∧ I ys W'
  | _, _, _ => False

theorem wp_bits {g : Operand} {ps : Array Tmp} {assign body : Code} {Q : Exit → Act → World → Prop} {a : Act} {w : World} {x m Bm Bx : Nat} (hx : x < 9223372036854775808) (hm : m ≤ 40)
    (hg : a.eval g = .func (.func 62) #[] #[.pointer (some ⟨Bm, 0, none⟩), .pointer (some ⟨Bx, 0, none⟩)])
    (hBm : w.heap[Bm]? = some (.cells #[.int .i64 (m : Int)] 2)) (hBx : w.heap[Bx]? = some (.cells #[.int .i64 (x : Int)] 2)) (hps : ps.size = 2)
    (I : List (Fin m) → World → Prop) (hIa : ∀ pre W o, I pre W → I pre (W.alloc o))
    (hIp : ∀ pre W l o o', I pre W → w.heap.size ≤ l → W.heap[l]? = some o → o.isCells = false → I pre (W.putObj l o')) (h0 : I [] w) (a₁ : Fin m → Act)
    (hassign : ∀ (l : Nat) (i : Fin m) (W : World) (K : Act → World → Prop), K (a₁ i) W →
      assign.wpIn (Fence.wide.inRound l) 3 Try.prog (Exit.then K (fun _ _ _ => False)) { tmps := (ps.zip (encB x m i)).foldl (fun t (p, v) => t.setIfInBounds p v) a.tmps, defers := [] } W)
    (hbody : ∀ (l : Nat) (pre : List (Fin m)) (i : Fin m) (W : World), I pre W → body.wpIn (Fence.wide.inRound l) 3 Try.prog (bitsPost w.heap.size Bx I (pre ++ [i]) W) (a₁ i) W)
    (hdone : ∀ (D : Nat) (W : World), w.heap.size ≤ D → I (bitsL m m) W → W.heap[D]? = some (.deferred (some [])) → Q .normal { a with defers := { target := .collected D, args := #[] } :: a.defers } W) :
    (Code.rangeFunc g ps assign body).wpIn Fence.wide 5 Try.prog Q a w := by
  refine wpIn_rangeFunc (fun fn hfn => ?_)
  have s1 : Bm < w.heap.size := (Array.getElem?_eq_some_iff.1 hBm).1
  have s2 : Bx < w.heap.size := (Array.getElem?_eq_some_iff.1 hBx).1
  obtain ⟨r0, hr0⟩ : ∃ r0 : Loop, r0 = { state := .ready, pending := none, fn, tmps := a.tmps, params := ps, assign, body, defers := w.heap.size } := ⟨_, rfl⟩
  obtain ⟨V, hV⟩ : ∃ V, V = (w.alloc (.deferred (some []))).alloc (.loop r0) := ⟨_, rfl⟩
  have q1 : V.heap[w.heap.size + 1]? = some (.loop r0) := by
    rw [hV]; have := World.alloc_heap_new (w.alloc (.deferred (some []))) (.loop r0); rwa [World.size_alloc] at this
  have q0 : V.heap[w.heap.size]? = some (.deferred (some [])) := by
    rw [hV]; exact (Below.heap_alloc _ _ _ (by simp)).trans (World.alloc_heap_new w _)
  have qb : Below w.heap.size w V := by rw [hV]; exact ((Below.refl _ w).alloc (Nat.le_refl _) _).alloc (by simp) _
  refine ⟨w.heap.size + 1, [{ target := .collected w.heap.size, args := #[] }], V, { target := .fn (.func 62) #[.pointer (some ⟨Bm, 0, none⟩), .pointer (some ⟨Bx, 0, none⟩)], args := #[.func (.yield (w.heap.size + 1)) #[] #[]] }, V, 62,
    #[.func (.yield (w.heap.size + 1)) #[] #[], .pointer (some ⟨Bm, 0, none⟩), .pointer (some ⟨Bx, 0, none⟩)], V, ?_, ?_, ?_, ?_, fun _ => by decide, ?_⟩
  · rw [hV, hr0]; exact run_enterLoop_outer _ _ _ _ _
  · simp only [resolve, hg]
    simp [go_sem]
  · intro f' _; trivial
  · simp [invoke, go_sem]
  have hin := bits_in Fence.wide 4 trivial rfl (by decide) (w.heap.size + 1) Bm Bx x m hx hm
    (fun pre W => I pre W ∧ W.heap[w.heap.size + 1]? = some (.loop r0) ∧ W.heap[w.heap.size]? = some (.deferred (some []))) (fun _ _ => False) ?_ V
    (by simp [World.cell?, (qb.block Bm s1).trans hBm]) ((qb.block Bx s2).trans hBx) ⟨by rw [hV]; exact hIa _ _ _ (hIa _ _ _ h0), q1, q0⟩
  · refine hin.mono ?_
    rintro e W2 ⟨⟨v, rfl⟩, (⟨ys, rfl, hi, hl, hk⟩ | ⟨_, _, h⟩)⟩
    · have hend := run_endLoop (P := Try.prog) hl (by rw [hr0]; simp)
      have hpn : r0.pending = none := by rw [hr0]
      rw [hpn] at hend
      exact ⟨none, _, hend, hdone _ _ (Nat.le_refl _) (hIp _ _ _ _ _ hi (by omega) hl rfl) ((World.putObj_heap_other (by omega)).trans hk)⟩
    · exact h.elim
  · rintro pre i W ⟨hi, hl, hk⟩ _
    have hlt : w.heap.size + 1 < W.heap.size := (Array.getElem?_eq_some_iff.1 hl).1
    have hy := run_yield (P := Try.prog) (args := encB x m i) hl (by rw [hr0]; exact hps.symm)
    obtain ⟨r1, hr1⟩ : ∃ r1 : Loop, r1 = { r0 with state := .busy } := ⟨_, rfl⟩
    have hbg := run_beginRound (P := Try.prog) hl (by rw [hr0])
    rw [← hr1] at hbg
    have e1 : (W.putObj (w.heap.size + 1) (.loop r1)).heap[w.heap.size + 1]? = some (.loop r1) := World.putObj_heap_same hlt
    have e0 : (W.putObj (w.heap.size + 1) (.loop r1)).heap[w.heap.size]? = some (.deferred (some [])) := (World.putObj_heap_other (by omega)).trans hk
    have ex : (W.putObj (w.heap.size + 1) (.loop r1)).heap[Bx]? = W.heap[Bx]? := World.putObj_heap_other (by omega)
    have hpr : r0.fn = fn ∧ r0.params = ps ∧ r0.tmps = a.tmps ∧ r0.assign = assign ∧ r0.body = body := by rw [hr0]; exact ⟨rfl, rfl, rfl, rfl, rfl⟩
    rw [hpr.1, hpr.2.1, hpr.2.2.1, hpr.2.2.2.1, hpr.2.2.2.2] at hy
    refine ⟨fn, _, assign, body, hy, roundIn_of_wpIn hfn (hassign _ i W _ ⟨_, hbg, ?_⟩)⟩
    refine Go.wpIn_mono (hbody _ pre i _ (hIp _ _ _ _ _ hi (by omega) hl rfl)) ?_
    intro e a3 W3 hp
    cases e with
    | normal =>
      obtain ⟨k3, x3, i3⟩ := hp
      have l3 := k3.same _ _ (by omega) e1 rfl
      have d3 := k3.same _ _ (Nat.le_refl _) e0 rfl
      have hlt3 : w.heap.size + 1 < W3.heap.size := (Array.getElem?_eq_some_iff.1 l3).1
      have her := run_endRound (P := Try.prog) none l3
      have e9 : ({ r1 with state := if (none : Option Code).isNone then .ready else .done, pending := none } : Loop) = r0 := by rw [hr1, hr0]; rfl
      rw [e9] at her
      exact ⟨_, _, her, .inl ⟨rfl, ⟨hIp _ _ _ _ _ i3 (by omega) l3 rfl, World.putObj_heap_same hlt3, (World.putObj_heap_other (by omega)).trans d3⟩, (World.putObj_heap_other (by omega)).trans (x3.trans ex)⟩⟩
    | exit id => exact hp.elim
    | goto l => exact hp.elim
    | ret => exact hp.elim
    | panic ch => exact hp.elim
    | outgrown => exact hp.elim

theorem leaves_marksD {F : Fence} {n : Nat} {P : Program} {fn : Func} {tmps : Array Value} {R : Ending → World → Prop} {n₀ : Nat} : ∀ (Ds : List Nat) (W : World), n₀ ≤ W.heap.size → MarksIn n₀ W Ds →
    (∀ W', Below n₀ W W' → W'.drawn = W.drawn → ∃ v, (results fn tmps).run P W' = .ok v W' ∧ R (.returned v) W') → LeavesInM F n P fn tmps R (marksD Ds) .returning W
  | [], W, _, _, h => h W (Below.refl _ _) rfl
  | D :: Ds, W, h0, hm, h => by
    have hK := (hm.2 D (List.mem_cons_self ..)).2
    have hD := (hm.2 D (List.mem_cons_self ..)).1
    have hb : Below n₀ W (W.putObj D (.deferred none)) := (Below.refl n₀ W).grown (grownBy_putObj' W D _) h0 (fun k e => by cases e; exact hD)
    refine ⟨by simp, .inl ⟨D, _, rfl, run_takeDeferred hK, ?_⟩⟩
    refine leaves_marksD Ds _ (Nat.le_trans h0 hb.size) ?_ (fun W' hW' e => h W' (hb.trans hW') e)
    have hnd := List.nodup_cons.1 hm.1
    refine MarksIn.kept ⟨hnd.2, fun E hE => hm.2 E (List.mem_cons_of_mem _ hE)⟩ (grownBy_putObj' W D _) ?_
    intro E hE e
    cases e
    exact hnd.1 hE
end Go.Proofs.Ytibkfdefoaimiaa
