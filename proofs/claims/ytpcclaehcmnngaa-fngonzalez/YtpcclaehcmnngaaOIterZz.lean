/-
  The program's iterator over the bits of a number, for every loop body that leaves its number as it lies.
  A plain loop whose rounds hold a loop over an iterator: each of these leaves a mark to be taken at the function's end.
-/
import Derived.RangeFuncNested
import Derived.RangeFuncBound
import Derived.RangeFuncCalls
import Derived.RangeFuncLeaves
import Derived.Shelf.Abstract
import Derived.Shelf.RegionOpen
import Derived.WalkKit
import Derived.OwnWalkIn
import Derived.TacticsInMore
import Derived.LoopNIn
import Derived.LoopIn
import Derived.Test.YtpcclaehcmnngaaOBitZz
namespace Go.Proofs.Ytpcclaehcmnngaa
open Go Go.RowKit Go.Shelf

attribute [local go_sem] Oper.semAt_some

set_option maxHeartbeats 400000 in
theorem iBits (x m : Int) (w : World) :
    Calls Try.prog 56 #[.int .i64 x, .int .i64 m] w fun e w' => e = .returned (.func (.func 70) #[] #[.pointer (some ⟨w.heap.size + 1, 0, none⟩), .pointer (some ⟨w.heap.size, 0, none⟩)]) ∧ w' = (w.alloc (.cells #[.int .i64 x] 2)).alloc (.cells #[.int .i64 m] 2) := by
  go_enter Try.func56, Try.ntmps56
  go_wp2
  go_ret
  exact ⟨rfl, rfl⟩

/-- The first k places of m. -/
def bitsL (m k : Nat) : List (Fin m) := (List.finRange m).take k
theorem bitsL_len {m k : Nat} (h : k ≤ m) : (bitsL m k).length = k := by simp [bitsL]; omega
theorem bitsL_succ {m k : Nat} (h : k < m) : bitsL m (k + 1) = bitsL m k ++ [⟨k, h⟩] := by
  unfold bitsL
  rw [List.take_succ_eq_append_getElem (by simp; exact h), List.getElem_finRange]
  rfl
theorem bitsL_all (m : Nat) : bitsL m m = List.finRange m := by
  unfold bitsL; exact List.take_of_length_le (by simp)

def encB (x m : Nat) (p : Fin m) : Array Value := #[.int .i64 (p.1 : Int), .int .i64 (bitN x p.1 : Int)]

theorem bit_and (x k : Nat) (hx : x < 9223372036854775808) : bits .and .i64 ((x : Int) / 2 ^ k) 1 = ((bitN x k : Nat) : Int) := by
  have e : ((x : Int) / 2 ^ k) = ((x / 2 ^ k : Nat) : Int) := by simp
  have hle : x / 2 ^ k ≤ x := Nat.div_le_self _ _
  rw [e, i64_and1 (Int.natCast_nonneg _) (Int.ofNat_lt.2 (Nat.lt_of_le_of_lt hle hx))]
  rfl

set_option maxRecDepth 100000 in
set_option maxHeartbeats 2000000 in
theorem bits_in (F : Fence) (n : Nat) (h62 : F.fn 70) (hro : F.round = none) (hn : 1 ≤ n) (l Bm Bx x m : Nat) (hx : x < 9223372036854775808) (hm : m ≤ 40) (J Jx : List (Fin m) → World → Prop)
    (hY : ∀ pre p W, J pre W → pre.length < m → YieldAt F (n - 1) Try.prog l (encB x m p) W fun e W' =>
      (e = .returned (.bool true) ∧ J (pre ++ [p]) W' ∧ W'.heap[Bx]? = W.heap[Bx]?) ∨ (e = .returned (.bool false) ∧ Jx (pre ++ [p]) W'))
    (W : World) (hBm : W.cell? ⟨Bm, 0, none⟩ = some (.int .i64 (m : Int))) (hBx : W.heap[Bx]? = some (.cells #[.int .i64 (x : Int)] 2)) (h0 : J [] W) :
    CallsIn F n Try.prog 70 #[.func (.yield l) #[] #[], .pointer (some ⟨Bm, 0, none⟩), .pointer (some ⟨Bx, 0, none⟩)] W fun e W' => (∃ v, e = .returned v) ∧
      ((∃ ys, ys = bitsL m m ∧ J ys W') ∨ (∃ pre, True ∧ Jx pre W')) := by
  refine callsIn_of_wp Try.func70 rfl h62 ?_ hro
  simp only [Try.ntmps70, List.size_toArray, List.length_cons, List.length_nil, Nat.reduceAdd, Nat.reduceSub, Array.replicate_succ, Array.replicate_zero, List.push_toArray, List.append_toArray, List.nil_append, List.cons_append]
  gi_wp2
  gi_loopw [6] (fun p wr => ∃ k : Nat, p = .int .i64 (k : Int) ∧ k ≤ m ∧ wr.heap[Bx]? = some (.cells #[.int .i64 (x : Int)] 2) ∧ J (bitsL m k) wr)
    (fun p wr => m - (intOf p).toNat)
  case atStart => exact ⟨0, rfl, Nat.zero_le _, hBx, h0⟩
  case round =>
    obtain ⟨k, rfl, hk, hc, hJs⟩ := hrel
    have hcell : wr.cell? ⟨Bx, 0, none⟩ = some (.int .i64 (x : Int)) := by simp [World.cell?, hc]
    by_cases hlt : k < m
    · have HYk := hidP (hY (bitsL m k) ⟨k, hlt⟩ wr hJs (by rw [bitsL_len hk]; exact hlt))
      have HV := hidP (bit_and x k hx)
      gi_wp2
      rw [HV.out]
      obtain ⟨fn, tmps, assign, body, hy, hR⟩ := HYk.out
      dsimp only [encB] at hy
      rw [hy]
      gi_wp2
      refine hR.mono ?_
      rintro e W3 (⟨rfl, hJ3, hk3⟩ | ⟨rfl, hJx3⟩)
      · gi_wp2
        go_roundw
        case rel => exact ⟨k + 1, by go_num, by omega, hk3.trans hc, by rw [bitsL_succ hlt]; exact hJ3⟩
        case measure => simp [intOf]; omega
      · gi_wp2
        refine bodyPost_ret (results_none rfl _ _ _) rfl ?_
        exact ⟨⟨_, rfl⟩, .inr ⟨_, trivial, hJx3⟩⟩
    · gi_wp2
      go_end0
      obtain rfl : k = m := by omega
      exact ⟨⟨_, rfl⟩, .inl ⟨_, rfl, hJs⟩⟩

theorem bits_stops (F : Fence) (n : Nat) (h62 : F.fn 70) (hro : F.round = none) (hn : 1 ≤ n) (Bm Bx x m : Nat) (hx : x < 9223372036854775808) (hm : m ≤ 40) (w : World)
    (hBm : w.heap[Bm]? = some (.cells #[.int .i64 (m : Int)] 2)) (hBx : w.heap[Bx]? = some (.cells #[.int .i64 (x : Int)] 2)) :
    SeqStopsK F n Try.prog 70 #[.pointer (some ⟨Bm, 0, none⟩), .pointer (some ⟨Bx, 0, none⟩)] (encB x m) (fun W W' => W'.heap[Bx]? = W.heap[Bx]?) (fun ys => ys = bitsL m m) (fun _ => True) m w := by
  intro l J Jx W hW hJ hJx hY h0
  have b1 : Bm < w.heap.size := (Array.getElem?_eq_some_iff.1 hBm).1
  have b2 : Bx < w.heap.size := (Array.getElem?_eq_some_iff.1 hBx).1
  have e1 := (hW.block Bm b1).trans hBm
  have e2 := (hW.block Bx b2).trans hBx
  exact bits_in F n h62 hro hn l Bm Bx x m hx hm J Jx hY W (by simp [World.cell?, e1]) e2 h0
end Go.Proofs.Ytpcclaehcmnngaa
namespace Go.Proofs.Ytpcclaehcmnngaa
open Go Go.RowKit Go.Shelf

theorem loop_upTo {F : Fence} {n : Nat} {P : Program} {c : Code} {Q : Exit → Act → World → Prop} (R : Nat → Act → World → Prop) (M : Nat)
    (hstep : ∀ k a w, k ≤ M → R k a w → c.wpIn F n P (Exit.then (fun a' w' => k < M ∧ R (k + 1) a' w') Q) a w) :
    ∀ k a w, k ≤ M → R k a w → (Code.loop c).wpIn F n P Q a w := by
  have key : ∀ m k a w, k + m = M + 1 → R k a w → k ≤ M → Code.roundsIn F n P c Q m a w := by
    intro m
    induction m with
    | zero => intro k a w h _ h2; omega
    | succ m ih =>
      intro k a w h hr hk
      rw [roundsIn_succ]
      refine wpIn_mono (hstep k a w hk hr) ?_
      intro e a' w' hq
      cases e with
      | normal => exact ih (k + 1) a' w' (by omega) hq.2 (by have := hq.1; omega)
      | exit id => exact hq
      | goto l => exact hq
      | ret => exact hq
      | panic ch => exact hq
      | outgrown => exact hq
  intro k a w hk hr
  exact wpIn_loop_rounds (M + 1 - k) (key _ k a w (by omega) hr hk)

/-- The marks that loops over iterators have left. -/
def marksD (Ds : List Nat) : List Deferred := Ds.map fun D => { target := .collected D, args := #[] }
def MarksIn (n₀ : Nat) (W : World) (Ds : List Nat) : Prop := Ds.Nodup ∧ ∀ D ∈ Ds, n₀ ≤ D ∧ W.heap[D]? = some (.deferred (some []))

theorem MarksIn.nil (n₀ : Nat) (W : World) : MarksIn n₀ W [] := ⟨List.nodup_nil, fun _ h => by cases h⟩
theorem MarksIn.cons {n₀ B : Nat} {W : World} {Ds : List Nat} (h : MarksIn n₀ W Ds) (hB : ∀ D ∈ Ds, D < B) {D : Nat} (hD : B ≤ D) (h0 : n₀ ≤ D) (hK : W.heap[D]? = some (.deferred (some []))) : MarksIn n₀ W (D :: Ds) :=
  ⟨List.nodup_cons.2 ⟨fun hm => by have := hB D hm; omega, h.1⟩, fun E hE => by
    rcases List.mem_cons.1 hE with rfl | hE
    · exact ⟨h0, hK⟩
    · exact h.2 E hE⟩
theorem MarksIn.lt {n₀ : Nat} {W : World} {Ds : List Nat} (h : MarksIn n₀ W Ds) : ∀ D ∈ Ds, D < W.heap.size := fun D hD => (Array.getElem?_eq_some_iff.1 (h.2 D hD).2).1
theorem MarksIn.kept {n₀ : Nat} {W W' : World} {row : Option Nat} {Ds : List Nat} (h : MarksIn n₀ W Ds) (hg : W.grownBy W' row) (hne : ∀ D ∈ Ds, some D ≠ row) : MarksIn n₀ W' Ds :=
  ⟨h.1, fun D hD => ⟨(h.2 D hD).1, (hg.block D (h.lt D hD) (hne D hD)).trans (h.2 D hD).2⟩⟩
theorem MarksIn.alloc {n₀ : Nat} {W : World} {Ds : List Nat} (h : MarksIn n₀ W Ds) (o : Obj) : MarksIn n₀ (W.alloc o) Ds := h.kept (World.grownBy_alloc W o none) (by simp)
theorem MarksIn.box {n₀ B t : Nat} {W : World} {Ds : List Nat} {v : Value} (h : MarksIn n₀ W Ds) (hb : Boxed W B t v) (u : Value) : MarksIn n₀ (W.setCell ⟨B, 0, none⟩ u) Ds :=
  h.kept (grownBy_setCell' W B u) (fun D hD e => by cases e; have := (h.2 B hD).2; rw [show W.heap[B]? = _ from hb] at this; cases this)
theorem marksIn_own {β : Type} {n₀ B : Nat} {Ds : List Nat} (hB : ∀ D ∈ Ds, D < B) : OwnFrom B (fun (_ : β) W => MarksIn n₀ W Ds) :=
  fun _ _ _ _ hs hg hr => hs.kept hg (fun D hD e => by have := (hr D e.symm).1; have := hB D hD; omega)

theorem leaves_marks {F : Fence} {n : Nat} {P : Program} {fn : Func} {tmps : Array Value} {R : Ending → World → Prop} {n₀ : Nat} : ∀ (Ds : List Nat) (W : World), n₀ ≤ W.heap.size → MarksIn n₀ W Ds →
    (∀ W', Below n₀ W W' → ∃ v, (results fn tmps).run P W' = .ok v W' ∧ R (.returned v) W') → LeavesInM F n P fn tmps R (marksD Ds) .returning W
  | [], W, _, _, h => h W (Below.refl _ _)
  | D :: Ds, W, h0, hm, h => by
    have hK := (hm.2 D (List.mem_cons_self ..)).2
    have hD := (hm.2 D (List.mem_cons_self ..)).1
    have hb : Below n₀ W (W.putObj D (.deferred none)) := (Below.refl n₀ W).grown (grownBy_putObj' W D _) h0 (fun k e => by cases e; exact hD)
    refine ⟨by simp, .inl ⟨D, _, rfl, run_takeDeferred hK, ?_⟩⟩
    refine leaves_marks Ds _ (Nat.le_trans h0 hb.size) ?_ (fun W' hW' => h W' (hb.trans hW'))
    have hnd := List.nodup_cons.1 hm.1
    refine MarksIn.kept ⟨hnd.2, fun E hE => hm.2 E (List.mem_cons_of_mem _ hE)⟩ (grownBy_putObj' W D _) ?_
    intro E hE e
    cases e
    exact hnd.1 hE
end Go.Proofs.Ytpcclaehcmnngaa
