/-
  The program's iterator over the bits of a number, for every loop body that leaves its number as it lies.
  The program's Prefix: what the given one answers.
  A plain loop whose rounds hold a loop over an iterator: each of these leaves a mark to be taken at the function's end.
  A loop over the bits of a number whose body never leaves it, for what is kept by new blocks and by the loop's own book-keeping alone: how often the tape was asked may be kept too.
-/
import Derived.RangeFuncNested
import Derived.RangeFuncBound
import Derived.RangeFuncCalls
import Derived.RangeFuncLeaves
import Derived.Shelf.Abstract
import Derived.Shelf.RegionOpen
import Derived.WalkKit
import Derived.OwnWalkIn
import Derived.TacticsInMore
import Derived.LoopNIn
import Derived.LoopIn
import Derived.Test.YtibkfdefoaimiaaOBitZz
namespace Go.Proofs.Ytibkfdefoaimiaa
open Go Go.RowKit Go.Shelf

attribute [local go_sem] Oper.semAt_some

set_option maxHeartbeats 400000 in
theorem iBits (x m : Int) (w : World) :
    Calls Try.prog 40 #[.int .i64 x, .int .i64 m] w fun e w' => e = .returned (.func (.func 62) #[] #[.pointer (some ⟨w.heap.size + 1, 0, none⟩), .pointer (some ⟨w.heap.size, 0, none⟩)]) ∧ w' = (w.alloc (.cells #[.int .i64 x] 2)).alloc (.cells #[.int .i64 m] 2) := by
  go_enter Try.func40, Try.ntmps40
  go_wp2
  go_ret
  exact ⟨rfl, rfl⟩

/-- The first k places of m. -/
def bitsL (m k : Nat) : List (Fin m) := (List.finRange m).take k
theorem bitsL_len {m k : Nat} (h : k ≤ m) : (bitsL m k).length = k := by simp [bitsL]; omega
theorem bitsL_succ {m k : Nat} (h : k < m) : bitsL m (k + 1) = bitsL m k ++ [⟨k, h⟩] := by
  unfold bitsL
  rw [List.take_succ_eq_append_getElem (by simp; exact h), List.getElem_finRange]
  rfl
theorem bitsL_all (m : Nat) : bitsL m m = List.finRange m := by
  unfold bitsL; exact List.take_of_length_le (by simp)

def encB (x m : Nat) (p : Fin m) : Array Value := #[.int .i64 (p.1 : Int), .int .i64 (bitN x p.1 : Int)]

theorem bit_and (x k : Nat) (hx : x < 9223372036854775808) : bits .and .i64 ((x : Int) / 2 ^ k) 1 = ((bitN x k : Nat) : Int) := by
  have e : ((x : Int) / 2 ^ k) = ((x / 2 ^ k : Nat) : Int) := by simp
  have hle : x / 2 ^ k ≤ x := Nat.div_le_self _ _
  rw [e, i64_and1 (Int.natCast_nonneg _) (Int.ofNat_lt.2 (Nat.lt_of_le_of_lt hle hx))]
  rfl

set_option maxRecDepth 100000 in
set_option maxHeartbeats 2000000 in
theorem bits_in (F : Fence) (n : Nat) (h62 : F.fn 62) (hro : F.round = none) (hn : 1 ≤ n) (l Bm Bx x m : Nat) (hx : x < 9223372036854775808) (hm : m ≤ 40) (J Jx : List (Fin m) → World → Prop)
    (hY : ∀ pre p W, J pre W → pre.length < m → YieldAt F (n - 1) Try.prog l (encB x m p) W fun e W' =>
      (e = .returned (.bool true) ∧ J (pre ++ [p]) W' ∧ W'.heap[Bx]? = W.heap[Bx]?) ∨ (e = .returned (.bool false) ∧ Jx (pre ++ [p]) W'))
    (W : World) (hBm : W.cell? ⟨Bm, 0, none⟩ = some (.int .i64 (m : Int))) (hBx : W.heap[Bx]? = some (.cells #[.int .i64 (x : Int)] 2)) (h0 : J [] W) :
    CallsIn F n Try.prog 62 #[.func (.yield l) #[] #[], .pointer (some ⟨Bm, 0, none⟩), .pointer (some ⟨Bx, 0, none⟩)] W fun e W' => (∃ v, e = .returned v) ∧
      ((∃ ys, ys = bitsL m m ∧ J ys W') ∨ (∃ pre, True ∧ Jx pre W')) := by
  refine callsIn_of_wp Try.func62 rfl h62 ?_ hro
  simp only [Try.ntmps62, List.size_toArray, List.length_cons, List.length_nil, Nat.reduceAdd, Nat.reduceSub, Array.replicate_succ, Array.replicate_zero, List.push_toArray, List.append_toArray, List.nil_append, List.cons_append]
  gi_wp2
  gi_loopw [6] (fun p wr => ∃ k : Nat, p = .int .i64 (k : Int) ∧ k ≤ m ∧ wr.heap[Bx]? = some (.cells #[.int .i64 (x : Int)] 2) ∧ J (bitsL m k) wr)
    (fun p wr => m - (intOf p).toNat)
  case atStart => exact ⟨0, rfl, Nat.zero_le _, hBx, h0⟩
  case round =>
    obtain ⟨k, rfl, hk, hc, hJs⟩ := hrel
    have hcell : wr.cell? ⟨Bx, 0, none⟩ = some (.int .i64 (x : Int)) := by simp [World.cell?, hc]
    by_cases hlt : k < m
    · have HYk := hidP (hY (bitsL m k) ⟨k, hlt⟩ wr hJs (by rw [bitsL_len hk]; exact hlt))
      have HV := hidP (bit_and x k hx)
      gi_wp2
      rw [HV.out]
      obtain ⟨fn, tmps, assign, body, hy, hR⟩ := HYk.out
      dsimp only [encB] at hy
      rw [hy]
      gi_wp2
      refine hR.mono ?_
      rintro e W3 (⟨rfl, hJ3, hk3⟩ | ⟨rfl, hJx3⟩)
      · gi_wp2
        go_roundw
        case rel => exact ⟨k + 1, by go_num, by omega, hk3.trans hc, by rw [bitsL_succ hlt]; exact hJ3⟩
        case measure => simp [intOf]; omega
      · gi_wp2
        refine bodyPost_ret (results_none rfl _ _ _) rfl ?_
        exact ⟨⟨_, rfl⟩, .inr ⟨_, trivial, hJx3⟩⟩
    · gi_wp2
      go_end0
      obtain rfl : k = m := by omega
      exact ⟨⟨_, rfl⟩, .inl ⟨_, rfl, hJs⟩⟩

theorem bits_stops (F : Fence) (n : Nat) (h62 : F.fn 62) (hro : F.round = none) (hn : 1 ≤ n) (Bm Bx x m : Nat) (hx : x < 9223372036854775808) (hm : m ≤ 40) (w : World)
    (hBm : w.heap[Bm]? = some (.cells #[.int .i64 (m : Int)] 2)) (hBx : w.heap[Bx]? = some (.cells #[.int .i64 (x : Int)] 2)) :
    SeqStopsK F n Try.prog 62 #[.pointer (some ⟨Bm, 0, none⟩), .pointer (some ⟨Bx, 0, none⟩)] (encB x m) (fun W W' => W'.heap[Bx]? = W.heap[Bx]?) (fun ys => ys = bitsL m m) (fun _ => True) m w := by
  intro l J Jx W hW hJ hJx hY h0
  have b1 : Bm < w.heap.size := (Array.getElem?_eq_some_iff.1 hBm).1
  have b2 : Bx < w.heap.size := (Array.getElem?_eq_some_iff.1 hBx).1
  have e1 := (hW.block Bm b1).trans hBm
  have e2 := (hW.block Bx b2).trans hBx
  exact bits_in F n h62 hro hn l Bm Bx x m hx hm J Jx hY W (by simp [World.cell?, e1]) e2 h0
end Go.Proofs.Ytibkfdefoaimiaa
namespace Go.Proofs.Ytibkfdefoaimiaa
open Go Go.RowKit Go.Shelf

attribute [local go_sem] Oper.semAt_some

/-- Has x no more than m bits? -/
def bitsB (x : Int) (m : Nat) : Bool := decide (x / 2 ^ m = 0)
theorem bitsB_iff (x : Int) (m : Nat) : bitsB x m = true ↔ 0 ≤ x ∧ x < 2 ^ m := by
  unfold bitsB
  have hp : (0 : Int) < 2 ^ m := Int.pow_pos (by decide)
  rw [decide_eq_true_eq]
  constructor
  · intro h
    have h1 := Int.mul_ediv_add_emod x (2 ^ m)
    have h2 := Int.emod_nonneg x (Int.ne_of_gt hp)
    have h3 := Int.emod_lt_of_pos x hp
    rw [h, Int.mul_zero] at h1
    omega
  · rintro ⟨h1, h2⟩
    exact Int.ediv_eq_zero_of_lt h1 h2
theorem bitsB_forty (x : Int) : bitsB x 40 = fortyB x := by
  rw [Bool.eq_iff_iff, bitsB_iff]
  simp [fortyB]
  omega

set_option maxHeartbeats 400000 in
theorem iHas (x : Int) (m : Nat) (hm : m ≤ 40) (w : World) :
    Calls Try.prog 44 #[.int .i64 x, .int .i64 (m : Int)] w fun e w' => e = .returned (.bool (bitsB x m)) ∧ w' = w := by
  go_enter Try.func44, Try.ntmps44
  go_wp2
  go_ret
  exact ⟨rfl, rfl⟩

/-- What the rounds leave. -/
def preL (x : Nat) (pre : List (Fin 40)) : Int := pre.foldl (fun a i => if bitN x i.1 = 1 then 39 - (i.1 : Int) else a) 40
theorem preL_snoc (x : Nat) (pre : List (Fin 40)) (i : Fin 40) : preL x (pre ++ [i]) = if bitN x i.1 = 1 then 39 - (i.1 : Int) else preL x pre := by simp [preL]
theorem preL_bits (x : Nat) : ∀ k, k ≤ 40 → preL x (bitsL 40 k) = preP x k
  | 0, _ => rfl
  | k + 1, h => by rw [bitsL_succ (by omega), preL_snoc, preP, preL_bits x k (by omega)]

set_option maxRecDepth 100000 in
set_option maxHeartbeats 4000000 in
theorem iPre_in (a b : Int) (w : World) (ha : fortyB a = true) (hb : fortyB b = true) :
    Calls Try.prog 26 #[.int .i64 a, .int .i64 b] w fun e w' => e = .returned (.int .i64 (preV a b)) ∧ Below w.heap.size w w' := by
  have HA : Hid (bitsB a 40 = true) := (bitsB_forty a).trans ha
  have HB : Hid (bitsB b 40 = true) := (bitsB_forty b).trans hb
  have HX := hidP (i64_xor (a := a) (b := b) (fortyB_lt ha).2 (by have := (fortyB_lt ha).1; omega) (fortyB_lt hb).2 (by have := (fortyB_lt hb).1; omega))
  have HL := hidP (xor_lt40 ha hb)
  have HP := hidP (show preV a b = 40 - blen (a.toNat ^^^ b.toNat) from if_pos ⟨ha, hb⟩)
  clear ha hb
  obtain ⟨X, hX⟩ : ∃ X, a.toNat ^^^ b.toNat = X := ⟨_, rfl⟩
  rw [hX] at HX HL HP
  clear hX
  refine (callsIn_wide (n := 5)).1 ?_
  refine callsIn_of_wp_marks Try.func26 rfl trivial ?_ rfl
  simp only [Try.ntmps26, List.size_toArray, List.length_cons, List.length_nil, Nat.reduceAdd, Nat.reduceSub, Array.replicate_succ, Array.replicate_zero, List.push_toArray, List.append_toArray, List.nil_append, List.cons_append]
  gi_wp2_with first
    | (refine ⟨trivial, ?_⟩; gi_at_call 44; have h1 := HA; clear HA; refine (callsIn_wide.2 (iHas a 40 (by decide) _)).mono ?_; rintro e w' ⟨rfl, rfl⟩; rw [h1.out])
    | (refine ⟨trivial, ?_⟩; gi_at_call 44; have h1 := HB; clear HB; refine (callsIn_wide.2 (iHas b 40 (by decide) _)).mono ?_; rintro e w' ⟨rfl, rfl⟩; rw [h1.out])
    | (refine ⟨trivial, ?_⟩; gi_at_call 40; rw [HX.out]; refine (callsIn_wide.2 (iBits (X : Int) 40 _)).mono ?_; rintro e w' ⟨rfl, rfl⟩)
  obtain ⟨w3, hw3⟩ : ∃ w3, ((w'.alloc (.cells #[.int .i64 40] 2)).alloc (.cells #[.int .i64 (X : Int)] 2)).alloc (.cells #[.int .i64 40] 2) = w3 := ⟨_, rfl⟩
  have hsz : w3.heap.size = w'.heap.size + 3 := by rw [← hw3]; simp
  have b0 : Boxed w3 w'.heap.size 2 (.int .i64 40) := by rw [← hw3]; exact ((Boxed.new w' 2 _).alloc _).alloc _
  have b1 : Boxed w3 (w'.heap.size + 1) 2 (.int .i64 (X : Int)) := by
    rw [← hw3]; have := Boxed.new (w'.alloc (.cells #[.int .i64 40] 2)) 2 (.int .i64 (X : Int)); rw [World.size_alloc] at this; exact this.alloc _
  have b2 : Boxed w3 (w'.heap.size + 1 + 1) 2 (.int .i64 ((40 : Nat) : Int)) := by
    rw [← hw3]; have := Boxed.new ((w'.alloc (.cells #[.int .i64 40] 2)).alloc (.cells #[.int .i64 (X : Int)] 2)) 2 (.int .i64 40); rw [World.size_alloc, World.size_alloc] at this; exact this
  have hB3 : Below w'.heap.size w' w3 := by rw [← hw3]; exact (((Below.refl _ w').alloc (Nat.le_refl _) _).alloc (by simp) _).alloc (by simp; omega) _
  rw [hw3]
  clear hw3
  refine wpIn_rangeFunc_ownG rfl (by decide) (gf := 62) (lb := #[.pointer (some ⟨w'.heap.size + 1 + 1, 0, none⟩), .pointer (some ⟨w'.heap.size + 1, 0, none⟩)]) rfl trivial (enters_of Try.func62 (by kernel_rfl) rfl)
    (bits_stops Fence.wide (5 - 1) trivial rfl (by decide) (w'.heap.size + 1 + 1) (w'.heap.size + 1) X 40 (by have := HL.out; omega) (by decide) w3 b2 b1) (fun h k => k.trans h)
    (fun W l o o' hl h _ _ => (belowK_b (Nat.le_refl _) W l o o' hl h ‹_› ‹_›).block _ (by omega)) (Below.refl _ _) (fun _ => rfl)
    (fun pre W => Boxed W w'.heap.size 2 (.int .i64 (preL X pre)) ∧ Boxed W (w'.heap.size + 1) 2 (.int .i64 (X : Int)) ∧ Below w'.heap.size w' W) (fun _ _ _ => False)
    (OwnFrom.and (Own.from (boxed_own _ 2 (fun pre => .int .i64 (preL X pre))) _) (OwnFrom.and (Own.from (boxed_own _ 2 (fun _ => .int .i64 (X : Int))) _) (ownFrom_below (Nat.le_refl _) (by omega))))
    (fun _ _ _ _ _ hs _ _ => hs) ⟨b0, b1, hB3⟩
    (fun i => { tmps := #[.int .i64 a, .int .i64 b, undef, undef, .int .i64 0,
          .pointer (some { block := w'.heap.size, off := 0 }), .int .i64 (i.1 : Int), .int .i64 (bitN X i.1 : Int), .int .i64 a,
          .bool true, .bool false, .bool false, .int .i64 b, .bool true, .bool false, .bool false, .int .i64 a, .int .i64 b, .int .i64 (X : Int),
          .func (.func 62) #[] #[.pointer (some { block := w'.heap.size + 1 + 1, off := 0 }), .pointer (some { block := w'.heap.size + 1, off := 0 })],
          .int .i64 (i.1 : Int), .int .i64 (bitN X i.1 : Int), undef, undef, undef, undef, undef], defers := [] }) ?assign ?body ?done ?stop
  case assign =>
    intro l i W K hK
    dsimp only [encB]
    gi_wp2
    exact hK
  case body =>
    rintro l pre i W ⟨hbx, hbX, hB⟩ _
    have hc := hbx.cell
    have hf := hbx.frozen
    have HS := hidP (preL_snoc X pre i)
    have hi := i.2
    have hb := bitN_lt X i.1
    by_cases h1 : bitN X i.1 = 1
    · rw [if_pos h1] at HS
      rw [show ((bitN X i.1 : Nat) : Int) = 1 by omega]
      gi_wp2
      refine ⟨(KeepsOthers.setCell _ _ _).from _, ?_, ?_, hbX.other (by omega) _, ?_⟩
      · exact (hbX.other (by omega) _).trans hbX.symm
      · rw [HS.out]; exact hbx.set _
      · exact hB.setCell (p := ⟨w'.heap.size, 0, none⟩) (Nat.le_refl _) _
    · rw [if_neg h1] at HS
      rw [show ((bitN X i.1 : Nat) : Int) = 0 by omega]
      gi_wp2
      exact ⟨(KeepsOthers.refl _).from _, rfl, by rw [HS.out]; exact hbx, hbX, hB⟩
  case done =>
    rintro D ys W hD rfl ⟨hbx, _, hB⟩ hK
    have hc := hbx.cell
    gi_wp2
    refine ⟨by simp, .inl ⟨_, _, rfl, run_takeDeferred hK, ?_⟩⟩
    refine ⟨_, results_tmp rfl _ _ _, ?_, ?_⟩
    · rw [HP.out, ← preP_blen X 40 HL.out, ← preL_bits X 40 (Nat.le_refl _)]; rfl
    · exact hB.trans (belowK_b (w := w') (Nat.le_refl _) W D _ _ (by omega) hK rfl rfl)
  case stop =>
    rintro D c pre W _ _ h _
    exact h.elim

set_option maxRecDepth 100000 in
set_option maxHeartbeats 2000000 in
theorem iPre (a b : Int) (w : World) :
    Calls Try.prog 26 #[.int .i64 a, .int .i64 b] w fun e w' => e = .returned (.int .i64 (preV a b)) ∧ Below w.heap.size w w' := by
  rcases hfa : fortyB a with _ | _
  · have HP := hidP (preV_neg (a := a) (b := b) (by simp [hfa]))
    have HA : Hid (bitsB a 40 = false) := (bitsB_forty a).trans hfa
    clear hfa
    go_enter Try.func26, Try.ntmps26
    go_wp2_with (go_at_call 44; refine (iHas a 40 (by decide) _).mono ?_; rintro e w' ⟨rfl, rfl⟩; rw [HA.out])
    go_ret
    exact ⟨by rw [HP.out]; rfl, Below.refl _ _⟩
  · rcases hfb : fortyB b with _ | _
    · have HP := hidP (preV_neg (a := a) (b := b) (by simp [hfb]))
      have HA : Hid (bitsB a 40 = true) := (bitsB_forty a).trans hfa
      have HB : Hid (bitsB b 40 = false) := (bitsB_forty b).trans hfb
      clear hfa hfb
      go_enter Try.func26, Try.ntmps26
      go_wp2_with (go_at_call 44; first | (have h1 := HA; clear HA; refine (iHas a 40 (by decide) _).mono ?_; rintro e w' ⟨rfl, rfl⟩; rw [h1.out]) | (refine (iHas b 40 (by decide) _).mono ?_; rintro e w' ⟨rfl, rfl⟩; rw [HB.out]))
      go_ret
      exact ⟨by rw [HP.out]; rfl, Below.refl _ _⟩
    · exact iPre_in a b w hfa hfb
end Go.Proofs.Ytibkfdefoaimiaa
namespace Go.Proofs.Ytibkfdefoaimiaa
open Go Go.RowKit Go.Shelf

theorem loop_upTo {F : Fence} {n : Nat} {P : Program} {c : Code} {Q : Exit → Act → World → Prop} (R : Nat → Act → World → Prop) (M : Nat)
    (hstep : ∀ k a w, k ≤ M → R k a w → c.wpIn F n P (Exit.then (fun a' w' => k < M ∧ R (k + 1) a' w') Q) a w) :
    ∀ k a w, k ≤ M → R k a w → (Code.loop c).wpIn F n P Q a w := by
  have key : ∀ m k a w, k + m = M + 1 → R k a w → k ≤ M → Code.roundsIn F n P c Q m a w := by
    intro m
    induction m with
    | zero => intro k a w h _ h2; omega
    | succ m ih =>
      intro k a w h hr hk
      rw [roundsIn_succ]
      refine wpIn_mono (hstep k a w hk hr) ?_
      intro e a' w' hq
      cases e with
      | normal => exact ih (k + 1) a' w' (by omega) hq.2 (by have := hq.1; omega)
      | exit id => exact hq
      | goto l => exact hq
      | ret => exact hq
      | panic ch => exact hq
      | outgrown => exact hq
  intro k a w hk hr
  exact wpIn_loop_rounds (M + 1 - k) (key _ k a w (by omega) hr hk)

/-- The marks that loops over iterators have left. -/
def marksD (Ds : List Nat) : List Deferred := Ds.map fun D => { target := .collected D, args := #[] }
def MarksIn (n₀ : Nat) (W : World) (Ds : List Nat) : Prop := Ds.Nodup ∧ ∀ D ∈ Ds, n₀ ≤ D ∧ W.heap[D]? = some (.deferred (some []))

theorem MarksIn.nil (n₀ : Nat) (W : World) : MarksIn n₀ W [] := ⟨List.nodup_nil, fun _ h => by cases h⟩
theorem MarksIn.cons {n₀ B : Nat} {W : World} {Ds : List Nat} (h : MarksIn n₀ W Ds) (hB : ∀ D ∈ Ds, D < B) {D : Nat} (hD : B ≤ D) (h0 : n₀ ≤ D) (hK : W.heap[D]? = some (.deferred (some []))) : MarksIn n₀ W (D :: Ds) :=
  ⟨List.nodup_cons.2 ⟨fun hm => by have := hB D hm; omega, h.1⟩, fun E hE => by
    rcases List.mem_cons.1 hE with rfl | hE
    · exact ⟨h0, hK⟩
    · exact h.2 E hE⟩
theorem MarksIn.lt {n₀ : Nat} {W : World} {Ds : List Nat} (h : MarksIn n₀ W Ds) : ∀ D ∈ Ds, D < W.heap.size := fun D hD => (Array.getElem?_eq_some_iff.1 (h.2 D hD).2).1
theorem MarksIn.kept {n₀ : Nat} {W W' : World} {row : Option Nat} {Ds : List Nat} (h : MarksIn n₀ W Ds) (hg : W.grownBy W' row) (hne : ∀ D ∈ Ds, some D ≠ row) : MarksIn n₀ W' Ds :=
  ⟨h.1, fun D hD => ⟨(h.2 D hD).1, (hg.block D (h.lt D hD) (hne D hD)).trans (h.2 D hD).2⟩⟩
theorem MarksIn.alloc {n₀ : Nat} {W : World} {Ds : List Nat} (h : MarksIn n₀ W Ds) (o : Obj) : MarksIn n₀ (W.alloc o) Ds := h.kept (World.grownBy_alloc W o none) (by simp)
theorem MarksIn.box {n₀ B t : Nat} {W : World} {Ds : List Nat} {v : Value} (h : MarksIn n₀ W Ds) (hb : Boxed W B t v) (u : Value) : MarksIn n₀ (W.setCell ⟨B, 0, none⟩ u) Ds :=
  h.kept (grownBy_setCell' W B u) (fun D hD e => by cases e; have := (h.2 B hD).2; rw [show W.heap[B]? = _ from hb] at this; cases this)
theorem marksIn_own {β : Type} {n₀ B : Nat} {Ds : List Nat} (hB : ∀ D ∈ Ds, D < B) : OwnFrom B (fun (_ : β) W => MarksIn n₀ W Ds) :=
  fun _ _ _ _ hs hg hr => hs.kept hg (fun D hD e => by have := (hr D e.symm).1; have := hB D hD; omega)

theorem leaves_marks {F : Fence} {n : Nat} {P : Program} {fn : Func} {tmps : Array Value} {R : Ending → World → Prop} {n₀ : Nat} : ∀ (Ds : List Nat) (W : World), n₀ ≤ W.heap.size → MarksIn n₀ W Ds →
    (∀ W', Below n₀ W W' → ∃ v, (results fn tmps).run P W' = .ok v W' ∧ R (.returned v) W') → LeavesInM F n P fn tmps R (marksD Ds) .returning W
  | [], W, _, _, h => h W (Below.refl _ _)
  | D :: Ds, W, h0, hm, h => by
    have hK := (hm.2 D (List.mem_cons_self ..)).2
    have hD := (hm.2 D (List.mem_cons_self ..)).1
    have hb : Below n₀ W (W.putObj D (.deferred none)) := (Below.refl n₀ W).grown (grownBy_putObj' W D _) h0 (fun k e => by cases e; exact hD)
    refine ⟨by simp, .inl ⟨D, _, rfl, run_takeDeferred hK, ?_⟩⟩
    refine leaves_marks Ds _ (Nat.le_trans h0 hb.size) ?_ (fun W' hW' => h W' (hb.trans hW'))
    have hnd := List.nodup_cons.1 hm.1
    refine MarksIn.kept ⟨hnd.2, fun E hE => hm.2 E (List.mem_cons_of_mem _ hE)⟩ (grownBy_putObj' W D _) ?_
    intro E hE e
    cases e
    exact hnd.1 hE
end Go.Proofs.Ytibkfdefoaimiaa
namespace Go.Proofs.Ytibkfdefoaimiaa
open Go Go.RowKit Go.Shelf

def bitsPost {m : Nat} (B Bx : Nat) (I : List (Fin m) → World → Prop) (ys : List (Fin m)) (W : World) : Exit → Act → World → Prop
  | .normal, _, W' => KeepsFrom B W W' ∧ W'.heap[Bx]? = W.heap[Bx]? ∧ I ys W'
  | _, _, _ => False

theorem wp_bits {g : Operand} {ps : Array Tmp} {assign body : Code} {Q : Exit → Act → World → Prop} {a : Act} {w : World} {x m Bm Bx : Nat} (hx : x < 9223372036854775808) (hm : m ≤ 40)
    (hg : a.eval g = .func (.func 62) #[] #[.pointer (some ⟨Bm, 0, none⟩), .pointer (some ⟨Bx, 0, none⟩)])
    (hBm : w.heap[Bm]? = some (.cells #[.int .i64 (m : Int)] 2)) (hBx : w.heap[Bx]? = some (.cells #[.int .i64 (x : Int)] 2)) (hps : ps.size = 2)
    (I : List (Fin m) → World → Prop) (hIa : ∀ pre W o, I pre W → I pre (W.alloc o))
    (hIp : ∀ pre W l o o', I pre W → w.heap.size ≤ l → W.heap[l]? = some o → o.isCells = false → I pre (W.putObj l o')) (h0 : I [] w) (a₁ : Fin m → Act)
    (hassign : ∀ (l : Nat) (i : Fin m) (W : World) (K : Act → World → Prop), K (a₁ i) W →
      assign.wpIn (Fence.wide.inRound l) 3 Try.prog (Exit.then K (fun _ _ _ => False)) { tmps := (ps.zip (encB x m i)).foldl (fun t (p, v) => t.setIfInBounds p v) a.tmps, defers := [] } W)
    (hbody : ∀ (l : Nat) (pre : List (Fin m)) (i : Fin m) (W : World), I pre W → body.wpIn (Fence.wide.inRound l) 3 Try.prog (bitsPost w.heap.size Bx I (pre ++ [i]) W) (a₁ i) W)
    (hdone : ∀ (D : Nat) (W : World), w.heap.size ≤ D → I (bitsL m m) W → W.heap[D]? = some (.deferred (some [])) → Q .normal { a with defers := { target := .collected D, args := #[] } :: a.defers } W) :
    (Code.rangeFunc g ps assign body).wpIn Fence.wide 5 Try.prog Q a w := by
  refine wpIn_rangeFunc (fun fn hfn => ?_)
  have s1 : Bm < w.heap.size := (Array.getElem?_eq_some_iff.1 hBm).1
  have s2 : Bx < w.heap.size := (Array.getElem?_eq_some_iff.1 hBx).1
  obtain ⟨r0, hr0⟩ : ∃ r0 : Loop, r0 = { state := .ready, pending := none, fn, tmps := a.tmps, params := ps, assign, body, defers := w.heap.size } := ⟨_, rfl⟩
  obtain ⟨V, hV⟩ : ∃ V, V = (w.alloc (.deferred (some []))).alloc (.loop r0) := ⟨_, rfl⟩
  have q1 : V.heap[w.heap.size + 1]? = some (.loop r0) := by
    rw [hV]; have := World.alloc_heap_new (w.alloc (.deferred (some []))) (.loop r0); rwa [World.size_alloc] at this
  have q0 : V.heap[w.heap.size]? = some (.deferred (some [])) := by
    rw [hV]; exact (Below.heap_alloc _ _ _ (by simp)).trans (World.alloc_heap_new w _)
  have qb : Below w.heap.size w V := by rw [hV]; exact ((Below.refl _ w).alloc (Nat.le_refl _) _).alloc (by simp) _
  refine ⟨w.heap.size + 1, [{ target := .collected w.heap.size, args := #[] }], V, { target := .fn (.func 62) #[.pointer (some ⟨Bm, 0, none⟩), .pointer (some ⟨Bx, 0, none⟩)], args := #[.func (.yield (w.heap.size + 1)) #[] #[]] }, V, 62,
    #[.func (.yield (w.heap.size + 1)) #[] #[], .pointer (some ⟨Bm, 0, none⟩), .pointer (some ⟨Bx, 0, none⟩)], V, ?_, ?_, ?_, ?_, fun _ => by decide, ?_⟩
  · rw [hV, hr0]; exact run_enterLoop_outer _ _ _ _ _
  · simp only [resolve, hg]
    simp [go_sem]
  · intro f' _; trivial
  · simp [invoke, go_sem]
  have hin := bits_in Fence.wide 4 trivial rfl (by decide) (w.heap.size + 1) Bm Bx x m hx hm
    (fun pre W => I pre W ∧ W.heap[w.heap.size + 1]? = some (.loop r0) ∧ W.heap[w.heap.size]? = some (.deferred (some []))) (fun _ _ => False) ?_ V
    (by simp [World.cell?, (qb.block Bm s1).trans hBm]) ((qb.block Bx s2).trans hBx) ⟨by rw [hV]; exact hIa _ _ _ (hIa _ _ _ h0), q1, q0⟩
  · refine hin.mono ?_
    rintro e W2 ⟨⟨v, rfl⟩, (⟨ys, rfl, hi, hl, hk⟩ | ⟨_, _, h⟩)⟩
    · have hend := run_endLoop (P := Try.prog) hl (by rw [hr0]; simp)
      have hpn : r0.pending = none := by rw [hr0]
      rw [hpn] at hend
      exact ⟨none, _, hend, hdone _ _ (Nat.le_refl _) (hIp _ _ _ _ _ hi (by omega) hl rfl) ((World.putObj_heap_other (by omega)).trans hk)⟩
    · exact h.elim
  · rintro pre i W ⟨hi, hl, hk⟩ _
    have hlt : w.heap.size + 1 < W.heap.size := (Array.getElem?_eq_some_iff.1 hl).1
    have hy := run_yield (P := Try.prog) (args := encB x m i) hl (by rw [hr0]; exact hps.symm)
    obtain ⟨r1, hr1⟩ : ∃ r1 : Loop, r1 = { r0 with state := .busy } := ⟨_, rfl⟩
    have hbg := run_beginRound (P := Try.prog) hl (by rw [hr0])
    rw [← hr1] at hbg
    have e1 : (W.putObj (w.heap.size + 1) (.loop r1)).heap[w.heap.size + 1]? = some (.loop r1) := World.putObj_heap_same hlt
    have e0 : (W.putObj (w.heap.size + 1) (.loop r1)).heap[w.heap.size]? = some (.deferred (some [])) := (World.putObj_heap_other (by omega)).trans hk
    have ex : (W.putObj (w.heap.size + 1) (.loop r1)).heap[Bx]? = W.heap[Bx]? := World.putObj_heap_other (by omega)
    have hpr : r0.fn = fn ∧ r0.params = ps ∧ r0.tmps = a.tmps ∧ r0.assign = assign ∧ r0.body = body := by rw [hr0]; exact ⟨rfl, rfl, rfl, rfl, rfl⟩
    rw [hpr.1, hpr.2.1, hpr.2.2.1, hpr.2.2.2.1, hpr.2.2.2.2] at hy
    refine ⟨fn, _, assign, body, hy, roundIn_of_wpIn hfn (hassign _ i W _ ⟨_, hbg, ?_⟩)⟩
    refine Go.wpIn_mono (hbody _ pre i _ (hIp _ _ _ _ _ hi (by omega) hl rfl)) ?_
    intro e a3 W3 hp
    cases e with
    | normal =>
      obtain ⟨k3, x3, i3⟩ := hp
      have l3 := k3.same _ _ (by omega) e1 rfl
      have d3 := k3.same _ _ (Nat.le_refl _) e0 rfl
      have hlt3 : w.heap.size + 1 < W3.heap.size := (Array.getElem?_eq_some_iff.1 l3).1
      have her := run_endRound (P := Try.prog) none l3
      have e9 : ({ r1 with state := if (none : Option Code).isNone then .ready else .done, pending := none } : Loop) = r0 := by rw [hr1, hr0]; rfl
      rw [e9] at her
      exact ⟨_, _, her, .inl ⟨rfl, ⟨hIp _ _ _ _ _ i3 (by omega) l3 rfl, World.putObj_heap_same hlt3, (World.putObj_heap_other (by omega)).trans d3⟩, (World.putObj_heap_other (by omega)).trans (x3.trans ex)⟩⟩
    | exit id => exact hp.elim
    | goto l => exact hp.elim
    | ret => exact hp.elim
    | panic ch => exact hp.elim
    | outgrown => exact hp.elim

theorem leaves_marksD {F : Fence} {n : Nat} {P : Program} {fn : Func} {tmps : Array Value} {R : Ending → World → Prop} {n₀ : Nat} : ∀ (Ds : List Nat) (W : World), n₀ ≤ W.heap.size → MarksIn n₀ W Ds →
    (∀ W', Below n₀ W W' → W'.drawn = W.drawn → ∃ v, (results fn tmps).run P W' = .ok v W' ∧ R (.returned v) W') → LeavesInM F n P fn tmps R (marksD Ds) .returning W
  | [], W, _, _, h => h W (Below.refl _ _) rfl
  | D :: Ds, W, h0, hm, h => by
    have hK := (hm.2 D (List.mem_cons_self ..)).2
    have hD := (hm.2 D (List.mem_cons_self ..)).1
    have hb : Below n₀ W (W.putObj D (.deferred none)) := (Below.refl n₀ W).grown (grownBy_putObj' W D _) h0 (fun k e => by cases e; exact hD)
    refine ⟨by simp, .inl ⟨D, _, rfl, run_takeDeferred hK, ?_⟩⟩
    refine leaves_marksD Ds _ (Nat.le_trans h0 hb.size) ?_ (fun W' hW' e => h W' (hb.trans hW') e)
    have hnd := List.nodup_cons.1 hm.1
    refine MarksIn.kept ⟨hnd.2, fun E hE => hm.2 E (List.mem_cons_of_mem _ hE)⟩ (grownBy_putObj' W D _) ?_
    intro E hE e
    cases e
    exact hnd.1 hE
end Go.Proofs.Ytibkfdefoaimiaa
