/-
  Words as arrays of sixteen bits: loaded and stored whole, gone through, made of a number; how many are unlike, the number of a word.
-/
import Derived.Test.YtiddimmifjklmaaOPre
import Derived.Deep.WholeRow
import Derived.Laws.CopyOwn
import Derived.Deep.Cut
import Derived.Test.YtiddimmifjklmaaORgn
namespace Go.Proofs.Ytiddimmifjklmaa
open Go Go.RowKit Go.Shelf

attribute [local go_sem] Oper.semAt_some
theorem info47 : (Try.prog.info? 47).map (·.size) = some 16 := by kernel_rfl
theorem row16 {xs : List Int} (h : xs.length = 16) : (Try.prog.info? 47).map (·.size) = some (rowC xs).size := by rw [info47, rowC_size, h]
theorem idx47 {xs : List Int} {k : Nat} (hx : xs.length = 16) (hk : k < 16) (W : World) :
    Sem.run Try.prog (Instr.index 47 (.agg (rowC xs)) (.int .i64 (k : Int))) W = .ok (.int .i64 (nth xs k)) W := by
  have hc := rowC_at xs k (by rw [hx]; exact hk)
  have h0 : (0 : Int) ≤ (k : Int) ∧ (k : Int) < ((16 : Nat) : Int) := by omega
  simp [Instr.index, go_sem, part, h0, hc, hk]

/-- How many of the first k are unlike. -/
def unlikeN (xs ys : List Int) : Nat → Nat
  | 0 => 0
  | k + 1 => unlikeN xs ys k + if nth xs k = nth ys k then 0 else 1
theorem unlikeN_le (xs ys : List Int) : ∀ k, unlikeN xs ys k ≤ k
  | 0 => Nat.le_refl _
  | k + 1 => by have := unlikeN_le xs ys k; rw [unlikeN]; split <;> omega

set_option maxHeartbeats 1000000 in
theorem iApartW (xs ys : List Int) (w : World) (hx : xs.length = 16) (hy : ys.length = 16) :
    Calls Try.prog 46 #[.agg (rowC xs), .agg (rowC ys)] w fun e w' => e = .returned (.int .i64 (unlikeN xs ys 16 : Int)) ∧ w' = (w.alloc (.cells (rowC xs) 47)).alloc (.cells (rowC ys) 47) := by
  have HX := hidP hx
  have HY := hidP hy
  clear hx hy
  go_enter Try.func46, Try.ntmps46
  go_upto_region 2 with fail
  refine wp_region_list ?_
  refine wpList_load_row rfl 47 _ rfl w.heap.size rfl 47 (rowC xs) (0, 0) _ (heap_alloc2_old w _ _) Try.underlying47 rfl (row16 HX.out) ?_
  go_wp2
  go_loop [5, 9] (fun n i => ∃ k : Nat, k ≤ 16 ∧ i = .int .i64 k ∧ n = .int .i64 (unlikeN xs ys k : Int)) (fun _ i => 16 - (intOf i).toNat)
  case atStart => exact ⟨0, by decide, rfl, rfl⟩
  case round =>
    obtain ⟨k, hk, rfl, rfl⟩ := hrel
    by_cases hlt : k < 16
    · have hc := idx47 HX.out hlt
      have hd := rowC_at ys k (by rw [HY.out]; exact hlt)
      have hle := unlikeN_le xs ys k
      have HS := hidP (show unlikeN xs ys (k + 1) = unlikeN xs ys k + if nth xs k = nth ys k then 0 else 1 from rfl)
      by_cases he : nth xs k = nth ys k
      · rw [if_pos he] at HS
        have heb : (nth xs k != nth ys k) = false := by simp [he]
        clear he
        go_wp2
        go_round
        case rel => exact ⟨k + 1, by omega, by go_num, by rw [HS.out]; rfl⟩
        case measure => simp [intOf]; omega
      · rw [if_neg he] at HS
        have heb : (nth xs k != nth ys k) = true := by simp [he]
        clear he
        go_wp2
        go_round
        case rel => exact ⟨k + 1, by omega, by go_num, by rw [HS.out]; go_num⟩
        case measure => simp [intOf]; omega
    · go_wp2
      go_ret
      obtain rfl : k = 16 := by omega
      exact ⟨rfl, rfl⟩

/-- The number of the first k bits. -/
def numberN (xs : List Int) : Nat → Nat
  | 0 => 0
  | k + 1 => numberN xs k ||| (nth xs k).toNat * 2 ^ k
theorem numberN_lt {xs : List Int} (h : ∀ i, nth xs i = 0 ∨ nth xs i = 1) : ∀ k, numberN xs k < 2 ^ k
  | 0 => Nat.one_pos
  | k + 1 => by
    have h1 := numberN_lt h k
    rw [numberN]
    refine Nat.or_lt_two_pow (Nat.lt_trans h1 (by rw [Nat.pow_succ]; have := Nat.two_pow_pos k; omega)) ?_
    rw [Nat.pow_succ]
    have := Nat.two_pow_pos k
    rcases h k with e | e <;> rw [e] <;> simp <;> omega

set_option maxHeartbeats 1000000 in
theorem iNumber (xs : List Int) (w : World) (hx : xs.length = 16) (hb : ∀ i, nth xs i = 0 ∨ nth xs i = 1) :
    Calls Try.prog 48 #[.agg (rowC xs)] w fun e w' => e = .returned (.int .i64 (numberN xs 16 : Int)) ∧ w' = w.alloc (.cells (rowC xs) 47) := by
  have HX := hidP hx
  have HB := hidP hb
  clear hx hb
  go_enter Try.func48, Try.ntmps48
  go_upto_region 2 with fail
  refine wp_region_list ?_
  refine wpList_load_row rfl 47 _ rfl w.heap.size rfl 47 (rowC xs) (0, 0) _ (heap_alloc_new w _) Try.underlying47 rfl (row16 HX.out) ?_
  go_wp2
  go_loop [3, 7] (fun n i => ∃ k : Nat, k ≤ 16 ∧ i = .int .i64 k ∧ n = .int .i64 (numberN xs k : Int)) (fun _ i => 16 - (intOf i).toNat)
  case atStart => exact ⟨0, by decide, rfl, rfl⟩
  case round =>
    obtain ⟨k, hk, rfl, rfl⟩ := hrel
    by_cases hlt : k < 16
    · have hc := idx47 HX.out hlt
      have HL := hidP (numberN_lt HB.out k)
      have HS := hidP (show numberN xs (k + 1) = (numberN xs k ||| (nth xs k).toNat * 2 ^ k) from rfl)
      have HN := hidP (HB.out k)
      obtain ⟨x, hxk⟩ : ∃ x, nth xs k = x := ⟨_, rfl⟩
      rw [hxk] at hc HS HN
      clear hxk
      have hmin : min k 64 = k := by omega
      have hp : (2 : Nat) ^ k < 9223372036854775808 := Nat.lt_of_le_of_lt (Nat.pow_le_pow_right (by decide) hk) (by decide)
      have HP := hidP hp
      clear hp
      go_wp2
      go_round
      case rel =>
        refine ⟨k + 1, by omega, by go_num, ?_⟩
        have hp := HP.out
        obtain ⟨y, rfl, hy⟩ : ∃ y : Nat, x = (y : Int) ∧ y ≤ 1 := ⟨x.toNat, by have := HN.out; omega, by have := HN.out; omega⟩
        have hm : y * 2 ^ k ≤ 2 ^ k := by have := Nat.mul_le_mul_right (2 ^ k) hy; omega
        have e1 : (y : Int) * 2 ^ k = ((y * 2 ^ k : Nat) : Int) := by simp
        have e2 : wrap64 ((y : Int) * 2 ^ k) = ((y * 2 ^ k : Nat) : Int) := by rw [e1]; exact IntWalk.wrap64_in _ ⟨by have := Int.natCast_nonneg (y * 2 ^ k); omega, Int.le_of_lt_add_one (Int.ofNat_lt.2 (Nat.lt_of_le_of_lt hm hp))⟩
        have hl := HL.out
        rw [e2, i64_or (Int.natCast_nonneg _) (Int.ofNat_lt.2 (Nat.lt_trans hl hp)) (Int.natCast_nonneg _) (Int.ofNat_lt.2 (Nat.lt_of_le_of_lt hm hp)), HS.out]
        simp only [Int.toNat_natCast]
      case measure => simp [intOf]; omega
    · go_wp2
      go_ret
      obtain rfl : k = 16 := by omega
      exact ⟨rfl, rfl⟩

theorem wpListIn_load_row {F : Fence} {n : Nat} {P : Program} {ops : Array Oper} {rest : List Oper} {o : Oper} {a : Act} {w : World} {Q : Exit → Act → World → Prop} (hgd : o.guard = none) (ty : TypeId) (x : Operand) (ho : o.op = .load ty x) (hro : F.round = none)
    (g : Nat) (hx : a.eval x = .pointer (some ⟨g, 0, none⟩)) (t : TypeId) (cs : Array Value) (fr : Nat × Nat) (d : TypeDesc) (hg : w.heap[g]? = some (.cells cs t fr))
    (hu : P.underlying ty = some d) (hd : (match d with | .struct _ | .array _ _ => true | _ => false) = true) (hi : (P.info? ty).map (·.size) = some cs.size)
    (h : wpListIn F n P ops Q rest (a.put o.dst (.agg cs)) w) : wpListIn F n P ops Q (o :: rest) a w :=
  wpListIn_plain hgd fun K hK => by
    refine ⟨fun f hf => ?_, ?_⟩
    · simp [Oper.about, ho] at hf
    · simp only [Oper.semAt, hro, execOp, ho, hx, Instr.loadAt, Instr.sureAddr, Sem.run_bind, Sem.run_pure, Result.andThen_ok, run_loadVar_row w g t ty cs fr d hg hu hd hi]
      exact hK _ _ h

theorem wpListIn_store_row {F : Fence} {n : Nat} {P : Program} {ops : Array Oper} {rest : List Oper} {o : Oper} {a : Act} {w : World} {Q : Exit → Act → World → Prop} (hgd : o.guard = none) (ty : TypeId) (x y : Operand) (ho : o.op = .store ty x y) (hro : F.round = none)
    (g : Nat) (cells : Array Value) (hx : a.eval x = .pointer (some ⟨g, 0, none⟩)) (hy : a.eval y = .agg cells)
    (t : TypeId) (old : Array Value) (hg : w.heap[g]? = some (.cells old t (0, 0))) (hi : (P.info? ty).map (·.size) = some cells.size)
    (hold : old.size = cells.size) (h1 : cells.all (·.oneCell') = true)
    (h : wpListIn F n P ops Q rest (a.put o.dst undef) (w.setRow g cells)) : wpListIn F n P ops Q (o :: rest) a w :=
  wpListIn_plain hgd fun K hK => by
    refine ⟨fun f hf => ?_, ?_⟩
    · simp [Oper.about, ho] at hf
    · simp only [Oper.semAt, hro, execOp, ho, hx, hy, Instr.storeAt, Instr.sureAddr, Sem.run_bind, Sem.run_pure, Result.andThen_ok, run_storeVar_row w g t ty old cells hg hi hold h1]
      exact hK _ _ h

/-- A word of the call's own. -/
def Arr (w : World) (b : Nat) (xs : List Int) : Prop := w.heap[b]? = some (.cells (rowC xs) 47)
theorem Arr.lt {w : World} {b : Nat} {xs : List Int} (h : Arr w b xs) : b < w.heap.size := (Array.getElem?_eq_some_iff.1 h).1
theorem Arr.cell {w : World} {b k : Nat} {xs : List Int} (h : Arr w b xs) (hk : k < xs.length) : w.cell? ⟨b, k, none⟩ = some (.int .i64 (nth xs k)) := by
  rw [cell_of_row w b k _ 47 (0, 0) h]; exact rowC_at xs k hk
theorem Arr.frozen {w : World} {b : Nat} {xs : List Int} (h : Arr w b xs) (k : Nat) : w.frozen? ⟨b, k, none⟩ = false := frozen_of_row w b k _ 47 h
theorem Arr.set {w : World} {b : Nat} {xs : List Int} (h : Arr w b xs) (k : Nat) (v : Int) : Arr (w.setCell ⟨b, k, none⟩ (.int .i64 v)) b (xs.set k v) := by
  have := heap_setCell_same w b k _ 47 (.int .i64 v) h
  rw [show (rowC xs).setIfInBounds k (.int .i64 v) = rowC (xs.set k v) by simp [rowC, List.map_set]] at this
  exact this
theorem Arr.below {w w' : World} {B b : Nat} {xs : List Int} (h : Arr w b xs) (hb : b < B) (hw : Below B w w') : Arr w' b xs := (hw.block b hb).trans h
theorem Arr.alloc {w : World} {b : Nat} {xs : List Int} (h : Arr w b xs) (o : Obj) : Arr (w.alloc o) b xs := (heap_alloc_old w o b h.lt).trans h
theorem arr_own {β : Type} (b : Nat) (f : β → List Int) : Go.Own (fun s W => Arr W b (f s)) := fun s X Y row hs hg hrow => by
  refine (hg.block b hs.lt (fun e' => ?_)).trans hs
  obtain ⟨o, ho, hc⟩ := hrow b e'.symm
  rw [show X.heap[b]? = _ from hs] at ho
  cases ho
  cases hc
theorem rowC_one (xs : List Int) : (rowC xs).all (·.oneCell') = true := by
  simp [rowC, Value.oneCell']

def zeros16 : List Int := List.replicate 16 0
/-- What the rounds leave of a word. -/
def wordL (x : Nat) (pre : List (Fin 16)) : List Int := pre.foldl (fun l i => l.set i.1 (bitN x i.1 : Int)) zeros16
theorem wordL_snoc (x : Nat) (pre : List (Fin 16)) (i : Fin 16) : wordL x (pre ++ [i]) = (wordL x pre).set i.1 (bitN x i.1 : Int) := by simp [wordL]
theorem wordL_len (x : Nat) (pre : List (Fin 16)) : (wordL x pre).length = 16 := by
  unfold wordL
  have : ∀ (l : List Int), (pre.foldl (fun l i => l.set i.1 (bitN x i.1 : Int)) l).length = l.length := by
    induction pre with
    | nil => intro l; rfl
    | cons i pre ih => intro l; rw [List.foldl_cons, ih, List.length_set]
  rw [this]; rfl
def bit16 (x : Nat) : List Int := tabL (fun i => (bitN x i : Int)) 16
theorem bit16_len (x : Nat) : (bit16 x).length = 16 := tabL_length _ _
theorem wordL_all (x : Nat) : wordL x (bitsL 16 16) = bit16 x := by
  rw [bitsL_all]
  rfl

set_option maxRecDepth 100000 in
set_option maxHeartbeats 4000000 in
theorem iWordOf (x : Nat) (w : World) (hx : x < 65536) :
    Calls Try.prog 40 #[.int .i64 (x : Int)] w fun e w' => e = .returned (.agg (rowC (bit16 x))) ∧ Below w.heap.size w w' := by
  have HX := hidP hx
  clear hx
  refine (callsIn_wide (n := 5)).1 ?_
  refine callsIn_of_wp_marks Try.func40 rfl trivial ?_ rfl
  simp only [Try.ntmps40, List.size_toArray, List.length_cons, List.length_nil, Nat.reduceAdd, Nat.reduceSub, Array.replicate_succ, Array.replicate_zero, List.push_toArray, List.append_toArray, List.nil_append, List.cons_append]
  gi_wp2_with (refine ⟨trivial, ?_⟩; gi_at_call 58; refine (callsIn_wide.2 (iBits (x : Int) 16 _)).mono ?_; rintro e w5 ⟨rfl, rfl⟩)
  rw [show (#[.int .i64 0, .int .i64 0, .int .i64 0, .int .i64 0, .int .i64 0, .int .i64 0, .int .i64 0, .int .i64 0, .int .i64 0, .int .i64 0, .int .i64 0, .int .i64 0, .int .i64 0, .int .i64 0, .int .i64 0, .int .i64 0] : Array Value) = rowC zeros16 from rfl]
  obtain ⟨w3, hw3⟩ : ∃ w3, (((w.alloc (.cells (rowC zeros16) 47)).alloc (.cells (rowC zeros16) 47)).alloc (.cells #[.int .i64 (x : Int)] 2)).alloc (.cells #[.int .i64 16] 2) = w3 := ⟨_, rfl⟩
  have hsz : w3.heap.size = w.heap.size + 4 := by rw [← hw3]; simp
  have a0 : Arr w3 w.heap.size zeros16 := by rw [← hw3]; exact Arr.alloc (Arr.alloc (Arr.alloc (heap_alloc_new w _) _) _) _
  have a1 : Arr w3 (w.heap.size + 1) zeros16 := by rw [← hw3]; exact Arr.alloc (Arr.alloc (heap_alloc2_new w _ _) _) _
  have bx : Boxed w3 (w.heap.size + 1 + 1) 2 (.int .i64 (x : Int)) := by
    rw [← hw3]; have := Boxed.new ((w.alloc (.cells (rowC zeros16) 47)).alloc (.cells (rowC zeros16) 47)) 2 (.int .i64 (x : Int)); rw [World.size_alloc, World.size_alloc] at this; exact this.alloc _
  have bm : Boxed w3 (w.heap.size + 1 + 1 + 1) 2 (.int .i64 ((16 : Nat) : Int)) := by
    rw [← hw3]; have := Boxed.new (((w.alloc (.cells (rowC zeros16) 47)).alloc (.cells (rowC zeros16) 47)).alloc (.cells #[.int .i64 (x : Int)] 2)) 2 (.int .i64 16); rw [World.size_alloc, World.size_alloc, World.size_alloc] at this; exact this
  have hB3 : Below w.heap.size w w3 := by rw [← hw3]; exact ((((Below.refl _ w).alloc (Nat.le_refl _) _).alloc (by simp) _).alloc (by simp; omega) _).alloc (by simp; omega) _
  rw [hw3]
  clear hw3
  refine wpIn_rangeFunc_ownG rfl (by decide) (gf := 60) (lb := #[.pointer (some ⟨w.heap.size + 1 + 1 + 1, 0, none⟩), .pointer (some ⟨w.heap.size + 1 + 1, 0, none⟩)]) rfl trivial (enters_of Try.func60 (by kernel_rfl) rfl)
    (bits_stops Fence.wide (5 - 1) trivial rfl (by decide) (w.heap.size + 1 + 1 + 1) (w.heap.size + 1 + 1) x 16 (by have := HX.out; omega) (by decide) w3 bm bx) (fun h k => k.trans h)
    (fun W l o o' hl h _ _ => (belowK_b (Nat.le_refl _) W l o o' hl h ‹_› ‹_›).block _ (by omega)) (Below.refl _ _) (fun _ => rfl)
    (fun pre V => Arr V (w.heap.size + 1) (wordL x pre) ∧ Arr V w.heap.size zeros16 ∧ Boxed V (w.heap.size + 1 + 1) 2 (.int .i64 (x : Int)) ∧ Below w.heap.size w V) (fun _ _ _ => False)
    (OwnFrom.and (Own.from (arr_own _ (fun pre => wordL x pre)) _) (OwnFrom.and (Own.from (arr_own _ (fun _ => zeros16)) _) (OwnFrom.and (Own.from (boxed_own _ 2 (fun _ => .int .i64 (x : Int))) _) (ownFrom_below (Nat.le_refl _) (by omega)))))
    (fun _ _ _ _ _ hs _ _ => hs) ⟨a1, a0, bx, hB3⟩
    (fun i => { tmps := #[.int .i64 (x : Int), undef, .pointer (some { block := w.heap.size, off := 0 }), .pointer (some { block := w.heap.size + 1, off := 0 }),
          .int .i64 (i.1 : Int), .int .i64 (bitN x i.1 : Int), .int .i64 (x : Int),
          .func (.func 60) #[] #[.pointer (some { block := w.heap.size + 1 + 1 + 1, off := 0 }), .pointer (some { block := w.heap.size + 1 + 1, off := 0 })],
          .int .i64 (i.1 : Int), .int .i64 (bitN x i.1 : Int), undef, undef, undef, undef], defers := [] }) ?assign ?body ?done ?stop
  case assign =>
    intro l i W K hK
    dsimp only [encB]
    gi_wp2
    exact hK
  case body =>
    rintro l pre i V ⟨c1, c2, c3, hV⟩ _
    have HS := hidP (wordL_snoc x pre i)
    have hi := i.2
    have hc := c1.cell (k := i.1) (by rw [wordL_len]; exact hi)
    have hf := c1.frozen i.1
    gi_wp2
    have hne : ∀ b, b ≠ w.heap.size + 1 → ∀ v, (V.setCell ⟨w.heap.size + 1, i.1, none⟩ v).heap[b]? = V.heap[b]? := fun b hb v => Below.heap_setCell V ⟨w.heap.size + 1, i.1, none⟩ v b hb
    refine ⟨(KeepsOthers.setCell _ _ _).from _, hne _ (by omega) _, ?_, (hne _ (by omega) _).trans c2, (hne _ (by omega) _).trans c3, hV.setCell (p := ⟨w.heap.size + 1, i.1, none⟩) (by simp) _⟩
    rw [HS.out]
    exact c1.set i.1 _
  case done =>
    rintro D ys V hD rfl ⟨c1, c2, c3, hV⟩ hK
    rw [wordL_all] at c1
    simp only [Exit.inBlock, Exit.then]
    gi_step
    gi_step
    refine wpIn_region_list ?_
    refine wpListIn_load_row rfl 47 _ rfl rfl (w.heap.size + 1) rfl 47 (rowC (bit16 x)) (0, 0) _ c1 Try.underlying47 rfl (row16 (bit16_len x)) ?_
    refine wpListIn_store_row rfl 47 _ _ rfl rfl w.heap.size (rowC (bit16 x)) rfl rfl 47 _ c2 (row16 (bit16_len x)) (by rw [rowC_size, rowC_size, bit16_len]; rfl) (rowC_one _) ?_
    have c4 : Arr (V.setRow w.heap.size (rowC (bit16 x))) w.heap.size (bit16 x) := setRow_heap V w.heap.size _ _ 47 _ c2
    have hV4 : Below w.heap.size w (V.setRow w.heap.size (rowC (bit16 x))) := below_setRow hV (Nat.le_refl _) _
    have hK4 : (V.setRow w.heap.size (rowC (bit16 x))).heap[D]? = some (.deferred (some [])) := (setRow_other V _ D _ (by omega)).trans hK
    obtain ⟨V4, hV4e⟩ : ∃ V4, V.setRow w.heap.size (rowC (bit16 x)) = V4 := ⟨_, rfl⟩
    rw [hV4e] at c4 hV4 hK4 ⊢
    clear hV4e
    refine wpListIn_nil ?_
    gi_wp2
    simp only [Act.put, List.setIfInBounds_toArray, List.set_cons_zero, List.set_cons_succ]
    have hb := belowK_b (n₀ := w.heap.size + 4) (w := w3) (by omega) V4 D _ (.deferred none) (by omega) hK4 rfl rfl
    refine ⟨by simp, .inl ⟨_, _, rfl, run_takeDeferred hK4, ?_⟩⟩
    refine ⟨_, results_cell_row rfl _ _ w.heap.size 47 (rowC (bit16 x)) (0, 0) _ rfl ((hb.block _ (by omega)).trans c4) Try.underlying47 rfl (row16 (bit16_len x)), rfl, ?_⟩
    exact hV4.trans (hb.mono (by omega))
  case stop =>
    rintro D c pre W _ _ h _
    exact h.elim
end Go.Proofs.Ytiddimmifjklmaa
