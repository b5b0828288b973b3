/-
  A part of a word (the program's part), and whether two words share one.
-/
import Derived.Test.YtiddimmifjklmaaWArr
import Derived.Test.YtiddimmifjklmaaLast2
import Derived.Deep.CutBlock
import Derived.Test.YtiddimmifjklmaaArgs
import Derived.Laws.StructEq
import Derived.ChangeKeysEq
namespace Go.Proofs.Ytiddimmifjklmaa
open Go Go.RowKit Go.Shelf

/-- From place p on m numbers, then noughts. -/
def partL (xs : List Int) (p m : Nat) : List Int := (xs.drop p).take m ++ List.replicate (16 - m) 0
theorem partL_len {xs : List Int} {p m : Nat} (hx : xs.length = 16) (h : p + m ≤ 16) : (partL xs p m).length = 16 := by simp [partL, hx]; omega

theorem cut47 (b A B m : Nat) (h : A + m ≤ 16) (hm : 0 < m) (hB : B = A + m) (w' : World) : Sem.run Try.prog (Instr.sliceAt 47 (.pointer (some ⟨b, 0, none⟩)) (some (.int .i64 (A : Int))) (some (.int .i64 (B : Int))) none) w' = .ok (.slice (some ⟨b, A, none⟩) m (16 - A)) w' := by
  have h1 : (0 : Int) ≤ (B : Int) ∧ (B : Int) ≤ 16 := by omega
  have h2 : A ≤ B := by omega
  have h3 : ¬ 16 = A := by omega
  have h4 : B - A = m := by omega
  simp [Instr.sliceAt, go_sem, h1, h2, h3, h4]

theorem splice_part {xs : List Int} {A m : Nat} (hm : m ≤ 16) (hx : xs.length = 16) (hle : A + m ≤ 16) : (splice (rowC zeros16).toList 0 (((xs.drop A).take m).map (Value.int .i64))).toArray = rowC (partL xs A m) := by
  have hl : ((xs.drop A).take m).length = m := by simp [hx]; omega
  unfold splice partL rowC
  congr 1
  rw [List.length_map, hl, List.map_append, Nat.zero_add, show (List.map (Value.int .i64) zeros16).toArray.toList = List.replicate 16 (.int .i64 0) from rfl, List.drop_replicate, List.map_replicate]
  rfl

set_option maxRecDepth 100000 in
set_option maxHeartbeats 2000000 in
theorem iPart (xs : List Int) (i n m : Nat) (w : World) (hx : xs.length = 16) (hn : m * n = 16) (hi : i < n) :
    Calls Try.prog 47 #[.agg (rowC xs), .int .i64 (i : Int), .int .i64 (n : Int)] w fun e w' => e = .returned (.agg (rowC (partL xs (i * m) m))) ∧ Below w.heap.size w w' := by
  have HX := hidP hx
  clear hx
  have hn0 : ¬ n = 0 := by intro h; subst h; simp at hn
  have hdiv : (16 : Int).tdiv (n : Int) = (m : Int) := by
    rw [Int.tdiv_eq_ediv_of_nonneg (by decide), show (16 : Int) = ((16 : Nat) : Int) from rfl, ← Int.natCast_ediv, ← hn, Nat.mul_div_cancel _ (by omega)]
  have hm16 : m ≤ 16 := by rw [← hn]; exact Nat.le_mul_of_pos_right m (by omega)
  have hn16 : n ≤ 16 := by rw [← hn]; exact Nat.le_mul_of_pos_left n (by rcases Nat.eq_zero_or_pos m with h | h; (subst h; simp at hn); exact h)
  have hm0 : 0 < m := by rcases Nat.eq_zero_or_pos m with h | h; (subst h; simp at hn); exact h
  obtain ⟨A, hA⟩ : ∃ A, i * m = A := ⟨_, rfl⟩
  have hB : (i + 1) * m = A + m := by rw [Nat.add_mul, hA, Nat.one_mul]
  have hle : A + m ≤ 16 := by rw [← hB, ← hn, Nat.mul_comm m n]; exact Nat.mul_le_mul_right m hi
  obtain ⟨B, hBe⟩ : ∃ B, B = A + m := ⟨_, rfl⟩
  have hA' : (i : Int) * (m : Int) = (A : Int) := by rw [← hA]; simp
  have hB' : ((i : Int) + 1) * (m : Int) = (B : Int) := by rw [hBe, ← hB]; simp
  have hi' : IntKind.i64.wrap ((i : Int) + 1) = (i : Int) + 1 := wrap_i64 (by omega) (by omega)
  have hA2 : IntKind.i64.wrap (A : Int) = (A : Int) := wrap_i64 (by omega) (by omega)
  have hB2 : IntKind.i64.wrap (B : Int) = (B : Int) := wrap_i64 (by omega) (by omega)
  have hcut := cut47 w.heap.size A B m hle hm0 hBe
  rw [hA]
  have HLE := hidP hle
  have HA := hidP hA
  have HN := hidP hn
  have HSP := hidP (splice_part (A := A) hm16 HX.out hle)
  clear hA hB hn hBe hle
  obtain ⟨cs, hcs⟩ : ∃ cs, cs = (((xs.drop A).take m).map (Value.int .i64)) := ⟨_, rfl⟩
  rw [← hcs] at HSP
  have HCL := hidP (show cs.length = m by rw [hcs]; simp [HX.out]; have := HLE.out; omega)
  have HONE := hidP (show ∀ v ∈ cs, v.oneCell' = true by
    intro v h
    rw [hcs] at h
    obtain ⟨x, _, rfl⟩ := List.mem_map.1 h
    rfl)
  have HAT := hidP (show ∀ (j : Nat) (v : Value), cs[j]? = some v → A + j < xs.length ∧ v = .int .i64 (nth xs (A + j)) by
    intro j v h
    have hle := HLE.out
    have hj : j < m := by have := HCL.out; have := (List.getElem?_eq_some_iff.1 h).1; omega
    have hlt : A + j < xs.length := by rw [HX.out]; omega
    rw [hcs, List.getElem?_map, List.getElem?_take, if_pos hj, List.getElem?_drop, List.getElem?_eq_getElem hlt] at h
    refine ⟨hlt, ?_⟩
    have := Option.some.inj h
    rw [← this]
    simp [nth, List.getD, hlt])
  clear hcs
  go_enter Try.func47, Try.ntmps47
  go_upto_region 3 with fail
  rw [show (#[.int .i64 0, .int .i64 0, .int .i64 0, .int .i64 0, .int .i64 0, .int .i64 0, .int .i64 0, .int .i64 0, .int .i64 0, .int .i64 0, .int .i64 0, .int .i64 0, .int .i64 0, .int .i64 0, .int .i64 0, .int .i64 0] : Array Value) = rowC zeros16 from rfl]
  obtain ⟨w3, hw3⟩ : ∃ w3, ((w.alloc (.cells (rowC xs) 47)).alloc (.cells (rowC zeros16) 47)).alloc (.cells (rowC zeros16) 47) = w3 := ⟨_, rfl⟩
  have a0 : Arr w3 w.heap.size xs := by rw [← hw3]; exact Arr.alloc (Arr.alloc (heap_alloc_new w _) _) _
  have a1 : Arr w3 (w.heap.size + 1) zeros16 := by rw [← hw3]; exact Arr.alloc (heap_alloc2_new w _ _) _
  have a2 : Arr w3 (w.heap.size + 1 + 1) zeros16 := by rw [← hw3]; have := heap_alloc_new ((w.alloc (.cells (rowC xs) 47)).alloc (.cells (rowC zeros16) 47)) (.cells (rowC zeros16) 47); rw [World.size_alloc, World.size_alloc] at this; exact this
  have hB3 : Below w.heap.size w w3 := by rw [← hw3]; exact (((Below.refl _ w).alloc (Nat.le_refl _) _).alloc (by simp) _).alloc (by simp; omega) _
  rw [hw3]
  clear hw3
  refine wp_region_takes (S := fun _ => True) (fuel := 1) [0, 1, 2, 3, 4, 5, 6, 7, 8] (by kernel_rfl) (by kernel_rfl) (by kernel_rfl) (by kernel_rfl) trivial (fun hS => ?_)
  iterate 9
    refine ⟨_, rfl, ?_⟩
    apply Exists.intro
    refine ⟨Or.inl ⟨by rfl, fun w' hw' => ?_⟩, ?_⟩
    · first
      | (go_simp; done)
      | (go_simp; with_reducible rfl)
    simp only [Act.put, List.getElem_toArray, List.getElem_cons_succ, List.getElem_cons_zero, List.setIfInBounds_toArray, List.set_cons_zero, List.set_cons_succ]
  have hrun := run_copy_row (P := Try.prog) w3.drew 24 24 3 2 (w.heap.size + 1 + 1) 0 16 16 ⟨w.heap.size, A, none⟩ m (16 - A) (rowC zeros16) 47 cs Try.underlying24 (by kernel_rfl) a2 (by rw [HCL.out]; exact (Nat.min_eq_left hm16).symm) (fun j v hj => by
      obtain ⟨h1, rfl⟩ := HAT.out j v hj
      have := a0.cell h1
      by_cases hj0 : j = 0
      · subst hj0; simpa [Addr.add] using this
      · simpa [Addr.add, hj0] using this) (by rw [HCL.out]; simp [rowC_size, zeros16]; exact hm16) HONE.out
  rw [show ((rowC zeros16).toList.take 0 ++ cs ++ (rowC zeros16).toList.drop (0 + cs.length)).toArray = rowC (partL xs A m) by rw [List.append_assoc]; exact HSP.out] at hrun
  refine calm_one 9 (by kernel_rfl) rfl (fun K hK => ?_)
  have c2 : Arr (w3.drew.setRow (w.heap.size + 1 + 1) (rowC (partL xs A m))) (w.heap.size + 1 + 1) (partL xs A m) := setRow_heap w3.drew _ _ _ 47 _ a2
  have c1 : Arr (w3.drew.setRow (w.heap.size + 1 + 1) (rowC (partL xs A m))) (w.heap.size + 1) zeros16 := (setRow_other w3.drew _ _ _ (by omega)).trans a1
  have hB4 : Below w.heap.size w (w3.drew.setRow (w.heap.size + 1 + 1) (rowC (partL xs A m))) := below_setRow hB3.drew (by omega) _
  have HPL := hidP (partL_len HX.out HLE.out)
  obtain ⟨w4, hw4⟩ : ∃ w4, w3.drew.setRow (w.heap.size + 1 + 1) (rowC (partL xs A m)) = w4 := ⟨_, rfl⟩
  rw [hw4] at hrun c1 c2 hB4
  clear hw4
  go_simp
  refine hK.out _ _ trivial (fun _ => ?_)
  clear hK K
  refine wpAnyH_done (by kernel_rfl) ?_ _
  refine NoPanic.normal ?_
  simp only [Exit.then]
  go_step
  go_step
  refine wp_region_list ?_
  refine wpList_load_row rfl 47 _ rfl (w.heap.size + 1 + 1) rfl 47 (rowC (partL xs A m)) (0, 0) _ c2 Try.underlying47 rfl (row16 HPL.out) ?_
  refine wpList_store_row rfl 47 _ _ rfl (w.heap.size + 1) (rowC (partL xs A m)) rfl rfl 47 _ c1 (row16 HPL.out) (by rw [rowC_size, rowC_size, HPL.out]; rfl) (rowC_one _) ?_
  have c4 : Arr (w4.setRow (w.heap.size + 1) (rowC (partL xs A m))) (w.heap.size + 1) (partL xs A m) := setRow_heap w4 _ _ _ 47 _ c1
  have hB5 : Below w.heap.size w (w4.setRow (w.heap.size + 1) (rowC (partL xs A m))) := below_setRow hB4 (by omega) _
  obtain ⟨w5, hw5⟩ : ∃ w5, w4.setRow (w.heap.size + 1) (rowC (partL xs A m)) = w5 := ⟨_, rfl⟩
  rw [hw5] at c4 hB5 ⊢
  clear hw5
  refine wpList_nil ?_
  simp only [Act.put, List.setIfInBounds_toArray, List.set_cons_zero, List.set_cons_succ]
  go_wp2_with fail
  refine bodyPost_ret (results_cell_row rfl _ _ (w.heap.size + 1) 47 (rowC (partL xs A m)) (0, 0) _ rfl c4 Try.underlying47 rfl (row16 HPL.out)) rfl ?_
  exact ⟨rfl, hB5⟩

theorem load_yields {xs : List Int} {o : Oper} {a : Act} {w' : World} {x : Operand} {g : Nat} (ho : o.op = .load 47 x) (hx : a.eval x = .pointer (some ⟨g, 0, none⟩)) (h : Arr w' g xs) (hl : xs.length = 16) : (execOp a.eval o).run Try.prog w' = .ok (.value (.agg (rowC xs))) w' := by
  simp only [execOp, ho, hx, Instr.loadAt, Instr.sureAddr, Sem.run_bind, Sem.run_pure, Result.andThen_ok, run_loadVar_row w' g 47 47 (rowC xs) (0, 0) _ h Try.underlying47 rfl (row16 hl)]

theorem rowC_eq {xs ys : List Int} : rowC xs = rowC ys ↔ xs = ys := by
  constructor
  · intro h
    have h1 : xs.map (Value.int .i64) = ys.map (Value.int .i64) := by simpa [rowC] using h
    have : ∀ (xs ys : List Int), xs.map (Value.int .i64) = ys.map (Value.int .i64) → xs = ys := by
      intro xs
      induction xs with
      | nil => intro ys h; cases ys with
        | nil => rfl
        | cons y ys => simp at h
      | cons x xs ih => intro ys h; cases ys with
        | nil => simp at h
        | cons y ys => simp at h; rw [h.1, ih ys (by simpa using h.2)]
    exact this xs ys h1
  · rintro rfl; rfl

theorem part_int {xs : List Int} {j : Nat} (hj : j < xs.length) (w : World) : (part 2 (rowC xs) (j * 1)).run Try.prog w = .ok (.int .i64 (nth xs j)) w := by
  have hc := rowC_at xs j hj
  simp [part, go_sem, hc]
theorem eqItems16 (xs ys : List Int) (w : World) : ∀ is : List Nat, (∀ j ∈ is, j < xs.length ∧ j < ys.length) → (Op.eqItems 9999 2 1 (rowC xs) (rowC ys) is).run Try.prog w = .ok (is.all fun j => nth xs j == nth ys j) w
  | [], _ => by simp [Op.eqItems]
  | j :: is, h => by
    obtain ⟨h1, h2⟩ := h j (List.mem_cons_self ..)
    have ih := eqItems16 xs ys w is (fun k hk => h k (List.mem_cons_of_mem _ hk))
    have he := run_equalIn_int (P := Try.prog) w 9998 2 .i64 .i64 (nth xs j) (nth ys j) Try.underlying2
    simp only [Op.eqItems, Sem.run_bind, part_int h1, part_int h2, Result.andThen_ok, he]
    by_cases e : nth xs j = nth ys j
    · simp [e, ih]
    · simp [e]
theorem all16 {xs ys : List Int} (hx : xs.length = 16) (hy : ys.length = 16) : ((List.range 16).all fun j => nth xs j == nth ys j) = decide (xs = ys) := by
  rw [Bool.eq_iff_iff, List.all_eq_true, decide_eq_true_eq]
  constructor
  · intro h
    exact eq_of_nth (by rw [hx, hy]) (fun j hj => by simpa using h j (List.mem_range.2 (by omega)))
  · rintro rfl j _
    simp
theorem info2i : ∃ i, Try.prog.info? 2 = some i ∧ Try.prog.cellsOf 2 = 1 := by
  have h := Try.info2
  cases hi : Try.prog.info? 2 with
  | none => rw [hi] at h; cases h
  | some i => exact ⟨i, rfl, by kernel_rfl⟩
theorem eql47 (xs ys : List Int) (hx : xs.length = 16) (hy : ys.length = 16) (w : World) : Sem.run Try.prog (binOp .eql 47 (.agg (rowC xs)) (.agg (rowC ys))) w = .ok (.bool (decide (xs = ys))) w := by
  obtain ⟨i, hi, h1⟩ := info2i
  rw [run_eql_struct, show (10000 : Nat) = 9999 + 1 from rfl, run_equalIn_array w 9999 (rowC xs) (rowC ys) Try.underlying47 hi, h1, eqItems16 xs ys w _ (fun j hj => by have := List.mem_range.1 hj; omega), all16 hx hy]
  rfl

/-- Have both one of the first k parts alike? -/
def sharesB (xs ys : List Int) (m : Nat) : Nat → Bool
  | 0 => false
  | k + 1 => sharesB xs ys m k || decide (partL xs (k * m) m = partL ys (k * m) m)

theorem sharesB_mono {xs ys : List Int} {m k : Nat} (h : sharesB xs ys m k = true) : ∀ {n : Nat}, k ≤ n → sharesB xs ys m n = true
  | 0, hn => by obtain rfl : k = 0 := by omega
                exact h
  | n + 1, hn => by
    by_cases e : k = n + 1
    · rw [← e]; exact h
    · rw [sharesB, sharesB_mono h (n := n) (by omega)]; rfl

set_option maxRecDepth 100000 in
set_option maxHeartbeats 4000000 in
theorem iShares (xs ys : List Int) (n m : Nat) (w : World) (hx : xs.length = 16) (hy : ys.length = 16) (hn : m * n = 16) :
    Calls Try.prog 43 #[.agg (rowC xs), .agg (rowC ys), .int .i64 (n : Int)] w fun e w' => e = .returned (.bool (sharesB xs ys m n)) ∧ Below w.heap.size w w' := by
  have HX := hidP hx
  have HY := hidP hy
  have hm0 : 0 < m := by rcases Nat.eq_zero_or_pos m with h | h; (subst h; simp at hn); exact h
  have hn16 : n ≤ 16 := by rw [← hn]; exact Nat.le_mul_of_pos_left n hm0
  have HN := hidP hn
  clear hx hy hn
  go_enter Try.func43, Try.ntmps43
  go_upto_block 0 with fail
  obtain ⟨w2, hw2⟩ : ∃ w2, (w.alloc (.cells (rowC xs) 47)).alloc (.cells (rowC ys) 47) = w2 := ⟨_, rfl⟩
  have a0 : Arr w2 w.heap.size xs := by rw [← hw2]; exact heap_alloc2_old w _ _
  have a1 : Arr w2 (w.heap.size + 1) ys := by rw [← hw2]; exact heap_alloc2_new w _ _
  have hB2 : Below w.heap.size w w2 := by rw [← hw2]; exact ((Below.refl _ w).alloc (Nat.le_refl _) _).alloc (by simp) _
  have hz2 : w2.heap.size = w.heap.size + 2 := by rw [← hw2]; simp
  rw [hw2]
  have HZ := hidP hz2
  clear hw2 hz2
  have HA0 := hidP a0
  have HA1 := hidP a1
  have HB2 := hidP hB2
  clear a0 a1 hB2
  go_wp2
  go_loopw [9] (fun i wr => ∃ k : Nat, k ≤ n ∧ i = .int .i64 k ∧ sharesB xs ys m k = false ∧ Below w2.heap.size w2 wr) (fun i _ => n - (intOf i).toNat)
  case atStart => exact ⟨0, Nat.zero_le _, rfl, rfl, Below.refl _ _⟩
  case round =>
    obtain ⟨k, hk, rfl, hsh, hBr⟩ := hrel
    have HSH := hidP hsh
    have HBR := hidP hBr
    clear hsh hBr
    by_cases hlt : k < n
    · have a0 : Arr wr w.heap.size xs := HA0.out.below (by have := HZ.out; omega) HBR.out
      have a1 : Arr wr (w.heap.size + 1) ys := HA1.out.below (by have := HZ.out; omega) HBR.out
      have hle : k * m + m ≤ 16 := by rw [← HN.out, ← Nat.succ_mul, Nat.mul_comm m n]; exact Nat.mul_le_mul_right m hlt
      have HPX := hidP (partL_len HX.out hle)
      have HPY := hidP (partL_len HY.out hle)
      have HQ := hidP (eql47 (partL xs (k * m) m) (partL ys (k * m) m) HPX.out HPY.out)
      have HS := hidP (show sharesB xs ys m (k + 1) = (sharesB xs ys m k || decide (partL xs (k * m) m = partL ys (k * m) m)) from rfl)
      have hz : w.heap.size + 2 ≤ wr.heap.size := by have := HZ.out; have := HBR.out.size; omega
      have HSS : Hid (∀ W, Below wr.heap.size wr W → Arr W w.heap.size xs ∧ Arr W (w.heap.size + 1) ys) := fun W hW => ⟨a0.below (by omega) hW, a1.below (by omega) hW⟩
      have HZZ := hidP hz
      clear hle hz
      go_upto_region 4 with fail
      refine wp_region_takes (S := fun W => Arr W w.heap.size xs ∧ Arr W (w.heap.size + 1) ys) (fuel := 3) [0, 1, 2, 4, 5, 6] (by kernel_rfl) (by kernel_rfl) (by kernel_rfl) (by kernel_rfl) ⟨a0, a1⟩ (fun hS => ?_)
      iterate 6
        refine ⟨_, rfl, ?_⟩
        apply Exists.intro
        refine ⟨Or.inl ⟨by rfl, fun w' hw' => ?_⟩, ?_⟩
        · first
          | exact load_yields rfl rfl hw'.1 HX.out
          | exact load_yields rfl rfl hw'.2 HY.out
          | (go_simp; done)
          | (go_simp; with_reducible rfl)
        simp only [Act.put, List.getElem_toArray, List.getElem_cons_succ, List.getElem_cons_zero, List.setIfInBounds_toArray, List.set_cons_zero, List.set_cons_succ]
      refine calm_one 3 (by kernel_rfl) rfl (fun K hK => ?_)
      go_simp
      refine (iPart xs k n m _ HX.out HN.out hlt).mono ?_
      rintro e w4 ⟨rfl, L4⟩
      have L4' : Below wr.heap.size wr w4 := (Below.refl _ wr).drew.trans L4
      refine hK.out _ _ (HSS.out _ L4') (fun _ => ?_)
      clear hK K
      refine calm_one 7 (by kernel_rfl) rfl (fun K hK => ?_)
      go_simp
      refine (iPart ys k n m _ HY.out HN.out hlt).mono ?_
      rintro e w5 ⟨rfl, L5⟩
      have L5' := chain L4' L5
      refine hK.out _ _ (HSS.out _ L5') (fun _ => ?_)
      clear hK K
      have HBK := hidP (chain HBR.out L5')
      have hS5 := HSS.out _ L5'
      clear L4 L4' L5 L5' hS a0 a1 HSS
      have hq := HQ.out
      obtain ⟨pb, hpb⟩ : ∃ pb, decide (partL xs (k * m) m = partL ys (k * m) m) = pb := ⟨_, rfl⟩
      rw [hpb] at hq
      have HPB := hidP hpb
      clear hpb
      refine calm_one 8 (by kernel_rfl) rfl (fun K hK => ?_)
      go_simp
      refine hK.out _ _ hS5 (fun _ => ?_)
      clear hK K hq
      refine wpAnyH_done (by kernel_rfl) ?_ _
      refine NoPanic.normal ?_
      simp only [Exit.then]
      cases pb
      · go_wp2_with fail
        go_roundw
        case rel => exact ⟨k + 1, by omega, by go_num, by rw [HS.out, HSH.out, HPB.out]; rfl, HBK.out⟩
        case measure => simp [intOf]; omega
      · have HT : Hid (sharesB xs ys m n = true) := by
          have h1 : sharesB xs ys m (k + 1) = true := by rw [HS.out, HPB.out]; simp
          exact sharesB_mono h1 hlt
        go_wp2_with fail
        go_ret
        exact ⟨by rw [HT.out]; rfl, HB2.out.trans (HBK.out.mono (by have := HZ.out; omega))⟩
    · go_wp2
      go_ret
      obtain rfl : k = n := by omega
      exact ⟨by rw [HSH.out]; rfl, HB2.out.trans (HBR.out.mono (by have := HZ.out; omega))⟩

end Go.Proofs.Ytiddimmifjklmaa
