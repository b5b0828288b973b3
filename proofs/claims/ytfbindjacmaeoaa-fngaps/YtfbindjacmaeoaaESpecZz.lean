/-
  The given l12Ahead and l12Parts: the order of threads, and the labels of parts.
-/
import Derived.Test.YtfbindjacmaeoaaECellsZz
import Derived.Test.YtfbindjacmaeoaaZSpecZz
import Derived.Test.YtfbindjacmaeoaaHSpecZz
import Derived.Test.YtfbindjacmaeoaaBMarkZz
import Derived.Test.YtfbindjacmaeoaaArgsZz
namespace Go.Proofs.Ytfbindjacmaeoaa
open Go Go.RowKit

abbrev thV (t : Th) : Value := .agg #[.int .i64 t.1, .int .i64 t.2.1, .int .i64 t.2.2]

set_option maxHeartbeats 400000 in
theorem sTAhead (a b : Th) (w : World) :
    Calls Try.prog 93 #[.agg #[.int .i64 a.1, .int .i64 a.2.1, .int .i64 a.2.2], .agg #[.int .i64 b.1, .int .i64 b.2.1, .int .i64 b.2.2]] w fun e w' => e = .returned (.bool (thAhead a b)) ∧ Below w.heap.size w w' := by
  have L0 : Below w.heap.size w ((w.alloc (.cells #[.int .i64 a.1, .int .i64 a.2.1, .int .i64 a.2.2] 41)).alloc (.cells #[.int .i64 b.1, .int .i64 b.2.1, .int .i64 b.2.2] 41)) :=
    ((Below.refl _ _).alloc (Nat.le_refl _) _).alloc (by simp) _
  by_cases h1 : a.2.2 = b.2.2
  · have hb1 : (a.2.2 != b.2.2) = false := by simp [h1]
    by_cases h2 : a.1 = b.1
    · have hb2 : (a.1 != b.1) = false := by simp [h2]
      have HV : Hid (thAhead a b = decide (a.2.1 < b.2.1)) := by show _ = _; unfold thAhead; rw [if_neg (by simpa using h1), if_neg (by simpa using h2)]
      clear h1 h2
      go_enter Try.func93, Try.ntmps93
      go_wp2_with fail
      go_ret
      exact ⟨ret_bool HV.out.symm, L0⟩
    · have hb2 : (a.1 != b.1) = true := by simp [h2]
      have HV : Hid (thAhead a b = decide (a.1 < b.1)) := by show _ = _; unfold thAhead; rw [if_neg (by simpa using h1), if_pos h2]
      clear h1 h2
      go_enter Try.func93, Try.ntmps93
      go_wp2_with fail
      go_ret
      exact ⟨ret_bool HV.out.symm, L0⟩
  · have hb1 : (a.2.2 != b.2.2) = true := by simp [h1]
    have HV : Hid (thAhead a b = decide (a.2.2 < b.2.2)) := by show _ = _; unfold thAhead; rw [if_pos h1]
    clear h1
    go_enter Try.func93, Try.ntmps93
    go_wp2_with fail
    go_ret
    exact ⟨ret_bool HV.out.symm, L0⟩

/-- Labels as numbers; those ahead of k made new. -/
def natL (p : Nat → Nat) (n : Nat) : List Int := tabL (fun k => ((p k : Nat) : Int)) n
def mixL12 (p : Nat → Nat) (a b k : Nat) (j : Nat) : Nat := if j < k then relab p a b j else p j
theorem natL_len (p : Nat → Nat) (n : Nat) : (natL p n).length = n := tabL_length _ _
theorem natL_at (p : Nat → Nat) {n i : Nat} (h : i < n) : nth (natL p n) i = (p i : Nat) := tabL_getD _ _ _ h
theorem natL_set (p q : Nat → Nat) {n k : Nat} (h : ∀ j, j ≠ k → q j = p j) : (natL p n).set k (q k : Nat) = natL q n := by
  apply List.ext_getElem
  · simp [natL_len]
  · intro i h1 h2
    rw [List.getElem_set]
    by_cases e : k = i
    · subst e; simp [natL, tabL]
    · rw [if_neg e]
      simp [natL, tabL, h i (fun e' => e e'.symm)]
theorem natL_same {p q : Nat → Nat} {n : Nat} (h : ∀ j, j < n → p j = q j) : natL p n = natL q n := by
  apply List.ext_getElem
  · simp [natL_len]
  · intro i h1 h2
    simp [natL, tabL, h i (by simpa [natL_len] using h1)]
theorem mix_zero (p : Nat → Nat) (a b : Nat) : mixL12 p a b 0 = p := by funext j; simp [mixL12]
theorem mix_step (p : Nat → Nat) (a b k : Nat) : ∀ j, j ≠ k → mixL12 p a b (k + 1) j = mixL12 p a b k j := fun j hj => by
  unfold mixL12
  by_cases h : j < k
  · rw [if_pos h, if_pos (by omega)]
  · rw [if_neg h, if_neg (by omega)]
theorem mix_at (p : Nat → Nat) (a b k : Nat) : mixL12 p a b k k = p k ∧ mixL12 p a b (k + 1) k = relab p a b k := by
  unfold mixL12
  exact ⟨if_neg (by omega), if_pos (by omega)⟩
theorem mix_all (p : Nat → Nat) (a b n : Nat) : natL (mixL12 p a b n) n = natL (relab p a b) n := natL_same (fun _ hj => if_pos hj)

def labTo (ms : List Mk) (ts : List Th) (i : Nat) : Nat → Nat := lab ((ts.take i).map (eOf ms))
theorem labTo_succ (ms : List Mk) {ts : List Th} {i : Nat} (h : i < ts.length) : labTo ms ts (i + 1) = relab (labTo ms ts i) (zIdx ms (tnth ts i).1) (zIdx ms (tnth ts i).2.1) := by
  unfold labTo
  rw [List.take_succ_eq_append_getElem h, List.map_append, List.map_cons, List.map_nil, lab_snoc, ← tnth_get h]
  rfl
theorem labTo_all (ms : List Mk) (ts : List Th) : natL (labTo ms ts ts.length) ms.length = labL ms ts := by unfold labTo; rw [List.take_length]; rfl
theorem labTo_zero (ms : List Mk) (ts : List Th) : labTo ms ts 0 = fun i => i := by unfold labTo; simp [lab_nil]
theorem labTo_le (ms : List Mk) (ts : List Th) (i j : Nat) : labTo ms ts i j ≤ j := (lab_ok _).le j

set_option maxRecDepth 100000 in
set_option maxHeartbeats 4000000 in
theorem sParts (ao at_ : Option Addr) (cap ct : Nat) (ms : List Mk) (ts : List Th) (w : World) (hv : MView w ao ms) (ht : TView w at_ ts) (hn : ms.length ≤ 60) (htl : ts.length ≤ 1048576) (hf : ∀ t ∈ ts, 0 ≤ zFind ms t.1 ∧ 0 ≤ zFind ms t.2.1) :
    Calls Try.prog 60 #[.slice ao ms.length cap, .slice at_ ts.length ct] w fun e w' => ∃ g c, e = .returned (.slice (some ⟨g, 0, none⟩) ms.length c) ∧ IRow w.heap.size w' g c (labL ms ts) ∧ Below w.heap.size w w' := by
  have HV := hidP hv
  have HT := hidP ht
  have HF := hidP hf
  obtain ⟨i0, hi0, hz0, hz1, hz2⟩ := info_parts Try.info2
  have R1 := hidP (IRow.start w w.heap.size (Nat.le_refl _))
  have L1 := hidP ((Below.refl w.heap.size w).alloc (Nat.le_refl _) (.cells #[] 2))
  clear hv ht hf
  go_enter Try.func60, Try.ntmps60
  go_wp2_with fail
  go_loopw [5, 6] (fun v i wr => ∃ k g c : Nat, k ≤ ms.length ∧ i = .int .i64 k ∧ v = .slice (some ⟨g, 0, none⟩) k c ∧ IRow w.heap.size wr g c (natL (fun i => i) k) ∧ Below w.heap.size w wr) (fun _ i _ => ms.length - (intOf i).toNat)
  case atStart => exact ⟨0, w.heap.size, 0, Nat.zero_le _, rfl, rfl, R1.out, L1.out⟩
  case round =>
    obtain ⟨k, g, c, hk, rfl, rfl, hrow, L⟩ := hrel
    have HR := hidP hrow
    have HL := hidP L
    have hz := L.size
    have hgl := hrow.lt
    by_cases hlt : k < ms.length
    · have HOW : Hid (wr.ownsRow w.heap.size 2 1 (.slice (some ⟨g, 0, none⟩) k c) k ((natL (fun i => i) k).map (Value.int .i64))) := by
        have h := HR.out
        unfold IRow at h
        rw [natL_len] at h
        exact h
      have HE : Hid (natL (fun i => i) (k + 1) = natL (fun i => i) k ++ [(k : Int)]) := tabL_succ _ _
      clear hrow L
      go_wp2_with (at_builtin; refine wpList_append_lies _ rfl (.tmp 18) (.tmp 20) 36 rfl w.heap.size 2 i0 _ 1 8 Try.underlying36 hi0 hz0 hz1 hz2 rfl (by omega) (.slice (some ⟨g, 0, none⟩) k c) k ((natL (fun i => i) k).map (Value.int .i64)) rfl (World.ownsRow.alloc HOW.out _) ⟨wr.heap.size, 0, none⟩ 1 1 [.int .i64 (k : Int)] rfl rfl (World.news_of_block (cs := #[.int .i64 (k : Int)]) (t := 2) (fr := (0, 0)) (heap_alloc_new wr _)) (by simp [Value.oneCell']) (by omega) (by unfold maxLen; omega) (by omega) (by simp; omega) (wr.heap.size + 1) (by simp) ?_; intro gg cc w8 hown hgrow hat8 hlt8)
      go_roundw
      case rel =>
        refine ⟨k + 1, gg, cc, by omega, by go_num, rfl, ?_, ?_⟩
        · rw [HE.out]; exact IRow.of hown (by simp [natL_len]) (by simp)
        · refine (HL.out.alloc (by omega) _).grown hgrow (by simp; omega) ?_
          intro q hq
          simp [Value.ownBlock] at hq
          omega
      case measure => simp [intOf]; omega
    · obtain rfl : k = ms.length := by omega
      have H0 := hidP (labTo_zero ms ts)
      clear hrow L
      go_wp2_with fail
      obtain ⟨Wo, hWo⟩ : ∃ Wo, Wo = wr := ⟨_, rfl⟩
      subst hWo
      go_loopw [7] (fun i wr => ∃ k : Nat, k ≤ ts.length ∧ i = .int .i64 k ∧ IRow w.heap.size wr g c (natL (labTo ms ts k) ms.length) ∧ Below w.heap.size w wr) (fun i _ => ts.length - (intOf i).toNat)
      case atStart => exact ⟨0, Nat.zero_le _, rfl, by rw [H0.out]; exact HR.out, HL.out⟩
      case round =>
        obtain ⟨k, hk, rfl, hrow, L⟩ := hrel
        have HRW := hidP hrow
        have HLW := hidP L
        by_cases hlt : k < ts.length
        · have hmem := tnth_mem hlt
          obtain ⟨f1, f2⟩ := HF.out _ hmem
          obtain ⟨a1, a2, -⟩ := zIdx_lt f1
          obtain ⟨b1, b2, -⟩ := zIdx_lt f2
          have HN := hidP (labTo_succ ms hlt)
          obtain ⟨bt, ot, rfl, hbt, hst⟩ := (HT.out.next L).seg (by omega)
          obtain ⟨t0, t1, -⟩ := hst k hlt
          have hvw := HV.out.next L
          have HFA := hidP (sFind ao cap ms (tnth ts k).1 wr hvw (by omega))
          have HFB := hidP (sFind ao cap ms (tnth ts k).2.1 wr hvw (by omega))
          rw [← a2] at HFA
          rw [← b2] at HFB
          have hca := hrow.seg (zIdx ms (tnth ts k).1) (by rw [natL_len]; exact a1)
          have hcb := hrow.seg (zIdx ms (tnth ts k).2.1) (by rw [natL_len]; exact b1)
          rw [Nat.zero_add, natL_at _ a1] at hca
          rw [Nat.zero_add, natL_at _ b1] at hcb
          have hpa := labTo_le ms ts k (zIdx ms (tnth ts k).1)
          have hpb := labTo_le ms ts k (zIdx ms (tnth ts k).2.1)
          generalize labTo ms ts k = p at *
          generalize zIdx ms (tnth ts k).1 = a at *
          generalize zIdx ms (tnth ts k).2.1 = b at *
          generalize tnth ts k = t at *
          have hk0 : (0 : Int) ≤ (k : Int) := Int.natCast_nonneg _
          have hk1 : (k : Int) < (ts.length : Int) := by omega
          have ha0 : (0 : Int) ≤ (a : Int) := Int.natCast_nonneg _
          have ha1 : (a : Int) < (ms.length : Int) := by omega
          have hb0 : (0 : Int) ≤ (b : Int) := Int.natCast_nonneg _
          have hb1 : (b : Int) < (ms.length : Int) := by omega
          have HM0 := hidP (mix_zero p a b)
          have HMA := hidP (mix_all p a b ms.length)
          clear hrow L hst hvw hmem f1 f2 a2 b2
          go_wp2_with fail
          refine HFA.out.mono ?_
          rintro e w2 ⟨rfl, hw2⟩
          subst w2
          go_wp2_with fail
          refine HFB.out.mono ?_
          rintro e w2 ⟨rfl, hw2⟩
          subst w2
          go_wp2_with fail
          clear HFA HFB t0 t1 hca hcb
          obtain ⟨Wr, hWr⟩ : ∃ Wr, Wr = wr := ⟨_, rfl⟩
          subst hWr
          go_loopw [10] (fun i wr => ∃ j : Nat, j ≤ ms.length ∧ i = .int .i64 j ∧ IRow w.heap.size wr g c (natL (mixL12 p a b j) ms.length) ∧ Below w.heap.size w wr) (fun i _ => ms.length - (intOf i).toNat)
          case atStart => exact ⟨0, Nat.zero_le _, rfl, by rw [HM0.out]; exact HRW.out, HLW.out⟩
          case round =>
            obtain ⟨j, hj, rfl, hro, L⟩ := hrel
            have HRO := hidP hro
            have HLO := hidP L
            by_cases hjl : j < ms.length
            · have hcj := hro.seg j (by rw [natL_len]; exact hjl)
              have hfj := World.ownsRow.frozenAt hro j
              rw [Nat.zero_add, natL_at _ hjl, (mix_at p a b j).1] at hcj
              have hj0 : (0 : Int) ≤ (j : Int) := Int.natCast_nonneg _
              have hj1 : (j : Int) < (ms.length : Int) := by omega
              have HSET := hidP (natL_set (mixL12 p a b j) (mixL12 p a b (j + 1)) (n := ms.length) (k := j) (mix_step p a b j))
              rw [(mix_at p a b j).2] at HSET
              have hmx : maxV ((p a : Nat) : Int) ((p b : Nat) : Int) = ((max (p a) (p b) : Nat) : Int) := by unfold maxV; omega
              have hmn : min ((p a : Nat) : Int) ((p b : Nat) : Int) = ((min (p a) (p b) : Nat) : Int) := by omega
              have HMX : Hid (∀ w, Calls Try.prog 94 #[.int .i64 (p a : Nat), .int .i64 (p b : Nat)] w fun e w' => e = .returned (.int .i64 ((max (p a) (p b) : Nat) : Int)) ∧ w' = w) := fun w => by have h := sMax (p a : Nat) (p b : Nat) w; rwa [hmx] at h
              have HMN : Hid (∀ w, Calls Try.prog 95 #[.int .i64 (p a : Nat), .int .i64 (p b : Nat)] w fun e w' => e = .returned (.int .i64 ((min (p a) (p b) : Nat) : Int)) ∧ w' = w) := fun w => by have h := sMin (p a : Nat) (p b : Nat) w; rwa [hmn] at h
              clear hro L hmx hmn
              by_cases he : p j = max (p a) (p b)
              · have heb : (((p j : Nat) : Int) == ((max (p a) (p b) : Nat) : Int)) = true := by rw [he]; simp
                have HRE : Hid (relab p a b j = min (p a) (p b)) := by show _ = _; unfold relab; rw [if_pos he]
                clear he
                generalize max (p a) (p b) = mx at *
                generalize hmne : min (p a) (p b) = mn at *
                generalize p j = pj at *
                generalize hpae : p a = pa at *
                generalize hpbe : p b = pb at *
                go_wp2_with fail
                go_quiet (first | (go_at_call 94; exact Calls.quiet_of_same (HMX.out _)))
                go_wp2_with fail
                refine (HMN.out _).mono ?_
                rintro e w2 ⟨rfl, hw2⟩
                subst w2
                go_wp2_with fail
                go_roundw
                case rel =>
                  refine ⟨j + 1, by omega, by go_num, ?_, ?_⟩
                  · rw [← HSET.out, HRE.out]
                    have h := HRO.out.store j (mn : Int)
                    exact h
                  · exact (below_drewN HLO.out nq).setCell (p := ⟨g, j, none⟩) hgl.1 _
                case measure => simp [intOf]; omega
              · have heb : (((p j : Nat) : Int) == ((max (p a) (p b) : Nat) : Int)) = false := by simp; omega
                have HRE : Hid (relab p a b j = p j) := by show _ = _; unfold relab; rw [if_neg he]
                have HSA : Hid (natL (mixL12 p a b (j + 1)) ms.length = natL (mixL12 p a b j) ms.length) := natL_same (fun i _ => by
                  by_cases e : i = j
                  · subst e; rw [(mix_at p a b i).1, (mix_at p a b i).2]; exact HRE.out
                  · exact mix_step p a b j i e)
                clear he HSET
                generalize max (p a) (p b) = mx at *
                generalize p j = pj at *
                generalize hpae : p a = pa at *
                generalize hpbe : p b = pb at *
                go_wp2_with fail
                go_quiet (first | (go_at_call 94; exact Calls.quiet_of_same (HMX.out _)))
                go_wp2_with fail
                go_roundw
                case rel => exact ⟨j + 1, by omega, by go_num, by rw [HSA.out]; exact HRO.out, below_drewN HLO.out nq⟩
                case measure => simp [intOf]; omega
            · obtain rfl : j = ms.length := by omega
              rw [HMA.out] at hro
              have HE := hidP hro
              clear hro L
              go_wp2_with fail
              go_roundw
              case rel => exact ⟨k + 1, by omega, by go_num, by rw [HN.out]; exact HE.out, HLO.out⟩
              case measure => simp [intOf]; omega
        · obtain rfl : k = ts.length := by omega
          rw [labTo_all] at hrow
          have HE := hidP hrow
          clear hrow L
          go_wp2_with fail
          go_ret
          exact ⟨g, c, rfl, HE.out, HLW.out⟩

end Go.Proofs.Ytfbindjacmaeoaa
