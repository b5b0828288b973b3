/-
  The program's searched and Looked.
-/
import Derived.Test.YtodielfilhodeaaKLkPZz
import Derived.Test.YtodielfilhodeaaKLkSZz
import Derived.Test.YtodielfilhodeaaKTopZz
namespace Go.Proofs.Ytodielfilhodeaa
open Go Go.RowKit

set_option maxRecDepth 100000 in
set_option maxHeartbeats 1000000 in
theorem iSearched (ao qa : Option Addr) (cap qc k : Nat) (ks : List Kn) (q : List Int) (w : World) (hv : KView w ao ks) (hsm : KSmall ks) (hq : View w qa q) (hk : knotsB ks = true) (hto : toldB (knotMs ks) q = true) (hk1 : 1 ≤ k) (hk2 : k ≤ 1000) (u : List Ht × Int) (hu : u = seekT q k (treeF 60 (knotMs ks) 0) ([], 0)) :
    Calls Try.prog 78 #[.slice ao ks.length cap, .slice qa q.length qc, .int .i64 k] w fun e w' => ∃ a c, e = .returned (.pointer (some ⟨w.heap.size, 0, none⟩)) ∧ Five w' w.heap.size (.slice ao ks.length cap) (.slice qa q.length qc) (.int .i64 k) (.slice a u.1.length c) (.int .i64 u.2) 98 ∧ w'.ownsRow (w.heap.size + 1) 154 2 (.slice a u.1.length c) u.1.length (hCells u.1) ∧ Below w.heap.size w w' := by
  obtain ⟨hmk, hf, hz⟩ := knots_tree hk
  obtain ⟨hms, hml⟩ := knotMs_smallK hsm
  have ht : TAt ks (treeF 60 (knotMs ks) 0) 0 := by have := tat_flat (treeF 60 (knotMs ks) 0); rwa [← hf] at this
  have h60 : ks.length ≤ 60 := by rw [← hml]; exact marksB_len hmk
  have hrad : 0 < ks.length → 0 < q.length ∧ (treeF 60 (knotMs ks) 0).all (fun m x _ _ => x < q.length ∧ twoB m.2 q = true) := fun h0 => by
    have hall := told_all hto
    have h1 : 0 < q.length := by
      have hmem : (knotMs ks)[0]'(by omega) ∈ knotMs ks := List.getElem_mem _
      have := okB_len (twoB_of (hall _ hmem)).2.1
      omega
    exact ⟨h1, Tr.all_imp (fun m x l r h => ⟨h.1, hall m h.2⟩) _ (treeF_axis 60 (knotMs ks) 0 q.length (marksB_len hmk) (fun a ha => (twoB_of (hall a ha)).2.2) h1 h1)⟩
  have hpl : (treeF 60 (knotMs ks) 0).place 0 = if ks.length = 0 then -1 else 0 := by
    by_cases h : ks.length = 0
    · rw [place_zero, if_pos (by omega), if_pos h]
    · rw [place_zero, if_neg (by omega), if_neg h]
  generalize htt : treeF 60 (knotMs ks) 0 = tt at *
  obtain ⟨W1, hW1⟩ : ∃ W1, W1 = w.alloc (.cells #[.slice ao ks.length cap, .slice qa q.length qc, .int .i64 k, .slice none 0 0, .int .i64 0] 98) := ⟨_, rfl⟩
  have T1 : Five W1 w.heap.size (.slice ao ks.length cap) (.slice qa q.length qc) (.int .i64 k) (.slice none 0 0) (.int .i64 0) 98 := by rw [hW1]; exact Five.new w _ _ _ _ _ _
  have R1 : W1.ownsRow (w.heap.size + 1) 154 2 (.slice none 0 0) 0 (hCells []) := ⟨rfl, Or.inl ⟨rfl, rfl⟩⟩
  have B1 : Below w.heap.size w W1 := by rw [hW1]; exact alloc_below w _
  have hz1 : W1.heap.size = w.heap.size + 1 := by rw [hW1]; simp
  have HLK : Hid (Calls Try.prog 135 #[.pointer (some ⟨w.heap.size, 0, none⟩), .int .i64 (if ks.length = 0 then -1 else 0)] W1 fun e w' => e = .returned (.tuple #[]) ∧ (∃ a c, Five w' w.heap.size (.slice ao ks.length cap) (.slice qa q.length qc) (.int .i64 k) (.slice a u.1.length c) (.int .i64 u.2) 98 ∧ w'.ownsRow (w.heap.size + 1) 154 2 (.slice a u.1.length c) u.1.length (hCells u.1)) ∧ Below w.heap.size w w') := by
    show Calls Try.prog 135 _ W1 _
    rcases Nat.eq_zero_or_pos ks.length with h0 | h0
    · have hlf : tt = .leaf := by
        have hs0 : (tt).size = 0 := by omega
        clear htt hf ht hrad hpl hz
        cases tt with
        | leaf => rfl
        | node m ax l r => simp [Tr.size] at hs0
      rw [hlf] at hu
      rw [if_pos h0]
      have hu0 : u = ([], 0) := hu
      subst hu0
      refine (iLook0 _ W1).mono ?_
      rintro e w' ⟨rfl, rfl⟩
      exact ⟨rfl, ⟨none, 0, T1, R1⟩, B1⟩
    · obtain ⟨b, off, e, hb, hs⟩ : ∃ b off, ao = some ⟨b, off, none⟩ ∧ b < w.heap.size ∧ KSeg w b off ks := by
        rcases hv with h | h
        · rw [h] at h0; simp at h0
        · exact h
      subst e
      obtain ⟨hq0, hr0⟩ := hrad h0
      obtain ⟨qb, qo, e, hqb, hqs⟩ := hq.seg hq0
      subst e
      have h := iLook b off cap ks qb qo qc q w.heap.size (w.heap.size + 1) k w hb hs hqb hqs (Nat.le_refl _) (by omega) hk1 hk2 (tt) 0 W1 [] 0 none 0 ht hr0 B1 T1 R1 List.Pairwise.nil (by simp) (by simp; omega) (by omega) (by omega) (by omega)
      rw [hpl, ← hu] at h
      refine h.mono ?_
      rintro e w' ⟨he, ⟨a', c', T, R, _⟩, B⟩
      exact ⟨he, ⟨a', c', T, R⟩, Below.trans B1 B⟩
  have HTOP := hidP (fun w => iTop ao ks.length cap w (by omega))
  clear hv hq hmk hf hz hms hml ht hrad hpl T1 R1 B1 hz1 htt hu
  generalize (if ks.length = 0 then (-1 : Int) else 0) = tp at *
  subst hW1
  go_enter Try.func78, Try.ntmps78
  go_wp2_with fail
  refine (HTOP.out _).mono ?_
  rintro e w1 ⟨rfl, rfl⟩
  go_wp2_with fail
  refine HLK.out.mono ?_
  rintro e w2 ⟨rfl, ⟨a, c, T, R⟩, B⟩
  have H2 := hidP (And.intro T (And.intro R B))
  clear T R B
  go_wp2_with fail
  go_ret
  exact ⟨a, c, rfl, H2.out⟩

set_option maxRecDepth 100000 in
set_option maxHeartbeats 1000000 in
theorem iLooked (ao qa : Option Addr) (cap qc : Nat) (ks : List Kn) (q : List Int) (w : World) (hv : KView w ao ks) (hsm : KSmall ks) (hq : View w qa q) (hqn : q.length ≤ 1048576) :
    Calls Try.prog 25 #[.slice ao ks.length cap, .slice qa q.length qc] w fun e w' => e = .returned (.int .i64 (lookedV ks q)) ∧ Below w.heap.size w w' := by
  have HC := hidP (iLeadK ao qa cap qc ks q w hv hsm hq hqn)
  by_cases hkt : (knotsB ks && toldB (knotMs ks) q) = true
  · have hk : knotsB ks = true := by revert hkt; cases knotsB ks <;> simp
    have hto : toldB (knotMs ks) q = true := by revert hkt; rw [hk]; simp
    have HS : Hid (∀ w1, Below w.heap.size w w1 → Calls Try.prog 78 #[.slice ao ks.length cap, .slice qa q.length qc, .int .i64 1] w1 fun e w' => e = .returned (.pointer (some ⟨w1.heap.size, 0, none⟩)) ∧ w'.cell? ⟨w1.heap.size, 4, none⟩ = some (.int .i64 (lookedV ks q)) ∧ Below w.heap.size w w') := fun w1 L1 => by
      refine (iSearched ao qa cap qc 1 ks q w1 (hv.next L1) hsm (hq.next L1) hk hto (Nat.le_refl _) (by omega) _ rfl).mono ?_
      rintro e w' ⟨a, c, he, T, _, B⟩
      refine ⟨he, ?_, chain L1 B⟩
      have hall := told_all hto
      have hmk := (knots_tree hk).1
      have hpm := treeF_marks 60 (knotMs ks) 0 (marksB_len hmk)
      have hsk := (seek_look q (treeF 60 (knotMs ks) 0) [] (-1) 0 (Or.inl ⟨rfl, rfl⟩) (fun a ha => hall a (hpm.mem_iff.1 ha))).2.1
      have e4 := T.cells.2.2.2.2
      rw [hsk] at e4
      rw [e4]
      simp [lookedV, hk, hto]
    rw [hkt] at HC
    clear hv hq
    generalize lookedV ks q = v at *
    go_enter Try.func25, Try.ntmps25
    go_wp2_with fail
    refine HC.out.mono ?_
    rintro e w1 ⟨rfl, L1⟩
    have HS1 := hidP (HS.out w1 L1)
    clear L1
    go_wp2_with fail
    refine HS1.out.mono ?_
    rintro e w2 ⟨rfl, c4, L2⟩
    have HL2 := hidP L2
    clear L2
    go_wp2_with fail
    go_ret
    exact ⟨rfl, HL2.out⟩
  · rw [Bool.not_eq_true] at hkt
    have HV : Hid (lookedV ks q = -1) := by show lookedV ks q = -1; revert hkt; unfold lookedV; cases knotsB ks <;> simp <;> intro h <;> simp [h]
    rw [hkt] at HC
    rw [HV.out]
    clear hv hq
    go_enter Try.func25, Try.ntmps25
    go_wp2_with fail
    refine HC.out.mono ?_
    rintro e w1 ⟨rfl, L1⟩
    have HL1 := hidP L1
    clear L1
    go_wp2_with fail
    go_ret
    exact ⟨rfl, HL1.out⟩

end Go.Proofs.Ytodielfilhodeaa
