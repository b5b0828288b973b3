/-
  The given Halved and the program's: both hand out the knots of the tree.
-/
import Derived.Test.YtlnkmjnbippjjaaKHalvI
import Derived.Test.YtlnkmjnbippjjaaMOk3
namespace Go.Proofs.Ytlnkmjnbippjjaa
open Go Go.RowKit

/-- What is handed out: nothing, or a row of knots of its own, each place a row of its own. -/
def KGot (B : Nat) (w : World) (v : Value) (ks : List Kn) : Prop :=
  (v = .slice none 0 0 ∧ ks = []) ∨ ∃ g c es, v = .slice (some ⟨g, 0, none⟩) ks.length c ∧ es.map dkKn = ks ∧ KRow B w g c es ∧ KOuts B w g es
theorem KGot.below {B : Nat} {w w' : World} {v : Value} {ks : List Kn} (h : KGot B w v ks) (hw : Below w.heap.size w w') : KGot B w' v ks :=
  h.imp id fun ⟨g, c, es, e, e2, r, o⟩ => ⟨g, c, es, e, e2, r.below hw, o.below hw⟩
theorem KGot.mono {B B' : Nat} {w : World} {v : Value} {ks : List Kn} (h : KGot B w v ks) (hb : B' ≤ B) : KGot B' w v ks :=
  h.imp id fun ⟨g, c, es, e, e2, r, o⟩ => ⟨g, c, es, e, e2, r.mono hb, o.mono hb⟩

theorem marks_dim {ms : List Mk} (h : marksB ms = true) (h0 : 0 < ms.length) : ∃ dim, 1 ≤ dim ∧ dim ≤ 4 ∧ ∀ a ∈ ms, a.2.length = dim := by
  have h1 := (mOkAt_iff ms 0).1 (marksB_at h h0)
  have h2 := okB_len h1.2.2.1
  refine ⟨(mat ms 0).length, by omega, by omega, fun a ha => ?_⟩
  obtain ⟨i, hi, e⟩ := List.getElem_of_mem ha
  have := ((mOkAt_iff ms i).1 (marksB_at h hi)).2.2.2.1
  rw [← this, ← e]
  simp [mat, List.getD, hi]

/-- 'make([]T, 0, n)', n a variable. -/
theorem run_make_room {P : Program} (t e : TypeId) (z : Value) (size bytes : Nat) (ht : P.underlying t = some (.slice e)) (hinfo : (P.info? e).map (fun i => (i.zero, i.size, i.bytes)) = some (some z, size, bytes))
    (kl kc : IntKind) (n : Nat) (hbytes : bytes * n ≤ 281474976710656) (h63 : n ≤ 9223372036854775807) (w : World) :
    (Instr.makeSlice t (.int kl 0) (.int kc (n : Int))).run P w = .ok (.slice (some ⟨w.heap.size, 0, none⟩) 0 n) (w.alloc (.cells (madeCells z.cells (n * size)) e)) := by
  obtain ⟨i, hi, hzz⟩ := Option.map_eq_some_iff.1 hinfo
  simp only [Prod.mk.injEq] at hzz
  obtain ⟨hz, hs, hb⟩ := hzz
  subst hb hs
  have hb' : (i.bytes : Int) * (n : Int) ≤ 281474976710656 := by
    have h : ((i.bytes * n : Nat) : Int) ≤ 281474976710656 := by omega
    rwa [Int.natCast_mul] at h
  have hr := run_make (P := P) w t e i z ht hi hz kl kc 0 n (by omega) (by omega) hb' (by omega)
  simpa only [Int.toNat_natCast, Int.toNat_zero] using hr

theorem halvedV_none {ms : List Mk} (h : ms.length = 0) : (treeF 60 ms 0).flat 0 = [] := by
  have : ms = [] := List.length_eq_zero_iff.1 h
  subst this; rfl
theorem halvedV_length (ms : List Mk) (h : marksB ms = true) : (halvedV ms).length = ms.length := by
  unfold halvedV
  rw [if_pos h, Tr.flat_length, treeF_size _ _ _ (marksB_len h)]

set_option maxRecDepth 100000 in
set_option maxHeartbeats 1000000 in
theorem sHalved (ao : Option Addr) (cap : Nat) (ms : List Mk) (w : World) (hv : MView w ao ms) (hsm : MSmall ms) :
    Calls Try.prog 11 #[.slice ao ms.length cap] w fun e w' => ∃ v, e = .returned v ∧ KGot w.heap.size w' v (halvedV ms) ∧ Below w.heap.size w w' := by
  have HC := hidP (sMarks ao cap ms w hv hsm)
  rcases hm : marksB ms with _ | _
  · rw [hm] at HC
    have HV : Hid (halvedV ms = []) := by show halvedV ms = []; simp [halvedV, hm]
    go_enter Try.func11, Try.ntmps11
    go_wp2_with fail
    refine HC.out.mono ?_
    rintro e w1 ⟨rfl, n1, rfl⟩
    go_wp2_with fail
    go_ret
    rw [HV.out]
    exact ⟨_, rfl, Or.inr ⟨_, 0, [], rfl, rfl, KRow.start (w.drewN n1) _ (Nat.le_refl _), KOuts.nil _ _ _⟩, (below_drewN (Below.refl _ _) n1).alloc (Nat.le_refl _) _⟩
  · rw [hm] at HC
    have HV : Hid (halvedV ms = (treeF 60 ms 0).flat 0) := by show halvedV ms = _; simp [halvedV, hm]
    have h60 := marksB_len hm
    obtain ⟨ds, hds, hsv, hsl⟩ := hv.sview
    have hdl : ds.length = ms.length := by rw [← hds, smMarks_length]
    have H : Hid (∀ n, Calls Try.prog 42 #[.slice ao ms.length cap, .int .i64 0, .slice (some ⟨w.heap.size, 0, none⟩) 0 0] ((w.drewN n).alloc (.cells #[] 66)) fun e w' => ∃ g' c' ks v2, e = .returned (.tuple #[.slice (some ⟨g', 0, none⟩) ms.length c', .int .i64 v2]) ∧ Laid w.heap.size ((w.drewN n).alloc (.cells #[] 66)) w' w.heap.size g' c' [] ks (treeF 60 ms 0)) := fun n => by
      have hB : Below w.heap.size w ((w.drewN n).alloc (.cells #[] 66)) := (below_drewN (Below.refl _ _) n).alloc (Nat.le_refl _) _
      rcases Nat.eq_zero_or_pos ms.length with h0 | h0
      · have e : ms = [] := List.length_eq_zero_iff.1 h0
        subst e
        refine (sHalved0 ao cap 0 w.heap.size 0 0 ((w.drewN n).alloc (.cells #[] 66))).mono ?_
        rintro e w' ⟨rfl, rfl⟩
        exact ⟨w.heap.size, 0, [], -1, rfl, KRow.start (w.drewN n) _ (Nat.le_refl _), rfl, KOuts.nil _ _ _, ⟨rfl, rfl, rfl, Nat.le_refl _, fun _ _ _ => rfl⟩, Or.inl rfl⟩
      · obtain ⟨dim, hd1, hd4, hdim⟩ := marks_dim hm h0
        have h := sHalvedF 60 ds ao cap 0 dim w.heap.size w.heap.size 0 [] w ((w.drewN n).alloc (.cells #[] 66)) (by omega) (by simp; omega) (hsv.next hB) hsl (Nat.le_refl _) hB (by simp) (fun d hd => hdim (smMark d) (by rw [← hds]; exact List.mem_map_of_mem hd)) hd1 hd4 (by omega) (KRow.start (w.drewN n) _ (Nat.le_refl _))
        rw [hdl, hds] at h
        refine h.mono ?_
        rintro e w' ⟨g', c', ks, rfl, hL⟩
        exact ⟨g', c', ks, _, by rw [List.length_nil, Nat.zero_add], hL⟩
    have HL := hidP (halvedV_length ms hm)
    clear hv hsv hsl hds hdl
    go_enter Try.func11, Try.ntmps11
    go_wp2_with fail
    refine HC.out.mono ?_
    rintro e w1 ⟨rfl, n1, rfl⟩
    go_wp2_with fail
    refine (H.out n1).mono ?_
    rintro e w2 ⟨g', c', ks, v2, rfl, hL⟩
    obtain ⟨hr, hf, ho, hg, hgg⟩ := hL
    have hB : Below w.heap.size w w2 := below_grown ((below_drewN (Below.refl _ _) n1).alloc (Nat.le_refl _) _) hg (by simp) (Nat.le_refl _)
    have HE : Hid (KGot w.heap.size w2 (.slice (some ⟨g', 0, none⟩) ms.length c') (halvedV ms) ∧ Below w.heap.size w w2) :=
      ⟨Or.inr ⟨g', c', ks, by rw [HL.out], by rw [HV.out]; exact hf, hr, ho.mono (by simp)⟩, hB⟩
    clear hr hf ho hg hgg hB
    go_wp2_with fail
    go_ret
    exact ⟨_, rfl, HE.out.1, HE.out.2⟩

set_option maxRecDepth 100000 in
set_option maxHeartbeats 1000000 in
theorem iHalved (ao : Option Addr) (cap : Nat) (ms : List Mk) (w : World) (hv : MView w ao ms) (hsm : MSmall ms) :
    Calls Try.prog 13 #[.slice ao ms.length cap] w fun e w' => ∃ v, e = .returned v ∧ KGot w.heap.size w' v (halvedV ms) ∧ Below w.heap.size w w' := by
  have HC := hidP (iMarks ao cap ms w hv hsm)
  rcases hm : marksB ms with _ | _
  · rw [hm] at HC
    have HV : Hid (halvedV ms = []) := by show halvedV ms = []; simp [halvedV, hm]
    go_enter Try.func13, Try.ntmps13
    go_wp2_with fail
    refine HC.out.mono ?_
    rintro e w1 ⟨rfl, L1⟩
    go_wp2_with fail
    go_ret
    rw [HV.out]
    exact ⟨_, rfl, Or.inl ⟨rfl, rfl⟩, L1⟩
  · rw [hm] at HC
    have HV : Hid (halvedV ms = (treeF 60 ms 0).flat 0) := by show halvedV ms = _; simp [halvedV, hm]
    have h60 := marksB_len hm
    obtain ⟨ds, hds, hsv, hsl⟩ := hv.sview
    have hdl : ds.length = ms.length := by rw [← hds, smMarks_length]
    have hmk := fun w => run_make_room (P := Try.prog) 24 66 (.agg #[.int .i64 0, .slice none 0 0, .int .i64 0, .int .i64 0, .int .i64 0]) 5 56 Try.underlying24 Try.info66 .i64 .i64 ms.length (by omega) (by omega) w
    have H : Hid (∀ w1, Below w.heap.size w w1 → Calls Try.prog 45 #[.slice (some ⟨w1.heap.size, 0, none⟩) 0 ms.length, .slice ao ms.length cap, .int .i64 0] (w1.alloc (.cells (madeCells #[.int .i64 0, .slice none 0 0, .int .i64 0, .int .i64 0, .int .i64 0] (ms.length * 5)) 66)) fun e w' => ∃ g' c' ks, e = .returned (.slice (some ⟨g', 0, none⟩) ms.length c') ∧ Laid w.heap.size (w1.alloc (.cells (madeCells #[.int .i64 0, .slice none 0 0, .int .i64 0, .int .i64 0, .int .i64 0] (ms.length * 5)) 66)) w' w1.heap.size g' c' [] ks (treeF 60 ms 0)) := fun w1 L1 => by
      have hB : Below w.heap.size w (w1.alloc (.cells (madeCells #[.int .i64 0, .slice none 0 0, .int .i64 0, .int .i64 0, .int .i64 0] (ms.length * 5)) 66)) := L1.alloc L1.size _
      have hk : KRow w.heap.size (w1.alloc (.cells (madeCells #[.int .i64 0, .slice none 0 0, .int .i64 0, .int .i64 0, .int .i64 0] (ms.length * 5)) 66)) w1.heap.size ms.length [] :=
        World.ownsRow_made w1 _ ms.length L1.size (by unfold maxLen; omega) (by rw [size_madeCells])
      have hz := L1.size
      rcases Nat.eq_zero_or_pos ms.length with h0 | h0
      · have e : ms = [] := List.length_eq_zero_iff.1 h0
        subst e
        refine (iHalv0 ao (some ⟨w1.heap.size, 0, none⟩) cap 0 0 0 _).mono ?_
        rintro e w' ⟨rfl, rfl⟩
        exact ⟨w1.heap.size, 0, [], rfl, hk, rfl, KOuts.nil _ _ _, ⟨rfl, rfl, rfl, Nat.le_refl _, fun _ _ _ => rfl⟩, Or.inl rfl⟩
      · obtain ⟨dim, hd1, hd4, hdim⟩ := marks_dim hm h0
        have h := iHalvF 60 ds ao cap 0 dim w.heap.size w1.heap.size ms.length [] w _ (by omega) (by simp; omega) (hsv.next hB) hsl (Nat.le_refl _) hB (by simp; omega) (fun d hd => hdim (smMark d) (by rw [← hds]; exact List.mem_map_of_mem hd)) hd1 hd4 (by omega) (SoleS.of (by rw [hds]; exact hm)) hk
        rw [hdl, hds] at h
        refine h.mono ?_
        rintro e w' ⟨g', c', ks, rfl, hL⟩
        exact ⟨g', c', ks, by rw [List.length_nil, Nat.zero_add], hL⟩
    have HL := hidP (halvedV_length ms hm)
    clear hv hsv hsl hds hdl
    go_enter Try.func13, Try.ntmps13
    go_wp2_with fail
    refine HC.out.mono ?_
    rintro e w1 ⟨rfl, L1⟩
    have hz := L1.size
    have HH := hidP (H.out w1 L1)
    have HL1 := hidP L1
    clear L1 H
    go_wp2_with fail
    refine HH.out.mono ?_
    rintro e w2 ⟨g', c', ks, rfl, hL⟩
    obtain ⟨hr, hf, ho, hg, hgg⟩ := hL
    have hB : Below w.heap.size w w2 := below_grown (HL1.out.alloc HL1.out.size _) hg (by simp; omega) hz
    have HE : Hid (KGot w.heap.size w2 (.slice (some ⟨g', 0, none⟩) ms.length c') (halvedV ms) ∧ Below w.heap.size w w2) :=
      ⟨Or.inr ⟨g', c', ks, by rw [HL.out], by rw [HV.out]; exact hf, hr, ho.mono (by simp; omega)⟩, hB⟩
    clear hr hf ho hg hgg hB HH hmk
    go_wp2_with fail
    go_ret
    exact ⟨_, rfl, HE.out.1, HE.out.2⟩

end Go.Proofs.Ytlnkmjnbippjjaa
