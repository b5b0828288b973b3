/-
  The given Halved and the program's: both hand out the knots of the tree.
  The laws' own helper eqKnotS: of two rows that read as the same knots it says so.
  The given l5Marks: the marks of some knots, by number.
  The program's sameKnot, and the library's slices.EqualFunc over it.
  The laws' own helpers markKnotS and heldKnotS: knots that were handed out are written over, and held.
  The given l6Marks: the marks of some balls, by number.
-/
import Derived.Test.YthddhblmnfjciaaKHalvIZz
import Derived.Test.YthddhblmnfjciaaMCopyZz
import Derived.Test.YthddhblmnfjciaaKByZz
import Derived.Test.YthddhblmnfjciaaKCellsZz
namespace Go.Proofs.Ythddhblmnfjciaa
open Go Go.RowKit

/-- What is handed out: nothing, or a row of knots of its own, each place a row of its own. -/
def KGot (B : Nat) (w : World) (v : Value) (ks : List Kn) : Prop :=
  (v = .slice none 0 0 ∧ ks = []) ∨ ∃ g c es, v = .slice (some ⟨g, 0, none⟩) ks.length c ∧ es.map dkKn = ks ∧ KRow B w g c es ∧ KOuts B w g es
theorem KGot.below {B : Nat} {w w' : World} {v : Value} {ks : List Kn} (h : KGot B w v ks) (hw : Below w.heap.size w w') : KGot B w' v ks :=
  h.imp id fun ⟨g, c, es, e, e2, r, o⟩ => ⟨g, c, es, e, e2, r.below hw, o.below hw⟩
theorem KGot.mono {B B' : Nat} {w : World} {v : Value} {ks : List Kn} (h : KGot B w v ks) (hb : B' ≤ B) : KGot B' w v ks :=
  h.imp id fun ⟨g, c, es, e, e2, r, o⟩ => ⟨g, c, es, e, e2, r.mono hb, o.mono hb⟩

theorem marks_dim {ms : List Mk} (h : marksB ms = true) (h0 : 0 < ms.length) : ∃ dim, 1 ≤ dim ∧ dim ≤ 4 ∧ ∀ a ∈ ms, a.2.length = dim := by
  have h1 := (mOkAt_iff ms 0).1 (marksB_at h h0)
  have h2 := okB_len h1.2.2.1
  refine ⟨(mat ms 0).length, by omega, by omega, fun a ha => ?_⟩
  obtain ⟨i, hi, e⟩ := List.getElem_of_mem ha
  have := ((mOkAt_iff ms i).1 (marksB_at h hi)).2.2.2.1
  rw [← this, ← e]
  simp [mat, List.getD, hi]

/-- 'make([]T, 0, n)', n a variable. -/
theorem run_make_room {P : Program} (t e : TypeId) (z : Value) (size bytes : Nat) (ht : P.underlying t = some (.slice e)) (hinfo : (P.info? e).map (fun i => (i.zero, i.size, i.bytes)) = some (some z, size, bytes))
    (kl kc : IntKind) (n : Nat) (hbytes : bytes * n ≤ 281474976710656) (h63 : n ≤ 9223372036854775807) (w : World) :
    (Instr.makeSlice t (.int kl 0) (.int kc (n : Int))).run P w = .ok (.slice (some ⟨w.heap.size, 0, none⟩) 0 n) (w.alloc (.cells (madeCells z.cells (n * size)) e)) := by
  obtain ⟨i, hi, hzz⟩ := Option.map_eq_some_iff.1 hinfo
  simp only [Prod.mk.injEq] at hzz
  obtain ⟨hz, hs, hb⟩ := hzz
  subst hb hs
  have hb' : (i.bytes : Int) * (n : Int) ≤ 281474976710656 := by
    have h : ((i.bytes * n : Nat) : Int) ≤ 281474976710656 := by omega
    rwa [Int.natCast_mul] at h
  have hr := run_make (P := P) w t e i z ht hi hz kl kc 0 n (by omega) (by omega) hb' (by omega)
  simpa only [Int.toNat_natCast, Int.toNat_zero] using hr

theorem halvedV_none {ms : List Mk} (h : ms.length = 0) : (treeF 60 ms 0).flat 0 = [] := by
  have : ms = [] := List.length_eq_zero_iff.1 h
  subst this; rfl
theorem halvedV_length (ms : List Mk) (h : marksB ms = true) : (halvedV ms).length = ms.length := by
  unfold halvedV
  rw [if_pos h, Tr.flat_length, treeF_size _ _ _ (marksB_len h)]

set_option maxRecDepth 100000 in
set_option maxHeartbeats 1000000 in
theorem sHalved (ao : Option Addr) (cap : Nat) (ms : List Mk) (w : World) (hv : MView w ao ms) (hsm : MSmall ms) :
    Calls Try.prog 69 #[.slice ao ms.length cap] w fun e w' => ∃ v, e = .returned v ∧ KGot w.heap.size w' v (halvedV ms) ∧ Below w.heap.size w w' := by
  have HC := hidP (sMarks ao cap ms w hv hsm)
  rcases hm : marksB ms with _ | _
  · rw [hm] at HC
    have HV : Hid (halvedV ms = []) := by show halvedV ms = []; simp [halvedV, hm]
    go_enter Try.func69, Try.ntmps69
    go_wp2_with fail
    refine HC.out.mono ?_
    rintro e w1 ⟨rfl, n1, rfl⟩
    go_wp2_with fail
    go_ret
    rw [HV.out]
    exact ⟨_, rfl, Or.inr ⟨_, 0, [], rfl, rfl, KRow.start (w.drewN n1) _ (Nat.le_refl _), KOuts.nil _ _ _⟩, (below_drewN (Below.refl _ _) n1).alloc (Nat.le_refl _) _⟩
  · rw [hm] at HC
    have HV : Hid (halvedV ms = (treeF 60 ms 0).flat 0) := by show halvedV ms = _; simp [halvedV, hm]
    have h60 := marksB_len hm
    obtain ⟨ds, hds, hsv, hsl⟩ := hv.sview
    have hdl : ds.length = ms.length := by rw [← hds, smMarks_length]
    have H : Hid (∀ n, Calls Try.prog 124 #[.slice ao ms.length cap, .int .i64 0, .slice (some ⟨w.heap.size, 0, none⟩) 0 0] ((w.drewN n).alloc (.cells #[] 95)) fun e w' => ∃ g' c' ks v2, e = .returned (.tuple #[.slice (some ⟨g', 0, none⟩) ms.length c', .int .i64 v2]) ∧ Laid w.heap.size ((w.drewN n).alloc (.cells #[] 95)) w' w.heap.size g' c' [] ks (treeF 60 ms 0)) := fun n => by
      have hB : Below w.heap.size w ((w.drewN n).alloc (.cells #[] 95)) := (below_drewN (Below.refl _ _) n).alloc (Nat.le_refl _) _
      rcases Nat.eq_zero_or_pos ms.length with h0 | h0
      · have e : ms = [] := List.length_eq_zero_iff.1 h0
        subst e
        refine (sHalved0 ao cap 0 w.heap.size 0 0 ((w.drewN n).alloc (.cells #[] 95))).mono ?_
        rintro e w' ⟨rfl, rfl⟩
        exact ⟨w.heap.size, 0, [], -1, rfl, KRow.start (w.drewN n) _ (Nat.le_refl _), rfl, KOuts.nil _ _ _, ⟨rfl, rfl, rfl, Nat.le_refl _, fun _ _ _ => rfl⟩, Or.inl rfl⟩
      · obtain ⟨dim, hd1, hd4, hdim⟩ := marks_dim hm h0
        have h := sHalvedF 60 ds ao cap 0 dim w.heap.size w.heap.size 0 [] w ((w.drewN n).alloc (.cells #[] 95)) (by omega) (by simp; omega) (hsv.next hB) hsl (Nat.le_refl _) hB (by simp) (fun d hd => hdim (smMark d) (by rw [← hds]; exact List.mem_map_of_mem hd)) hd1 hd4 (by omega) (KRow.start (w.drewN n) _ (Nat.le_refl _))
        rw [hdl, hds] at h
        refine h.mono ?_
        rintro e w' ⟨g', c', ks, rfl, hL⟩
        exact ⟨g', c', ks, _, by rw [List.length_nil, Nat.zero_add], hL⟩
    have HL := hidP (halvedV_length ms hm)
    clear hv hsv hsl hds hdl
    go_enter Try.func69, Try.ntmps69
    go_wp2_with fail
    refine HC.out.mono ?_
    rintro e w1 ⟨rfl, n1, rfl⟩
    go_wp2_with fail
    refine (H.out n1).mono ?_
    rintro e w2 ⟨g', c', ks, v2, rfl, hL⟩
    obtain ⟨hr, hf, ho, hg, hgg⟩ := hL
    have hB : Below w.heap.size w w2 := below_grown ((below_drewN (Below.refl _ _) n1).alloc (Nat.le_refl _) _) hg (by simp) (Nat.le_refl _)
    have HE : Hid (KGot w.heap.size w2 (.slice (some ⟨g', 0, none⟩) ms.length c') (halvedV ms) ∧ Below w.heap.size w w2) :=
      ⟨Or.inr ⟨g', c', ks, by rw [HL.out], by rw [HV.out]; exact hf, hr, ho.mono (by simp)⟩, hB⟩
    clear hr hf ho hg hgg hB
    go_wp2_with fail
    go_ret
    exact ⟨_, rfl, HE.out.1, HE.out.2⟩

set_option maxRecDepth 100000 in
set_option maxHeartbeats 1000000 in
theorem iHalved (ao : Option Addr) (cap : Nat) (ms : List Mk) (w : World) (hv : MView w ao ms) (hsm : MSmall ms) :
    Calls Try.prog 73 #[.slice ao ms.length cap] w fun e w' => ∃ v, e = .returned v ∧ KGot w.heap.size w' v (halvedV ms) ∧ Below w.heap.size w w' := by
  have HC := hidP (iMarks ao cap ms w hv hsm)
  rcases hm : marksB ms with _ | _
  · rw [hm] at HC
    have HV : Hid (halvedV ms = []) := by show halvedV ms = []; simp [halvedV, hm]
    go_enter Try.func73, Try.ntmps73
    go_wp2_with fail
    refine HC.out.mono ?_
    rintro e w1 ⟨rfl, L1⟩
    go_wp2_with fail
    go_ret
    rw [HV.out]
    exact ⟨_, rfl, Or.inl ⟨rfl, rfl⟩, L1⟩
  · rw [hm] at HC
    have HV : Hid (halvedV ms = (treeF 60 ms 0).flat 0) := by show halvedV ms = _; simp [halvedV, hm]
    have h60 := marksB_len hm
    obtain ⟨ds, hds, hsv, hsl⟩ := hv.sview
    have hdl : ds.length = ms.length := by rw [← hds, smMarks_length]
    have hmk := fun w => run_make_room (P := Try.prog) 25 95 (.agg #[.int .i64 0, .slice none 0 0, .int .i64 0, .int .i64 0, .int .i64 0]) 5 56 Try.underlying25 Try.info95 .i64 .i64 ms.length (by omega) (by omega) w
    have H : Hid (∀ w1, Below w.heap.size w w1 → Calls Try.prog 125 #[.slice (some ⟨w1.heap.size, 0, none⟩) 0 ms.length, .slice ao ms.length cap, .int .i64 0] (w1.alloc (.cells (madeCells #[.int .i64 0, .slice none 0 0, .int .i64 0, .int .i64 0, .int .i64 0] (ms.length * 5)) 95)) fun e w' => ∃ g' c' ks, e = .returned (.slice (some ⟨g', 0, none⟩) ms.length c') ∧ Laid w.heap.size (w1.alloc (.cells (madeCells #[.int .i64 0, .slice none 0 0, .int .i64 0, .int .i64 0, .int .i64 0] (ms.length * 5)) 95)) w' w1.heap.size g' c' [] ks (treeF 60 ms 0)) := fun w1 L1 => by
      have hB : Below w.heap.size w (w1.alloc (.cells (madeCells #[.int .i64 0, .slice none 0 0, .int .i64 0, .int .i64 0, .int .i64 0] (ms.length * 5)) 95)) := L1.alloc L1.size _
      have hk : KRow w.heap.size (w1.alloc (.cells (madeCells #[.int .i64 0, .slice none 0 0, .int .i64 0, .int .i64 0, .int .i64 0] (ms.length * 5)) 95)) w1.heap.size ms.length [] :=
        World.ownsRow_made w1 _ ms.length L1.size (by unfold maxLen; omega) (by rw [size_madeCells])
      have hz := L1.size
      rcases Nat.eq_zero_or_pos ms.length with h0 | h0
      · have e : ms = [] := List.length_eq_zero_iff.1 h0
        subst e
        refine (iHalv0 ao (some ⟨w1.heap.size, 0, none⟩) cap 0 0 0 _).mono ?_
        rintro e w' ⟨rfl, rfl⟩
        exact ⟨w1.heap.size, 0, [], rfl, hk, rfl, KOuts.nil _ _ _, ⟨rfl, rfl, rfl, Nat.le_refl _, fun _ _ _ => rfl⟩, Or.inl rfl⟩
      · obtain ⟨dim, hd1, hd4, hdim⟩ := marks_dim hm h0
        have h := iHalvF 60 ds ao cap 0 dim w.heap.size w1.heap.size ms.length [] w _ (by omega) (by simp; omega) (hsv.next hB) hsl (Nat.le_refl _) hB (by simp; omega) (fun d hd => hdim (smMark d) (by rw [← hds]; exact List.mem_map_of_mem hd)) hd1 hd4 (by omega) (SoleS.of (by rw [hds]; exact hm)) hk
        rw [hdl, hds] at h
        refine h.mono ?_
        rintro e w' ⟨g', c', ks, rfl, hL⟩
        exact ⟨g', c', ks, by rw [List.length_nil, Nat.zero_add], hL⟩
    have HL := hidP (halvedV_length ms hm)
    clear hv hsv hsl hds hdl
    go_enter Try.func73, Try.ntmps73
    go_wp2_with fail
    refine HC.out.mono ?_
    rintro e w1 ⟨rfl, L1⟩
    have hz := L1.size
    have HH := hidP (H.out w1 L1)
    have HL1 := hidP L1
    clear L1 H
    go_wp2_with fail
    refine HH.out.mono ?_
    rintro e w2 ⟨g', c', ks, rfl, hL⟩
    obtain ⟨hr, hf, ho, hg, hgg⟩ := hL
    have hB : Below w.heap.size w w2 := below_grown (HL1.out.alloc HL1.out.size _) hg (by simp; omega) hz
    have HE : Hid (KGot w.heap.size w2 (.slice (some ⟨g', 0, none⟩) ms.length c') (halvedV ms) ∧ Below w.heap.size w w2) :=
      ⟨Or.inr ⟨g', c', ks, by rw [HL.out], by rw [HV.out]; exact hf, hr, ho.mono (by simp; omega)⟩, hB⟩
    clear hr hf ho hg hgg hB HH hmk
    go_wp2_with fail
    go_ret
    exact ⟨_, rfl, HE.out.1, HE.out.2⟩

end Go.Proofs.Ythddhblmnfjciaa
namespace Go.Proofs.Ythddhblmnfjciaa
open Go Go.RowKit

def knth (ks : List Kn) (i : Nat) : Kn := ks.getD i ((0, []), 0, 0, 0)
def KAt (w : World) (b off : Nat) (k : Kn) : Prop :=
  w.cell? ⟨b, off, none⟩ = some (.int .i64 k.1.1) ∧ (∃ ao cap, w.cell? ⟨b, off + 1, none⟩ = some (.slice ao k.1.2.length cap) ∧ View w ao k.1.2) ∧ w.cell? ⟨b, off + 2, none⟩ = some (.int .i64 k.2.1) ∧ w.cell? ⟨b, off + 3, none⟩ = some (.int .i64 k.2.2.1) ∧ w.cell? ⟨b, off + 4, none⟩ = some (.int .i64 k.2.2.2)
def KSeg (w : World) (b off : Nat) (ks : List Kn) : Prop := ∀ i, i < ks.length → KAt w b (off + i * 5) (knth ks i)
def KView (w : World) (ao : Option Addr) (ks : List Kn) : Prop := ks = [] ∨ ∃ b off, ao = some ⟨b, off, none⟩ ∧ b < w.heap.size ∧ KSeg w b off ks
def KSmall (ks : List Kn) : Prop := ks.length ≤ 1048576 ∧ ∀ i, (knth ks i).1.2.length ≤ 1048576
theorem KAt.below {w w' : World} {b off : Nat} {k : Kn} (h : KAt w b off k) (hb : b < w.heap.size) (hw : Below w.heap.size w w') : KAt w' b off k := by
  obtain ⟨h0, ⟨ao, cap, h1, hv⟩, h2, h3, h4⟩ := h
  exact ⟨(hw.cell (p := ⟨b, off, none⟩) hb).trans h0, ⟨ao, cap, (hw.cell (p := ⟨b, off + 1, none⟩) hb).trans h1, hv.next hw⟩, (hw.cell (p := ⟨b, off + 2, none⟩) hb).trans h2, (hw.cell (p := ⟨b, off + 3, none⟩) hb).trans h3, (hw.cell (p := ⟨b, off + 4, none⟩) hb).trans h4⟩
theorem KView.next {w w' : World} {ao : Option Addr} {ks : List Kn} (h : KView w ao ks) (hw : Below w.heap.size w w') : KView w' ao ks :=
  h.imp id fun ⟨b, off, e, hb, hs⟩ => ⟨b, off, e, Nat.lt_of_lt_of_le hb hw.size, fun i hi => (hs i hi).below hb hw⟩
theorem dk_nth {es : List Dk} {ks : List Kn} (h : es.map dkKn = ks) {i : Nat} (hi : i < ks.length) : knth ks i = dkKn (dnth es i) := by
  subst h
  simp at hi
  simp [knth, dnth, List.getD, hi]
theorem KGot.view {B : Nat} {w : World} {v : Value} {ks : List Kn} (h : KGot B w v ks) : ∃ ao c, v = .slice ao ks.length c ∧ KView w ao ks := by
  rcases h with ⟨rfl, rfl⟩ | ⟨g, c, es, rfl, he, hr, ho⟩
  · exact ⟨none, 0, rfl, Or.inl rfl⟩
  · refine ⟨some ⟨g, 0, none⟩, c, rfl, Or.inr ⟨g, 0, rfl, hr.lt.2, fun i hi => ?_⟩⟩
    have hl : i < es.length := by rw [← he] at hi; simpa using hi
    rw [dk_nth he hi, Nat.zero_add]
    obtain ⟨c0, c1, c2, c3, c4⟩ := hr.cell hl
    have hm : dnth es i ∈ es := by simp [dnth, List.getD, hl]
    obtain ⟨h, e, r, _⟩ := ho.1 _ hm
    exact ⟨c0, ⟨_, _, c1, by rw [e]; exact r.view⟩, c2, c3, c4⟩

set_option maxRecDepth 100000 in
set_option maxHeartbeats 1000000 in
theorem eqK (k : Kn) (ao ao' : Option Addr) (cap cap' : Nat) (w : World) (hv : View w ao k.1.2) (hv' : View w ao' k.1.2) (hn : k.1.2.length ≤ 1048576) :
    Calls Try.prog 76 #[.agg #[.int .i64 k.1.1, .slice ao k.1.2.length cap, .int .i64 k.2.1, .int .i64 k.2.2.1, .int .i64 k.2.2.2], .agg #[.int .i64 k.1.1, .slice ao' k.1.2.length cap', .int .i64 k.2.1, .int .i64 k.2.2.1, .int .i64 k.2.2.2]] w fun e w' => e = .returned (.bool true) ∧ Below w.heap.size w w' := by
  obtain ⟨W, hW⟩ : ∃ W, W = (w.alloc (.cells #[.int .i64 k.1.1, .slice ao k.1.2.length cap, .int .i64 k.2.1, .int .i64 k.2.2.1, .int .i64 k.2.2.2] 95)).alloc (.cells #[.int .i64 k.1.1, .slice ao' k.1.2.length cap', .int .i64 k.2.1, .int .i64 k.2.2.1, .int .i64 k.2.2.2] 95) := ⟨_, rfl⟩
  have hL : Below w.heap.size w W := by rw [hW]; exact ((Below.refl _ _).alloc (Nat.le_refl _) _).alloc (by simp) _
  have hsz : W.heap.size = w.heap.size + 2 := by rw [hW]; simp
  have a2 : W.cell? ⟨w.heap.size, 2, none⟩ = some (.int .i64 k.2.1) := by rw [hW]; go_simp
  have a3 : W.cell? ⟨w.heap.size, 3, none⟩ = some (.int .i64 k.2.2.1) := by rw [hW]; go_simp
  have a4 : W.cell? ⟨w.heap.size, 4, none⟩ = some (.int .i64 k.2.2.2) := by rw [hW]; go_simp
  have b2 : W.cell? ⟨w.heap.size + 1, 2, none⟩ = some (.int .i64 k.2.1) := by rw [hW]; go_simp
  have b3 : W.cell? ⟨w.heap.size + 1, 3, none⟩ = some (.int .i64 k.2.2.1) := by rw [hW]; go_simp
  have b4 : W.cell? ⟨w.heap.size + 1, 4, none⟩ = some (.int .i64 k.2.2.2) := by rw [hW]; go_simp
  have HM := hidP (eqM k.1 k.1 ao ao' cap cap' W (hv.next hL) (hv'.next hL) hn)
  have hd : decide (k.1 = k.1) = true := by simp
  rw [hd] at HM
  have n1 : (k.2.1 != k.2.1) = false := by simp
  have n2 : (k.2.2.1 != k.2.2.1) = false := by simp
  have n3 : (k.2.2.2 != k.2.2.2) = false := by simp
  have HL := hidP hL
  clear hv hv' hd hL
  go_enter Try.func76, Try.ntmps76
  go_wp2_with fail
  rw [← hW]
  clear hW
  refine HM.out.mono ?_
  rintro e w1 ⟨rfl, L1⟩
  replace a2 := (L1.cell (p := ⟨w.heap.size, 2, none⟩) (by simp; omega)).trans a2
  replace a3 := (L1.cell (p := ⟨w.heap.size, 3, none⟩) (by simp; omega)).trans a3
  replace a4 := (L1.cell (p := ⟨w.heap.size, 4, none⟩) (by simp; omega)).trans a4
  replace b2 := (L1.cell (p := ⟨w.heap.size + 1, 2, none⟩) (by simp; omega)).trans b2
  replace b3 := (L1.cell (p := ⟨w.heap.size + 1, 3, none⟩) (by simp; omega)).trans b3
  replace b4 := (L1.cell (p := ⟨w.heap.size + 1, 4, none⟩) (by simp; omega)).trans b4
  have HE := hidP (HL.out.trans (L1.mono (by omega)))
  clear L1 HM HL
  go_wp2_with fail
  go_ret
  exact ⟨rfl, HE.out⟩

set_option maxHeartbeats 400000 in
theorem eqKS_nil (ao ao' : Option Addr) (cap cap' : Nat) (w : World) :
    Calls Try.prog 18 #[.slice ao 0 cap, .slice ao' 0 cap'] w fun e w' => e = .returned (.bool true) ∧ w' = w := by
  go_enter Try.func18, Try.ntmps18
  go_wp2
  refine wp_loop_rounds 1 ?_
  rw [rounds_succ]
  go_wp2
  go_ret
  exact ⟨rfl, rfl⟩

set_option maxRecDepth 100000 in
set_option maxHeartbeats 1000000 in
theorem eqKS (ao ao' : Option Addr) (cap cap' : Nat) (ks : List Kn) (w : World) (hv : KView w ao ks) (hv' : KView w ao' ks) (hsm : KSmall ks) :
    Calls Try.prog 18 #[.slice ao ks.length cap, .slice ao' ks.length cap'] w fun e w' => e = .returned (.bool true) ∧ Below w.heap.size w w' := by
  rcases hv with rfl | ⟨b, off, rfl, hb, hs⟩
  · refine (eqKS_nil ao ao' cap cap' w).mono ?_
    rintro e w' ⟨rfl, rfl⟩
    exact ⟨rfl, Below.refl _ _⟩
  · rcases hv' with rfl | ⟨b', off', rfl, hb', hs'⟩
    · refine (eqKS_nil _ ao' cap cap' w).mono ?_
      rintro e w' ⟨rfl, rfl⟩
      exact ⟨rfl, Below.refl _ _⟩
    · obtain ⟨hn, hat⟩ := hsm
      have hlb : ((ks.length : Int) != (ks.length : Int)) = false := by simp
      have HS := hidP (And.intro hs hs')
      clear hs hs'
      go_enter Try.func18, Try.ntmps18
      go_wp2
      go_loopw [5] (fun i wr => ∃ k : Nat, k ≤ ks.length ∧ i = .int .i64 k ∧ Below w.heap.size w wr) (fun i _ => ks.length - (intOf i).toNat)
      case atStart => exact ⟨0, Nat.zero_le _, rfl, Below.refl _ _⟩
      case round =>
        obtain ⟨k, hk, rfl, L⟩ := hrel
        by_cases hlt : k < ks.length
        · obtain ⟨c0, ⟨ao, ca, c1, hv⟩, c2, c3, c4⟩ := (HS.out.1 k hlt).below hb L
          obtain ⟨d0, ⟨ao', ca', d1, hv'⟩, d2, d3, d4⟩ := (HS.out.2 k hlt).below hb' L
          have hi0 : (0 : Int) ≤ (k : Int) := Int.natCast_nonneg _
          have hi1 : (k : Int) < (ks.length : Int) := by omega
          have hz := L.size
          have hbw : b < wr.heap.size := by omega
          have hbw' : b' < wr.heap.size := by omega
          have HC := hidP (eqK (knth ks k) ao ao' ca ca' wr.drew hv hv' (hat k))
          have HLL := hidP L
          have HK : Hid (∀ w', Below wr.heap.size wr w' → (w'.cell? ⟨b, off + k * 5, none⟩ = some (.int .i64 (knth ks k).1.1) ∧ w'.cell? ⟨b, off + k * 5 + 1, none⟩ = some (.slice ao (knth ks k).1.2.length ca) ∧ w'.cell? ⟨b, off + k * 5 + 2, none⟩ = some (.int .i64 (knth ks k).2.1) ∧ w'.cell? ⟨b, off + k * 5 + 3, none⟩ = some (.int .i64 (knth ks k).2.2.1) ∧ w'.cell? ⟨b, off + k * 5 + 4, none⟩ = some (.int .i64 (knth ks k).2.2.2)) ∧ w'.cell? ⟨b', off' + k * 5, none⟩ = some (.int .i64 (knth ks k).1.1) ∧ w'.cell? ⟨b', off' + k * 5 + 1, none⟩ = some (.slice ao' (knth ks k).1.2.length ca') ∧ w'.cell? ⟨b', off' + k * 5 + 2, none⟩ = some (.int .i64 (knth ks k).2.1) ∧ w'.cell? ⟨b', off' + k * 5 + 3, none⟩ = some (.int .i64 (knth ks k).2.2.1) ∧ w'.cell? ⟨b', off' + k * 5 + 4, none⟩ = some (.int .i64 (knth ks k).2.2.2)) := fun w' M =>
            ⟨⟨(M.cell (p := ⟨b, off + k * 5, none⟩) hbw).trans c0, (M.cell (p := ⟨b, off + k * 5 + 1, none⟩) hbw).trans c1, (M.cell (p := ⟨b, off + k * 5 + 2, none⟩) hbw).trans c2, (M.cell (p := ⟨b, off + k * 5 + 3, none⟩) hbw).trans c3, (M.cell (p := ⟨b, off + k * 5 + 4, none⟩) hbw).trans c4⟩, (M.cell (p := ⟨b', off' + k * 5, none⟩) hbw').trans d0, (M.cell (p := ⟨b', off' + k * 5 + 1, none⟩) hbw').trans d1, (M.cell (p := ⟨b', off' + k * 5 + 2, none⟩) hbw').trans d2, (M.cell (p := ⟨b', off' + k * 5 + 3, none⟩) hbw').trans d3, (M.cell (p := ⟨b', off' + k * 5 + 4, none⟩) hbw').trans d4⟩
          clear L hv hv'
          generalize knth ks k = kn at *
          go_wp2_with fail
          go_region_held3 (fun w' => (w'.cell? ⟨b, off + k * 5, none⟩ = some (.int .i64 kn.1.1) ∧ w'.cell? ⟨b, off + k * 5 + 1, none⟩ = some (.slice ao kn.1.2.length ca) ∧ w'.cell? ⟨b, off + k * 5 + 2, none⟩ = some (.int .i64 kn.2.1) ∧ w'.cell? ⟨b, off + k * 5 + 3, none⟩ = some (.int .i64 kn.2.2.1) ∧ w'.cell? ⟨b, off + k * 5 + 4, none⟩ = some (.int .i64 kn.2.2.2)) ∧ w'.cell? ⟨b', off' + k * 5, none⟩ = some (.int .i64 kn.1.1) ∧ w'.cell? ⟨b', off' + k * 5 + 1, none⟩ = some (.slice ao' kn.1.2.length ca') ∧ w'.cell? ⟨b', off' + k * 5 + 2, none⟩ = some (.int .i64 kn.2.1) ∧ w'.cell? ⟨b', off' + k * 5 + 3, none⟩ = some (.int .i64 kn.2.2.1) ∧ w'.cell? ⟨b', off' + k * 5 + 4, none⟩ = some (.int .i64 kn.2.2.2))
            (first
              | exact HK.out _ (Below.refl _ _).drew
              | exact HK.out _ ((Below.refl _ _).drew.trans L1)
              | go_keep)
            (first
              | (go_at_call 76; refine HC.out.mono ?_; rintro e w1 ⟨rfl, L1⟩))
          have LF := hidP (HLL.out.drew.trans (L1.mono hz))
          clear L1 HC HK
          go_wp2_with fail
          go_roundw
          case rel => exact ⟨k + 1, by omega, by go_num, LF.out⟩
          case measure => simp [intOf]; omega
        · go_wp2
          go_ret
          exact ⟨rfl, L⟩

end Go.Proofs.Ythddhblmnfjciaa
namespace Go.Proofs.Ythddhblmnfjciaa
open Go Go.RowKit

/-- The marks of knots that lie from off on. -/
def SSeg5 (w : World) (b off : Nat) (ds : List Sm) : Prop := ∀ i, i < ds.length → w.cell? ⟨b, off + i * 5, none⟩ = some (.int .i64 (snth ds i).1) ∧ w.cell? ⟨b, off + i * 5 + 1, none⟩ = some (.slice (snth ds i).2.1 (snth ds i).2.2.2.length (snth ds i).2.2.1)
def SView5 (w : World) (ao : Option Addr) (ds : List Sm) : Prop := ds = [] ∨ ∃ b off, ao = some ⟨b, off, none⟩ ∧ b < w.heap.size ∧ SSeg5 w b off ds
theorem SView5.seg {w : World} {ao : Option Addr} {ds : List Sm} (h : SView5 w ao ds) (h0 : 0 < ds.length) : ∃ b off, ao = some ⟨b, off, none⟩ ∧ b < w.heap.size ∧ SSeg5 w b off ds := by
  rcases h with h | h
  · subst h; simp at h0
  · exact h
theorem SView5.next {w w' : World} {ao : Option Addr} {ds : List Sm} (h : SView5 w ao ds) (hw : Below w.heap.size w w') : SView5 w' ao ds :=
  h.imp id fun ⟨b, off, e, hb, hs⟩ => ⟨b, off, e, Nat.lt_of_lt_of_le hb hw.size, fun i hi => ⟨(hw.cell (p := ⟨b, off + i * 5, none⟩) hb).trans (hs i hi).1, (hw.cell (p := ⟨b, off + i * 5 + 1, none⟩) hb).trans (hs i hi).2⟩⟩
/-- The marks of what lies there, knot by knot. -/
theorem KView.sview {w : World} {ao : Option Addr} {ks : List Kn} (h : KView w ao ks) : ∃ ds, smMarks ds = ks.map (·.1) ∧ SView5 w ao ds ∧ SLies w ds := by
  rcases h with h | ⟨b, off, e, hb, hs⟩
  · subst h; exact ⟨[], rfl, Or.inl rfl, fun d hd => by cases hd⟩
  · have : ∃ ds : List Sm, smMarks ds = ks.map (·.1) ∧ SSeg5 w b off ds ∧ SLies w ds := by
      clear e
      induction ks generalizing off with
      | nil => exact ⟨[], rfl, fun i hi => by simp at hi, fun d hd => by cases hd⟩
      | cons m ms ih =>
        obtain ⟨c0, ⟨ao1, cap1, c1, hv⟩, _⟩ := hs 0 (by simp)
        obtain ⟨ds, e1, e2, e3⟩ := ih (off + 5) (fun i hi => by
          have := hs (i + 1) (by simpa using hi)
          rw [show off + (i + 1) * 5 = off + 5 + i * 5 by omega] at this
          exact this)
        refine ⟨(m.1.1, ao1, cap1, m.1.2) :: ds, by simp [smMarks, smMark] at e1 ⊢; exact e1, fun i hi => ?_, fun d hd => ?_⟩
        · match i with
          | 0 => simp only [Nat.zero_mul, Nat.add_zero] at c0 c1 ⊢; exact ⟨c0, c1⟩
          | i + 1 =>
            have := e2 i (by simpa using hi)
            rw [show off + (i + 1) * 5 = off + 5 + i * 5 by omega]
            exact this
        · rcases List.mem_cons.1 hd with rfl | hd
          · exact hv
          · exact e3 d hd
    obtain ⟨ds, e1, e2, e3⟩ := this
    exact ⟨ds, e1, Or.inr ⟨b, off, e, hb, e2⟩, e3⟩

set_option maxRecDepth 100000 in
set_option maxHeartbeats 4000000 in
theorem sMarksOf (ao : Option Addr) (cap : Nat) (ds : List Sm) (w : World) (hv : SView5 w ao ds) (hn : ds.length ≤ 1048576) :
    Calls Try.prog 67 #[.slice ao ds.length cap] w fun e w' => ∃ g c, e = .returned (.slice (some ⟨g, 0, none⟩) ds.length c) ∧ SRow w.heap.size w' g c (sortBy smid ds) ∧ Below w.heap.size w w' := by
  obtain ⟨j0, hj0, hy0, hy1, hy2⟩ := info_parts Try.info93
  have HV := hidP hv
  clear hv
  go_enter Try.func67, Try.ntmps67
  go_wp2_with fail
  go_loopw [3, 4] (fun o i wr => ∃ (k g c : Nat), k ≤ ds.length ∧ i = .int .i64 k ∧ o = .slice (some ⟨g, 0, none⟩) k c ∧ SRow w.heap.size wr g c (sortBy smid (ds.take k)) ∧ Below w.heap.size w wr) (fun _ i _ => ds.length - (intOf i).toNat)
  case atStart => exact ⟨0, w.heap.size, 0, Nat.zero_le _, rfl, rfl, SRow.start w _ (Nat.le_refl _), (Below.refl _ _).alloc (Nat.le_refl _) _⟩
  case round =>
    obtain ⟨k, g, c, hk, rfl, rfl, hrow, L⟩ := hrel
    by_cases hlt : k < ds.length
    · have hlen : (sortBy smid (ds.take k)).length = k := by rw [sortBy_length]; simp; omega
      have HNX := hidP (sortBy_take smid ds k hlt)
      rw [← snth_get hlt] at HNX
      generalize sortBy smid (ds.take k) = es at *
      obtain ⟨b, off, rfl, hb, hs⟩ := HV.out.seg (by omega)
      obtain ⟨d0, d1⟩ := hs k hlt
      generalize hd : snth ds k = d at *
      have HROW := hidP hrow
      have HL := hidP L
      have HLEN := hidP hlen
      clear hrow L hlen hd
      obtain ⟨W, hW⟩ : ∃ W, W = wr := ⟨wr, rfl⟩
      subst hW
      go_upto_block 2 with fail
      go_cut [5] from 8 to 52 (fun kk wx => ∃ j : Nat, kk = .int .i64 j ∧ j ≤ k ∧ insBy smid d es = es.take j ++ d :: es.drop j ∧ ∃ n, wx = W.drewN n)
      case first =>
        have HS0 := hidP ((HROW.out).seg)
        have z0 := (HL.out.cell (p := ⟨b, off + k * 5, none⟩) hb).trans d0
        clear d0 d1 hs
        have hkn : (k : Int) < (ds.length : Int) := by omega
        have hk0 : (0 : Int) ≤ (k : Int) := Int.natCast_nonneg _
        go_wp2_with fail
        go_loopw [5] (fun kk wq => ∃ j : Nat, j ≤ k ∧ kk = .int .i64 j ∧ (∀ i (h : i < es.length), i < j → smid es[i] d = true) ∧ ∃ n, wq = W.drewN n) (fun kk _ => k - (intOf kk).toNat)
        case atStart => exact ⟨0, Nat.zero_le _, rfl, fun i h1 h2 => by omega, 0, rfl⟩
        case round =>
          obtain ⟨j, hj, rfl, hall, hw⟩ := hrel
          have HA := hidP hall
          have HW := hidP hw
          clear hall hw
          by_cases hjk : j < k
          · have hjl : j < es.length := by have := HLEN.out; omega
            obtain ⟨q0, -⟩ := HS0.out j hjl
            have HSN := hidP (snth_get hjl)
            generalize snth es j = x at *
            have hjn : (j : Int) < (k : Int) := by omega
            have hj0 : (0 : Int) ≤ (j : Int) := Int.natCast_nonneg _
            rw [Nat.zero_add] at q0
            have p0 : wr.cell? ⟨g, j * 2, none⟩ = some (.int .i64 x.1) := by obtain ⟨n, e⟩ := HW.out; rw [e]; exact q0
            have y0 : wr.cell? ⟨b, off + k * 5, none⟩ = some (.int .i64 d.1) := by obtain ⟨n, e⟩ := HW.out; rw [e]; exact z0
            clear q0 z0
            have HOUT : Hid (smid x d = false → insBy smid d es = es.take j ++ d :: es.drop j) := fun hf => by
              have e := posBy_uniq smid d es j (by omega) HA.out (fun h => by rw [← HSN.out]; exact hf)
              have := insBy_eq smid d es
              rw [e] at this
              exact this
            have HNXT : Hid (smid x d = true → ∀ i (h : i < es.length), i < j + 1 → smid es[i] d = true) := fun hf i h1 h2 => by
              rcases Nat.lt_or_ge i j with h3 | h3
              · exact HA.out i h1 h3
              · obtain rfl : i = j := by omega
                rw [← HSN.out]; exact hf
            clear HA HSN
            by_cases h1 : x.1 < d.1
            · have h1b : decide (x.1 < d.1) = true := by simp [h1]
              have HT := hidP (HNXT.out h1b)
              clear HOUT HNXT
              go_wp2_with fail
              go_quiet (fail)
              go_wp2_with fail
              go_roundw
              case rel => exact ⟨j + 1, by omega, by go_num, HT.out, by obtain ⟨n, hn⟩ := HW.out; exact ⟨n + nq, by rw [hn]; simp⟩⟩
              case measure => simp [intOf]; omega
            · have h1b : decide (x.1 < d.1) = false := by simp [h1]
              have HT := hidP (HOUT.out h1b)
              clear HOUT HNXT
              go_wp2_with fail
              go_quiet (fail)
              go_wp2_with fail
              go_meet
              exact ⟨j, rfl, hj, HT.out, by obtain ⟨n, hn⟩ := HW.out; exact ⟨n + nq, by rw [hn]; simp⟩⟩
          · obtain rfl : j = k := by omega
            have HT : Hid (insBy smid d es = es.take j ++ d :: es.drop j) := by
              have e := posBy_uniq smid d es j (by have := HLEN.out; omega) HA.out (fun h => by have := HLEN.out; omega)
              have := insBy_eq smid d es
              rw [e] at this
              exact this
            clear HA HS0 z0
            have hjb : decide ((j : Int) < (j : Int)) = false := by simp
            go_wp2_with fail
            go_quiet (fail)
            go_wp2_with fail
            go_meet
            exact ⟨j, rfl, hj, HT.out, by obtain ⟨n, hn⟩ := HW.out; exact ⟨n + nq, by rw [hn]; simp⟩⟩
      case rest =>
        obtain ⟨j, rfl, hjk, hins, n, rfl⟩ := hcut
        have HINS := hidP hins
        clear hins
        have L1 : Below w.heap.size w (W.drewN n) := below_drewN HL.out n
        have hrow1 : SRow w.heap.size (W.drewN n) g c es := HROW.out
        generalize W.drewN n = W1 at *
        have hcap := hrow1.cap
        have hlen := HLEN.out
        have hgl := hrow1.lt
        have HS1 := hidP hrow1.seg
        have HL1 := hidP L1
        have hdl : (es.drop j).length = k - j := by simp; omega
        have htl : (es.take j).length = j := by simp; omega
        clear hrow1 L1
        go_upto_region 8 with fail
        go_cut [6] from 8 to 52 (fun r wx => ∃ gr cr, r = .slice (some ⟨gr, 0, none⟩) (k - j) cr ∧ SRow w.heap.size wx gr cr (es.drop j) ∧ Below W1.heap.size W1 wx)
        case first =>
          have hj0' : (0 : Int) ≤ (j : Int) := Int.natCast_nonneg _
          have hj1 : (j : Int) ≤ (k : Int) := by omega
          have hj2 : (j : Int) ≤ (c : Int) := by omega
          have hj3 : (k : Int) ≤ (c : Int) := by omega
          have hw1 := HL1.out.size
          have LA : Below W1.heap.size W1 (W1.alloc (.cells #[] 93)) := (Below.refl _ _).alloc (Nat.le_refl _) _
          by_cases hjlt : j < k
          · have hcj : ¬ c = 0 := by omega
            have hcj2 : j < c := by omega
            have hcj3 : ¬ c - j = 0 := by omega
            have HSRC : Hid (SrcAt (W1.alloc (.cells #[] 93)) 2 (some ⟨g, j * 2, none⟩) (k - j) (smCells (es.drop j))) := by
              have hv : SView (W1.alloc (.cells #[] 93)) (some ⟨g, j * 2, none⟩) (es.drop j) := Or.inr ⟨g, j * 2, rfl, by simp; omega, by
                have := (HS1.out.drop j).below (B := W1.heap.size) (by omega) LA
                rwa [Nat.zero_add] at this⟩
              have := hv.src
              rwa [hdl] at this
            go_wp2_with (at_builtin; refine wpList_append_at _ rfl (.tmp 34) (.tmp 37) 34 rfl w.heap.size 93 j0 _ 2 32 Try.underlying34 hj0 hy0 hy1 hy2 rfl (by omega) W1.heap.size 0 0 [] rfl (World.ownsRow_lit W1 #[] 0 (by omega) (Nat.zero_le _) rfl) (some ⟨g, j * 2, none⟩) (k - j) (c - j) (smCells (es.drop j)) rfl HSRC.out (by unfold maxLen; omega) (by omega) (by simp; omega) (W1.heap.size + 1) (by simp) ?_; intro gr cr w3 hownr hgrowr hatr hltr)
            have hrest : SRow w.heap.size w3 gr cr (es.drop j) := SRow.of hownr (by omega) (by simp)
            have L3 : Below W1.heap.size W1 w3 := LA.grown hgrowr (by simp) (by intro q hq; cases hq; exact Nat.le_refl _)
            have HE := hidP (And.intro hrest L3)
            clear hownr hgrowr hatr hltr hrest L3 LA HSRC
            go_meet
            exact ⟨gr, cr, by first | rfl | rw [Nat.zero_add], HE.out.1, HE.out.2⟩
          · obtain rfl : j = k := by omega
            have HE : Hid (SRow w.heap.size (W1.alloc (.cells #[] 93)) W1.heap.size 0 (es.drop j)) := by
              rw [List.drop_of_length_le (by omega)]
              exact SRow.start W1 _ hw1
            have HLA := hidP LA
            clear LA
            by_cases hc0 : c = 0
            · obtain rfl : j = 0 := by omega
              subst hc0
              go_wp2_with fail
              all_goals
                go_meet
                exact ⟨W1.heap.size, 0, rfl, HE.out, HLA.out⟩
            · by_cases hcj : c = j
              · subst hcj
                go_wp2_with fail
                all_goals
                  go_meet
                  exact ⟨W1.heap.size, 0, by simp, HE.out, HLA.out⟩
              · have hcj3 : ¬ c - j = 0 := by omega
                go_wp2_with fail
                all_goals
                  go_meet
                  exact ⟨W1.heap.size, 0, by simp, HE.out, HLA.out⟩
        case rest =>
          obtain ⟨gr, cr, rfl, hrest, L3⟩ := hcut
          generalize hw3 : wc = w3 at *
          clear hw3
          have HR := hidP hrest
          have HL3 := hidP L3
          clear hrest L3
          go_upto_region 9 with fail
          have hz1 := HL1.out.size
          have hz3 := HL3.out.size
          have hq3 : b < w3.heap.size := by omega
          have L13 := hidP (HL1.out.trans (HL3.out.mono hz1))
          have e0 := (L13.out.cell (p := ⟨b, off + k * 5, none⟩) hb).trans d0
          have e1 := (L13.out.cell (p := ⟨b, off + k * 5 + 1, none⟩) hb).trans d1
          have hg3 : g < w3.heap.size := by omega
          have HVR : Hid (∀ w', Below w3.heap.size w3 w' → SrcAt w' 2 (some ⟨gr, 0, none⟩) (k - j) (smCells (es.drop j))) := fun w' L => by
            have := ((HR.out.sview).next L).src
            rwa [hdl] at this
          have hk1 : (j : Int) ≤ (c : Int) := by omega
          have hk2 : (j : Int) ≤ (k : Int) := by omega
          have hk3 : (0 : Int) ≤ (j : Int) := by omega
          have hk4 : j ≤ c := by omega
          have hn0 : (0 : Int) ≤ (k : Int) := by omega
          have hn1 : (k : Int) < (ds.length : Int) := by omega
          have HEND : Hid (∀ (gC cC : Nat) (wC : World), wC.ownsRow w.heap.size 93 2 (.slice (some ⟨gC, 0, none⟩) (j + 1 + (k - j)) cC) (j + 1 + (k - j)) (smCells (es.take j) ++ smCells [d] ++ smCells (es.drop j)) → Below w3.heap.size w3 wC → Value.slice (some ⟨gC, 0, none⟩) (j + 1 + (k - j)) cC = .slice (some ⟨gC, 0, none⟩) (k + 1) cC ∧ SRow w.heap.size wC gC cC (insBy smid d es) ∧ Below w.heap.size w wC) := fun gC cC wC ho L => by
            have e : j + 1 + (k - j) = k + 1 := by omega
            refine ⟨by rw [e], SRow.of ho (by rw [insBy_length]; omega) ?_, L13.out.trans (L.mono (by omega))⟩
            rw [HINS.out, smCells_append, List.append_assoc]
            rfl
          have HVT : Hid (∀ w', Below w3.heap.size w3 w' → SrcAt w' 2 (some ⟨g, 0, none⟩) j (smCells (es.take j))) := fun w' L => by
            have hv : SView w' (some ⟨g, 0, none⟩) (es.take j) := Or.inr ⟨g, 0, rfl, by have := L.size; omega, (((HS1.out.below (by omega) HL3.out).take j).below hg3 L)⟩
            have := hv.src
            rwa [htl] at this
          clear HS1 HR HL1 HL3 d0 d1 hs HL HROW
          by_cases hk5 : c = 0
          · subst hk5
            obtain rfl : j = 0 := by omega
            obtain rfl : k = 0 := by omega
            simp only [Nat.zero_mul, Nat.add_zero] at e0 e1
            go_region_held3 (fun w' => (w'.cell? ⟨b, off, none⟩ = some (.int .i64 d.1) ∧ w'.cell? ⟨b, off + 1, none⟩ = some (.slice d.2.1 d.2.2.2.length d.2.2.1)) ∧ Below w3.heap.size w3 w')
              (first
                | exact ⟨⟨e0, e1⟩, (Below.refl _ _).drew⟩
                | exact DS.grown ⟨⟨f0, f1⟩, LwB⟩ hq3 hgC hBB
                | exact DS.of hq3 e0 e1 LwB
                | exact DS.of hq3 e0 e1 (LwA.alloc (by omega) _)
                | exact DS.of hq3 e0 e1 LwA
                | exact DS.of hq3 e0 e1 ((Below.refl _ _).alloc (Nat.le_refl _) _).drew
                | exact DS.of hq3 e0 e1 (((Below.refl _ _).alloc (Nat.le_refl _) _).alloc (by simp) _).drew)
              (first
                | (refine step_append_at _ (by rfl) (.tmp 39) (.tmp 42) 34 (by rfl) w.heap.size 93 j0 _ 2 32 Try.underlying34 hj0 hy0 hy1 hy2 rfl (by omega) w3.heap.size 0 0 [] (by rfl) (World.ownsRow.drew (World.ownsRow_lit w3 #[] 0 (by omega) (Nat.zero_le _) rfl)) _ 0 0 [] (by rfl) (SrcAt.none _ _ _) (by unfold maxLen; omega) (by omega) (by simp; omega) (w3.heap.size + 1) (by simp) ?_; intro gA cA wA hoA hgA haA hlA;  have LwA : Below w3.heap.size w3 wA := ((Below.refl _ _).alloc (Nat.le_refl _) _).drew.grown hgA (by simp) (by intro q hq; cases hq; exact Nat.le_refl _); have hA : w3.heap.size ≤ gA := (by omega); have hoA2 : wA.ownsRow w.heap.size 93 2 (.slice (some ⟨gA, 0, none⟩) 0 cA) 0 [] := (by simpa using hoA))
                | (refine step_append_at _ (by rfl) (.tmp 39) (.tmp 42) 34 (by rfl) w.heap.size 93 j0 _ 2 32 Try.underlying34 hj0 hy0 hy1 hy2 rfl (by omega) w3.heap.size 0 0 [] (by rfl) (World.ownsRow.drew (World.ownsRow.alloc (World.ownsRow_lit w3 #[] 0 (by omega) (Nat.zero_le _) rfl) _)) _ 0 0 [] (by rfl) (SrcAt.none _ _ _) (by unfold maxLen; omega) (by omega) (by simp; omega) (w3.heap.size + 1 + 1) (by simp) ?_; intro gA cA wA hoA hgA haA hlA;  have LwA : Below w3.heap.size w3 wA := (((Below.refl _ _).alloc (Nat.le_refl _) _).alloc (by simp) _).drew.grown hgA (by simp; omega) (by intro q hq; cases hq; exact Nat.le_refl _); have hA : w3.heap.size ≤ gA := (by omega); have hoA2 : wA.ownsRow w.heap.size 93 2 (.slice (some ⟨gA, 0, none⟩) 0 cA) 0 [] := (by simpa using hoA); have hX : wA.heap[w3.heap.size + 1]? = some (.cells #[.int .i64 d.1, .slice d.2.1 d.2.2.2.length d.2.2.1] 93 (0, 0)) := put_two hgA)
                | (refine step_append_at _ (by rfl) (.tmp 39) (.tmp 42) 34 (by rfl) w.heap.size 93 j0 _ 2 32 Try.underlying34 hj0 hy0 hy1 hy2 rfl (by omega) (w3.heap.size + 1) 0 0 [] (by rfl) (put_litM w3 _ (by omega)) _ 0 0 [] (by rfl) (SrcAt.none _ _ _) (by unfold maxLen; omega) (by omega) (by simp; omega) (w3.heap.size + 1 + 1) (by simp) ?_; intro gA cA wA hoA hgA haA hlA;  have LwA : Below w3.heap.size w3 wA := (((Below.refl _ _).alloc (Nat.le_refl _) _).alloc (by simp) _).drew.grown hgA (by simp; omega) (by intro q hq; cases hq; omega); have hA : w3.heap.size ≤ gA := (by omega); have hoA2 : wA.ownsRow w.heap.size 93 2 (.slice (some ⟨gA, 0, none⟩) 0 cA) 0 [] := (by simpa using hoA); have hX : wA.heap[w3.heap.size]? = some (.cells #[.int .i64 d.1, .slice d.2.1 d.2.2.2.length d.2.2.1] 93 (0, 0)) := put_one hgA)
                | (refine step_append_at _ (by rfl) (.tmp 43) (.tmp 49) 34 (by rfl) w.heap.size 93 j0 _ 2 32 Try.underlying34 hj0 hy0 hy1 hy2 rfl (by omega) gA 0 cA [] (by rfl) hoA2 (some ⟨_, 0, none⟩) 1 1 (smCells [d]) (by rfl) (one_srcM hX) (by unfold maxLen; omega) (by omega) (by have := LwA.size; omega) wA.heap.size (by rfl) ?_; intro gB cB wB hoB hgB haB hlB; have LwB : Below w3.heap.size w3 wB := LwA.grown hgB LwA.size (by intro q hq; cases hq; exact hA); have hBB : w3.heap.size ≤ gB := (by have := LwA.size; omega); have hoB2 : wB.ownsRow w.heap.size 93 2 (.slice (some ⟨gB, 0, none⟩) (0 + 1) cB) (0 + 1) ([] ++ smCells [d]) := hoB)
                | (refine step_append_at _ (by rfl) (.tmp 43) (.tmp 49) 34 (by rfl) w.heap.size 93 j0 _ 2 32 Try.underlying34 hj0 hy0 hy1 hy2 rfl (by omega) gA 0 cA [] (by rfl) (World.ownsRow.alloc hoA2 _) (some ⟨wA.heap.size, 0, none⟩) 1 1 (smCells [d]) (by rfl) (one_srcM (heap_alloc_new wA _)) (by unfold maxLen; omega) (by omega) (by have := LwA.size; simp; omega) (wA.heap.size + 1) (by simp) ?_; intro gB cB wB hoB hgB haB hlB; have LwB : Below w3.heap.size w3 wB := (LwA.alloc LwA.size _).grown hgB (by have := LwA.size; simp; omega) (by intro q hq; cases hq; exact hA); have hBB : w3.heap.size ≤ gB := (by have := LwA.size; omega); have hoB2 : wB.ownsRow w.heap.size 93 2 (.slice (some ⟨gB, 0, none⟩) (0 + 1) cB) (0 + 1) ([] ++ smCells [d]) := hoB)
                | (refine step_append_at _ (by rfl) (.tmp 50) (.tmp 51) 34 (by rfl) w.heap.size 93 j0 _ 2 32 Try.underlying34 hj0 hy0 hy1 hy2 rfl (by omega) gB (0 + 1) cB ([] ++ smCells [d]) (by rfl) hoB2 (some ⟨gr, 0, none⟩) (0 - 0) cr (smCells (es.drop 0)) (by rfl) (HVR.out _ LwB) (by unfold maxLen; omega) (by omega) (by have := LwB.size; omega) wB.heap.size (by rfl) ?_; intro gC cC wC hoC hgC haC hlC; have f0 := (LwB.cell (p := ⟨b, off, none⟩) hq3).trans e0; have f1 := (LwB.cell (p := ⟨b, off + 1, none⟩) hq3).trans e1))
            all_goals
              have HF := hidP (HEND.out gC cC wC (by first | exact hoC | simpa using hoC) (LwB.grown hgC LwB.size (by intro q hq; cases hq; exact hBB)))
              clear hoC hgC haC hlC hoB hgB hoA hgA hoB2 hoA2 LwA LwB
              go_wp2_with fail
              go_roundw
              case rel => exact ⟨0 + 1, gC, cC, by omega, by go_num, HF.out.1, by rw [HNX.out]; exact HF.out.2.1, HF.out.2.2⟩
              case measure => simp [intOf]; omega
          · go_region_held3 (fun w' => (w'.cell? ⟨b, off + k * 5, none⟩ = some (.int .i64 d.1) ∧ w'.cell? ⟨b, off + k * 5 + 1, none⟩ = some (.slice d.2.1 d.2.2.2.length d.2.2.1)) ∧ Below w3.heap.size w3 w')
              (first
                | exact ⟨⟨e0, e1⟩, (Below.refl _ _).drew⟩
                | exact DS.grown ⟨⟨f0, f1⟩, LwB⟩ hq3 hgC hBB
                | exact DS.of hq3 e0 e1 LwB
                | exact DS.of hq3 e0 e1 (LwA.alloc (by omega) _)
                | exact DS.of hq3 e0 e1 LwA
                | exact DS.of hq3 e0 e1 ((Below.refl _ _).alloc (Nat.le_refl _) _).drew
                | exact DS.of hq3 e0 e1 (((Below.refl _ _).alloc (Nat.le_refl _) _).alloc (by simp) _).drew)
              (first
                | (refine step_append_at _ (by rfl) (.tmp 39) (.tmp 42) 34 (by rfl) w.heap.size 93 j0 _ 2 32 Try.underlying34 hj0 hy0 hy1 hy2 rfl (by omega) w3.heap.size 0 0 [] (by rfl) (World.ownsRow.drew (World.ownsRow_lit w3 #[] 0 (by omega) (Nat.zero_le _) rfl)) (some ⟨g, 0, none⟩) j c (smCells (es.take j)) (by rfl) (HVT.out _ ((Below.refl _ _).alloc (Nat.le_refl _) _).drew) (by unfold maxLen; omega) (by omega) (by simp; omega) (w3.heap.size + 1) (by simp) ?_; intro gA cA wA hoA hgA haA hlA; rw [Nat.zero_add]; have LwA : Below w3.heap.size w3 wA := ((Below.refl _ _).alloc (Nat.le_refl _) _).drew.grown hgA (by simp) (by intro q hq; cases hq; exact Nat.le_refl _); have hA : w3.heap.size ≤ gA := (by omega); have hoA2 : wA.ownsRow w.heap.size 93 2 (.slice (some ⟨gA, 0, none⟩) j cA) j (smCells (es.take j)) := (by simpa using hoA))
                | (refine step_append_at _ (by rfl) (.tmp 39) (.tmp 42) 34 (by rfl) w.heap.size 93 j0 _ 2 32 Try.underlying34 hj0 hy0 hy1 hy2 rfl (by omega) w3.heap.size 0 0 [] (by rfl) (World.ownsRow.drew (World.ownsRow.alloc (World.ownsRow_lit w3 #[] 0 (by omega) (Nat.zero_le _) rfl) _)) (some ⟨g, 0, none⟩) j c (smCells (es.take j)) (by rfl) (HVT.out _ (((Below.refl _ _).alloc (Nat.le_refl _) _).alloc (by simp) _).drew) (by unfold maxLen; omega) (by omega) (by simp; omega) (w3.heap.size + 1 + 1) (by simp) ?_; intro gA cA wA hoA hgA haA hlA; rw [Nat.zero_add]; have LwA : Below w3.heap.size w3 wA := (((Below.refl _ _).alloc (Nat.le_refl _) _).alloc (by simp) _).drew.grown hgA (by simp; omega) (by intro q hq; cases hq; exact Nat.le_refl _); have hA : w3.heap.size ≤ gA := (by omega); have hoA2 : wA.ownsRow w.heap.size 93 2 (.slice (some ⟨gA, 0, none⟩) j cA) j (smCells (es.take j)) := (by simpa using hoA); have hX : wA.heap[w3.heap.size + 1]? = some (.cells #[.int .i64 d.1, .slice d.2.1 d.2.2.2.length d.2.2.1] 93 (0, 0)) := put_two hgA)
                | (refine step_append_at _ (by rfl) (.tmp 39) (.tmp 42) 34 (by rfl) w.heap.size 93 j0 _ 2 32 Try.underlying34 hj0 hy0 hy1 hy2 rfl (by omega) (w3.heap.size + 1) 0 0 [] (by rfl) (put_litM w3 _ (by omega)) (some ⟨g, 0, none⟩) j c (smCells (es.take j)) (by rfl) (HVT.out _ (((Below.refl _ _).alloc (Nat.le_refl _) _).alloc (by simp) _).drew) (by unfold maxLen; omega) (by omega) (by simp; omega) (w3.heap.size + 1 + 1) (by simp) ?_; intro gA cA wA hoA hgA haA hlA; rw [Nat.zero_add]; have LwA : Below w3.heap.size w3 wA := (((Below.refl _ _).alloc (Nat.le_refl _) _).alloc (by simp) _).drew.grown hgA (by simp; omega) (by intro q hq; cases hq; omega); have hA : w3.heap.size ≤ gA := (by omega); have hoA2 : wA.ownsRow w.heap.size 93 2 (.slice (some ⟨gA, 0, none⟩) j cA) j (smCells (es.take j)) := (by simpa using hoA); have hX : wA.heap[w3.heap.size]? = some (.cells #[.int .i64 d.1, .slice d.2.1 d.2.2.2.length d.2.2.1] 93 (0, 0)) := put_one hgA)
                | (refine step_append_at _ (by rfl) (.tmp 43) (.tmp 49) 34 (by rfl) w.heap.size 93 j0 _ 2 32 Try.underlying34 hj0 hy0 hy1 hy2 rfl (by omega) gA j cA (smCells (es.take j)) (by rfl) hoA2 (some ⟨_, 0, none⟩) 1 1 (smCells [d]) (by rfl) (one_srcM hX) (by unfold maxLen; omega) (by omega) (by have := LwA.size; omega) wA.heap.size (by rfl) ?_; intro gB cB wB hoB hgB haB hlB; have LwB : Below w3.heap.size w3 wB := LwA.grown hgB LwA.size (by intro q hq; cases hq; exact hA); have hBB : w3.heap.size ≤ gB := (by have := LwA.size; omega); have hoB2 : wB.ownsRow w.heap.size 93 2 (.slice (some ⟨gB, 0, none⟩) (j + 1) cB) (j + 1) (smCells (es.take j) ++ smCells [d]) := hoB)
                | (refine step_append_at _ (by rfl) (.tmp 43) (.tmp 49) 34 (by rfl) w.heap.size 93 j0 _ 2 32 Try.underlying34 hj0 hy0 hy1 hy2 rfl (by omega) gA j cA (smCells (es.take j)) (by rfl) (World.ownsRow.alloc hoA2 _) (some ⟨wA.heap.size, 0, none⟩) 1 1 (smCells [d]) (by rfl) (one_srcM (heap_alloc_new wA _)) (by unfold maxLen; omega) (by omega) (by have := LwA.size; simp; omega) (wA.heap.size + 1) (by simp) ?_; intro gB cB wB hoB hgB haB hlB; have LwB : Below w3.heap.size w3 wB := (LwA.alloc LwA.size _).grown hgB (by have := LwA.size; simp; omega) (by intro q hq; cases hq; exact hA); have hBB : w3.heap.size ≤ gB := (by have := LwA.size; omega); have hoB2 : wB.ownsRow w.heap.size 93 2 (.slice (some ⟨gB, 0, none⟩) (j + 1) cB) (j + 1) (smCells (es.take j) ++ smCells [d]) := hoB)
                | (refine step_append_at _ (by rfl) (.tmp 50) (.tmp 51) 34 (by rfl) w.heap.size 93 j0 _ 2 32 Try.underlying34 hj0 hy0 hy1 hy2 rfl (by omega) gB (j + 1) cB (smCells (es.take j) ++ smCells [d]) (by rfl) hoB2 (some ⟨gr, 0, none⟩) (k - j) cr (smCells (es.drop j)) (by rfl) (HVR.out _ LwB) (by unfold maxLen; omega) (by omega) (by have := LwB.size; omega) wB.heap.size (by rfl) ?_; intro gC cC wC hoC hgC haC hlC; have f0 := (LwB.cell (p := ⟨b, off + k * 5, none⟩) hq3).trans e0; have f1 := (LwB.cell (p := ⟨b, off + k * 5 + 1, none⟩) hq3).trans e1))
            all_goals
              have HF := hidP (HEND.out gC cC wC hoC (LwB.grown hgC LwB.size (by intro q hq; cases hq; exact hBB)))
              clear hoC hgC haC hlC hoB hgB hoA hgA hoB2 hoA2 LwA LwB
              go_wp2_with fail
              go_roundw
              case rel => exact ⟨k + 1, gC, cC, by omega, by go_num, HF.out.1, by rw [HNX.out]; exact HF.out.2.1, HF.out.2.2⟩
              case measure => simp [intOf]; omega
    · obtain rfl : k = ds.length := by omega
      rw [List.take_length] at hrow
      have HE := hidP (And.intro hrow L)
      clear hrow L
      go_wp2_with fail
      go_ret
      exact ⟨g, c, rfl, HE.out.1, HE.out.2⟩

end Go.Proofs.Ythddhblmnfjciaa
namespace Go.Proofs.Ythddhblmnfjciaa
open Go Go.RowKit

/-- Knots alike but for their places. -/
def sameB (k q : Kn) : Bool := decide (k.1.1 = q.1.1) && decide (k.2.1 = q.2.1) && decide (k.2.2.1 = q.2.2.1) && decide (k.2.2.2 = q.2.2.2)

set_option maxRecDepth 100000 in
set_option maxHeartbeats 2000000 in
theorem iSame (k q : Kn) (ao ao' : Option Addr) (cap cap' : Nat) (w : World) :
    Calls Try.prog 75 #[.agg #[.int .i64 k.1.1, .slice ao k.1.2.length cap, .int .i64 k.2.1, .int .i64 k.2.2.1, .int .i64 k.2.2.2], .agg #[.int .i64 q.1.1, .slice ao' q.1.2.length cap', .int .i64 q.2.1, .int .i64 q.2.2.1, .int .i64 q.2.2.2]] w fun e w' => e = .returned (.bool (sameB k q)) ∧ Below w.heap.size w w' := by
  obtain ⟨W, hW⟩ : ∃ W, W = (w.alloc (.cells #[.int .i64 k.1.1, .slice ao k.1.2.length cap, .int .i64 k.2.1, .int .i64 k.2.2.1, .int .i64 k.2.2.2] 95)).alloc (.cells #[.int .i64 q.1.1, .slice ao' q.1.2.length cap', .int .i64 q.2.1, .int .i64 q.2.2.1, .int .i64 q.2.2.2] 95) := ⟨_, rfl⟩
  have hL : Below w.heap.size w W := by rw [hW]; exact ((Below.refl _ _).alloc (Nat.le_refl _) _).alloc (by simp) _
  have a0 : W.cell? ⟨w.heap.size, 0, none⟩ = some (.int .i64 k.1.1) := by rw [hW]; go_simp
  have a2 : W.cell? ⟨w.heap.size, 2, none⟩ = some (.int .i64 k.2.1) := by rw [hW]; go_simp
  have a3 : W.cell? ⟨w.heap.size, 3, none⟩ = some (.int .i64 k.2.2.1) := by rw [hW]; go_simp
  have a4 : W.cell? ⟨w.heap.size, 4, none⟩ = some (.int .i64 k.2.2.2) := by rw [hW]; go_simp
  have b0 : W.cell? ⟨w.heap.size + 1, 0, none⟩ = some (.int .i64 q.1.1) := by rw [hW]; go_simp
  have b2 : W.cell? ⟨w.heap.size + 1, 2, none⟩ = some (.int .i64 q.2.1) := by rw [hW]; go_simp
  have b3 : W.cell? ⟨w.heap.size + 1, 3, none⟩ = some (.int .i64 q.2.2.1) := by rw [hW]; go_simp
  have b4 : W.cell? ⟨w.heap.size + 1, 4, none⟩ = some (.int .i64 q.2.2.2) := by rw [hW]; go_simp
  have HL := hidP hL
  clear hL
  by_cases h0 : k.1.1 = q.1.1
  · have e0 : (k.1.1 == q.1.1) = true := by simp [h0]
    by_cases h1 : k.2.1 = q.2.1
    · have e1 : (k.2.1 == q.2.1) = true := by simp [h1]
      by_cases h2 : k.2.2.1 = q.2.2.1
      · have e2 : (k.2.2.1 == q.2.2.1) = true := by simp [h2]
        by_cases h3 : k.2.2.2 = q.2.2.2
        · have e3 : (k.2.2.2 == q.2.2.2) = true := by simp [h3]
          have HV : Hid (sameB k q = true) := by show sameB k q = true; simp [sameB, h0, h1, h2, h3]
          clear h0 h1 h2 h3
          go_enter Try.func75, Try.ntmps75
          go_wp2_with fail
          rw [← hW]
          clear hW
          go_ret
          exact ⟨ret_bool HV.out.symm, HL.out⟩
        · have e3 : (k.2.2.2 == q.2.2.2) = false := by simp [h3]
          have HV : Hid (sameB k q = false) := by show sameB k q = false; simp [sameB, h3]
          clear h0 h1 h2 h3
          go_enter Try.func75, Try.ntmps75
          go_wp2_with fail
          rw [← hW]
          clear hW
          go_ret
          exact ⟨ret_bool HV.out.symm, HL.out⟩
      · have e2 : (k.2.2.1 == q.2.2.1) = false := by simp [h2]
        have HV : Hid (sameB k q = false) := by show sameB k q = false; simp [sameB, h2]
        clear h0 h1 h2
        go_enter Try.func75, Try.ntmps75
        go_wp2_with fail
        rw [← hW]
        clear hW
        go_ret
        exact ⟨ret_bool HV.out.symm, HL.out⟩
    · have e1 : (k.2.1 == q.2.1) = false := by simp [h1]
      have HV : Hid (sameB k q = false) := by show sameB k q = false; simp [sameB, h1]
      clear h0 h1
      go_enter Try.func75, Try.ntmps75
      go_wp2_with fail
      rw [← hW]
      clear hW
      go_ret
      exact ⟨ret_bool HV.out.symm, HL.out⟩
  · have e0 : (k.1.1 == q.1.1) = false := by simp [h0]
    have HV : Hid (sameB k q = false) := by show sameB k q = false; simp [sameB, h0]
    clear h0
    go_enter Try.func75, Try.ntmps75
    go_wp2_with fail
    rw [← hW]
    clear hW
    go_ret
    exact ⟨ret_bool HV.out.symm, HL.out⟩

def eqB (ks xs : List Kn) : Bool := decide (ks.length = xs.length) && (List.range ks.length).all fun i => sameB (knth ks i) (knth xs i)
theorem eqB_out {ks xs : List Kn} {i : Nat} (hi : i < ks.length) (h : sameB (knth ks i) (knth xs i) = false) : eqB ks xs = false := by
  rcases hb : eqB ks xs with _ | _
  · rfl
  · simp only [eqB, Bool.and_eq_true, List.all_eq_true] at hb
    rw [hb.2 i (List.mem_range.2 hi)] at h; cases h
theorem eqB_all {ks xs : List Kn} (hl : ks.length = xs.length) (h : ∀ i, i < ks.length → sameB (knth ks i) (knth xs i) = true) : eqB ks xs = true := by
  simp only [eqB, Bool.and_eq_true, List.all_eq_true, decide_eq_true_eq]
  exact ⟨hl, fun i hi => h i (List.mem_range.1 hi)⟩

set_option maxHeartbeats 400000 in
theorem iEqual_ne (ao ao' : Option Addr) (n n' cap cap' : Nat) (v : Value) (w : World) (h : n ≠ n') :
    Calls Try.prog 72 #[.slice ao n cap, .slice ao' n' cap', v] w fun e w' => e = .returned (.bool false) ∧ w' = w := by
  have hlb : ((n : Int) != (n' : Int)) = true := by simp; omega
  go_enter Try.func72, Try.ntmps72
  go_wp2
  go_ret
  exact ⟨rfl, rfl⟩
set_option maxHeartbeats 400000 in
theorem iEqual_nil (ao ao' : Option Addr) (cap cap' : Nat) (v : Value) (w : World) :
    Calls Try.prog 72 #[.slice ao 0 cap, .slice ao' 0 cap', v] w fun e w' => e = .returned (.bool true) ∧ w' = w := by
  go_enter Try.func72, Try.ntmps72
  go_wp2
  refine wp_loop_rounds 1 ?_
  rw [rounds_succ]
  go_wp2
  go_ret
  exact ⟨rfl, rfl⟩

set_option maxRecDepth 100000 in
set_option maxHeartbeats 2000000 in
theorem iEqual (b off cap b' off' cap' : Nat) (ks xs : List Kn) (w : World) (hb : b < w.heap.size) (hb' : b' < w.heap.size) (hs : KSeg w b off ks) (hs' : KSeg w b' off' xs) (hl : ks.length = xs.length) (hn : ks.length ≤ 1048576) :
    Calls Try.prog 72 #[.slice (some ⟨b, off, none⟩) ks.length cap, .slice (some ⟨b', off', none⟩) ks.length cap', .func (.func 75) #[] #[]] w fun e w' => e = .returned (.bool (eqB ks xs)) ∧ Below w.heap.size w w' := by
  have hlb : ((ks.length : Int) != (ks.length : Int)) = false := by simp
  have HS := hidP (And.intro hs hs')
  have HL := hidP hl
  clear hs hs' hl
  go_enter Try.func72, Try.ntmps72
  go_wp2
  go_loopw [17] (fun i wr => ∃ k : Nat, k ≤ ks.length ∧ i = .int .i64 k ∧ (∀ j, j < k → sameB (knth ks j) (knth xs j) = true) ∧ Below w.heap.size w wr) (fun i _ => ks.length - (intOf i).toNat)
  case atStart => exact ⟨0, Nat.zero_le _, rfl, fun j hj => by omega, Below.refl _ _⟩
  case round =>
    obtain ⟨k, hk, rfl, hall, L⟩ := hrel
    have HA := hidP hall
    clear hall
    by_cases hlt : k < ks.length
    · obtain ⟨c0, ⟨ao, ca, c1, hv⟩, c2, c3, c4⟩ := (HS.out.1 k hlt).below hb L
      obtain ⟨d0, ⟨ao', ca', d1, hv'⟩, d2, d3, d4⟩ := (HS.out.2 k (by have := HL.out; omega)).below hb' L
      have hi0 : (0 : Int) ≤ (k : Int) := Int.natCast_nonneg _
      have hi1 : (k : Int) < (ks.length : Int) := by omega
      have hz := L.size
      have HN := hidP (fun h => eqB_out (xs := xs) hlt h)
      have HY : Hid (sameB (knth ks k) (knth xs k) = true → ∀ j, j < k + 1 → sameB (knth ks j) (knth xs j) = true) := fun h j hj => by
        rcases Nat.lt_or_ge j k with h1 | h1
        · exact HA.out j h1
        · obtain rfl : j = k := by omega
          exact h
      generalize knth ks k = p at *
      generalize knth xs k = q at *
      obtain ⟨W, hW⟩ : ∃ W, W = (wr.alloc (.cells #[.int .i64 p.1.1, .slice ao p.1.2.length ca, .int .i64 p.2.1, .int .i64 p.2.2.1, .int .i64 p.2.2.2] 95)).alloc (.cells #[.int .i64 q.1.1, .slice ao' q.1.2.length ca', .int .i64 q.2.1, .int .i64 q.2.2.1, .int .i64 q.2.2.2] 95) := ⟨_, rfl⟩
      have LW : Below wr.heap.size wr W := by rw [hW]; exact ((Below.refl _ _).alloc (Nat.le_refl _) _).alloc (by simp) _
      have HC := hidP (iSame p q ao ao' ca ca' W)
      have HLW := hidP (chain L LW)
      have hb1 : b < wr.heap.size := by omega
      have hb2 : b' < wr.heap.size := by omega
      have hb3 : ¬ wr.heap.size = b' := by omega
      clear L LW hv hv' HA
      go_wp2_with fail
      rw [← hW]
      clear hW
      refine HC.out.mono ?_
      rintro e w2 ⟨rfl, L2⟩
      have HE := hidP (chain HLW.out L2)
      clear L2 HC HLW c0 c1 c2 c3 c4 d0 d1 d2 d3 d4
      rcases hsb : sameB p q with _ | _
      · have HO := hidP (HN.out hsb)
        clear HN HY
        go_wp2_with fail
        go_ret
        exact ⟨ret_bool HO.out.symm, HE.out⟩
      · have HO := hidP (HY.out hsb)
        clear HN HY
        go_wp2_with fail
        go_roundw
        case rel => exact ⟨k + 1, by omega, by go_num, HO.out, HE.out⟩
        case measure => simp [intOf]; omega
    · obtain rfl : k = ks.length := by omega
      have HO := hidP (eqB_all HL.out HA.out)
      have HE := hidP L
      clear L HA
      go_wp2_with fail
      go_ret
      exact ⟨ret_bool HO.out.symm, HE.out⟩

end Go.Proofs.Ythddhblmnfjciaa
namespace Go.Proofs.Ythddhblmnfjciaa
open Go Go.RowKit

theorem dkCells_id (pre : List Dk) (d : Dk) (rest : List Dk) (v : Int) : (dkCells (pre ++ d :: rest)).set (pre.length * 5) (.int .i64 v) = dkCells (pre ++ ((v, d.1.2), d.2) :: rest) := by
  induction pre with
  | nil => rfl
  | cons p pre ih =>
    rw [List.cons_append, List.cons_append, dkCells, dkCells, ← ih, List.length_cons, show (pre.length + 1) * 5 = (pre.length * 5) + 1 + 1 + 1 + 1 + 1 by omega]
    rfl
theorem dkCells_axis (pre : List Dk) (d : Dk) (rest : List Dk) (v : Int) : (dkCells (pre ++ d :: rest)).set (pre.length * 5 + 2) (.int .i64 v) = dkCells (pre ++ (d.1, v, d.2.2) :: rest) := by
  induction pre with
  | nil => rfl
  | cons p pre ih =>
    rw [List.cons_append, List.cons_append, dkCells, dkCells, ← ih, List.length_cons, show (pre.length + 1) * 5 + 2 = (pre.length * 5 + 2) + 1 + 1 + 1 + 1 + 1 by omega]
    rfl
theorem KRow.ident {base : Nat} {w : World} {g c : Nat} {pre rest : List Dk} {d : Dk} (h : KRow base w g c (pre ++ d :: rest)) (v : Int) : KRow base (w.setCell ⟨g, pre.length * 5, none⟩ (.int .i64 v)) g c (pre ++ ((v, d.1.2), d.2) :: rest) := by
  have h1 := (World.ownsRow.stored h (pre.length * 5) (.int .i64 v)).1
  rw [dkCells_id] at h1
  exact KRow.of h1 (by simp) rfl
theorem KRow.axis {base : Nat} {w : World} {g c : Nat} {pre rest : List Dk} {d : Dk} (h : KRow base w g c (pre ++ d :: rest)) (v : Int) : KRow base (w.setCell ⟨g, pre.length * 5 + 2, none⟩ (.int .i64 v)) g c (pre ++ (d.1, v, d.2.2) :: rest) := by
  have h1 := (World.ownsRow.stored h (pre.length * 5 + 2) (.int .i64 v)).1
  rw [dkCells_axis] at h1
  exact KRow.of h1 (by simp) rfl

/-- A knot written over from k on. -/
def mkD (k : Int) (d : Dk) : Dk := ((k, d.1.2.1, d.1.2.2.1, tabL (fun i => k + 1 + i) d.1.2.2.2.length), k + 1 + d.1.2.2.2.length, k + 1 + d.1.2.2.2.length + 1, k + 1 + d.1.2.2.2.length + 1 + 1)
def mkS (k : Int) (d : Dk) : Int := k + 1 + d.1.2.2.2.length + 1 + 1 + 1
def mkL : Int → List Dk → List Dk
  | _, [] => []
  | k, d :: ds => mkD k d :: mkL (mkS k d) ds
def mkN : Int → List Dk → Int
  | k, [] => k
  | k, d :: ds => mkN (mkS k d) ds
theorem mkL_length (k : Int) (ds : List Dk) : (mkL k ds).length = ds.length := by
  induction ds generalizing k with
  | nil => rfl
  | cons d ds ih => simp [mkL, ih]
theorem mkL_snoc (k : Int) (ds : List Dk) (d : Dk) : mkL k (ds ++ [d]) = mkL k ds ++ [mkD (mkN k ds) d] := by
  induction ds generalizing k with
  | nil => rfl
  | cons x xs ih => simp only [List.cons_append, mkL, mkN, ih]
theorem mkN_snoc (k : Int) (ds : List Dk) (d : Dk) : mkN k (ds ++ [d]) = mkS (mkN k ds) d := by
  induction ds generalizing k with
  | nil => rfl
  | cons x xs ih => simp only [List.cons_append, mkN, ih]
theorem mkN_le (k : Int) (ds : List Dk) (h : ∀ d ∈ ds, d.1.2.2.2.length ≤ 4) : k ≤ mkN k ds ∧ mkN k ds ≤ k + 8 * ds.length := by
  induction ds generalizing k with
  | nil => simp [mkN]
  | cons x xs ih =>
    have h1 := h x (List.mem_cons_self ..)
    have h2 := ih (mkS k x) (fun d hd => h d (List.mem_cons_of_mem _ hd))
    unfold mkN
    unfold mkS at *
    simp only [List.length_cons]
    omega
/-- Knots that were handed out: a row, and each place a row of its own. -/
def KHeld (B : Nat) (w : World) (g c : Nat) (es : List Dk) : Prop := KRow B w g c es ∧ KOuts B w g es
theorem take_mid {es : List Dk} {i : Nat} (h : i < es.length) : es.take (i + 1) = es.take i ++ [dnth es i] := by
  rw [List.take_add_one, List.getElem?_eq_getElem h]; simp [dnth, List.getD, h]
theorem drop_mid {es : List Dk} {i : Nat} (h : i < es.length) : es.drop i = dnth es i :: es.drop (i + 1) := by
  rw [List.drop_eq_getElem_cons h]; simp [dnth, List.getD, h]
/-- One knot of a row handed out is written over. -/
theorem KHeld.over {B : Nat} {w w' : World} {g h : Nat} {pre rest : List Dk} {d : Dk} {xs : List Int} (hk : KOuts B w g (pre ++ d :: rest)) (hd : d.1.2.1 = some ⟨h, 0, none⟩) (hg : w.grownBy w' (some h)) (hi : IRow B w' h d.1.2.2.1 xs) (d' : Dk) (e1 : d'.1.2.1 = d.1.2.1) (e2 : d'.1.2.2.1 = d.1.2.2.1) (e3 : d'.1.2.2.2 = xs) : KOuts B w' g (pre ++ d' :: rest) := by
  obtain ⟨ha, hp⟩ := hk
  obtain ⟨p1, p2, p3⟩ := List.pairwise_append.1 hp
  obtain ⟨p4, p5⟩ := List.pairwise_cons.1 p2
  have hkeep : ∀ x ∈ pre ++ d :: rest, x.1.2.1 ≠ d.1.2.1 → ∃ q, x.1.2.1 = some ⟨q, 0, none⟩ ∧ IRow B w' q x.1.2.2.1 x.1.2.2.2 ∧ q ≠ g := fun x hx hne => by
    obtain ⟨q, e, r, n⟩ := ha x hx
    refine ⟨q, e, r.kept hg (fun y => hne ?_), n⟩
    injection y with y
    rw [e, hd, y]
  refine ⟨fun x hx => ?_, List.pairwise_append.2 ⟨p1, List.pairwise_cons.2 ⟨fun b hb => by rw [e1]; exact p4 b hb, p5⟩, fun a ha' b hb => ?_⟩⟩
  · rcases List.mem_append.1 hx with hx1 | hx1
    · exact hkeep x (List.mem_append_left _ hx1) (p3 x hx1 d (List.mem_cons_self ..))
    · rcases List.mem_cons.1 hx1 with e | hx2
      · obtain ⟨q, e', r, n⟩ := ha d (List.mem_append_right _ (List.mem_cons_self ..))
        rw [hd] at e'
        injection e' with e'
        injection e' with e'
        subst e
        refine ⟨h, by rw [e1]; exact hd, by rw [e2, e3]; exact hi, by omega⟩
      · exact hkeep x (List.mem_append_right _ (List.mem_cons_of_mem _ hx2)) (fun y => p4 x hx2 y.symm)
  · rcases List.mem_cons.1 hb with e | hb2
    · subst e; rw [e1]; exact p3 a ha' d (List.mem_cons_self ..)
    · exact p3 a ha' b (List.mem_cons_of_mem _ hb2)

/-- Of the blocks that were there ahead of B, none has changed. -/
def KChg (B : Nat) (w w' : World) : Prop := w'.os = w.os ∧ w'.tape = w.tape ∧ w'.output = w.output ∧ w.heap.size ≤ w'.heap.size ∧ ∀ i, i < w.heap.size → i < B → w'.heap[i]? = w.heap[i]?
theorem KChg.grown {B g : Nat} {w w1 w2 : World} (h : KChg B w w1) (k : w1.grownBy w2 (some g)) (hg : B ≤ g) : KChg B w w2 :=
  ⟨k.os.trans h.1, k.tape.trans h.2.1, k.output.trans h.2.2.1, Nat.le_trans h.2.2.2.1 k.size, fun i hi hb => (k.block i (Nat.lt_of_lt_of_le hi h.2.2.2.1) (fun e => by injection e with e; omega)).trans (h.2.2.2.2 i hi hb)⟩

theorem KRow.same {base : Nat} {w : World} {g c : Nat} {pre rest : List Dk} {d d' : Dk} (h : KRow base w g c (pre ++ d :: rest)) (e0 : d'.1.1 = d.1.1) (e1 : d'.1.2.1 = d.1.2.1) (e2 : d'.1.2.2.1 = d.1.2.2.1) (e3 : d'.1.2.2.2.length = d.1.2.2.2.length) (e4 : d'.2 = d.2) : KRow base w g c (pre ++ d' :: rest) := by
  refine KRow.of h (by simp) ?_
  rw [dkCells_append, dkCells_append, dkCells, dkCells, e0, e1, e2, e3, e4]
theorem KRow.cellM {base : Nat} {w : World} {g c : Nat} {pre rest : List Dk} {d : Dk} (h : KRow base w g c (pre ++ d :: rest)) : w.cell? ⟨g, pre.length * 5, none⟩ = some (.int .i64 d.1.1) ∧ w.cell? ⟨g, pre.length * 5 + 1, none⟩ = some (.slice d.1.2.1 d.1.2.2.2.length d.1.2.2.1) ∧ w.cell? ⟨g, pre.length * 5 + 2, none⟩ = some (.int .i64 d.2.1) ∧ w.cell? ⟨g, pre.length * 5 + 3, none⟩ = some (.int .i64 d.2.2.1) ∧ w.cell? ⟨g, pre.length * 5 + 4, none⟩ = some (.int .i64 d.2.2.2) := by
  have h1 := h.cell (i := pre.length) (by simp)
  have e : dnth (pre ++ d :: rest) pre.length = d := by simp [dnth, List.getD]
  rw [e] at h1; exact h1

theorem KHeld.at {B : Nat} {w : World} {g c : Nat} {es : List Dk} (hr : KRow B w g c es) (ho : KOuts B w g es) {i : Nat} (hi : i < es.length) : w.cell? ⟨g, i * 5, none⟩ = some (.int .i64 (dnth es i).1.1) ∧ (∃ h, w.cell? ⟨g, i * 5 + 1, none⟩ = some (.slice (some ⟨h, 0, none⟩) (dnth es i).1.2.2.2.length (dnth es i).1.2.2.1) ∧ View w (some ⟨h, 0, none⟩) (dnth es i).1.2.2.2) ∧ w.cell? ⟨g, i * 5 + 2, none⟩ = some (.int .i64 (dnth es i).2.1) ∧ w.cell? ⟨g, i * 5 + 3, none⟩ = some (.int .i64 (dnth es i).2.2.1) ∧ w.cell? ⟨g, i * 5 + 4, none⟩ = some (.int .i64 (dnth es i).2.2.2) := by
  obtain ⟨c0, c1, c2, c3, c4⟩ := hr.cell hi
  obtain ⟨h, e, r, n⟩ := ho.1 (dnth es i) (by simp [dnth, List.getD, hi])
  rw [e] at c1
  exact ⟨c0, ⟨h, c1, r.view⟩, c2, c3, c4⟩
theorem mkL_nth (k : Int) (es : List Dk) (i : Nat) (hi : i < es.length) : dnth (mkL k es) i = mkD (mkN k (es.take i)) (dnth es i) := by
  induction es generalizing k i with
  | nil => simp at hi
  | cons d ds ih =>
    match i with
    | 0 => rfl
    | i + 1 => exact ih (mkS k d) i (by simpa using hi)

end Go.Proofs.Ythddhblmnfjciaa
namespace Go.Proofs.Ythddhblmnfjciaa
open Go Go.RowKit

/-- A knot that has a mark alone. -/
def bareD (d : Sm) : Dk := (d, (0, 0, 0))
theorem bare_nth (ds : List Sm) (i : Nat) (h : i < ds.length) : dnth (ds.map bareD) i = bareD (snth ds i) := by simp [dnth, snth, List.getD, h]
theorem bare_take (ds : List Sm) (k : Nat) (h : k < ds.length) : (ds.take (k + 1)).map bareD = (ds.take k).map bareD ++ [bareD (snth ds k)] := by
  rw [snth_get h, List.take_add_one, List.getElem?_eq_getElem h, List.map_append]; rfl
theorem KRow.seg5 {base : Nat} {w : World} {g c : Nat} {ds : List Sm} (h : KRow base w g c (ds.map bareD)) : SView5 w (some ⟨g, 0, none⟩) ds :=
  Or.inr ⟨g, 0, rfl, h.lt.2, fun i hi => by
    obtain ⟨c0, c1, _, _, _⟩ := h.cell (i := i) (by simpa using hi)
    rw [bare_nth ds i hi] at c0 c1
    rw [Nat.zero_add]
    exact ⟨c0, c1⟩⟩

set_option maxRecDepth 100000 in
set_option maxHeartbeats 1000000 in
theorem sMarks6 (ao : Option Addr) (cap : Nat) (ds : List Sm) (w : World) (hv : SView5 w ao ds) (hn : ds.length ≤ 1048576) :
    Calls Try.prog 88 #[.slice ao ds.length cap] w fun e w' => ∃ g c, e = .returned (.slice (some ⟨g, 0, none⟩) ds.length c) ∧ SRow w.heap.size w' g c (sortBy smid ds) ∧ Below w.heap.size w w' := by
  obtain ⟨j0, hj0, hy0, hy1, hy2⟩ := info_parts Try.info95
  have HV := hidP hv
  clear hv
  go_enter Try.func88, Try.ntmps88
  go_wp2_with fail
  go_loopw [3, 4] (fun o i wr => ∃ (k g c : Nat), k ≤ ds.length ∧ i = .int .i64 k ∧ o = .slice (some ⟨g, 0, none⟩) k c ∧ KRow w.heap.size wr g c ((ds.take k).map bareD) ∧ Below w.heap.size w wr) (fun _ i _ => ds.length - (intOf i).toNat)
  case atStart => exact ⟨0, w.heap.size, 0, Nat.zero_le _, rfl, rfl, KRow.start w _ (Nat.le_refl _), (Below.refl _ _).alloc (Nat.le_refl _) _⟩
  case round =>
    obtain ⟨k, g, c, hk, rfl, rfl, hrow, L⟩ := hrel
    by_cases hlt : k < ds.length
    · have hlen : ((ds.take k).map bareD).length = k := by simp; omega
      obtain ⟨b, off, rfl, hb, hs⟩ := HV.out.seg (by omega)
      obtain ⟨d0, d1⟩ := hs k hlt
      have e0 := (L.cell (p := ⟨b, off + k * 5, none⟩) hb).trans d0
      have e1 := (L.cell (p := ⟨b, off + k * 5 + 1, none⟩) hb).trans d1
      have hnx : (ds.take (k + 1)).map bareD = (ds.take k).map bareD ++ [bareD (snth ds k)] := bare_take ds k hlt
      have HNX := hidP hnx
      have HLEN := hidP hlen
      have hrow' := hrow
      unfold KRow at hrow'
      rw [hlen] at hrow'
      have HKB : Hid (∀ o, (wr.alloc o).ownsRow w.heap.size 95 5 (.slice (some ⟨g, 0, none⟩) k c) k (dkCells ((ds.take k).map bareD))) := fun o => World.ownsRow.alloc hrow' o
      generalize snth ds k = d at *
      have hz := L.size
      have hgl := hrow.lt
      have HL := hidP L
      have hi0 : (0 : Int) ≤ (k : Int) := Int.natCast_nonneg _
      have hi1 : (k : Int) < (ds.length : Int) := by omega
      clear hrow hrow' L hs d0 d1 hnx hlen HV
      go_wp2_with (at_builtin; refine wpList_append_at _ rfl (.tmp 12) (.tmp 19) 25 rfl w.heap.size 95 j0 _ 5 56 Try.underlying25 hj0 hy0 hy1 hy2 rfl (by omega) g k c (dkCells ((ds.take k).map bareD)) rfl (HKB.out _) (some ⟨wr.heap.size, 0, none⟩) 1 1 (dkCells [bareD d]) rfl (one_srcK (d := bareD d) (heap_alloc_new wr _)) (by unfold maxLen; omega) (by omega) (by simp; omega) (wr.heap.size + 1) (by simp) ?_; intro g5 c5 w5 hown5 hgrow5 hat5 hlt5)
      have HE : Hid (KRow w.heap.size w5 g5 c5 ((ds.take (k + 1)).map bareD) ∧ Below w.heap.size w w5) := by
        refine ⟨?_, (HL.out.alloc HL.out.size _).grown hgrow5 (by simp; omega) (by intro q hq; cases hq; exact hgl.1)⟩
        rw [HNX.out]
        exact KRow.of hown5 (by have := HLEN.out; simp at this ⊢; omega) (by rw [dkCells_append])
      clear hown5 hgrow5 hat5 HKB
      go_wp2_with fail
      go_roundw
      case rel => exact ⟨k + 1, g5, c5, by omega, by go_num, rfl, HE.out.1, HE.out.2⟩
      case measure => simp [intOf]; omega
    · obtain rfl : k = ds.length := by omega
      rw [List.take_length] at hrow
      have HC := hidP (sMarksOf (some ⟨g, 0, none⟩) c ds wr hrow.seg5 hn)
      have HL := hidP L
      have hz := L.size
      clear hrow L
      go_wp2_with fail
      refine HC.out.mono ?_
      rintro e w2 ⟨g2, c2, rfl, hr2, L2⟩
      have HE := hidP (And.intro (hr2.mono hz) (chain HL.out L2))
      clear hr2 L2
      go_wp2_with fail
      go_ret
      exact ⟨g2, c2, rfl, HE.out.1, HE.out.2⟩

end Go.Proofs.Ythddhblmnfjciaa
