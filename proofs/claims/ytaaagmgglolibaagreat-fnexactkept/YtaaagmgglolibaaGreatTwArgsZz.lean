/-
  A tower that came in, as the frame tells of it.
  A state in memory: the laws' own helpers szState, toState, eqState.
  The laws' own copy of a state: toState.
  The given StateOk.
  The program's StateOk.
  What is told of a state and a place.
  markState over a copy of the laws' own.
  A state that came in, as the frame tells of it.
-/
import Derived.Test.YtaaagmgglolibaaGreatJRwZz
import Derived.Test.YtaaagmgglolibaaGreatFeHelpZz
import Derived.Test.YtaaagmgglolibaaGreatTwOkZz
import Derived.Test.YtaaagmgglolibaaGreatNearZz
import Derived.Lib.SmallJoins
namespace Go.Proofs.YtaaagmgglolibaaGreat
open Go Go.RowKit Go.Deep

theorem one_marks {H : Type} {enc : TypeId × Value → H} {W : World} {n : Nat} {u : Value} {x : DataW H × List MemPlace} (h : DataW.trod enc Tryz.prog W 0 (fun _ => true) true n 102 [u] = some x) :
    ∃ (a : Option Addr) (c : Nat) (ms : List Mk), u = .slice a ms.length c ∧ MView W a ms ∧ ms.length ≤ maxLen ∧ ∀ i, (mat ms i).length ≤ maxLen := by
  obtain ⟨a, len, cap, rfl⟩ : ∃ a len cap, u = .slice a len cap := by
    rcases open_slice_pairs Tryz.underlying102 Tryz.underlying93 (by kernel_rfl) (by kernel_rfl) (by kernel_rfl) (by kernel_rfl) (by kernel_rfl) h with ⟨hcs, _⟩ | ⟨A, l, c, m, k, V0, V1, D0, D1, P0, P1, hcs, _⟩
    · simp at hcs; exact ⟨_, _, _, hcs⟩
    · simp at hcs; exact ⟨_, _, _, hcs⟩
  obtain ⟨ms, rfl, hv, hn, hat⟩ := marks_view h
  exact ⟨a, cap, ms, rfl, hv, hn, hat⟩
theorem one_rows {H : Type} {enc : TypeId × Value → H} {W : World} {n : Nat} {u : Value} {x : DataW H × List MemPlace} (h : DataW.trod enc Tryz.prog W 0 (fun _ => true) true n 45 [u] = some x) :
    ∃ (a : Option Addr) (c : Nat) (ls : List (List Int)), u = .slice a ls.length c ∧ CView W a ls ∧ ls.length ≤ maxLen ∧ ∀ i, (cn ls i).length ≤ maxLen := by
  obtain ⟨a, len, cap, rfl⟩ : ∃ a len cap, u = .slice a len cap := by
    rcases open_slice1 Tryz.underlying45 (by kernel_rfl) h with ⟨hcs, _⟩ | ⟨A, l, c, m, k, V, D, P0, hcs, _⟩
    · simp at hcs; exact ⟨_, _, _, hcs⟩
    · simp at hcs; exact ⟨_, _, _, hcs⟩
  obtain ⟨ls, rfl, hv, hn, hat⟩ := rows_view h
  exact ⟨a, cap, ls, rfl, hv, hn, hat⟩
def WbFit (ts : List Wb) : Prop := ts.length ≤ maxLen ∧ ∀ i, (wnth ts i).1.length ≤ maxLen ∧ (∀ j, (mat (wnth ts i).1 j).length ≤ maxLen) ∧ (wnth ts i).2.length ≤ maxLen ∧ ∀ j, (cn (wnth ts i).2 j).length ≤ maxLen

theorem webs_view {H : Type} {enc : TypeId × Value → H} {W : World} {n : Nat} {a : Option Addr} {len cap : Nat} {x : DataW H × List MemPlace} (h : DataW.trod enc Tryz.prog W 0 (fun _ => true) true n 90 [.slice a len cap] = some x) :
    ∃ ts : List Wb, len = ts.length ∧ WbView false W a ts ∧ WbFit ts := by
  rcases open_slice_pairs Tryz.underlying90 Tryz.underlying258 (by kernel_rfl) (by kernel_rfl) (by kernel_rfl) (by kernel_rfl) (by kernel_rfl) h with ⟨hcs, _⟩ | ⟨A, l, c, m, k, V0, V1, D0, D1, P0, P1, hcs, _, hl, hm, hmm, _, hall⟩
  · simp at hcs
    obtain ⟨rfl, rfl, rfl⟩ := hcs
    exact ⟨[], rfl, Or.inl rfl, Nat.zero_le _, fun i => by simp [wnth, mat, cn]⟩
  · simp at hcs
    obtain ⟨rfl, rfl, rfl⟩ := hcs
    simp at hmm
    subst hmm
    have each : ∀ i, i < len → ∃ q : Wb, (∃ am cm al cl, W.cell? (A.add (i * 2)) = some (.slice am q.1.length cm) ∧ W.cell? (A.add (i * 2 + 1)) = some (.slice al q.2.length cl) ∧ MView W am q.1 ∧ CView W al q.2) ∧ q.1.length ≤ maxLen ∧ (∀ j, (mat q.1 j).length ≤ maxLen) ∧ q.2.length ≤ maxLen ∧ ∀ j, (cn q.2 j).length ≤ maxLen := by
      intro i hi
      obtain ⟨e0, e1, t0, t1⟩ := hall i (by omega)
      obtain ⟨am, cm, ms, h1, h2, h3, h4⟩ := one_marks t0
      obtain ⟨al, cl, ls, g1, g2, g3, g4⟩ := one_rows t1
      exact ⟨(ms, ls), ⟨am, cm, al, cl, by rw [e0, h1], by rw [e1, g1], h2, g2⟩, h3, h4, g3, g4⟩
    obtain ⟨q, hq⟩ := choose_lt each
    have hml : ((List.range len).map q).length = len := by simp
    have hnth : ∀ i, i < len → wnth ((List.range len).map q) i = q i := fun i hi => by simp [wnth, List.getD, hi]
    refine ⟨(List.range len).map q, hml.symm, ?_, by rw [hml]; omega, fun i => ?_⟩
    · rcases Nat.eq_zero_or_pos len with h0 | h0
      · subst h0; exact Or.inl (by simp)
      · obtain ⟨b, off, spot⟩ := A
        obtain ⟨am, cm, al, cl, hc, -⟩ := (hq 0 h0).1
        have hspot : spot = none := by simpa [Addr.add] using World.cell?_spot hc
        subst hspot
        refine Or.inr ⟨b, off, rfl, by simpa [Addr.add] using cell_lt hc, fun i hi => ?_⟩
        rw [hml] at hi
        rw [hnth i hi]
        obtain ⟨am, cm, al, cl, e0, e1, v0, v1⟩ := (hq i hi).1
        rw [Go.WideShapes.add_plain] at e0 e1
        exact ⟨am, cm, al, cl, e0, by rw [Nat.add_assoc]; exact e1, v0, v1, fun h => by cases h⟩
    · rcases Nat.lt_or_ge i len with hi | hi
      · rw [hnth i hi]; exact (hq i hi).2
      · have e : wnth ((List.range len).map q) i = ([], []) := by simp [wnth, List.getD, hi]
        rw [e]; simp [mat, cn]

theorem tower_view {H : Type} {enc : TypeId × Value → H} {W : World} {n : Nat} {cs : Array Value} {x : DataW H × List MemPlace} (hs : cs.size = 2) (h : DataW.trod enc Tryz.prog W 0 (fun _ => true) true n 92 cs.toList = some x) :
    ∃ (d : Int) (ts : List Wb) (a : Option Addr) (c : Nat), cs = #[.int .i64 d, .slice a ts.length c] ∧ WbView false W a ts ∧ WbFit ts := by
  obtain ⟨u, v, rfl⟩ : ∃ u v, cs = #[u, v] := by
    rcases cs with ⟨l⟩
    match l, hs with
    | [u, v], _ => exact ⟨u, v, rfl⟩
  obtain ⟨y0, y1, m, _, hl, t0, t1⟩ := Go.ChangeShapes.trod_struct2 Tryz.underlying92 h
  have e0 : Tryz.prog.cellsOf 2 = 1 := by kernel_rfl
  have e1 : Tryz.prog.cellsOf 90 = 1 := by kernel_rfl
  simp only [e0, e1] at t0 t1
  obtain ⟨z, hz, _, _⟩ := DataW.trod_int Tryz.underlying2 (by simpa using t0)
  simp at hz
  have t3 : DataW.trod enc Tryz.prog W 0 (fun _ => true) true m 90 [v] = some y1 := by simpa using t1
  obtain ⟨a, len, cap, rfl⟩ : ∃ a len cap, v = .slice a len cap := by
    rcases open_slice_pairs Tryz.underlying90 Tryz.underlying258 (by kernel_rfl) (by kernel_rfl) (by kernel_rfl) (by kernel_rfl) (by kernel_rfl) t3 with ⟨hcs, _⟩ | ⟨A, l, c, m, k, V0, V1, D0, D1, P0, P1, hcs, _⟩
    · simp at hcs; exact ⟨_, _, _, hcs⟩
    · simp at hcs; exact ⟨_, _, _, hcs⟩
  obtain ⟨ts, rfl, hv, hf⟩ := webs_view t3
  exact ⟨z, ts, a, cap, by rw [hz], hv, hf⟩
end Go.Proofs.YtaaagmgglolibaaGreat
namespace Go.Proofs.YtaaagmgglolibaaGreat
open Go Go.RowKit

/-- The five cells of a state that is handed over. -/
structure StIn (v : Bool) (w : World) (X : Nat) (am aw : Option Addr) (cm cw : Nat) (wd : Int) (ms : List Mk) (d : Int) (ts : List Wb) (nx : Int) : Prop where
  lt : X < w.heap.size
  c0 : w.cell? ⟨X, 0, none⟩ = some (.int .i64 wd)
  c1 : w.cell? ⟨X, 1, none⟩ = some (.slice am ms.length cm)
  c2 : w.cell? ⟨X, 2, none⟩ = some (.int .i64 d)
  c3 : w.cell? ⟨X, 3, none⟩ = some (.slice aw ts.length cw)
  c4 : w.cell? ⟨X, 4, none⟩ = some (.int .i64 nx)
  mv : MView w am ms
  wv : WbView v w aw ts
theorem StIn.box {v : Bool} {w : World} {am aw : Option Addr} {cm cw : Nat} {wd : Int} {ms : List Mk} {d : Int} {ts : List Wb} {nx : Int} {t : TypeId} (hm : MView w am ms) (hw : WbView v w aw ts) : StIn v (w.alloc (.cells #[.int .i64 wd, .slice am ms.length cm, .int .i64 d, .slice aw ts.length cw, .int .i64 nx] t)) w.heap.size am aw cm cw wd ms d ts nx :=
  ⟨by simp, by simp, by simp, by simp, by simp, by simp, hm.next ((Below.refl _ _).alloc (Nat.le_refl _) _), hw.next ((Below.refl _ _).alloc (Nat.le_refl _) _)⟩
theorem StIn.below {v : Bool} {w w' : World} {X : Nat} {am aw : Option Addr} {cm cw : Nat} {wd : Int} {ms : List Mk} {d : Int} {ts : List Wb} {nx : Int} (h : StIn v w X am aw cm cw wd ms d ts nx) (L : Below w.heap.size w w') : StIn v w' X am aw cm cw wd ms d ts nx :=
  ⟨Nat.lt_of_lt_of_le h.lt L.size, (L.cell (p := ⟨X, 0, none⟩) h.lt).trans h.c0, (L.cell (p := ⟨X, 1, none⟩) h.lt).trans h.c1, (L.cell (p := ⟨X, 2, none⟩) h.lt).trans h.c2, (L.cell (p := ⟨X, 3, none⟩) h.lt).trans h.c3, (L.cell (p := ⟨X, 4, none⟩) h.lt).trans h.c4, h.mv.next L, h.wv.next L⟩
/-- One of a row's webs, ready for a call. -/
theorem WbView.web {s : Bool} {w : World} {aw : Option Addr} {ts : List Wb} (h : WbView s w aw ts) {n : Nat} (hn : n < ts.length) : ∃ b off am cm al cl, aw = some ⟨b, off, none⟩ ∧ b < w.heap.size ∧ w.cell? ⟨b, off + n * 2, none⟩ = some (.slice am (wnth ts n).1.length cm) ∧ w.cell? ⟨b, off + n * 2 + 1, none⟩ = some (.slice al (wnth ts n).2.length cl) ∧ MView w am (wnth ts n).1 ∧ CView w al (wnth ts n).2 ∧ (s = true → (wnth ts n).1.length ≤ cm ∧ (wnth ts n).2.length ≤ cl) := by
  obtain ⟨b, off, e, hb, hs⟩ := h.seg (by omega)
  obtain ⟨am, cm, al, cl, h1, h2, h3, h4, h5⟩ := hs n hn
  exact ⟨b, off, am, cm, al, cl, e, hb, h1, h2, h3, h4, h5⟩
def StSmall (ms : List Mk) (ts : List Wb) : Prop := MSmall ms ∧ WbSmall ts ∧ mtot ms + ttot ts ≤ 1048576
def StFit (ms : List Mk) (ts : List Wb) : Prop := ms.length ≤ maxLen ∧ (∀ i, (mat ms i).length ≤ maxLen) ∧ WbFit ts

set_option maxRecDepth 100000 in
set_option maxHeartbeats 1000000 in
theorem szSt (v : Bool) (am aw : Option Addr) (cm cw : Nat) (wd : Int) (ms : List Mk) (d : Int) (ts : List Wb) (nx : Int) (w : World) (hm : MView w am ms) (hw : WbView v w aw ts) (hf : StFit ms ts) :
    Calls Tryz.prog 73 #[.agg #[.int .i64 wd, .slice am ms.length cm, .int .i64 d, .slice aw ts.length cw, .int .i64 nx], .int .i64 1048576] w fun e w' => ∃ r, e = .returned (.int .i64 r) ∧ r ≤ 1048576 ∧ (r < 0 ∨ StSmall ms ts) ∧ Below w.heap.size w w' := by
  obtain ⟨W, hW⟩ : ∃ W, w.alloc (.cells #[.int .i64 wd, .slice am ms.length cm, .int .i64 d, .slice aw ts.length cw, .int .i64 nx] 104) = W := ⟨_, rfl⟩
  have hB : Below w.heap.size w W := by rw [← hW]; exact (Below.refl _ _).alloc (Nat.le_refl _) _
  have hI : StIn v W w.heap.size am aw cm cw wd ms d ts nx := by rw [← hW]; exact StIn.box hm hw
  have HB := hidP hB
  have HI := hidP hI
  have k1 := hI.c1
  have HS := hidP (szMg am cm ms 1048576 W hI.mv (by omega) (by omega) hf.1 hf.2.1)
  have HS2 := hidP (fun (W' : World) (L : Below W.heap.size W W') (r : Int) (h0 : 0 ≤ r) (h1 : r ≤ 1048576) => szTw v aw cw d ts r W' (hI.below L).wv h0 h1 hf.2.2.1 hf.2.2.2)
  clear hm hw hB hI hf
  go_enter Tryz.func73, Tryz.ntmps73
  go_wp2_with fail
  refine HS.out.mono ?_
  rintro e w1 ⟨r, rfl, hr1, hr, L1⟩
  by_cases hneg : r < 0
  · go_wp2_with fail
    go_ret
    exact ⟨-1, rfl, by omega, Or.inl (by omega), chain HB.out L1⟩
  have hsm : MSmall ms ∧ (mtot ms : Int) + r = 1048576 := by rcases hr with h | h; exact absurd h hneg; exact h
  have HSM := hidP hsm
  have hI1 := HI.out.below L1
  have c2' := hI1.c2
  have c3' := hI1.c3
  have HC := hidP (HS2.out w1 L1 r (by omega) (by omega))
  have HL1 := hidP (chain HB.out L1)
  clear hr L1 hW hsm hI1
  go_wp2_with fail
  refine HC.out.mono ?_
  rintro e w2 ⟨r2, rfl, hr21, hr2, L2⟩
  have HL2 := hidP (chain HL1.out L2)
  clear L2
  by_cases hneg2 : r2 < 0
  · go_wp2_with fail
    go_ret
    exact ⟨-1, rfl, by omega, Or.inl (by omega), HL2.out⟩
  have HCS : Hid (WbSmall ts ∧ (ttot ts : Int) + r2 = r) := by rcases hr2 with h | h; exact absurd h hneg2; exact h
  clear hr2
  go_wp2_with fail
  go_ret
  exact ⟨r2, rfl, by omega, Or.inr ⟨HSM.out.1, HCS.out.1, by have := HSM.out.2; have := HCS.out.2; omega⟩, HL2.out⟩

set_option maxRecDepth 100000 in
set_option maxHeartbeats 1000000 in
theorem eqSt (v v' : Bool) (am aw : Option Addr) (cm cw : Nat) (wd : Int) (ms : List Mk) (d : Int) (ts : List Wb) (nx : Int) (bm bw : Option Addr) (dm dw : Nat) (w : World) (hm : MView w am ms) (hw : WbView v w aw ts) (hm' : MView w bm ms) (hw' : WbView v' w bw ts) (hsm : StSmall ms ts) :
    Calls Tryz.prog 76 #[.agg #[.int .i64 wd, .slice am ms.length cm, .int .i64 d, .slice aw ts.length cw, .int .i64 nx], .agg #[.int .i64 wd, .slice bm ms.length dm, .int .i64 d, .slice bw ts.length dw, .int .i64 nx]] w fun e w' => e = .returned (.bool true) ∧ Below w.heap.size w w' := by
  obtain ⟨W1, hW1⟩ : ∃ W, w.alloc (.cells #[.int .i64 wd, .slice am ms.length cm, .int .i64 d, .slice aw ts.length cw, .int .i64 nx] 52) = W := ⟨_, rfl⟩
  have hB1 : Below w.heap.size w W1 := by rw [← hW1]; exact (Below.refl _ _).alloc (Nat.le_refl _) _
  have hI1 : StIn v W1 w.heap.size am aw cm cw wd ms d ts nx := by rw [← hW1]; exact StIn.box hm hw
  obtain ⟨W, hW⟩ : ∃ W, W1.alloc (.cells #[.int .i64 wd, .slice bm ms.length dm, .int .i64 d, .slice bw ts.length dw, .int .i64 nx] 52) = W := ⟨_, rfl⟩
  have hB2 : Below W1.heap.size W1 W := by rw [← hW]; exact (Below.refl _ _).alloc (Nat.le_refl _) _
  have hsz : W1.heap.size = w.heap.size + 1 := by rw [← hW1]; simp
  have hI' : StIn v' W W1.heap.size bm bw dm dw wd ms d ts nx := by rw [← hW]; exact StIn.box (hm'.next hB1) (hw'.next hB1)
  rw [hsz] at hI'
  have hI := hI1.below hB2
  have HI := hidP hI
  have HI' := hidP hI'
  have k0 := hI.c0
  have k1 := hI.c1
  have l0 := hI'.c0
  have l1 := hI'.c1
  have hd1 : (wd != wd) = false := by simp
  have hd2 : (nx != nx) = false := by simp
  have HS := hidP (eqMS am bm cm dm ms ms W hI.mv hI'.mv hsm.1)
  rw [show decide (ms = ms) = true by simp] at HS
  have HS2 := hidP (fun (W' : World) (L : Below W.heap.size W W') => eqTw v v' aw bw cw dw d ts W' (hI.below L).wv (hI'.below L).wv hsm.2.1)
  have HB := hidP (chain hB1 hB2)
  have HWW : Hid ((w.alloc (.cells #[.int .i64 wd, .slice am ms.length cm, .int .i64 d, .slice aw ts.length cw, .int .i64 nx] 52)).alloc (.cells #[.int .i64 wd, .slice bm ms.length dm, .int .i64 d, .slice bw ts.length dw, .int .i64 nx] 52) = W) := by show _ = _; rw [hW1, hW]
  clear hB1 hB2 hm hw hm' hw' hsm hI1 hI hI' hW1 hW hsz
  go_enter Tryz.func76, Tryz.ntmps76
  go_wp2_with fail
  rw [HWW.out]
  refine HS.out.mono ?_
  rintro e w2 ⟨rfl, L2⟩
  have hJ := HI.out.below L2
  have hJ' := HI'.out.below L2
  have e2 := hJ.c2
  have e3 := hJ.c3
  have f2 := hJ'.c2
  have f3 := hJ'.c3
  have HC := hidP (HS2.out _ L2)
  have HL := hidP (chain HB.out L2)
  have HJ := hidP hJ
  have HJ' := hidP hJ'
  clear L2 hJ hJ' HWW
  go_wp2_with fail
  refine HC.out.mono ?_
  rintro e w3 ⟨rfl, L3⟩
  have g4 := (HJ.out.below L3).c4
  have g4' := (HJ'.out.below L3).c4
  have HL3 := hidP (chain HL.out L3)
  clear L3
  go_wp2_with fail
  go_ret
  exact ⟨rfl, HL3.out⟩
end Go.Proofs.YtaaagmgglolibaaGreat
namespace Go.Proofs.YtaaagmgglolibaaGreat
open Go Go.RowKit

theorem five_cells {w : World} {q : Nat} {a b c d e : Value} {t : TypeId} (h : w.heap[q]? = some (.cells #[a, b, c, d, e] t)) : w.cell? ⟨q, 0, none⟩ = some a ∧ w.cell? ⟨q, 1, none⟩ = some b ∧ w.cell? ⟨q, 2, none⟩ = some c ∧ w.cell? ⟨q, 3, none⟩ = some d ∧ w.cell? ⟨q, 4, none⟩ = some e ∧ (∀ j, w.frozen? ⟨q, j, none⟩ = false) ∧ q < w.heap.size := by
  refine ⟨by simp [World.cell?, h], by simp [World.cell?, h], by simp [World.cell?, h], by simp [World.cell?, h], by simp [World.cell?, h], fun j => by simp [World.frozen?, h], ?_⟩
  rcases Nat.lt_or_ge q w.heap.size with e | e
  · exact e
  · rw [Array.getElem?_eq_none e] at h; cases h
theorem five_set1 {w : World} {q : Nat} {a b c d e x : Value} {t : TypeId} (h : w.heap[q]? = some (.cells #[a, b, c, d, e] t)) : (w.setCell ⟨q, 1, none⟩ x).heap[q]? = some (.cells #[a, x, c, d, e] t) := by
  simp [World.setCell, Array.getElem?_modify, h]
/-- A state whose rows lie in blocks of their own: first the marks', then the tower's. -/
structure StOwn (w : World) (bm hi b : Nat) (ms : List Mk) (ts : List Wb) (lo : Nat → Nat) : Prop where
  part : MPart w bm ms.length ms.length ms
  over : MOver w bm hi ms
  webs : WbPart w b ts.length ts.length ts lo
  first : bm < hi
  last : hi ≤ b
theorem StOwn.next {w w' : World} {bm hi b : Nat} {ms : List Mk} {ts : List Wb} {lo : Nat → Nat} (h : StOwn w bm hi b ms ts lo) (L : Below w.heap.size w w') : StOwn w' bm hi b ms ts lo :=
  ⟨h.part.below (Nat.le_refl _) L, h.over.below (Nat.le_trans h.last (Nat.le_of_lt h.webs.lt)) L, h.webs.next L, h.first, h.last⟩
theorem StOwn.mview {w : World} {bm hi b : Nat} {ms : List Mk} {ts : List Wb} {lo : Nat → Nat} (h : StOwn w bm hi b ms ts lo) : MView w (some ⟨bm, 0, none⟩) ms := h.part.view
theorem StOwn.wview {w : World} {bm hi b : Nat} {ms : List Mk} {ts : List Wb} {lo : Nat → Nat} (h : StOwn w bm hi b ms ts lo) : WbView true w (some ⟨b, 0, none⟩) ts := h.webs.view
theorem StOwn.far {w w' : World} {bm hi b : Nat} {ms : List Mk} {ts : List Wb} {lo : Nat → Nat} (h : StOwn w bm hi b ms ts lo) (hs : w.heap.size ≤ w'.heap.size) (e : ∀ i, bm ≤ i → w'.heap[i]? = w.heap[i]?) : StOwn w' bm hi b ms ts lo :=
  ⟨h.part.far hs (fun i h1 _ => e i h1), h.over.far hs (fun i h1 _ _ => e i h1), h.webs.far hs (fun i h1 _ => e i (by have := h.first; have := h.last; omega)), h.first, h.last⟩

set_option maxRecDepth 100000 in
set_option maxHeartbeats 4000000 in
theorem toSt (v : Bool) (am aw : Option Addr) (cm cw : Nat) (wd : Int) (ms : List Mk) (d : Int) (ts : List Wb) (nx : Int) (w : World) (hm : MView w am ms) (hw : WbView v w aw ts) (hsm : StSmall ms ts) :
    Calls Tryz.prog 74 #[.agg #[.int .i64 wd, .slice am ms.length cm, .int .i64 d, .slice aw ts.length cw, .int .i64 nx]] w fun e w' => ∃ bm hi b lo, e = .returned (.agg #[.int .i64 wd, .slice (some ⟨bm, 0, none⟩) ms.length ms.length, .int .i64 d, .slice (some ⟨b, 0, none⟩) ts.length ts.length, .int .i64 nx]) ∧ StOwn w' bm hi b ms ts lo ∧ w.heap.size ≤ bm ∧ Below w.heap.size w w' := by
  obtain ⟨W1, hW1⟩ : ∃ W, w.alloc (.cells #[.int .i64 wd, .slice am ms.length cm, .int .i64 d, .slice aw ts.length cw, .int .i64 nx] 104) = W := ⟨_, rfl⟩
  obtain ⟨W2, hW2⟩ : ∃ W, W1.alloc (.cells #[.int .i64 0, .slice none 0 0, .int .i64 0, .slice none 0 0, .int .i64 0] 52) = W := ⟨_, rfl⟩
  obtain ⟨W, hW⟩ : ∃ W, W2.alloc (.cells #[.int .i64 wd, .slice none 0 0, .int .i64 0, .slice none 0 0, .int .i64 0] 52) = W := ⟨_, rfl⟩
  have s1 : W1.heap.size = w.heap.size + 1 := by rw [← hW1]; simp
  have s2 : W2.heap.size = w.heap.size + 1 + 1 := by rw [← hW2]; simp [s1]
  have hsz : W.heap.size = w.heap.size + 1 + 1 + 1 := by rw [← hW]; simp [s2]
  have b1 : Below w.heap.size w W1 := by rw [← hW1]; exact (Below.refl _ _).alloc (Nat.le_refl _) _
  have b2 : Below W1.heap.size W1 W2 := by rw [← hW2]; exact (Below.refl _ _).alloc (Nat.le_refl _) _
  have b3 : Below W2.heap.size W2 W := by rw [← hW]; exact (Below.refl _ _).alloc (Nat.le_refl _) _
  have hB : Below w.heap.size w W := chain (chain b1 b2) b3
  have t0 : W.heap[w.heap.size]? = some (.cells #[.int .i64 wd, .slice am ms.length cm, .int .i64 d, .slice aw ts.length cw, .int .i64 nx] 104) := (b3.block _ (by omega)).trans ((b2.block _ (by omega)).trans (by rw [← hW1]; exact heap_alloc_new w _))
  have t1 : W.heap[w.heap.size + 1]? = some (.cells #[.int .i64 0, .slice none 0 0, .int .i64 0, .slice none 0 0, .int .i64 0] 52) := (b3.block _ (by omega)).trans (by rw [← hW2, ← s1]; exact heap_alloc_new W1 _)
  have t2 : W.heap[w.heap.size + 1 + 1]? = some (.cells #[.int .i64 wd, .slice none 0 0, .int .i64 0, .slice none 0 0, .int .i64 0] 52) := by rw [← hW, ← s2]; exact heap_alloc_new W2 _
  obtain ⟨z0, z1, z2, z3, z4, -, -⟩ := five_cells t0
  have HS := hidP (toMS am cm ms W (hm.next hB) hsm.1)
  have HV := hidP hw
  have HB := hidP hB
  have HT := hidP (And.intro t0 (And.intro t1 t2))
  have HSM := hidP hsm.2.1
  have HWW : Hid (((w.alloc (.cells #[.int .i64 wd, .slice am ms.length cm, .int .i64 d, .slice aw ts.length cw, .int .i64 nx] 104)).alloc (.cells #[.int .i64 0, .slice none 0 0, .int .i64 0, .slice none 0 0, .int .i64 0] 52)).alloc (.cells #[.int .i64 wd, .slice none 0 0, .int .i64 0, .slice none 0 0, .int .i64 0] 52) = W) := by show _ = _; rw [hW1, hW2, hW]
  clear hB hm hw b1 b2 b3 t0 t1 t2 hsm hW1 hW2 hW z0 z1 z2 z3 z4
  go_enter Tryz.func74, Tryz.ntmps74
  go_wp2_with fail
  rw [HWW.out]
  refine HS.out.mono ?_
  rintro e w2 ⟨bm, rfl, p1, hb1, L1⟩
  obtain ⟨t0, t1, t2⟩ := HT.out
  have u0 := (L1.block _ (by omega)).trans t0
  have u1 := (L1.block _ (by omega)).trans t1
  have u2 := (L1.block _ (by omega)).trans t2
  obtain ⟨-, e2, -, -, -, f2, -⟩ := five_cells u2
  have f20 := f2 1
  obtain ⟨w3, hw3⟩ : ∃ w3, w2.setCell ⟨w.heap.size + 1 + 1, 1, none⟩ (.slice (some ⟨bm, 0, none⟩) ms.length ms.length) = w3 := ⟨_, rfl⟩
  have far3 : ∀ i, i ≠ w.heap.size + 1 + 1 → w3.heap[i]? = w2.heap[i]? := fun i hi => by rw [← hw3]; exact Below.heap_setCell w2 ⟨w.heap.size + 1 + 1, 1, none⟩ _ i (fun e => hi e)
  have z3 : w3.heap.size = w2.heap.size := by rw [← hw3]; simp [World.setCell]
  have v0 := (far3 w.heap.size (by omega)).trans u0
  have v1 := (far3 (w.heap.size + 1) (by omega)).trans u1
  have v2 : w3.heap[w.heap.size + 1 + 1]? = some (.cells #[.int .i64 wd, .slice (some ⟨bm, 0, none⟩) ms.length ms.length, .int .i64 0, .slice none 0 0, .int .i64 0] 52) := by rw [← hw3]; exact five_set1 u2
  have p3 : MPart w3 bm ms.length ms.length ms := p1.far (by omega) (fun i h1 _ => far3 i (by omega))
  have L3 : Below w.heap.size w w3 := by rw [← hw3]; exact (chain HB.out L1).setCell (by show w.heap.size ≤ w.heap.size + 1 + 1; omega) _
  obtain ⟨-, -, y2, y3, y4, -, -⟩ := five_cells v0
  have hz1 := L1.size
  have HS2 := hidP (toTw v aw cw d ts w3 (HV.out.next L3) HSM.out)
  have H3 := hidP (And.intro v0 (And.intro v1 (And.intro v2 (And.intro p3 L3))))
  have HB1 : Hid (w.heap.size + 1 + 1 + 1 ≤ bm ∧ bm < w3.heap.size) := by refine ⟨?_, ?_⟩; omega; exact p3.1
  clear HT t0 t1 t2 u0 u1 u2 v0 v1 v2 p1 p3 L1 L3 far3 hb1 f2 HS HWW
  go_wp2_with fail
  refine HS2.out.mono ?_
  rintro e w4 ⟨b, lo, rfl, o2, hb2, L4⟩
  obtain ⟨v0, v1, v2, p3, L3⟩ := H3.out
  obtain ⟨hbm, hbm2⟩ := HB1.out
  have x0 := (L4.block _ (by omega)).trans v0
  have x1 := (L4.block _ (by omega)).trans v1
  have x2 := (L4.block _ (by omega)).trans v2
  have hz4 := L4.size
  obtain ⟨-, -, -, -, m4, -, -⟩ := five_cells x0
  obtain ⟨g0, g1, g2, g3, g4, k1, -⟩ := five_cells x1
  obtain ⟨h0, h1, h2, h3, h4, k2, -⟩ := five_cells x2
  have k10 := k1 0
  have k11 := k1 1
  have k12 := k1 2
  have k13 := k1 3
  have k14 := k1 4
  have k22 := k2 2
  have k23 := k2 3
  have k24 := k2 4
  have HF : Hid (StOwn w4 bm w3.heap.size b ms ts lo ∧ Below w.heap.size w w4) := ⟨⟨p3.below (Nat.le_refl _) L4, (MPart.over p3).below (Nat.le_refl _) L4, o2, hbm2, hb2⟩, chain L3 L4⟩
  clear v0 v1 v2 p3 L3 x0 x1 x2 o2 L4 H3 HB1 k1 k2 HS2 y2 y3 y4 hw3 e2 f20
  go_wp2_with fail
  refine bodyPost_ret (v := .agg #[.int .i64 wd, .slice (some ⟨bm, 0, none⟩) ms.length ms.length, .int .i64 d, .slice (some ⟨b, 0, none⟩) ts.length ts.length, .int .i64 nx]) (by simp [results, Tryz.results74, go_sem, g0, g1, g2, g3, g4]) rfl ?_
  obtain ⟨w5, hw5⟩ : ∃ w5, ((((((((w4.setCell ⟨w.heap.size + 1 + 1, 2, none⟩ (.int .i64 d)).setCell ⟨w.heap.size + 1 + 1, 3, none⟩ (.slice (some ⟨b, 0, none⟩) ts.length ts.length)).setCell ⟨w.heap.size + 1 + 1, 4, none⟩ (.int .i64 nx)).setCell ⟨w.heap.size + 1, 0, none⟩ (.int .i64 wd)).setCell ⟨w.heap.size + 1, 1, none⟩ (.slice (some ⟨bm, 0, none⟩) ms.length ms.length)).setCell ⟨w.heap.size + 1, 2, none⟩ (.int .i64 d)).setCell ⟨w.heap.size + 1, 3, none⟩ (.slice (some ⟨b, 0, none⟩) ts.length ts.length)).setCell ⟨w.heap.size + 1, 4, none⟩ (.int .i64 nx)) = w5 := ⟨_, rfl⟩
  obtain ⟨q1, q4⟩ := HF.out
  have far5 : ∀ i, bm ≤ i → w5.heap[i]? = w4.heap[i]? := fun i hi => by
    rw [← hw5, Below.heap_setCell _ ⟨w.heap.size + 1, 4, none⟩ _ i (fun e => by have : i = w.heap.size + 1 := e; omega), Below.heap_setCell _ ⟨w.heap.size + 1, 3, none⟩ _ i (fun e => by have : i = w.heap.size + 1 := e; omega), Below.heap_setCell _ ⟨w.heap.size + 1, 2, none⟩ _ i (fun e => by have : i = w.heap.size + 1 := e; omega), Below.heap_setCell _ ⟨w.heap.size + 1, 1, none⟩ _ i (fun e => by have : i = w.heap.size + 1 := e; omega), Below.heap_setCell _ ⟨w.heap.size + 1, 0, none⟩ _ i (fun e => by have : i = w.heap.size + 1 := e; omega), Below.heap_setCell _ ⟨w.heap.size + 1 + 1, 4, none⟩ _ i (fun e => by have : i = w.heap.size + 1 + 1 := e; omega), Below.heap_setCell _ ⟨w.heap.size + 1 + 1, 3, none⟩ _ i (fun e => by have : i = w.heap.size + 1 + 1 := e; omega), Below.heap_setCell _ ⟨w.heap.size + 1 + 1, 2, none⟩ _ i (fun e => by have : i = w.heap.size + 1 + 1 := e; omega)]
  have z5 : w5.heap.size = w4.heap.size := by rw [← hw5]; simp [World.setCell]
  have L5 : Below w.heap.size w w5 := by rw [← hw5]; exact ((((((((q4.setCell (by show w.heap.size ≤ w.heap.size + 1 + 1; omega) _).setCell (by show w.heap.size ≤ w.heap.size + 1 + 1; omega) _).setCell (by show w.heap.size ≤ w.heap.size + 1 + 1; omega) _).setCell (by show w.heap.size ≤ w.heap.size + 1; omega) _).setCell (by show w.heap.size ≤ w.heap.size + 1; omega) _).setCell (by show w.heap.size ≤ w.heap.size + 1; omega) _).setCell (by show w.heap.size ≤ w.heap.size + 1; omega) _).setCell (by show w.heap.size ≤ w.heap.size + 1; omega) _)
  rw [hw5]
  exact ⟨bm, w3.heap.size, b, lo, rfl, q1.far (by omega) (fun i h1 => far5 i h1), by omega, L5⟩
end Go.Proofs.YtaaagmgglolibaaGreat
namespace Go.Proofs.YtaaagmgglolibaaGreat
open Go Go.RowKit

def grB (wd nx : Int) (m : Mk) : Bool := decide ((m.2.length : Int) = wd) && decide (m.1 < nx)
def grsB (wd nx : Int) (ms : List Mk) : Bool := ms.all (grB wd nx)
def stB (wd : Int) (ms : List Mk) (d : Int) (ts : List Wb) (nx : Int) : Bool := inR wd 1 4 && (marksB ms && (towB d ts && (inR nx 1 1000000 && (grsB wd nx (wnth ts 0).1 && bearB (wnth ts 0).1 ms))))
theorem grsB_no {wd nx : Int} {l : List Mk} {k : Nat} (hk : k < l.length) (h : grB wd nx (mnth l k) = false) : grsB wd nx l = false := by
  rcases e : grsB wd nx l with _ | _
  · rfl
  · rw [grsB, List.all_eq_true] at e
    rw [e _ (mnth_mem15 hk)] at h
    cases h
theorem grsB_yes {wd nx : Int} {l : List Mk} (h : ∀ k, k < l.length → grB wd nx (mnth l k) = true) : grsB wd nx l = true := by
  rw [grsB, List.all_eq_true]
  intro m hm
  obtain ⟨k, hk, rfl⟩ := List.getElem_of_mem hm
  have := h k hk
  simpa [mnth, List.getD, hk] using this

set_option maxRecDepth 100000 in
set_option maxHeartbeats 4000000 in
theorem sStateOk (v : Bool) (am aw : Option Addr) (cm cw : Nat) (wd : Int) (ms : List Mk) (d : Int) (ts : List Wb) (nx : Int) (w : World) (hm : MView w am ms) (hw : WbView v w aw ts) (hsm : StSmall ms ts) :
    Calls Tryz.prog 40 #[.agg #[.int .i64 wd, .slice am ms.length cm, .int .i64 d, .slice aw ts.length cw, .int .i64 nx]] w fun e w' => e = .returned (.bool (stB wd ms d ts nx)) ∧ Below w.heap.size w w' := by
  obtain ⟨W, hW⟩ : ∃ W, w.alloc (.cells #[.int .i64 wd, .slice am ms.length cm, .int .i64 d, .slice aw ts.length cw, .int .i64 nx] 52) = W := ⟨_, rfl⟩
  have hB : Below w.heap.size w W := by rw [← hW]; exact (Below.refl _ _).alloc (Nat.le_refl _) _
  have hI : StIn v W w.heap.size am aw cm cw wd ms d ts nx := by rw [← hW]; exact StIn.box hm hw
  have HB := hidP hB
  have HI := hidP hI
  have k0 := hI.c0
  have HIN := hidP (sIn wd 1 4)
  have HIX := hidP (sIn nx 1 1000000)
  have HMK := hidP (fun (W' : World) (L : Below W.heap.size W W') => sMarks am cm ms W' (hI.below L).mv hsm.1)
  have HTW := hidP (fun (W' : World) (L : Below W.heap.size W W') => sTowerOk v aw cw d ts W' (hI.below L).wv hsm.2.1)
  have HSM := hidP hsm
  have HTT : Hid (towB d ts = true → ts.length = 4 ∧ webB (wnth ts 0).1 (wnth ts 0).2 = true) := fun h => by
    rw [towB, Bool.and_eq_true, Bool.and_eq_true, decide_eq_true_eq, List.all_eq_true] at h
    exact ⟨h.2.1, towAt_web' (h.2.2 0 (by simp))⟩
  have HMM : Hid (marksB ms = true → ms.length ≤ 60) := fun h => marksB_len h
  obtain ⟨b1, hb1⟩ : ∃ b, inR wd 1 4 = b := ⟨_, rfl⟩
  obtain ⟨b2, hb2⟩ : ∃ b, marksB ms = b := ⟨_, rfl⟩
  obtain ⟨b3, hb3⟩ : ∃ b, towB d ts = b := ⟨_, rfl⟩
  obtain ⟨b4, hb4⟩ : ∃ b, inR nx 1 1000000 = b := ⟨_, rfl⟩
  have HV : Hid (stB wd ms d ts nx = (b1 && (b2 && (b3 && (b4 && (grsB wd nx (wnth ts 0).1 && bearB (wnth ts 0).1 ms)))))) := by show _ = _; rw [← hb1, ← hb2, ← hb3, ← hb4]; rfl
  rw [hb1] at HIN
  rw [hb2] at HMK HMM
  rw [hb3] at HTW HTT
  rw [hb4] at HIX
  clear hm hw hsm hB hI hb1 hb2 hb3 hb4
  go_enter Tryz.func40, Tryz.ntmps40
  go_wp2_with fail
  refine (HIN.out _).mono ?_
  rintro e w1 ⟨rfl, hw1⟩
  have hw2 := hw1.symm
  subst hw2
  cases b1 with
  | false =>
    go_wp2_with fail
    go_ret
    exact ⟨ret_bool (by rw [HV.out]; rfl), HB.out⟩
  | true =>
  have k1 := HI.out.c1
  go_wp2_with fail
  refine (HMK.out _ (Below.refl _ _)).mono ?_
  rintro e w1 ⟨rfl, n1, hw1⟩
  subst hw1
  have L1 : Hid (Below W.heap.size W (W.drewN n1)) := below_drewN (Below.refl _ _) n1
  clear hW k0 k1
  cases b2 with
  | false =>
    go_wp2_with fail
    go_ret
    exact ⟨ret_bool (by rw [HV.out]; rfl), chain HB.out L1.out⟩
  | true =>
  have c2 := (HI.out.below L1.out).c2
  have c3 := (HI.out.below L1.out).c3
  generalize W.drewN n1 = W1 at *
  go_wp2_with fail
  refine (HTW.out _ L1.out).mono ?_
  rintro e w2 ⟨rfl, L2⟩
  have HL2 := hidP (chain L1.out L2)
  clear L2 L1 c2 c3
  cases b3 with
  | false =>
    go_wp2_with fail
    go_ret
    exact ⟨ret_bool (by rw [HV.out]; rfl), chain HB.out HL2.out⟩
  | true =>
  have c4 := (HI.out.below HL2.out).c4
  go_wp2_with fail
  refine (HIX.out _).mono ?_
  rintro e w3 ⟨rfl, hw3⟩
  subst hw3
  cases b4 with
  | false =>
    go_wp2_with fail
    go_ret
    exact ⟨ret_bool (by rw [HV.out]; rfl), chain HB.out HL2.out⟩
  | true =>
  have hI2 := HI.out.below HL2.out
  have HLEN := hidP (HTT.out (by trivial)).1
  have HWB := hidP (HTT.out (by trivial)).2
  obtain ⟨b, off, gm, gc, al, cl, rfl, hb, q0, q1, hgm, -, -⟩ := hI2.wv.web (n := 0) (by rw [HLEN.out]; omega)
  rw [Nat.zero_mul, Nat.add_zero] at q0 q1
  have c3 := hI2.c3
  rw [HLEN.out] at c3
  have HG60 := hidP (marksB_len (web_marks HWB.out))
  have HM60 := hidP (HMM.out (by trivial))
  have HGSM := hidP (HSM.out.2.1.2 0).1
  obtain ⟨gs, hgs⟩ : ∃ gs, (wnth ts 0).1 = gs := ⟨_, rfl⟩
  rw [hgs] at HG60 HGSM HV q0 hgm
  have HGM := hidP hgm
  have HLX := hidP (chain HB.out HL2.out)
  have HIW := hidP hI2
  clear c4 hI2 hgs hgm HMK HTW HTT HMM HIN HIX HI HB HL2 HWB
  go_wp2_with fail
  clear q0 q1 c3
  go_loopw [4] (fun iv wr => ∃ i : Nat, i ≤ gs.length ∧ iv = .int .i64 i ∧ (∀ j, j < i → grB wd nx (mnth gs j) = true) ∧ Below w3.heap.size w3 wr) (fun iv _ => gs.length - (intOf iv).toNat)
  case atStart => exact ⟨0, Nat.zero_le _, rfl, fun j hj => by omega, Below.refl _ _⟩
  case round =>
    obtain ⟨i, hi, rfl, hall, L⟩ := hrel
    have HA := hidP hall
    have HL := hidP L
    have hIr := HIW.out.below L
    have hgr := HGM.out.next L
    clear hall L
    by_cases hlt : i < gs.length
    · have h60 := HG60.out
      have hlti : (i : Int) < (gs.length : Int) := by omega
      have hi0 : (0 : Int) ≤ (i : Int) := Int.natCast_nonneg _
      obtain ⟨mb, mo, rfl, hmb, hms⟩ := MSeg.seg hgr (by omega)
      obtain ⟨cid, pa, pc, cat, -⟩ := hms.at (i := i) hlt
      have e0 := hIr.c0
      have e4 := hIr.c4
      have HNO := hidP (fun h => grsB_no (wd := wd) (nx := nx) hlt h)
      have hpl := HGSM.out.2 i
      have HGB : Hid (grB wd nx (mnth gs i) = (decide (((mat gs i).length : Int) = wd) && decide (mid gs i < nx))) := rfl
      clear hms hgr hIr
      generalize mid gs i = x at *
      generalize (mat gs i).length = xl at *
      by_cases hwd : (xl : Int) = wd
      · have hwb : ((xl : Int) != wd) = false := by simp [hwd]
        rw [decide_eq_true hwd] at HGB
        by_cases hnx : x < nx
        · have hge : ¬ (x ≥ nx) := by omega
          rw [decide_eq_true hnx] at HGB
          go_wp2_with fail
          refine wp_region_quiet_lit (by kernel_rfl) (by kernel_rfl) ?_
          try simp only [List.append_eq, List.cons_append, List.nil_append]
          repeat (go_big_quiet_step (fail))
          refine wpQuiet_nil ?_
          intro _ hw'
          obtain ⟨nq, hw''⟩ := hw'
          subst hw''
          go_wp2_with fail
          go_roundw
          case rel => exact ⟨i + 1, by omega, by go_num, fun j hj => by
            rcases Nat.lt_or_ge j i with h | h
            · exact HA.out j h
            · rw [show j = i by omega]; exact HGB.out, below_drewN HL.out _⟩
          case measure => simp [intOf]; omega
        · have hge : x ≥ nx := by omega
          rw [decide_eq_false hnx] at HGB
          have HVF : Hid (stB wd ms d ts nx = false) := by show _ = _; rw [HV.out, HNO.out (HGB.out.trans rfl)]; rfl
          clear HGB
          go_wp2_with fail
          refine wp_region_quiet_lit (by kernel_rfl) (by kernel_rfl) ?_
          try simp only [List.append_eq, List.cons_append, List.nil_append]
          repeat (go_big_quiet_step (fail))
          refine wpQuiet_nil ?_
          intro _ hw'
          obtain ⟨nq, hw''⟩ := hw'
          subst hw''
          go_wp2_with fail
          go_ret
          exact ⟨ret_bool HVF.out.symm, below_drewN (chain HLX.out HL.out) _⟩
      · have hwb : ((xl : Int) != wd) = true := by simp [hwd]
        rw [decide_eq_false hwd] at HGB
        have HVF : Hid (stB wd ms d ts nx = false) := by show _ = _; rw [HV.out, HNO.out (HGB.out.trans rfl)]; rfl
        clear HGB
        go_wp2_with fail
        refine wp_region_quiet_lit (by kernel_rfl) (by kernel_rfl) ?_
        try simp only [List.append_eq, List.cons_append, List.nil_append]
        repeat (go_big_quiet_step (fail))
        refine wpQuiet_nil ?_
        intro _ hw'
        obtain ⟨nq, hw''⟩ := hw'
        subst hw''
        go_wp2_with fail
        go_ret
        exact ⟨ret_bool HVF.out.symm, below_drewN (chain HLX.out HL.out) _⟩
    · have hlti : ¬ (i : Int) < (gs.length : Int) := by omega
      obtain rfl : i = gs.length := by omega
      have HGY := hidP (grsB_yes HA.out)
      rw [HGY.out] at HV
      clear hgr hIr hi hlt HGY HA
      go_wp2_with fail
      go_loopw [5] (fun iv wi => ∃ i : Nat, i ≤ ms.length ∧ iv = .int .i64 i ∧ (∀ j, j < i → likeB gs (mnth ms j) = true) ∧ Below w3.heap.size w3 wi) (fun iv _ => ms.length - (intOf iv).toNat)
      case atStart => exact ⟨0, Nat.zero_le _, rfl, fun j hj => by omega, HL.out⟩
      case round =>
        obtain ⟨i, hi, rfl, hall, Li⟩ := hrel
        generalize hwi : wr = wi at *
        clear hwi wr HL
        have HA := hidP hall
        have HL := hidP Li
        have hIr := HIW.out.below Li
        have hgr := HGM.out.next Li
        have e1 := hIr.c1
        clear hall Li
        by_cases hlt : i < ms.length
        · have h60 := HM60.out
          have hlti : (i : Int) < (ms.length : Int) := by omega
          have hi0 : (0 : Int) ≤ (i : Int) := Int.natCast_nonneg _
          obtain ⟨mb, mo, rfl, hmb, hms⟩ := MSeg.seg hIr.mv (by omega)
          obtain ⟨cid, pa, pc, cat, hpv⟩ := hms.at (i := i) hlt
          have HFD := hidP (sFind gm gc gs (mid ms i) wi hgr HGSM.out.1)
          have HNO := hidP (fun h => bearB_no (lo := gs) hlt h)
          have HLK : Hid (likeB gs (mnth ms i) = true ↔ 0 ≤ zFind gs (mid ms i) ∧ mat gs (zIdx gs (mid ms i)) = mat ms i) := likeB_iff
          have HPV := hidP hpv
          have hpl := HSM.out.1.2 i
          clear hms hpv hIr
          generalize mid ms i = x at *
          generalize mat ms i = xa at *
          rcases hfz : decide (0 ≤ zFind gs x) with _ | _
          · have hfz' : zFind gs x < 0 := by simpa using hfz
            have HVF : Hid (stB wd ms d ts nx = false) := by show _ = _; rw [HV.out, HNO.out (by rcases e : likeB gs (mnth ms i) with _ | _; rfl; have := HLK.out.1 e; omega)]; rfl
            clear hfz HLK HNO hgr
            generalize zFind gs x = fz at *
            go_wp2_with fail
            refine HFD.out.mono ?_
            rintro e w5 ⟨rfl, hw5⟩
            subst hw5
            go_wp2_with fail
            refine wp_region_quiet_lit (by kernel_rfl) (by kernel_rfl) ?_
            try simp only [List.append_eq, List.cons_append, List.nil_append]
            repeat (go_big_quiet_step (fail))
            refine wpQuiet_nil ?_
            intro _ hw'
            obtain ⟨nq, hw''⟩ := hw'
            subst hw''
            go_wp2_with fail
            go_ret
            exact ⟨ret_bool HVF.out.symm, below_drewN (chain HLX.out HL.out) _⟩
          · have hfz' : 0 ≤ zFind gs x := by simpa using hfz
            obtain ⟨za, zb, zc⟩ := zIdx_lt hfz'
            obtain ⟨lb, lo2, rfl, hlb, hls⟩ := MSeg.seg hgr (by omega)
            obtain ⟨-, qa, qc, qat, hqv⟩ := hls.at (i := zIdx gs x) za
            have hql := HGSM.out.2 (zIdx gs x)
            have HSA : Hid (∀ m, Calls Tryz.prog 117 #[.slice qa (mat gs (zIdx gs x)).length qc, .slice pa xa.length pc] (wi.drewN m) fun e w'' => e = .returned (.bool (decide (mat gs (zIdx gs x) = xa))) ∧ ∃ m', w'' = wi.drewN m') := fun m => by
              refine (gsameS qa pa qc pc (mat gs (zIdx gs x)) xa (wi.drewN m) (View.drewN hqv m) (View.drewN HPV.out m) (by omega)).mono ?_
              rintro e w'' ⟨he, m', hm⟩
              exact ⟨he, m + m', by rw [hm]; simp⟩
            have HV2 : Hid (decide (mat gs (zIdx gs x) = xa) = false → stB wd ms d ts nx = false) := fun h => by rw [HV.out, HNO.out (by rcases e : likeB gs (mnth ms i) with _ | _; rfl; have := HLK.out.1 e; rw [decide_eq_false_iff_not] at h; exact absurd this.2 h)]; rfl
            have HV3 : Hid (decide (mat gs (zIdx gs x) = xa) = true → likeB gs (mnth ms i) = true) := fun h => HLK.out.2 ⟨hfz', of_decide_eq_true h⟩
            rw [zb.symm] at HFD
            have hj0 : (0 : Int) ≤ (zIdx gs x : Int) := Int.natCast_nonneg _
            have hj1 : ((zIdx gs x : Nat) : Int) < (gs.length : Int) := by omega
            have hj2 : ¬ ((zIdx gs x : Nat) : Int) < 0 := by omega
            have hj2d : decide (((zIdx gs x : Nat) : Int) < 0) = false := decide_eq_false hj2
            clear hfz hfz' HLK HNO zb zc hls hqv hgr
            obtain ⟨r, hr⟩ : ∃ r, decide (mat gs (zIdx gs x) = xa) = r := ⟨_, rfl⟩
            rw [hr] at HSA HV2 HV3
            clear hr
            generalize (mat gs (zIdx gs x)).length = ql at *
            generalize zIdx gs x = j at *
            go_wp2_with fail
            refine HFD.out.mono ?_
            rintro e w5 ⟨rfl, hw5⟩
            subst hw5
            go_wp2_with fail
            refine wp_region_quiet_lit (by kernel_rfl) (by kernel_rfl) ?_
            try simp only [List.append_eq, List.cons_append, List.nil_append]
            repeat (go_big_quiet_step ((go_at_call 117; exact HSA.out _)))
            refine wpQuiet_nil ?_
            intro _ hw'
            obtain ⟨nq, hw''⟩ := hw'
            subst hw''
            cases r with
            | false =>
              have HVF := hidP (HV2.out rfl)
              go_wp2_with fail
              go_ret
              exact ⟨ret_bool HVF.out.symm, below_drewN (chain HLX.out HL.out) _⟩
            | true =>
              have HLK := hidP (HV3.out rfl)
              go_wp2_with fail
              go_roundw
              case rel => exact ⟨i + 1, by omega, by go_num, fun j hj => by
                rcases Nat.lt_or_ge j i with h | h
                · exact HA.out j h
                · rw [show j = i by omega]; exact HLK.out, below_drewN HL.out _⟩
              case measure => simp [intOf]; omega
        · have hlti : ¬ (i : Int) < (ms.length : Int) := by omega
          obtain rfl : i = ms.length := by omega
          have HBY := hidP (bearB_yes HA.out)
          rw [HBY.out] at HV
          clear hgr hIr hi hlt HBY HA
          go_wp2_with fail
          go_ret
          exact ⟨ret_bool (by rw [HV.out]; rfl), chain HLX.out HL.out⟩
end Go.Proofs.YtaaagmgglolibaaGreat
namespace Go.Proofs.YtaaagmgglolibaaGreat
open Go Go.RowKit

set_option maxRecDepth 100000 in
set_option maxHeartbeats 1000000 in
theorem iAsWide (n1 n2 : Nat) (am aw ao : Option Addr) (cm cw cap n : Nat) (wd d nx : Int) (w : World) :
    Calls Tryz.prog 129 #[.agg #[.int .i64 wd, .slice am n1 cm, .int .i64 d, .slice aw n2 cw, .int .i64 nx], .slice ao n cap] w fun e w' => e = .returned (.bool (decide ((n : Int) = wd))) ∧ Below w.heap.size w w' := by
  obtain ⟨W, hW⟩ : ∃ W, w.alloc (.cells #[.int .i64 wd, .slice am n1 cm, .int .i64 d, .slice aw n2 cw, .int .i64 nx] 52) = W := ⟨_, rfl⟩
  have hB : Below w.heap.size w W := by rw [← hW]; exact (Below.refl _ _).alloc (Nat.le_refl _) _
  have k0 : W.cell? ⟨w.heap.size, 0, none⟩ = some (.int .i64 wd) := by rw [← hW]; simp
  have HB := hidP hB
  clear hB
  have hbe : ((n : Int) == wd) = decide ((n : Int) = wd) := by rw [Bool.eq_iff_iff]; simp
  go_enter Tryz.func129, Tryz.ntmps129
  go_wp2_with fail
  go_ret
  exact ⟨ret_bool (by simp), HB.out⟩

set_option maxRecDepth 100000 in
set_option maxHeartbeats 2000000 in
theorem iBars (n1 n2 : Nat) (am aw ao : Option Addr) (cm cw cap : Nat) (wd d nx : Int) (m : Mk) (w : World) :
    Calls Tryz.prog 138 #[.agg #[.int .i64 wd, .slice am n1 cm, .int .i64 d, .slice aw n2 cw, .int .i64 nx], .agg #[.int .i64 m.1, .slice ao m.2.length cap]] w fun e w' => e = .returned (.bool (!grB wd nx m)) ∧ Below w.heap.size w w' := by
  obtain ⟨W1, hW1⟩ : ∃ W, w.alloc (.cells #[.int .i64 wd, .slice am n1 cm, .int .i64 d, .slice aw n2 cw, .int .i64 nx] 52) = W := ⟨_, rfl⟩
  have hB1 : Below w.heap.size w W1 := by rw [← hW1]; exact (Below.refl _ _).alloc (Nat.le_refl _) _
  have s1 : W1.heap.size = w.heap.size + 1 := by rw [← hW1]; simp
  obtain ⟨W, hW⟩ : ∃ W, W1.alloc (.cells #[.int .i64 m.1, .slice ao m.2.length cap] 29) = W := ⟨_, rfl⟩
  have hB2 : Below W1.heap.size W1 W := by rw [← hW]; exact (Below.refl _ _).alloc (Nat.le_refl _) _
  have hl1 : w.heap.size < W1.heap.size := by omega
  have hsz : W.heap.size = w.heap.size + 1 + 1 := by rw [← hW]; simp [s1]
  have a0 : W.cell? ⟨w.heap.size, 0, none⟩ = some (.int .i64 wd) := (hB2.cell (p := ⟨w.heap.size, 0, none⟩) hl1).trans (by rw [← hW1]; simp)
  have a1 : W.cell? ⟨w.heap.size, 1, none⟩ = some (.slice am n1 cm) := (hB2.cell (p := ⟨w.heap.size, 1, none⟩) hl1).trans (by rw [← hW1]; simp)
  have a2 : W.cell? ⟨w.heap.size, 2, none⟩ = some (.int .i64 d) := (hB2.cell (p := ⟨w.heap.size, 2, none⟩) hl1).trans (by rw [← hW1]; simp)
  have a3 : W.cell? ⟨w.heap.size, 3, none⟩ = some (.slice aw n2 cw) := (hB2.cell (p := ⟨w.heap.size, 3, none⟩) hl1).trans (by rw [← hW1]; simp)
  have a4 : W.cell? ⟨w.heap.size, 4, none⟩ = some (.int .i64 nx) := (hB2.cell (p := ⟨w.heap.size, 4, none⟩) hl1).trans (by rw [← hW1]; simp)
  have b0 : W.cell? ⟨w.heap.size + 1, 0, none⟩ = some (.int .i64 m.1) := by rw [← hW, ← s1]; simp
  have b1 : W.cell? ⟨w.heap.size + 1, 1, none⟩ = some (.slice ao m.2.length cap) := by rw [← hW, ← s1]; simp
  have HWW : Hid ((w.alloc (.cells #[.int .i64 wd, .slice am n1 cm, .int .i64 d, .slice aw n2 cw, .int .i64 nx] 52)).alloc (.cells #[.int .i64 m.1, .slice ao m.2.length cap] 29) = W) := by show _ = _; rw [hW1, hW]
  have HB := hidP (chain hB1 hB2)
  have HK := hidP (fun (W' : World) (L : Below W.heap.size W W') => And.intro ((L.cell (p := ⟨w.heap.size, 4, none⟩) (by show w.heap.size < _; omega)).trans a4) ((L.cell (p := ⟨w.heap.size + 1, 0, none⟩) (by show w.heap.size + 1 < _; omega)).trans b0))
  have HC := hidP (iAsWide n1 n2 am aw ao cm cw cap m.2.length wd d nx W)
  have HG : Hid (grB wd nx m = (decide ((m.2.length : Int) = wd) && decide (m.1 < nx))) := rfl
  rw [HG.out]
  clear hB1 hB2 hW1 hW s1 hsz hl1 HG
  generalize decide ((m.2.length : Int) = wd) = r at *
  have hge : decide (m.1 ≥ nx) = !decide (m.1 < nx) := by rw [Bool.eq_iff_iff]; simp
  go_enter Tryz.func138, Tryz.ntmps138
  go_wp2_with fail
  rw [HWW.out]
  refine HC.out.mono ?_
  rintro e w2 ⟨rfl, L2⟩
  obtain ⟨x4, y0⟩ := HK.out _ L2
  have HL := hidP (chain HB.out L2)
  clear L2 HK a0 a1 a2 a3 a4 b0 b1 HWW
  cases r with
  | false =>
    go_wp2_with fail
    go_ret
    exact ⟨rfl, HL.out⟩
  | true =>
    go_wp2_with fail
    go_ret
    exact ⟨ret_bool (by simp), HL.out⟩

set_option maxRecDepth 100000 in
set_option maxHeartbeats 1000000 in
theorem pAnyBar (n1 n2 : Nat) (am aw ao : Option Addr) (cm cw cap : Nat) (wd d nx : Int) (hi : List Mk) (w : World) (hv : MView w ao hi) (hsh : MSmall hi) :
    Calls Tryz.prog 215 #[.slice ao hi.length cap, .func (.func 138) #[.agg #[.int .i64 wd, .slice am n1 cm, .int .i64 d, .slice aw n2 cw, .int .i64 nx]] #[]] w fun e w' => (∃ r : Int, e = .returned (.int .i64 r) ∧ decide (0 ≤ r) = !grsB wd nx hi) ∧ Below w.heap.size w w' := by
  have HF : Hid (∀ W k a c, Below w.heap.size w W → View W a (mat hi k) → Calls Tryz.prog 138 #[.agg #[.int .i64 wd, .slice am n1 cm, .int .i64 d, .slice aw n2 cw, .int .i64 nx], .agg #[.int .i64 (mid hi k), .slice a (mat hi k).length c]] W fun e w' => e = .returned (.bool (!grB wd nx (mnth hi k))) ∧ Below W.heap.size W w') := fun W k a c _ _ =>
    iBars n1 n2 am aw a cm cw c wd d nx (mnth hi k) W
  have HV := hidP hv
  have hn := hsh.1
  clear hv hsh
  go_enter Tryz.func215, Tryz.ntmps215
  go_wp2_with fail
  go_loopw [8] (fun i wr => ∃ k : Nat, k ≤ hi.length ∧ i = .int .i64 k ∧ (∀ j, j < k → grB wd nx (mnth hi j) = true) ∧ Below w.heap.size w wr) (fun i _ => hi.length - (intOf i).toNat)
  case atStart => exact ⟨0, Nat.zero_le _, rfl, fun j hj => by omega, Below.refl _ _⟩
  case round =>
    obtain ⟨k, hk, rfl, hall, L⟩ := hrel
    have HA := hidP hall
    have HL := hidP L
    have hvr := HV.out.next L
    clear hall L
    by_cases hlt : k < hi.length
    · obtain ⟨b, off, rfl, hb, hs⟩ := MSeg.seg hvr (by omega)
      obtain ⟨c0, pa, pc, c1, hpv⟩ := hs.at (i := k) hlt
      have HN := hidP (HF.out wr k pa pc HL.out hpv)
      clear hs hvr hpv
      rcases he : grB wd nx (mnth hi k) with _ | _
      · have HX := hidP (grsB_no hlt he)
        rw [he] at HN
        clear he
        generalize mid hi k = x at *
        generalize (mat hi k).length = xl at *
        go_wp2_with fail
        refine HN.out.mono ?_
        rintro e w2 ⟨rfl, L2⟩
        have HL2 := hidP (chain HL.out L2)
        clear L2
        go_wp2_with fail
        go_ret
        exact ⟨⟨(k : Int), rfl, by rw [HX.out]; simp⟩, HL2.out⟩
      · rw [he] at HN
        have HE := hidP he
        clear he
        generalize mid hi k = x at *
        generalize (mat hi k).length = xl at *
        go_wp2_with fail
        refine HN.out.mono ?_
        rintro e w2 ⟨rfl, L2⟩
        have HL2 := hidP (chain HL.out L2)
        clear L2
        go_wp2_with fail
        go_roundw
        case rel => exact ⟨k + 1, by omega, by go_num, fun j hj => by
          rcases Nat.lt_or_ge j k with h | h
          · exact HA.out j h
          · rw [show j = k by omega]; exact HE.out, HL2.out⟩
        case measure => simp [intOf]; omega
    · go_wp2_with fail
      go_ret
      obtain rfl : k = hi.length := by omega
      exact ⟨⟨-1, rfl, by rw [grsB_yes HA.out]; rfl⟩, HL.out⟩

set_option maxHeartbeats 400000 in
theorem pAnyBar2 (n1 n2 : Nat) (am aw ao : Option Addr) (cm cw cap : Nat) (wd d nx : Int) (hi : List Mk) (w : World) (hv : MView w ao hi) (hsh : MSmall hi) :
    Calls Tryz.prog 137 #[.slice ao hi.length cap, .func (.func 138) #[.agg #[.int .i64 wd, .slice am n1 cm, .int .i64 d, .slice aw n2 cw, .int .i64 nx]] #[]] w fun e w' => e = .returned (.bool (!grsB wd nx hi)) ∧ Below w.heap.size w w' := by
  have HI := hidP (pAnyBar n1 n2 am aw ao cm cw cap wd d nx hi w hv hsh)
  clear hv
  go_enter Tryz.func137, Tryz.ntmps137
  go_wp2_with fail
  refine HI.out.mono ?_
  rintro e w2 ⟨⟨r, rfl, hr⟩, L2⟩
  have HL2 := hidP L2
  clear L2
  go_wp2_with fail
  go_ret
  exact ⟨ret_bool (by rw [← hr]), HL2.out⟩

theorem inR_no {x lo hi : Int} (h : x < lo ∨ hi < x) : inR x lo hi = false := by
  rw [inR, Bool.and_eq_false_iff]
  rcases h with h | h
  · left; exact decide_eq_false (by omega)
  · right; exact decide_eq_false (by omega)
theorem inR_yes {x lo hi : Int} (h1 : ¬ x < lo) (h2 : ¬ hi < x) : inR x lo hi = true := by
  rw [inR, Bool.and_eq_true]
  exact ⟨decide_eq_true (by omega), decide_eq_true (by omega)⟩
theorem stB_wd {wd : Int} {ms : List Mk} {d : Int} {ts : List Wb} {nx : Int} (h : inR wd 1 4 = false) : stB wd ms d ts nx = false := by rw [stB, h]; rfl
theorem stB_nx {wd : Int} {ms : List Mk} {d : Int} {ts : List Wb} {nx : Int} (h : inR nx 1 1000000 = false) : stB wd ms d ts nx = false := by
  rw [stB, h]
  rcases inR wd 1 4 with _ | _ <;> rcases marksB ms with _ | _ <;> rcases towB d ts with _ | _ <;> rfl

set_option maxRecDepth 100000 in
set_option maxHeartbeats 4000000 in
theorem iStateOk_in (am aw : Option Addr) (cm cw : Nat) (wd : Int) (ms : List Mk) (d : Int) (ts : List Wb) (nx : Int) (w : World) (hm : MView w am ms) (hw : WbView true w aw ts) (hsm : StSmall ms ts) (h1 : ¬ wd < 1) (h2 : ¬ 4 < wd) (h3 : ¬ nx < 1) (h4 : ¬ 1000000 < nx) :
    Calls Tryz.prog 39 #[.agg #[.int .i64 wd, .slice am ms.length cm, .int .i64 d, .slice aw ts.length cw, .int .i64 nx]] w fun e w' => e = .returned (.bool (stB wd ms d ts nx)) ∧ Below w.heap.size w w' := by
  obtain ⟨W, hW⟩ : ∃ W, w.alloc (.cells #[.int .i64 wd, .slice am ms.length cm, .int .i64 d, .slice aw ts.length cw, .int .i64 nx] 52) = W := ⟨_, rfl⟩
  have hB : Below w.heap.size w W := by rw [← hW]; exact (Below.refl _ _).alloc (Nat.le_refl _) _
  have hI : StIn true W w.heap.size am aw cm cw wd ms d ts nx := by rw [← hW]; exact StIn.box hm hw
  have HB := hidP hB
  have HI := hidP hI
  have k0 := hI.c0
  have k1 := hI.c1
  have k4 := hI.c4
  have g2 : ¬ wd > 4 := h2
  have g4 : ¬ nx > 1000000 := h4
  have HMK := hidP (iMarks am cm ms W hI.mv hsm.1)
  have HTW := hidP (fun (W' : World) (L : Below W.heap.size W W') => iTowerOk aw cw d ts W' (hI.below L).wv hsm.2.1)
  have HSM := hidP hsm
  have HTT : Hid (towB d ts = true → ts.length = 4 ∧ webB (wnth ts 0).1 (wnth ts 0).2 = true) := fun h => by
    rw [towB, Bool.and_eq_true, Bool.and_eq_true, decide_eq_true_eq, List.all_eq_true] at h
    exact ⟨h.2.1, towAt_web' (h.2.2 0 (by simp))⟩
  obtain ⟨b2, hb2⟩ : ∃ b, marksB ms = b := ⟨_, rfl⟩
  obtain ⟨b3, hb3⟩ : ∃ b, towB d ts = b := ⟨_, rfl⟩
  have HV : Hid (stB wd ms d ts nx = (b2 && (b3 && (grsB wd nx (wnth ts 0).1 && bearB (wnth ts 0).1 ms)))) := by show _ = _; rw [stB, inR_yes h1 h2, inR_yes h3 h4, ← hb2, ← hb3]; rfl
  rw [hb2] at HMK
  rw [hb3] at HTW HTT
  clear hm hw hsm hB hI hb2 hb3
  go_enter Tryz.func39, Tryz.ntmps39
  go_wp2_with fail
  refine HMK.out.mono ?_
  rintro e w1 ⟨rfl, L1⟩
  have HL1 := hidP L1
  clear L1 hW k0 k1 k4
  cases b2 with
  | false =>
    go_wp2_with fail
    go_ret
    exact ⟨ret_bool (by rw [HV.out]; rfl), chain HB.out HL1.out⟩
  | true =>
  have c2 := (HI.out.below HL1.out).c2
  have c3 := (HI.out.below HL1.out).c3
  go_wp2_with fail
  refine (HTW.out _ HL1.out).mono ?_
  rintro e w2 ⟨rfl, L2⟩
  have HL2 := hidP (chain HL1.out L2)
  clear L2 HL1 c2 c3
  cases b3 with
  | false =>
    go_wp2_with fail
    go_ret
    exact ⟨ret_bool (by rw [HV.out]; rfl), chain HB.out HL2.out⟩
  | true =>
  have hI2 := HI.out.below HL2.out
  have HLEN := hidP (HTT.out (by trivial)).1
  have HWB := hidP (web_marks (HTT.out (by trivial)).2)
  obtain ⟨b, off, gm, gc, al, cl, rfl, hb, q0, q1, hgm, hgl, -⟩ := hI2.wv.web (n := 0) (by rw [HLEN.out]; omega)
  rw [Nat.zero_mul, Nat.add_zero] at q0 q1
  have c0 := hI2.c0
  have c1 := hI2.c1
  have c2 := hI2.c2
  have c3 := hI2.c3
  have c4 := hI2.c4
  rw [HLEN.out] at c3
  obtain ⟨X, hX⟩ : ∃ X, w2.heap.size = X := ⟨_, rfl⟩
  obtain ⟨V, hV⟩ : ∃ V, w2.alloc (.cells #[.slice gm (wnth ts 0).1.length gc, .slice al (wnth ts 0).2.length cl] 47) = V := ⟨_, rfl⟩
  have LV : Below w2.heap.size w2 V := by rw [← hV]; exact (Below.refl _ _).alloc (Nat.le_refl _) _
  have y0 : V.cell? ⟨X, 0, none⟩ = some (.slice gm (wnth ts 0).1.length gc) := by rw [← hV, ← hX]; simp
  have y1 : V.cell? ⟨X, 1, none⟩ = some (.slice al (wnth ts 0).2.length cl) := by rw [← hV, ← hX]; simp
  have hIV := hI2.below LV
  replace c0 := hIV.c0
  replace c1 := hIV.c1
  replace c2 := hIV.c2
  replace c3' := hIV.c3
  replace c4 := hIV.c4
  rw [HLEN.out] at c3'
  have hXV : X < V.heap.size := by rw [← hV, ← hX]; simp
  have HC := hidP (pAnyBar2 ms.length 4 am (some ⟨b, off, none⟩) gm cm cw gc wd d nx (wnth ts 0).1 V (hgm.next LV) (HSM.out.2.1.2 0).1)
  have HC2 := hidP (fun (W' : World) (L : Below V.heap.size V W') => iBears gm al am none gc cl cm 0 0 (wnth ts 0).1 (wnth ts 0).2 ms W' (hgm.next (chain LV L)) (hgl.next (chain LV L)) HWB.out (HSM.out.2.1.2 0).1 ((hIV.below L).mv) HSM.out.1)
  have HLV := hidP (chain HB.out (chain HL2.out LV))
  have HIV := hidP hIV
  have HK := hidP (fun (W' : World) (L : Below V.heap.size V W') => And.intro ((L.cell (p := ⟨X, 0, none⟩) hXV).trans y0) ((L.cell (p := ⟨X, 1, none⟩) hXV).trans y1))
  obtain ⟨r, hr⟩ : ∃ r, grsB wd nx (wnth ts 0).1 = r := ⟨_, rfl⟩
  obtain ⟨r2, hr2⟩ : ∃ r, bearB (wnth ts 0).1 ms = r := ⟨_, rfl⟩
  rw [hr] at HC HV
  rw [hr2] at HC2 HV
  clear hI2 hIV hgm hgl LV HTW HI HWB hr hr2
  generalize (wnth ts 0).1.length = l1 at *
  generalize (wnth ts 0).2.length = l2 at *
  rw [HLEN.out] at *
  go_wp2_with fail
  refine HC.out.mono ?_
  rintro e w4 ⟨rfl, L4⟩
  obtain ⟨u0, u1⟩ := HK.out _ L4
  have d1 := (HIV.out.below L4).c1
  have HL4 := hidP L4
  have HD := hidP (HC2.out _ L4)
  clear L4 hV y0 y1 c0 c1 c2 c3 c3' c4 q0 q1 HK HIV HC2 HC
  cases r with
  | false =>
    go_wp2_with fail
    go_ret
    exact ⟨ret_bool (by rw [HV.out]; rfl), chain HLV.out HL4.out⟩
  | true =>
  go_wp2_with fail
  refine HD.out.mono ?_
  rintro e w5 ⟨rfl, L5⟩
  have HL5 := hidP (chain HL4.out L5)
  clear L5 u0 u1 d1
  go_wp2_with fail
  go_ret
  exact ⟨ret_bool (by rw [HV.out]; rfl), chain HLV.out HL5.out⟩

set_option maxRecDepth 100000 in
set_option maxHeartbeats 4000000 in
theorem iStateOk (am aw : Option Addr) (cm cw : Nat) (wd : Int) (ms : List Mk) (d : Int) (ts : List Wb) (nx : Int) (w : World) (hm : MView w am ms) (hw : WbView true w aw ts) (hsm : StSmall ms ts) :
    Calls Tryz.prog 39 #[.agg #[.int .i64 wd, .slice am ms.length cm, .int .i64 d, .slice aw ts.length cw, .int .i64 nx]] w fun e w' => e = .returned (.bool (stB wd ms d ts nx)) ∧ Below w.heap.size w w' := by
  by_cases hbad : wd < 1 ∨ 4 < wd ∨ nx < 1 ∨ 1000000 < nx
  · obtain ⟨W, hW⟩ : ∃ W, w.alloc (.cells #[.int .i64 wd, .slice am ms.length cm, .int .i64 d, .slice aw ts.length cw, .int .i64 nx] 52) = W := ⟨_, rfl⟩
    have hB : Below w.heap.size w W := by rw [← hW]; exact (Below.refl _ _).alloc (Nat.le_refl _) _
    have hI : StIn true W w.heap.size am aw cm cw wd ms d ts nx := by rw [← hW]; exact StIn.box hm hw
    have HB := hidP hB
    have k0 := hI.c0
    have k4 := hI.c4
    have HV : Hid (stB wd ms d ts nx = false) := by
      show _ = _
      rcases hbad with h | h | h | h
      · exact stB_wd (inR_no (Or.inl h))
      · exact stB_wd (inR_no (Or.inr h))
      · exact stB_nx (inR_no (Or.inl h))
      · exact stB_nx (inR_no (Or.inr h))
    rw [HV.out]
    clear hm hw hsm hB hI HV
    by_cases h1 : wd < 1
    · clear hbad
      go_enter Tryz.func39, Tryz.ntmps39
      go_wp2_with fail
      go_ret
      exact ⟨rfl, HB.out⟩
    by_cases h2 : wd > 4
    · clear hbad
      go_enter Tryz.func39, Tryz.ntmps39
      go_wp2_with fail
      go_ret
      exact ⟨rfl, HB.out⟩
    by_cases h3 : nx < 1
    · clear hbad
      go_enter Tryz.func39, Tryz.ntmps39
      go_wp2_with fail
      go_ret
      exact ⟨rfl, HB.out⟩
    have h4 : nx > 1000000 := by omega
    clear hbad
    go_enter Tryz.func39, Tryz.ntmps39
    go_wp2_with fail
    go_ret
    exact ⟨rfl, HB.out⟩
  · exact iStateOk_in am aw cm cw wd ms d ts nx w hm hw hsm (by omega) (by omega) (by omega) (by omega)
end Go.Proofs.YtaaagmgglolibaaGreat
namespace Go.Proofs.YtaaagmgglolibaaGreat
open Go Go.RowKit

theorem stB_parts {wd : Int} {ms : List Mk} {d : Int} {ts : List Wb} {nx : Int} (h : stB wd ms d ts nx = true) : marksB ms = true ∧ towB d ts = true ∧ grsB wd nx (wnth ts 0).1 = true ∧ bearB (wnth ts 0).1 ms = true := by
  simp only [stB, Bool.and_eq_true] at h
  exact ⟨h.2.1, h.2.2.1, h.2.2.2.2.1, h.2.2.2.2.2⟩
end Go.Proofs.YtaaagmgglolibaaGreat
namespace Go.Proofs.YtaaagmgglolibaaGreat
open Go Go.RowKit

set_option maxRecDepth 100000 in
set_option maxHeartbeats 1000000 in
theorem markWSk (b cap : Nat) (k0 : Int) (h0 : 1 ≤ k0) (h00 : k0 ≤ 2000000) (ts : List Wb) (lo : Nat → Nat) (w : World) (hp : WbPart w b ts.length ts.length ts lo) (hsm : WbSmall ts) (htot : ttot ts ≤ 1048576) :
    Calls Tryz.prog 165 #[.slice (some ⟨b, 0, none⟩) ts.length cap, .int .i64 k0] w fun e w' => (∃ k1 : Int, 1 ≤ k1 ∧ k1 ≤ 10000000 ∧ e = .returned (.int .i64 k1)) ∧ GIn (lo 0) (lo ts.length) w w' := by
  obtain ⟨hn, hat⟩ := hsm
  have HSM := hidP hat
  have HP := hidP hp
  have HKE : Hid (∀ k : Nat, tot (fun j => wtot (wnth ts j)) (k + 1) = tot (fun j => wtot (wnth ts j)) k + wtot (wnth ts k)) := fun k => rfl
  have HTM : Hid (∀ k, k ≤ ts.length → tot (fun j => wtot (wnth ts j)) k ≤ 1048576) := fun k hk => by
    have h1 : ∀ m, k ≤ m → tot (fun j => wtot (wnth ts j)) k ≤ tot (fun j => wtot (wnth ts j)) m := by
      intro m
      induction m with
      | zero => intro h; rw [show k = 0 by omega]; exact Nat.le_refl _
      | succ m ih =>
        intro h
        rcases Nat.lt_or_ge k (m + 1) with e | e
        · exact Nat.le_trans (ih (by omega)) (Nat.le_add_right _ _)
        · rw [show k = m + 1 by omega]; exact Nat.le_refl _
    have := h1 ts.length hk
    unfold ttot at htot
    omega
  clear hat hp htot
  go_enter Tryz.func165, Tryz.ntmps165
  go_wp2
  go_loopw [1, 5] (fun kk i wr => ∃ (k : Nat) (k1 : Int), k ≤ ts.length ∧ i = .int .i64 k ∧ kk = .int .i64 k1 ∧ 1 ≤ k1 ∧ k1 ≤ k0 + (tot (fun j => wtot (wnth ts j)) k : Nat) ∧ GIn (lo 0) (lo k) w wr) (fun _ i _ => ts.length - (intOf i).toNat)
  case atStart => exact ⟨0, k0, Nat.zero_le _, rfl, rfl, h0, by simp [tot], GIn.refl _ _ _⟩
  case round =>
    obtain ⟨k, k1, hk, rfl, rfl, hk0, hk1, hg⟩ := hrel
    have HK1 := hidP hk1
    have hkb : k1 ≤ 3048577 := by have := HTM.out k hk; omega
    clear hk1
    have HG := hidP hg
    have hb := HP.out.lt
    have hf := HP.out.first
    by_cases hlt : k < ts.length
    · obtain ⟨bm, bl, c0, c1, hown⟩ := HP.out.at_ k hlt
      have h0k := HP.out.lo_le k (by omega)
      have hkl := HP.out.le_last (k + 1) (by omega)
      have hmo := HP.out.mono k hlt
      have hlast := HP.out.last
      have eb := hg.2.2.2.2 b hb (Or.inl hf)
      have hzr := hg.2.2.2.1
      have c0r := (World.cell?_of_block (a := ⟨b, k * 2, none⟩) eb).trans c0
      have c1r := (World.cell?_of_block (a := ⟨b, k * 2 + 1, none⟩) eb).trans c1
      have HOW := hidP (hown.far (w' := wr) hzr (fun j hj1 hj2 => hg.2.2.2.2 j (by omega) (Or.inr hj1)))
      have hlo := hown.lo
      have hblt := hown.lt
      have hbh : bl < lo (k + 1) := hown.co.2.1
      have hbmh : bm < wr.heap.size := by have := hown.hi; omega
      have HM := hidP (markMg bm bl (wnth ts k).1.length k1 (wnth ts k).1 wr HOW.out.mo (HSM.out k).1 hk0 (by omega))
      have HWT : Hid (wtot (wnth ts k) = mtot (wnth ts k).1 + ctot (wnth ts k).2) := rfl
      have hmt : (mtot (wnth ts k).1 : Int) ≤ 1048576 := by have := HTM.out (k + 1) (by omega); have := HKE.out k; have := HWT.out; omega
      clear hg hown c0 c1 eb
      generalize hml : (wnth ts k).1.length = ml at *
      generalize hll : (wnth ts k).2.length = ll at *
      go_wp2_with fail
      refine HM.out.mono ?_
      rintro e w2 ⟨rfl, g2⟩
      have eb2 := g2.2.2.2.2 b (by omega) (Or.inl (by omega))
      have c1s := (World.cell?_of_block (a := ⟨b, k * 2 + 1, none⟩) eb2).trans c1r
      have HC := hidP (markCg bl (lo (k + 1)) ll (k1 + mtot (wnth ts k).1) (wnth ts k).2 w2 (HOW.out.co.far g2.2.2.2.1 (fun i h1 h2 h3 => g2.2.2.2.2 i h3 (Or.inr h1))) (HSM.out k).2 (by omega) (by omega))
      rw [hll] at HC
      have HG2 := hidP (gin_trans (l := lo 0) (h := lo (k + 1)) HG.out g2 (Nat.le_refl _) (by omega) (by omega) (by omega))
      clear g2 c0r c1r eb2 HM HOW hll hml
      obtain ⟨mt, hmtE⟩ : ∃ mt : Int, (mtot (wnth ts k).1 : Int) = mt := ⟨_, rfl⟩
      rw [hmtE] at HC ⊢
      have HME := hidP hmtE
      have hmt0 : 0 ≤ mt := by omega
      clear hmtE hmt
      go_wp2_with fail
      refine HC.out.mono ?_
      rintro e w3 ⟨⟨k3, hk3, hk4, rfl⟩, g3⟩
      have HG3 := hidP (gin_trans (l := lo 0) (h := lo (k + 1)) HG2.out g3 (Nat.le_refl _) (by omega) (Nat.le_refl _) (Nat.le_refl _))
      clear g3 c1s HC
      go_wp2_with fail
      go_roundw
      case rel => exact ⟨k + 1, k3, by omega, by go_num, rfl, by omega, by have := HK1.out; have := HKE.out k; have := HWT.out; have := HME.out; omega, HG3.out⟩
      case measure => simp [intOf]; omega
    · go_wp2
      go_ret
      obtain rfl : k = ts.length := by omega
      exact ⟨⟨k1, hk0, by omega, rfl⟩, hg⟩

set_option maxRecDepth 100000 in
set_option maxHeartbeats 1000000 in
theorem markTwk (b cap : Nat) (k0 : Int) (h0 : 1 ≤ k0) (h00 : k0 ≤ 2000000) (d : Int) (ts : List Wb) (lo : Nat → Nat) (w : World) (hp : WbPart w b ts.length ts.length ts lo) (hsm : WbSmall ts) (htot : ttot ts ≤ 1048576) :
    Calls Tryz.prog 70 #[.agg #[.int .i64 d, .slice (some ⟨b, 0, none⟩) ts.length cap], .int .i64 k0] w fun e w' => (∃ k1 : Int, 1 ≤ k1 ∧ k1 ≤ 10000000 ∧ e = .returned (.int .i64 k1)) ∧ GIn (lo 0) (lo ts.length) w w' := by
  obtain ⟨W, hW⟩ : ∃ W, w.alloc (.cells #[.int .i64 d, .slice (some ⟨b, 0, none⟩) ts.length cap] 26) = W := ⟨_, rfl⟩
  have hB : Below w.heap.size w W := by rw [← hW]; exact (Below.refl _ _).alloc (Nat.le_refl _) _
  have k1 : W.cell? ⟨w.heap.size, 1, none⟩ = some (.slice (some ⟨b, 0, none⟩) ts.length cap) := by rw [← hW]; simp
  have HC := hidP (markWSk b cap k0 h0 h00 ts lo W (hp.next hB) hsm htot)
  have HB := hidP hB
  clear hp hB hsm htot
  go_enter Tryz.func70, Tryz.ntmps70
  go_wp2_with fail
  refine HC.out.mono ?_
  rintro e w1 ⟨⟨r, hr1, hr2, rfl⟩, g1⟩
  have HG := hidP g1
  clear g1 hW k1
  go_wp2_with fail
  go_ret
  refine ⟨⟨r, hr1, hr2, rfl⟩, HG.out.1.trans HB.out.os, HG.out.2.1.trans HB.out.tape, HG.out.2.2.1.trans HB.out.output, Nat.le_trans HB.out.size HG.out.2.2.2.1, fun i hi hc => ?_⟩
  exact (HG.out.2.2.2.2 i (by have := HB.out.size; omega) hc).trans (HB.out.block i hi)

set_option maxRecDepth 100000 in
set_option maxHeartbeats 2000000 in
theorem markSt (bm hi b : Nat) (wd : Int) (ms : List Mk) (d : Int) (ts : List Wb) (nx : Int) (lo : Nat → Nat) (w : World) (ho : StOwn w bm hi b ms ts lo) (hsm : StSmall ms ts) :
    Calls Tryz.prog 78 #[.agg #[.int .i64 wd, .slice (some ⟨bm, 0, none⟩) ms.length ms.length, .int .i64 d, .slice (some ⟨b, 0, none⟩) ts.length ts.length, .int .i64 nx], .int .i64 1] w fun e w' => (∃ k1 : Int, 1 ≤ k1 ∧ k1 ≤ 10000000 ∧ e = .returned (.int .i64 k1)) ∧ GIn bm (lo ts.length) w w' := by
  obtain ⟨W, hW⟩ : ∃ W, w.alloc (.cells #[.int .i64 wd, .slice (some ⟨bm, 0, none⟩) ms.length ms.length, .int .i64 d, .slice (some ⟨b, 0, none⟩) ts.length ts.length, .int .i64 nx] 52) = W := ⟨_, rfl⟩
  have hB : Below w.heap.size w W := by rw [← hW]; exact (Below.refl _ _).alloc (Nat.le_refl _) _
  have hI : StIn true W w.heap.size (some ⟨bm, 0, none⟩) (some ⟨b, 0, none⟩) ms.length ts.length wd ms d ts nx := by rw [← hW]; exact StIn.box ho.mview ho.wview
  have hoW := ho.next hB
  have hlast := ho.webs.last
  have hfi := ho.webs.first
  have hll := ho.webs.le_last 0 (Nat.zero_le _)
  have h1 := ho.first
  have h2 := ho.last
  have hmt : (mtot ms : Int) ≤ 1048576 := by have := hsm.2.2; omega
  have hmt0 : (0 : Int) ≤ (mtot ms : Int) := Int.natCast_nonneg _
  have k1 := hI.c1
  have HI := hidP hI
  have HB := hidP hB
  have HO := hidP hoW
  have HM := hidP (markMg bm hi ms.length 1 ms W hoW.over hsm.1 (by omega) (by omega))
  have HT := hidP (fun (W' : World) (hp : WbPart W' b ts.length ts.length ts lo) => markTwk b ts.length (1 + mtot ms) (by omega) (by omega) d ts lo W' hp hsm.2.1 (by have := hsm.2.2; omega))
  clear ho hoW hB hI hsm
  obtain ⟨mt, hmtE⟩ : ∃ mt : Int, (mtot ms : Int) = mt := ⟨_, rfl⟩
  rw [hmtE] at HM HT hmt hmt0
  clear hmtE
  go_enter Tryz.func78, Tryz.ntmps78
  go_wp2_with fail
  refine HM.out.mono ?_
  rintro e w1 ⟨rfl, g1⟩
  have hlt := HI.out.lt
  have eb := g1.2.2.2.2 w.heap.size hlt (Or.inr (by omega))
  have c2 := (World.cell?_of_block (a := ⟨w.heap.size, 2, none⟩) eb).trans HI.out.c2
  have c3 := (World.cell?_of_block (a := ⟨w.heap.size, 3, none⟩) eb).trans HI.out.c3
  have HC := hidP (HT.out w1 (HO.out.webs.far g1.2.2.2.1 (fun i h1 h3 => g1.2.2.2.2 i h3 (Or.inr (by omega)))))
  have HG := hidP g1
  clear g1 eb k1 hW HM HT
  go_wp2_with fail
  refine HC.out.mono ?_
  rintro e w2 ⟨⟨k2, hk1, hk2, rfl⟩, g2⟩
  have HG2 := hidP (gin_trans (l := bm) (h := lo ts.length) HG.out g2 (Nat.le_refl _) (by omega) (by omega) (Nat.le_refl _))
  clear g2 c2 c3 HC
  go_wp2_with fail
  go_ret
  refine ⟨⟨k2, hk1, hk2, rfl⟩, HG2.out.1.trans HB.out.os, HG2.out.2.1.trans HB.out.tape, HG2.out.2.2.1.trans HB.out.output, Nat.le_trans HB.out.size HG2.out.2.2.2.1, fun i hi hc => ?_⟩
  exact (HG2.out.2.2.2.2 i (by have := HB.out.size; omega) hc).trans (HB.out.block i hi)
end Go.Proofs.YtaaagmgglolibaaGreat
namespace Go.Proofs.YtaaagmgglolibaaGreat
open Go Go.RowKit Go.Deep

set_option maxRecDepth 100000 in
theorem okWide_state {W : World} {base : Nat} {v : Value} (h : Value.okWide Tryz.prog W .any base 104 v) : ∃ cs : Array Value, v = .agg cs ∧ cs.size = 5 := by
  unfold Value.okWide at h
  rw [Tryz.underlying104] at h
  obtain ⟨cs, rfl, hs, _⟩ := h
  exact ⟨cs, rfl, hs.trans (by kernel_rfl)⟩
theorem array5 {α : Type} {cs : Array α} (h : cs.size = 5) : ∃ c0 c1 c2 c3 c4, cs = #[c0, c1, c2, c3, c4] := by
  obtain ⟨l⟩ := cs
  match l, h with
  | [c0, c1, c2, c3, c4], _ => exact ⟨c0, c1, c2, c3, c4, rfl⟩
theorem state_view {H : Type} {enc : TypeId × Value → H} {W : World} {n : Nat} {cs : Array Value} {x : DataW H × List MemPlace} (hs : cs.size = 5) (h : DataW.trod enc Tryz.prog W 0 (fun _ => true) true n 104 cs.toList = some x) :
    ∃ (wd : Int) (ms : List Mk) (d : Int) (ts : List Wb) (nx : Int) (am : Option Addr) (cm : Nat) (aw : Option Addr) (cw : Nat), cs = #[.int .i64 wd, .slice am ms.length cm, .int .i64 d, .slice aw ts.length cw, .int .i64 nx] ∧ MView W am ms ∧ WbView false W aw ts ∧ StFit ms ts := by
  obtain ⟨u0, u1, u2, u3, u4, rfl⟩ := array5 hs
  obtain ⟨y0, y1, y2, y3, m, _, hl, t0, t1, t2, t3⟩ := Go.Joins.trod_struct4 Tryz.underlying104 h
  have e0 : Tryz.prog.cellsOf 2 = 1 := by kernel_rfl
  have e1 : Tryz.prog.cellsOf 102 = 1 := by kernel_rfl
  have e2 : Tryz.prog.cellsOf 92 = 2 := by kernel_rfl
  simp only [e0, e1, e2] at t0 t1 t2 t3
  obtain ⟨z, hz, _, _⟩ := DataW.trod_int Tryz.underlying2 (by simpa using t0)
  simp at hz
  obtain ⟨z', hz', _, _⟩ := DataW.trod_int Tryz.underlying2 (by simpa using t3)
  simp at hz'
  have t1' : DataW.trod enc Tryz.prog W 0 (fun _ => true) true m 102 [u1] = some y1 := by simpa using t1
  obtain ⟨am, cm, ms, rfl, hm, hn, hat⟩ := one_marks t1'
  have t2' : DataW.trod enc Tryz.prog W 0 (fun _ => true) true m 92 (#[u2, u3] : Array Value).toList = some y2 := by simpa using t2
  obtain ⟨d, ts, aw, cw, he, hw, hf⟩ := tower_view rfl t2'
  injection he with he
  injection he with he2 he
  injection he with he3 he
  subst hz hz' he2 he3
  exact ⟨z, ms, d, ts, z', am, cm, aw, cw, rfl, hm, hw, hn, hat, hf⟩
end Go.Proofs.YtaaagmgglolibaaGreat
