/-
  The laws' own helpers over a desk: szDesk, toDesk, eqDesk.
  The laws' own copy of a desk: toDesk.
-/
import Derived.Test.YtbmljcpeonopmaaDkOkZz
import Derived.Test.YtbmljcpeonopmaaStMemZz
namespace Go.Proofs.Ytbmljcpeonopmaa
open Go Go.RowKit

def DkSmall (ms : List Mk) (ts : List Wb) (ss : List ThS7) : Prop := StSmall ms ts ∧ ss.length ≤ 1048576
theorem six_cells {w : World} {q : Nat} {a b c d e f : Value} {t : TypeId} (h : w.heap[q]? = some (.cells #[a, b, c, d, e, f] t)) : w.cell? ⟨q, 0, none⟩ = some a ∧ w.cell? ⟨q, 1, none⟩ = some b ∧ w.cell? ⟨q, 2, none⟩ = some c ∧ w.cell? ⟨q, 3, none⟩ = some d ∧ w.cell? ⟨q, 4, none⟩ = some e ∧ w.cell? ⟨q, 5, none⟩ = some f ∧ (∀ j, w.frozen? ⟨q, j, none⟩ = false) ∧ q < w.heap.size := by
  refine ⟨by simp [World.cell?, h], by simp [World.cell?, h], by simp [World.cell?, h], by simp [World.cell?, h], by simp [World.cell?, h], by simp [World.cell?, h], fun j => by simp [World.frozen?, h], ?_⟩
  rcases Nat.lt_or_ge q w.heap.size with e | e
  · exact e
  · rw [Array.getElem?_eq_none e] at h; cases h
theorem six_five {w : World} {q : Nat} {a b c d e f a' b' c' d' e' : Value} {t : TypeId} (h : w.heap[q]? = some (.cells #[a, b, c, d, e, f] t)) : (((((w.setCell ⟨q, 0, none⟩ a').setCell ⟨q, 1, none⟩ b').setCell ⟨q, 2, none⟩ c').setCell ⟨q, 3, none⟩ d').setCell ⟨q, 4, none⟩ e').heap[q]? = some (.cells #[a', b', c', d', e', f] t) := by
  simp [World.setCell, Array.getElem?_modify, h]
theorem six_all {w : World} {q : Nat} {a b c d e f a' b' c' d' e' f' : Value} {t : TypeId} (h : w.heap[q]? = some (.cells #[a, b, c, d, e, f] t)) : ((((((w.setCell ⟨q, 0, none⟩ a').setCell ⟨q, 1, none⟩ b').setCell ⟨q, 2, none⟩ c').setCell ⟨q, 3, none⟩ d').setCell ⟨q, 4, none⟩ e').setCell ⟨q, 5, none⟩ f').heap[q]? = some (.cells #[a', b', c', d', e', f'] t) := by
  simp [World.setCell, Array.getElem?_modify, h]
theorem six_far5 {w : World} {q b : Nat} {a' b' c' d' e' : Value} (h : b ≠ q) : (((((w.setCell ⟨q, 0, none⟩ a').setCell ⟨q, 1, none⟩ b').setCell ⟨q, 2, none⟩ c').setCell ⟨q, 3, none⟩ d').setCell ⟨q, 4, none⟩ e').heap[b]? = w.heap[b]? := by
  rw [Below.heap_setCell _ ⟨q, 4, none⟩ _ b h, Below.heap_setCell _ ⟨q, 3, none⟩ _ b h, Below.heap_setCell _ ⟨q, 2, none⟩ _ b h, Below.heap_setCell _ ⟨q, 1, none⟩ _ b h, Below.heap_setCell _ ⟨q, 0, none⟩ _ b h]
theorem six_far {w : World} {q b : Nat} {a' b' c' d' e' f' : Value} (h : b ≠ q) : ((((((w.setCell ⟨q, 0, none⟩ a').setCell ⟨q, 1, none⟩ b').setCell ⟨q, 2, none⟩ c').setCell ⟨q, 3, none⟩ d').setCell ⟨q, 4, none⟩ e').setCell ⟨q, 5, none⟩ f').heap[b]? = w.heap[b]? := by
  rw [Below.heap_setCell _ ⟨q, 5, none⟩ _ b h]; exact six_far5 h

set_option maxRecDepth 100000 in
set_option maxHeartbeats 1000000 in
theorem szDk (v : Bool) (am aw aq : Option Addr) (cm cw cs : Nat) (wd : Int) (ms : List Mk) (d : Int) (ts : List Wb) (nx : Int) (ss : List ThS7) (w : World) (hm : MView w am ms) (hw : WbView v w aw ts) (hs : TViewS7 w aq ss) (hf : StFit ms ts) (hn : ss.length ≤ maxLen) :
    Calls Try.prog 19 #[.agg #[.int .i64 wd, .slice am ms.length cm, .int .i64 d, .slice aw ts.length cw, .int .i64 nx, .slice aq ss.length cs], .int .i64 1048576] w fun e w' => ∃ r, e = .returned (.int .i64 r) ∧ r ≤ 1048576 ∧ (r < 0 ∨ DkSmall ms ts ss) ∧ Below w.heap.size w w' := by
  obtain ⟨W, hW⟩ : ∃ W, w.alloc (.cells #[.int .i64 wd, .slice am ms.length cm, .int .i64 d, .slice aw ts.length cw, .int .i64 nx, .slice aq ss.length cs] 52) = W := ⟨_, rfl⟩
  have hB : Below w.heap.size w W := by rw [← hW]; exact (Below.refl _ _).alloc (Nat.le_refl _) _
  have hI : DkIn v W w.heap.size am aw aq cm cw cs wd ms d ts nx ss := by rw [← hW]; exact DkIn.box hm hw hs
  have HC := hidP (szSt v am aw cm cw wd ms d ts nx W hI.mv hI.wv hf)
  have HS := hidP (fun (r : Int) (W' : World) (h0 : 0 ≤ r) (h1 : r ≤ 1048576) => szTSS7 aq ss.length cs r W' hn h0 h1)
  have HB := hidP hB
  have HI := hidP hI
  have HCU := hidP (fun (r : Int) (h0 : 0 ≤ r) (h1 : r ≤ 1048576) => cutV_le (left := r) ss.length (by omega) h1)
  have HCS := hidP (fun (r : Int) (h1 : r ≤ 1048576) (h : 0 ≤ cutV r ss.length) => cutV_small (left := r) (n := ss.length) h1 h)
  have k0 := hI.c0
  have k1 := hI.c1
  have k2 := hI.c2
  have k3 := hI.c3
  have k4 := hI.c4
  clear hm hw hs hB hI hf
  go_enter Try.func19, Try.ntmps19
  go_wp2_with fail
  refine HC.out.mono ?_
  rintro e w1 ⟨r, rfl, hr1, hr, L1⟩
  clear hW k0 k1 k2 k3 k4
  by_cases hneg : r < 0
  · go_wp2_with fail
    go_ret
    exact ⟨-1, rfl, by omega, Or.inl (by omega), chain HB.out L1⟩
  have hsm : StSmall ms ts := by rcases hr with h | h; exact absurd h hneg; exact h
  have HSM := hidP hsm
  have k5 := (HI.out.below L1).c5
  have HB1 := hidP (chain HB.out L1)
  have HS1 := hidP (HS.out r w1 (by omega) hr1)
  have h2 := HCU.out r (by omega) hr1
  have h3 := HCS.out r hr1
  obtain ⟨q, hq⟩ : ∃ q, cutV r ss.length = q := ⟨_, rfl⟩
  rw [hq] at HS1 h2 h3
  have H3 := hidP h3
  clear hr L1 hsm hq h3
  go_wp2_with fail
  refine HS1.out.mono ?_
  rintro e w2 ⟨rfl, hw2⟩
  have hw3 := hw2.symm
  subst hw3
  by_cases hneg2 : q < 0
  · go_wp2_with fail
    go_ret
    exact ⟨-1, rfl, by omega, Or.inl (by omega), HB1.out⟩
  · go_wp2_with fail
    go_ret
    exact ⟨q, rfl, h2.2, Or.inr ⟨HSM.out, H3.out (by omega)⟩, HB1.out⟩

set_option maxRecDepth 100000 in
set_option maxHeartbeats 1000000 in
theorem eqDk (v v' : Bool) (am aw aq : Option Addr) (cm cw cs : Nat) (wd : Int) (ms : List Mk) (d : Int) (ts : List Wb) (nx : Int) (ss : List ThS7) (bm bw bq : Option Addr) (dm dw ds : Nat) (w : World) (hm : MView w am ms) (hw : WbView v w aw ts) (hs : TViewS7 w aq ss) (hm' : MView w bm ms) (hw' : WbView v' w bw ts) (hs' : TViewS7 w bq ss) (hsm : DkSmall ms ts ss) :
    Calls Try.prog 23 #[.agg #[.int .i64 wd, .slice am ms.length cm, .int .i64 d, .slice aw ts.length cw, .int .i64 nx, .slice aq ss.length cs], .agg #[.int .i64 wd, .slice bm ms.length dm, .int .i64 d, .slice bw ts.length dw, .int .i64 nx, .slice bq ss.length ds]] w fun e w' => e = .returned (.bool true) ∧ Below w.heap.size w w' := by
  obtain ⟨W1, hW1⟩ : ∃ W, w.alloc (.cells #[.int .i64 wd, .slice am ms.length cm, .int .i64 d, .slice aw ts.length cw, .int .i64 nx, .slice aq ss.length cs] 57) = W := ⟨_, rfl⟩
  have hB1 : Below w.heap.size w W1 := by rw [← hW1]; exact (Below.refl _ _).alloc (Nat.le_refl _) _
  have hI1 : DkIn v W1 w.heap.size am aw aq cm cw cs wd ms d ts nx ss := by rw [← hW1]; exact DkIn.box hm hw hs
  obtain ⟨W, hW⟩ : ∃ W, W1.alloc (.cells #[.int .i64 wd, .slice bm ms.length dm, .int .i64 d, .slice bw ts.length dw, .int .i64 nx, .slice bq ss.length ds] 57) = W := ⟨_, rfl⟩
  have hB2 : Below W1.heap.size W1 W := by rw [← hW]; exact (Below.refl _ _).alloc (Nat.le_refl _) _
  have hsz : W1.heap.size = w.heap.size + 1 := by rw [← hW1]; simp
  have hI' : DkIn v' W W1.heap.size bm bw bq dm dw ds wd ms d ts nx ss := by rw [← hW]; exact DkIn.box (hm'.next hB1) (hw'.next hB1) (hs'.next hB1)
  rw [hsz] at hI'
  have hI := hI1.below hB2
  have HI := hidP hI
  have HI' := hidP hI'
  have k0 := hI.c0
  have k1 := hI.c1
  have k2 := hI.c2
  have k3 := hI.c3
  have k4 := hI.c4
  have l0 := hI'.c0
  have l1 := hI'.c1
  have l2 := hI'.c2
  have l3 := hI'.c3
  have l4 := hI'.c4
  have HS := hidP (eqSt v v' am aw cm cw wd ms d ts nx bm bw dm dw W hI.mv hI.wv hI'.mv hI'.wv hsm.1)
  have HS2 := hidP (fun (W' : World) (L : Below W.heap.size W W') => eqTSS7 aq bq cs ds ss ss W' (hI.below L).sv (hI'.below L).sv (by have := hsm.2; omega))
  rw [show decide (ss = ss) = true by simp] at HS2
  have HB := hidP (chain hB1 hB2)
  have HWW : Hid ((w.alloc (.cells #[.int .i64 wd, .slice am ms.length cm, .int .i64 d, .slice aw ts.length cw, .int .i64 nx, .slice aq ss.length cs] 57)).alloc (.cells #[.int .i64 wd, .slice bm ms.length dm, .int .i64 d, .slice bw ts.length dw, .int .i64 nx, .slice bq ss.length ds] 57) = W) := by show _ = _; rw [hW1, hW]
  clear hB1 hB2 hm hw hs hm' hw' hs' hsm hI1 hI hI' hW1 hW hsz
  go_enter Try.func23, Try.ntmps23
  go_wp2_with fail
  rw [HWW.out]
  refine HS.out.mono ?_
  rintro e w2 ⟨rfl, L2⟩
  have k5 := (HI.out.below L2).c5
  have l5 := (HI'.out.below L2).c5
  have HC := hidP (HS2.out _ L2)
  have HL := hidP (chain HB.out L2)
  clear L2 HWW k0 k1 k2 k3 k4 l0 l1 l2 l3 l4
  go_wp2_with fail
  refine HC.out.mono ?_
  rintro e w3 ⟨rfl, L3⟩
  have HL3 := hidP (chain HL.out L3)
  clear L3 k5 l5
  go_wp2_with fail
  go_ret
  exact ⟨rfl, HL3.out⟩
end Go.Proofs.Ytbmljcpeonopmaa
namespace Go.Proofs.Ytbmljcpeonopmaa
open Go Go.RowKit

/-- A desk whose rows lie in blocks of their own: first the state's, then the sessions'. -/
structure DkOwn (w : World) (bm hi b : Nat) (lo : Nat → Nat) (bs : Nat) (ms : List Mk) (ts : List Wb) (ss : List ThS7) : Prop where
  st : StOwn w bm hi b ms ts lo
  row : TRowS7 (lo ts.length) w bs ss.length ss
theorem trow_lt {base : Nat} {w : World} {g c : Nat} {ss : List ThS7} (h : TRowS7 base w g c ss) : base ≤ g ∧ g < w.heap.size := World.ownsRow.lt h g rfl
theorem trow_same {base : Nat} {w w' : World} {g c : Nat} {ss : List ThS7} (h : TRowS7 base w g c ss) (e : w'.heap[g]? = w.heap[g]?) : TRowS7 base w' g c ss := by
  obtain ⟨h1, h2 | ⟨g', c', cur, e1, h3, h4, h5⟩⟩ := h
  · exact ⟨h1, Or.inl h2⟩
  · refine ⟨h1, Or.inr ⟨g', c', cur, e1, h3, ?_, h5⟩⟩
    injection e1 with e1 e2 e3
    injection e1 with e1
    injection e1 with e1
    rw [← e1, e, e1]
    exact h4
theorem trow_mono {base base' : Nat} {w : World} {g c : Nat} {ss : List ThS7} (h : TRowS7 base w g c ss) (hb : base' ≤ base) : TRowS7 base' w g c ss :=
  ⟨h.1, h.2.imp id fun ⟨g, cap, cur, h1, h2, h3⟩ => ⟨g, cap, cur, h1, Nat.le_trans hb h2, h3⟩⟩
theorem trow_view {base : Nat} {w : World} {g c : Nat} {ss : List ThS7} (h : TRowS7 base w g c ss) : TViewS7 w (some ⟨g, 0, none⟩) ss := TRowS7.view h
theorem DkOwn.next {w w' : World} {bm hi b : Nat} {lo : Nat → Nat} {bs : Nat} {ms : List Mk} {ts : List Wb} {ss : List ThS7} (h : DkOwn w bm hi b lo bs ms ts ss) (L : Below w.heap.size w w') : DkOwn w' bm hi b lo bs ms ts ss :=
  ⟨h.st.next L, trow_same h.row (L.block bs (trow_lt h.row).2)⟩

set_option maxRecDepth 100000 in
set_option maxHeartbeats 4000000 in
theorem toDk (v : Bool) (am aw aq : Option Addr) (cm cw cs : Nat) (wd : Int) (ms : List Mk) (d : Int) (ts : List Wb) (nx : Int) (ss : List ThS7) (w : World) (hm : MView w am ms) (hw : WbView v w aw ts) (hs : TViewS7 w aq ss) (hsm : DkSmall ms ts ss) :
    Calls Try.prog 21 #[.agg #[.int .i64 wd, .slice am ms.length cm, .int .i64 d, .slice aw ts.length cw, .int .i64 nx, .slice aq ss.length cs]] w fun e w' => ∃ bm b bs, e = .returned (.agg #[.int .i64 wd, .slice (some ⟨bm, 0, none⟩) ms.length ms.length, .int .i64 d, .slice (some ⟨b, 0, none⟩) ts.length ts.length, .int .i64 nx, .slice (some ⟨bs, 0, none⟩) ss.length ss.length]) ∧ (∃ hi lo, DkOwn w' bm hi b lo bs ms ts ss) ∧ w.heap.size ≤ bm ∧ Below w.heap.size w w' := by
  obtain ⟨W1, hW1⟩ : ∃ W, w.alloc (.cells #[.int .i64 wd, .slice am ms.length cm, .int .i64 d, .slice aw ts.length cw, .int .i64 nx, .slice aq ss.length cs] 52) = W := ⟨_, rfl⟩
  obtain ⟨W2, hW2⟩ : ∃ W, W1.alloc (.cells #[.int .i64 0, .slice none 0 0, .int .i64 0, .slice none 0 0, .int .i64 0, .slice none 0 0] 57) = W := ⟨_, rfl⟩
  obtain ⟨W, hW⟩ : ∃ W, W2.alloc (.cells #[.int .i64 0, .slice none 0 0, .int .i64 0, .slice none 0 0, .int .i64 0, .slice none 0 0] 57) = W := ⟨_, rfl⟩
  have s1 : W1.heap.size = w.heap.size + 1 := by rw [← hW1]; simp
  have s2 : W2.heap.size = w.heap.size + 1 + 1 := by rw [← hW2]; simp [s1]
  have hsz : W.heap.size = w.heap.size + 1 + 1 + 1 := by rw [← hW]; simp [s2]
  have b1 : Below w.heap.size w W1 := by rw [← hW1]; exact (Below.refl _ _).alloc (Nat.le_refl _) _
  have b2 : Below W1.heap.size W1 W2 := by rw [← hW2]; exact (Below.refl _ _).alloc (Nat.le_refl _) _
  have b3 : Below W2.heap.size W2 W := by rw [← hW]; exact (Below.refl _ _).alloc (Nat.le_refl _) _
  have hB : Below w.heap.size w W := chain (chain b1 b2) b3
  have t0 : W.heap[w.heap.size]? = some (.cells #[.int .i64 wd, .slice am ms.length cm, .int .i64 d, .slice aw ts.length cw, .int .i64 nx, .slice aq ss.length cs] 52) := (b3.block _ (by omega)).trans ((b2.block _ (by omega)).trans (by rw [← hW1]; exact heap_alloc_new w _))
  have t1 : W.heap[w.heap.size + 1]? = some (.cells #[.int .i64 0, .slice none 0 0, .int .i64 0, .slice none 0 0, .int .i64 0, .slice none 0 0] 57) := (b3.block _ (by omega)).trans (by rw [← hW2, ← s1]; exact heap_alloc_new W1 _)
  have t2 : W.heap[w.heap.size + 1 + 1]? = some (.cells #[.int .i64 0, .slice none 0 0, .int .i64 0, .slice none 0 0, .int .i64 0, .slice none 0 0] 57) := by rw [← hW, ← s2]; exact heap_alloc_new W2 _
  obtain ⟨z0, z1, z2, z3, z4, z5, -, -⟩ := six_cells t0
  have HS := hidP (toSt v am aw cm cw wd ms d ts nx W (hm.next hB) (hw.next hB) hsm.1)
  have HV := hidP hs
  have HB := hidP hB
  have HT := hidP (And.intro t0 (And.intro t1 t2))
  have HN := hidP hsm.2
  have HWW : Hid (((w.alloc (.cells #[.int .i64 wd, .slice am ms.length cm, .int .i64 d, .slice aw ts.length cw, .int .i64 nx, .slice aq ss.length cs] 52)).alloc (.cells #[.int .i64 0, .slice none 0 0, .int .i64 0, .slice none 0 0, .int .i64 0, .slice none 0 0] 57)).alloc (.cells #[.int .i64 0, .slice none 0 0, .int .i64 0, .slice none 0 0, .int .i64 0, .slice none 0 0] 57) = W) := by show _ = _; rw [hW1, hW2, hW]
  have HSZ := hidP hsz
  clear hB hm hw hs b1 b2 b3 t0 t1 t2 hsm hW1 hW2 hW
  go_enter Try.func21, Try.ntmps21
  go_upto_region 2 with fail
  rw [HWW.out]
  go_wp2_with fail
  refine HS.out.mono ?_
  rintro e w2 ⟨bm, hi, b, lo, rfl, o1, hb1, L1⟩
  clear z0 z1 z2 z3 z4 z5 HWW
  obtain ⟨t0, t1, t2⟩ := HT.out
  have u0 := (L1.block _ (by omega)).trans t0
  have u1 := (L1.block _ (by omega)).trans t1
  have u2 := (L1.block _ (by omega)).trans t2
  obtain ⟨e0, e1, e2, e3, e4, e5, f2, -⟩ := six_cells u2
  have f20 := f2 0
  have f21 := f2 1
  have f22 := f2 2
  have f23 := f2 3
  have f24 := f2 4
  obtain ⟨w3, hw3⟩ : ∃ w3, ((((w2.setCell ⟨w.heap.size + 1 + 1, 0, none⟩ (.int .i64 wd)).setCell ⟨w.heap.size + 1 + 1, 1, none⟩ (.slice (some ⟨bm, 0, none⟩) ms.length ms.length)).setCell ⟨w.heap.size + 1 + 1, 2, none⟩ (.int .i64 d)).setCell ⟨w.heap.size + 1 + 1, 3, none⟩ (.slice (some ⟨b, 0, none⟩) ts.length ts.length)).setCell ⟨w.heap.size + 1 + 1, 4, none⟩ (.int .i64 nx) = w3 := ⟨_, rfl⟩
  have far3 : ∀ i, i ≠ w.heap.size + 1 + 1 → w3.heap[i]? = w2.heap[i]? := fun i hi => by rw [← hw3]; exact six_far5 hi
  have z3 : w3.heap.size = w2.heap.size := by rw [← hw3]; simp [World.setCell]
  have v0 := (far3 w.heap.size (by omega)).trans u0
  have v1 := (far3 (w.heap.size + 1) (by omega)).trans u1
  have v2 : w3.heap[w.heap.size + 1 + 1]? = some (.cells #[.int .i64 wd, .slice (some ⟨bm, 0, none⟩) ms.length ms.length, .int .i64 d, .slice (some ⟨b, 0, none⟩) ts.length ts.length, .int .i64 nx, .slice none 0 0] 57) := by rw [← hw3]; exact six_five u2
  have o3 : StOwn w3 bm hi b ms ts lo := o1.far (by omega) (fun i h1 => far3 i (by omega))
  have L3 : Below w.heap.size w w3 := by
    have hle : w.heap.size ≤ w.heap.size + 1 + 1 := by omega
    rw [← hw3]; exact (((((chain HB.out L1).setCell (p := ⟨w.heap.size + 1 + 1, 0, none⟩) hle _).setCell (p := ⟨w.heap.size + 1 + 1, 1, none⟩) hle _).setCell (p := ⟨w.heap.size + 1 + 1, 2, none⟩) hle _).setCell (p := ⟨w.heap.size + 1 + 1, 3, none⟩) hle _).setCell (p := ⟨w.heap.size + 1 + 1, 4, none⟩) hle _
  obtain ⟨-, -, -, -, -, y5, -, -⟩ := six_cells v0
  have hlast := o3.webs.last
  have HS2 := hidP (toTSS7 aq cs ss w3 (HV.out.next L3) HN.out)
  have H3 := hidP (And.intro v0 (And.intro v1 (And.intro v2 (And.intro o3 L3))))
  have HB1 : Hid (w.heap.size + 1 + 1 + 1 ≤ bm ∧ lo ts.length ≤ w3.heap.size ∧ w.heap.size + 1 + 1 + 1 ≤ w3.heap.size) := ⟨by omega, hlast, by have := L1.size; omega⟩
  have HW3 := hidP hw3
  clear HT t0 t1 t2 u0 u1 u2 v0 v1 v2 o1 o3 L1 L3 far3 hb1 f2 HS hw3 hlast
  go_upto_region 3 with fail
  rw [HW3.out]
  clear e0 e1 e2 e3 e4 e5 f20 f21 f22 f23 f24
  go_wp2_with fail
  refine HS2.out.mono ?_
  rintro e w4 ⟨bs, rfl, o4, L4⟩
  obtain ⟨v0, v1, v2, o3, L3⟩ := H3.out
  obtain ⟨hbm, hbl, hw3s⟩ := HB1.out
  have x1 := (L4.block _ (by omega)).trans v1
  have x2 := (L4.block _ (by omega)).trans v2
  obtain ⟨g0, g1, g2, g3, g4, g5, k1, -⟩ := six_cells x1
  obtain ⟨h0, h1, h2, h3, h4, h5, k2, -⟩ := six_cells x2
  have k10 := k1 0
  have k11 := k1 1
  have k12 := k1 2
  have k13 := k1 3
  have k14 := k1 4
  have k15 := k1 5
  have k25 := k2 5
  have hbs := (trow_lt o4).1
  have HF : Hid (DkOwn w4 bm hi b lo bs ms ts ss ∧ Below w.heap.size w w4 ∧ w3.heap.size ≤ bs) := ⟨⟨o3.next L4, trow_mono o4 hbl⟩, chain L3 L4, hbs⟩
  have HBM := hidP hbm
  clear v0 v1 v2 o3 L3 x1 x2 o4 L4 H3 HB1 k1 k2 HS2 y5 hbs hbm hbl
  go_wp2_with fail
  refine bodyPost_ret (v := .agg #[.int .i64 wd, .slice (some ⟨bm, 0, none⟩) ms.length ms.length, .int .i64 d, .slice (some ⟨b, 0, none⟩) ts.length ts.length, .int .i64 nx, .slice (some ⟨bs, 0, none⟩) ss.length ss.length]) (by simp [results, Try.results21, go_sem, g0, g1, g2, g3, g4, g5]) rfl ?_
  obtain ⟨q1, q4, q5⟩ := HF.out
  have hbm := HBM.out
  obtain ⟨w5, hw5⟩ : ∃ w5, w4.setCell ⟨w.heap.size + 1 + 1, 5, none⟩ (.slice (some ⟨bs, 0, none⟩) ss.length ss.length) = w5 := ⟨_, rfl⟩
  have far5 : ∀ i, i ≠ w.heap.size + 1 + 1 → w5.heap[i]? = w4.heap[i]? := fun i hi => by rw [← hw5]; exact Below.heap_setCell w4 ⟨w.heap.size + 1 + 1, 5, none⟩ _ i hi
  have s5 : w5.heap.size = w4.heap.size := by rw [← hw5]; simp [World.setCell]
  have L5 : Below w.heap.size w w5 := by rw [← hw5]; exact q4.setCell (by show w.heap.size ≤ w.heap.size + 1 + 1; omega) _
  rw [hw5]
  obtain ⟨w6, hw6⟩ : ∃ w6, (((((w5.setCell ⟨w.heap.size + 1, 0, none⟩ (.int .i64 wd)).setCell ⟨w.heap.size + 1, 1, none⟩ (.slice (some ⟨bm, 0, none⟩) ms.length ms.length)).setCell ⟨w.heap.size + 1, 2, none⟩ (.int .i64 d)).setCell ⟨w.heap.size + 1, 3, none⟩ (.slice (some ⟨b, 0, none⟩) ts.length ts.length)).setCell ⟨w.heap.size + 1, 4, none⟩ (.int .i64 nx)).setCell ⟨w.heap.size + 1, 5, none⟩ (.slice (some ⟨bs, 0, none⟩) ss.length ss.length) = w6 := ⟨_, rfl⟩
  have far6 : ∀ i, bm ≤ i → w6.heap[i]? = w4.heap[i]? := fun i hi => by
    rw [← hw6]
    exact (six_far (by omega)).trans (far5 i (by omega))
  have s6 : w6.heap.size = w4.heap.size := by rw [← hw6]; simp [World.setCell, ← s5]
  have L6 : Below w.heap.size w w6 := by
    have hle : w.heap.size ≤ w.heap.size + 1 := by omega
    rw [← hw6]; exact (((((L5.setCell (p := ⟨w.heap.size + 1, 0, none⟩) hle _).setCell (p := ⟨w.heap.size + 1, 1, none⟩) hle _).setCell (p := ⟨w.heap.size + 1, 2, none⟩) hle _).setCell (p := ⟨w.heap.size + 1, 3, none⟩) hle _).setCell (p := ⟨w.heap.size + 1, 4, none⟩) hle _).setCell (p := ⟨w.heap.size + 1, 5, none⟩) hle _
  rw [hw6]
  have hbb : bm ≤ bs := by have := q1.st.first; have := q1.st.last; have := q1.st.webs.first; have := q1.st.webs.le_last 0 (Nat.zero_le _); have := q1.st.part.1; have := (trow_lt q1.row).1; omega
  exact ⟨bm, b, bs, rfl, ⟨hi, lo, q1.st.far (by omega) (fun i h1 => far6 i h1), trow_same q1.row (far6 bs hbb)⟩, by omega, L6⟩
end Go.Proofs.Ytbmljcpeonopmaa
