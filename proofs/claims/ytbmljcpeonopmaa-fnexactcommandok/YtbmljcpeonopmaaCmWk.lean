/-
  The laws' own helpers over a command, and the walk of FnExactCommandOk.
-/
import Derived.Test.YtbmljcpeonopmaaCmMem
import Derived.Test.YtbmljcpeonopmaaLast2
import Derived.Test.YtbmljcpeonopmaaMArgs
namespace Go.Proofs.Ytbmljcpeonopmaa
open Go Go.RowKit Go.Deep

theorem fivec {w : World} {q : Nat} {a b c d e : Value} {t : TypeId} (h : w.heap[q]? = some (.cells #[a, b, c, d, e] t)) : w.cell? ⟨q, 0, none⟩ = some a ∧ w.cell? ⟨q, 1, none⟩ = some b ∧ w.cell? ⟨q, 2, none⟩ = some c ∧ w.cell? ⟨q, 3, none⟩ = some d ∧ w.cell? ⟨q, 4, none⟩ = some e ∧ (∀ j, w.frozen? ⟨q, j, none⟩ = false) ∧ q < w.heap.size := by
  refine ⟨by simp [World.cell?, h], by simp [World.cell?, h], by simp [World.cell?, h], by simp [World.cell?, h], by simp [World.cell?, h], fun j => by simp [World.frozen?, h], ?_⟩
  rcases Nat.lt_or_ge q w.heap.size with e | e
  · exact e
  · rw [Array.getElem?_eq_none e] at h; cases h

set_option maxRecDepth 100000 in
set_option maxHeartbeats 1000000 in
theorem szCm (ao : Option Addr) (cap : Nat) (cl sq kd id : Int) (p : List Int) (left : Int) (w : World) (hv : View w ao p) (hn : p.length ≤ maxLen) (h0 : 0 ≤ left) (h1 : left ≤ 1048576) :
    Calls Try.prog 14 #[.agg #[.int .i64 cl, .int .i64 sq, .int .i64 kd, .int .i64 id, .slice ao p.length cap], .int .i64 left] w fun e w' => ∃ r, e = .returned (.int .i64 r) ∧ r ≤ 1048576 ∧ (r < 0 ∨ p.length ≤ 1048576) ∧ Below w.heap.size w w' := by
  obtain ⟨W, hW⟩ : ∃ W, w.alloc (.cells #[.int .i64 cl, .int .i64 sq, .int .i64 kd, .int .i64 id, .slice ao p.length cap] 43) = W := ⟨_, rfl⟩
  have hB : Below w.heap.size w W := by rw [← hW]; exact (Below.refl _ _).alloc (Nat.le_refl _) _
  have hI : CmIn W w.heap.size ao cap cl sq kd id p := by rw [← hW]; exact CmIn.box hv
  have e4 := hI.c4
  have HS := hidP (szS ao p.length cap left W hn h0 h1)
  have hle := cutV_le p.length (show -1 ≤ left by omega) h1
  have HSM := hidP (fun h => cutV_small (left := left) (n := p.length) h1 h)
  have HB := hidP hB
  clear hB hI hv
  obtain ⟨r, hr⟩ : ∃ r, cutV left p.length = r := ⟨_, rfl⟩
  rw [hr] at HS hle HSM
  clear hr
  go_enter Try.func14, Try.ntmps14
  go_wp2_with fail
  refine HS.out.mono ?_
  rintro e w1 ⟨rfl, hw1⟩
  have hw2 := hw1.symm
  subst hw2
  clear hW
  by_cases hneg : r < 0
  · go_wp2_with fail
    go_ret
    exact ⟨-1, rfl, by omega, Or.inl (by omega), HB.out⟩
  · go_wp2_with fail
    go_ret
    exact ⟨r, rfl, by omega, Or.inr (HSM.out (by omega)), HB.out⟩

set_option maxRecDepth 100000 in
set_option maxHeartbeats 2000000 in
theorem toCm (ao : Option Addr) (cap : Nat) (cl sq kd id : Int) (p : List Int) (w : World) (hv : View w ao p) (hn : p.length ≤ 1048576) :
    Calls Try.prog 16 #[.agg #[.int .i64 cl, .int .i64 sq, .int .i64 kd, .int .i64 id, .slice ao p.length cap]] w fun e w' => ∃ b, e = .returned (.agg #[.int .i64 cl, .int .i64 sq, .int .i64 kd, .int .i64 id, .slice (some ⟨b, 0, none⟩) p.length p.length]) ∧ Own w' b p ∧ w.heap.size ≤ b ∧ Below w.heap.size w w' := by
  obtain ⟨W1, hW1⟩ : ∃ W, w.alloc (.cells #[.int .i64 cl, .int .i64 sq, .int .i64 kd, .int .i64 id, .slice ao p.length cap] 43) = W := ⟨_, rfl⟩
  obtain ⟨W2, hW2⟩ : ∃ W, W1.alloc (.cells #[.int .i64 0, .int .i64 0, .int .i64 0, .int .i64 0, .slice none 0 0] 46) = W := ⟨_, rfl⟩
  obtain ⟨W, hW⟩ : ∃ W, W2.alloc (.cells #[.int .i64 cl, .int .i64 sq, .int .i64 kd, .int .i64 id, .slice none 0 0] 46) = W := ⟨_, rfl⟩
  have s1 : W1.heap.size = w.heap.size + 1 := by rw [← hW1]; simp
  have s2 : W2.heap.size = w.heap.size + 1 + 1 := by rw [← hW2]; simp [s1]
  have hsz : W.heap.size = w.heap.size + 1 + 1 + 1 := by rw [← hW]; simp [s2]
  have b1 : Below w.heap.size w W1 := by rw [← hW1]; exact (Below.refl _ _).alloc (Nat.le_refl _) _
  have b2 : Below W1.heap.size W1 W2 := by rw [← hW2]; exact (Below.refl _ _).alloc (Nat.le_refl _) _
  have b3 : Below W2.heap.size W2 W := by rw [← hW]; exact (Below.refl _ _).alloc (Nat.le_refl _) _
  have hB : Below w.heap.size w W := chain (chain b1 b2) b3
  have t0 : W.heap[w.heap.size]? = some (.cells #[.int .i64 cl, .int .i64 sq, .int .i64 kd, .int .i64 id, .slice ao p.length cap] 43) := (b3.block _ (by omega)).trans ((b2.block _ (by omega)).trans (by rw [← hW1]; exact heap_alloc_new w _))
  have t1 : W.heap[w.heap.size + 1]? = some (.cells #[.int .i64 0, .int .i64 0, .int .i64 0, .int .i64 0, .slice none 0 0] 46) := (b3.block _ (by omega)).trans (by rw [← hW2, ← s1]; exact heap_alloc_new W1 _)
  have t2 : W.heap[w.heap.size + 1 + 1]? = some (.cells #[.int .i64 cl, .int .i64 sq, .int .i64 kd, .int .i64 id, .slice none 0 0] 46) := by rw [← hW, ← s2]; exact heap_alloc_new W2 _
  obtain ⟨z0, z1, z2, z3, z4, -, -⟩ := fivec t0
  have HS := hidP (toS ao cap p W (hv.next hB) hn)
  have HB := hidP hB
  have HT := hidP (And.intro t0 (And.intro t1 t2))
  have HWW : Hid (((w.alloc (.cells #[.int .i64 cl, .int .i64 sq, .int .i64 kd, .int .i64 id, .slice ao p.length cap] 43)).alloc (.cells #[.int .i64 0, .int .i64 0, .int .i64 0, .int .i64 0, .slice none 0 0] 46)).alloc (.cells #[.int .i64 cl, .int .i64 sq, .int .i64 kd, .int .i64 id, .slice none 0 0] 46) = W) := by show _ = _; rw [hW1, hW2, hW]
  clear hB hv b1 b2 b3 t0 t1 t2 hW1 hW2 hW z0 z1 z2 z3 z4
  go_enter Try.func16, Try.ntmps16
  go_wp2_with fail
  rw [HWW.out]
  refine HS.out.mono ?_
  rintro e w2 ⟨b, rfl, o1, hb1, L1⟩
  obtain ⟨t0, t1, t2⟩ := HT.out
  have u1 := (L1.block _ (by omega)).trans t1
  have u2 := (L1.block _ (by omega)).trans t2
  obtain ⟨g0, g1, g2, g3, g4, f1, -⟩ := fivec u1
  obtain ⟨h0, h1, h2, h3, h4, f2, -⟩ := fivec u2
  have f10 := f1 0
  have f11 := f1 1
  have f12 := f1 2
  have f13 := f1 3
  have f14 := f1 4
  have f24 := f2 4
  have HF := hidP (And.intro o1 (And.intro hb1 (chain HB.out L1)))
  have HZ := hidP hsz
  clear t0 t1 t2 u1 u2 o1 hb1 L1 f1 f2 HS HT
  go_wp2_with fail
  refine bodyPost_ret (v := .agg #[.int .i64 cl, .int .i64 sq, .int .i64 kd, .int .i64 id, .slice (some ⟨b, 0, none⟩) p.length p.length]) (by simp [results, Try.results16, go_sem, g0, g1, g2, g3, g4]) rfl ?_
  obtain ⟨q1, q2, q3⟩ := HF.out
  have hz := HZ.out
  refine ⟨b, rfl, ?_, by omega, (((((q3.setCell (by show w.heap.size ≤ w.heap.size + 1 + 1; omega) _).setCell (by show w.heap.size ≤ w.heap.size + 1; omega) _).setCell (by show w.heap.size ≤ w.heap.size + 1; omega) _).setCell (by show w.heap.size ≤ w.heap.size + 1; omega) _).setCell (by show w.heap.size ≤ w.heap.size + 1; omega) _).setCell (by show w.heap.size ≤ w.heap.size + 1; omega) _⟩
  have far : ∀ (x : World) (k i : Nat) (v : Value), k ≠ b → Own x b p → Own (x.setCell ⟨k, i, none⟩ v) b p := fun x k i v hk ho => by
    unfold Own at ho ⊢
    rw [Below.heap_setCell x ⟨k, i, none⟩ v b (fun e => hk e.symm)]
    exact ho
  exact far _ _ _ _ (by omega) (far _ _ _ _ (by omega) (far _ _ _ _ (by omega) (far _ _ _ _ (by omega) (far _ _ _ _ (by omega) (far _ _ _ _ (by omega) q1)))))

set_option maxRecDepth 100000 in
set_option maxHeartbeats 1000000 in
theorem eqCm (ao bo : Option Addr) (ca cb : Nat) (cl sq kd id : Int) (p : List Int) (w : World) (hv : View w ao p) (hv' : View w bo p) (hn : p.length ≤ 1048576) :
    Calls Try.prog 18 #[.agg #[.int .i64 cl, .int .i64 sq, .int .i64 kd, .int .i64 id, .slice ao p.length ca], .agg #[.int .i64 cl, .int .i64 sq, .int .i64 kd, .int .i64 id, .slice bo p.length cb]] w fun e w' => e = .returned (.bool true) ∧ Below w.heap.size w w' := by
  obtain ⟨W1, hW1⟩ : ∃ W, w.alloc (.cells #[.int .i64 cl, .int .i64 sq, .int .i64 kd, .int .i64 id, .slice ao p.length ca] 46) = W := ⟨_, rfl⟩
  have hB1 : Below w.heap.size w W1 := by rw [← hW1]; exact (Below.refl _ _).alloc (Nat.le_refl _) _
  have hI1 : CmIn W1 w.heap.size ao ca cl sq kd id p := by rw [← hW1]; exact CmIn.box hv
  obtain ⟨W, hW⟩ : ∃ W, W1.alloc (.cells #[.int .i64 cl, .int .i64 sq, .int .i64 kd, .int .i64 id, .slice bo p.length cb] 46) = W := ⟨_, rfl⟩
  have hB2 : Below W1.heap.size W1 W := by rw [← hW]; exact (Below.refl _ _).alloc (Nat.le_refl _) _
  have hsz : W1.heap.size = w.heap.size + 1 := by rw [← hW1]; simp
  have hI' : CmIn W W1.heap.size bo cb cl sq kd id p := by rw [← hW]; exact CmIn.box (hv'.next hB1)
  rw [hsz] at hI'
  have hI := hI1.below hB2
  have e0 := hI.c0
  have e1 := hI.c1
  have e2 := hI.c2
  have e3 := hI.c3
  have e4 := hI.c4
  have g0 := hI'.c0
  have g1 := hI'.c1
  have g2 := hI'.c2
  have g3 := hI'.c3
  have g4 := hI'.c4
  have d0 : (cl != cl) = false := by simp
  have d1 : (sq != sq) = false := by simp
  have d2 : (kd != kd) = false := by simp
  have d3 : (id != id) = false := by simp
  have HS := hidP (eqS ao bo ca cb p p W hI.pv hI'.pv hn)
  rw [show decide (p = p) = true by simp] at HS
  have HB := hidP (chain hB1 hB2)
  have HWW : Hid ((w.alloc (.cells #[.int .i64 cl, .int .i64 sq, .int .i64 kd, .int .i64 id, .slice ao p.length ca] 46)).alloc (.cells #[.int .i64 cl, .int .i64 sq, .int .i64 kd, .int .i64 id, .slice bo p.length cb] 46) = W) := by show _ = _; rw [hW1, hW]
  clear hB1 hB2 hv hv' hI1 hI hI' hW1 hW hsz
  go_enter Try.func18, Try.ntmps18
  go_wp2_with fail
  rw [HWW.out]
  refine HS.out.mono ?_
  rintro e w2 ⟨rfl, k, rfl⟩
  clear HWW
  go_wp2_with fail
  go_ret
  exact ⟨rfl, below_drewN HB.out k⟩

set_option maxRecDepth 100000 in
set_option maxHeartbeats 4000000 in
theorem walkCommandOk (ao : Option Addr) (cap : Nat) (cl sq kd id : Int) (p : List Int) (w : World) (hv : View w ao p) (hn : p.length ≤ maxLen) :
    Calls Try.prog 4 #[.agg #[.int .i64 cl, .int .i64 sq, .int .i64 kd, .int .i64 id, .slice ao p.length cap]] w fun e w' => e = .returned (.bool true) ∧ Below w.heap.size w w' := by
  obtain ⟨W, hW⟩ : ∃ W, w.alloc (.cells #[.int .i64 cl, .int .i64 sq, .int .i64 kd, .int .i64 id, .slice ao p.length cap] 43) = W := ⟨_, rfl⟩
  have hB : Below w.heap.size w W := by rw [← hW]; exact (Below.refl _ _).alloc (Nat.le_refl _) _
  have hI : CmIn W w.heap.size ao cap cl sq kd id p := by rw [← hW]; exact CmIn.box hv
  have HS := hidP (szCm ao cap cl sq kd id p 1048576 W hI.pv hn (by omega) (by omega))
  have HB := hidP hB
  have HW := hidP hI
  have k0 := hI.c0
  have k1 := hI.c1
  have k2 := hI.c2
  have k3 := hI.c3
  have k4 := hI.c4
  clear hv hB hI
  go_enter Try.func4, Try.ntmps4
  go_wp2_with fail
  refine HS.out.mono ?_
  rintro e w1 ⟨r, rfl, -, hr, L1⟩
  by_cases hneg : r < 0
  · go_wp2_with fail
    go_ret
    exact ⟨rfl, chain HB.out L1⟩
  have hsm : p.length ≤ 1048576 := by rcases hr with h | h; exact absurd h hneg; exact h
  have hI1 := HW.out.below L1
  replace k0 := hI1.c0
  replace k1 := hI1.c1
  replace k2 := hI1.c2
  replace k3 := hI1.c3
  replace k4 := hI1.c4
  have HW1 := hidP hI1
  have HB1 := hidP (chain HB.out L1)
  have HSM := hidP hsm
  have HC := hidP (toCm ao cap cl sq kd id p w1 hI1.pv hsm)
  obtain ⟨R, hR⟩ : ∃ R, cmB cl sq kd id p = R := ⟨_, rfl⟩
  have HR := hidP hR
  clear hr L1 hI1 HS hW hR hsm hn
  go_wp2_with fail
  refine HC.out.mono ?_
  rintro e w2 ⟨b2, rfl, o2, -, L2⟩
  have HC2 := hidP (sCommandOk (some ⟨b2, 0, none⟩) p.length cl sq kd id p w2 o2.view HSM.out)
  rw [HR.out] at HC2
  have HB2 := hidP L2
  clear o2 L2
  go_wp2_with fail
  refine HC2.out.mono ?_
  rintro e w3 ⟨rfl, L3⟩
  have HB3 := hidP (chain HB2.out L3)
  have hI3 := HW1.out.below (chain HB2.out L3)
  replace k0 := hI3.c0
  replace k1 := hI3.c1
  replace k2 := hI3.c2
  replace k3 := hI3.c3
  replace k4 := hI3.c4
  have HC3 := hidP (toCm ao cap cl sq kd id p w3 hI3.pv HSM.out)
  have HW3 := hidP hI3
  clear L3 hI3
  go_wp2_with fail
  refine HC3.out.mono ?_
  rintro e w4 ⟨b4, rfl, o4, -, L4⟩
  obtain ⟨w5, hw5⟩ : ∃ w5, w4.alloc (.cells #[.int .i64 cl, .int .i64 sq, .int .i64 kd, .int .i64 id, .slice (some ⟨b4, 0, none⟩) p.length p.length] 46) = w5 := ⟨_, rfl⟩
  have L5 : Below w4.heap.size w4 w5 := by rw [← hw5]; exact (Below.refl _ _).alloc (Nat.le_refl _) _
  have hI5 : CmIn w5 w4.heap.size (some ⟨b4, 0, none⟩) p.length cl sq kd id p := by rw [← hw5]; exact CmIn.box o4.view
  have q0 := hI5.c0
  have q1 := hI5.c1
  have q2 := hI5.c2
  have q3 := hI5.c3
  have q4 := hI5.c4
  have HW5 := hidP hI5
  have HI5 := hidP (HW3.out.below (chain L4 L5))
  have HB5 := hidP (chain (chain HB3.out L4) L5)
  have HC5 := hidP (iCommandOk (some ⟨b4, 0, none⟩) p.length cl sq kd id p w5 hI5.pv HSM.out)
  rw [HR.out] at HC5
  clear o4 L4 L5 hI5
  go_wp2_with fail
  refine HC5.out.mono ?_
  rintro e w6 ⟨rfl, L6⟩
  have ht : ((R : Bool) != R) = false := by simp
  have HW6 := hidP (HW5.out.below L6)
  have HI6 := hidP (HI5.out.below L6)
  have HB6 := hidP (chain HB5.out L6)
  have HS6 : Hid (∀ W', Below w6.heap.size w6 W' → (W'.cell? ⟨w4.heap.size, 0, none⟩ = some (.int .i64 cl) ∧ W'.cell? ⟨w4.heap.size, 1, none⟩ = some (.int .i64 sq) ∧ W'.cell? ⟨w4.heap.size, 2, none⟩ = some (.int .i64 kd) ∧ W'.cell? ⟨w4.heap.size, 3, none⟩ = some (.int .i64 id) ∧ W'.cell? ⟨w4.heap.size, 4, none⟩ = some (.slice (some ⟨b4, 0, none⟩) p.length p.length)) ∧ W'.cell? ⟨w.heap.size, 0, none⟩ = some (.int .i64 cl) ∧ W'.cell? ⟨w.heap.size, 1, none⟩ = some (.int .i64 sq) ∧ W'.cell? ⟨w.heap.size, 2, none⟩ = some (.int .i64 kd) ∧ W'.cell? ⟨w.heap.size, 3, none⟩ = some (.int .i64 id) ∧ W'.cell? ⟨w.heap.size, 4, none⟩ = some (.slice ao p.length cap)) := fun W' L' => ⟨⟨(HW6.out.below L').c0, (HW6.out.below L').c1, (HW6.out.below L').c2, (HW6.out.below L').c3, (HW6.out.below L').c4⟩, (HI6.out.below L').c0, (HI6.out.below L').c1, (HI6.out.below L').c2, (HI6.out.below L').c3, (HI6.out.below L').c4⟩
  have HC6 := hidP (toCm ao cap cl sq kd id p w6.drew (HI6.out.below (Below.refl _ _).drew).pv HSM.out)
  have BL := hidP ((Below.refl w6.heap.size w6).drew)
  clear L6 hw5
  go_wp2_with fail
  refine wp_region_takes (S := fun W' => Below w6.heap.size w6 W') (fuel := 3) [0, 1] (by kernel_rfl) (by kernel_rfl) (by kernel_rfl) (by kernel_rfl) BL.out (fun _ => ?_)
  iterate 2
    refine ⟨_, rfl, ?_⟩
    apply Exists.intro
    refine ⟨Or.inl ⟨by rfl, fun w' hw' => ?_⟩, ?_⟩
    · obtain ⟨⟨e1, e2, e3, e4, e5⟩, f1, f2, f3, f4, f5⟩ := HS6.out w' hw'
      first
      | (go_simp; done)
      | (go_simp; with_reducible rfl)
    simp only [Act.put, List.getElem_toArray, List.getElem_cons_succ, List.getElem_cons_zero, List.setIfInBounds_toArray, List.set_cons_zero, List.set_cons_succ]
  refine calm_one 2 (by kernel_rfl) rfl (fun K hK => ?_)
  go_simp
  refine HC6.out.mono ?_
  rintro e w7 ⟨b7, rfl, o7, -, L7⟩
  have HL7 := hidP (chain BL.out L7)
  have HC7 := hidP (eqCm (some ⟨b4, 0, none⟩) (some ⟨b7, 0, none⟩) p.length p.length cl sq kd id p w7 (HW6.out.below HL7.out).pv o7.view HSM.out)
  clear o7 L7
  refine hK.out _ _ HL7.out (fun _ => ?_)
  clear hK K
  refine calm_one 3 (by kernel_rfl) rfl (fun K hK => ?_)
  go_simp
  refine HC7.out.mono ?_
  rintro e w8 ⟨rfl, L8⟩
  have HL8 := hidP (chain HL7.out L8)
  clear L8
  refine hK.out _ _ HL8.out (fun _ => ?_)
  clear hK K
  refine calm_rest [4] rfl (by kernel_rfl) (by kernel_rfl) (by kernel_rfl) HL8.out ?_
  iterate 1
    refine ⟨_, rfl, ?_⟩
    apply Exists.intro
    refine ⟨Or.inl ⟨by rfl, fun w' hw' => ?_⟩, ?_⟩
    · skip
      first
      | (go_simp; done)
      | (go_simp; with_reducible rfl)
    simp only [Act.put, List.getElem_toArray, List.getElem_cons_succ, List.getElem_cons_zero, List.setIfInBounds_toArray, List.set_cons_zero, List.set_cons_succ]
  refine NoPanic.normal (NoPanic.normal ?_)
  have HF := hidP (chain HB1.out (chain HB6.out HL8.out))
  clear HS6 HC6 BL HL7 HL8
  go_wp2_with fail
  go_ret
  exact ⟨rfl, HF.out⟩

set_option maxRecDepth 100000 in
theorem okWide_command {W : World} {base : Nat} {v : Value} (h : Value.okWide Try.prog W .any base 43 v) : ∃ cs : Array Value, v = .agg cs ∧ cs.size = 5 := by
  unfold Value.okWide at h
  rw [Try.underlying43] at h
  obtain ⟨cs, rfl, hs, _⟩ := h
  exact ⟨cs, rfl, hs.trans (by kernel_rfl)⟩
theorem five_arr {α : Type} {cs : Array α} (h : cs.size = 5) : ∃ c0 c1 c2 c3 c4, cs = #[c0, c1, c2, c3, c4] := by
  obtain ⟨l⟩ := cs
  match l, h with
  | [c0, c1, c2, c3, c4], _ => exact ⟨c0, c1, c2, c3, c4, rfl⟩
theorem trod_five {H : Type} {P : Program} {w : World} {base : Nat} {spare : TypeId → Bool} {held : Bool} {enc : TypeId × Value → H} {t : TypeId} {f0 f1 f2 f3 f4 : Field} {fuel : Nat} {cs : List Value} {x : DataW H × List MemPlace} (ht : P.underlying t = some (.struct #[f0, f1, f2, f3, f4])) (h : DataW.trod enc P w base spare held fuel t cs = some x) :
    ∃ y0 y1 y2 y3 y4 n, DataW.trod enc P w base spare held n f0.type ((cs.drop f0.offset).take (P.cellsOf f0.type)) = some y0 ∧
      DataW.trod enc P w base spare held n f1.type ((cs.drop f1.offset).take (P.cellsOf f1.type)) = some y1 ∧ DataW.trod enc P w base spare held n f2.type ((cs.drop f2.offset).take (P.cellsOf f2.type)) = some y2 ∧
      DataW.trod enc P w base spare held n f3.type ((cs.drop f3.offset).take (P.cellsOf f3.type)) = some y3 ∧ DataW.trod enc P w base spare held n f4.type ((cs.drop f4.offset).take (P.cellsOf f4.type)) = some y4 := by
  obtain ⟨xs, n, _, rfl, hl, hlen, hf⟩ := DataW.trod_struct ht h
  match xs, hlen with
  | [y0, y1, y2, y3, y4], _ => exact ⟨y0, y1, y2, y3, y4, n, by simpa using hf 0 f0 rfl, by simpa using hf 1 f1 rfl, by simpa using hf 2 f2 rfl, by simpa using hf 3 f3 rfl, by simpa using hf 4 f4 rfl⟩
theorem command_view {H : Type} {enc : TypeId × Value → H} {W : World} {n : Nat} {cs : Array Value} {x : DataW H × List MemPlace} (hs : cs.size = 5) (h : DataW.trod enc Try.prog W 0 (fun _ => true) true n 43 cs.toList = some x) :
    ∃ (cl sq kd id : Int) (p : List Int) (a : Option Addr) (c : Nat), cs = #[.int .i64 cl, .int .i64 sq, .int .i64 kd, .int .i64 id, .slice a p.length c] ∧ View W a p ∧ p.length ≤ maxLen := by
  obtain ⟨u0, u1, u2, u3, u4, rfl⟩ := five_arr hs
  obtain ⟨y0, y1, y2, y3, y4, m, t0, t1, t2, t3, t4⟩ := trod_five Try.underlying43 h
  have e0 : Try.prog.cellsOf 2 = 1 := by kernel_rfl
  have e1 : Try.prog.cellsOf 41 = 1 := by kernel_rfl
  simp only [e0, e1] at t0 t1 t2 t3 t4
  obtain ⟨z0, hz0, _, _⟩ := DataW.trod_int Try.underlying2 (by simpa using t0)
  obtain ⟨z1, hz1, _, _⟩ := DataW.trod_int Try.underlying2 (by simpa using t1)
  obtain ⟨z2, hz2, _, _⟩ := DataW.trod_int Try.underlying2 (by simpa using t2)
  obtain ⟨z3, hz3, _, _⟩ := DataW.trod_int Try.underlying2 (by simpa using t3)
  simp at hz0 hz1 hz2 hz3
  obtain ⟨xs, a, c, hv, v1, m1⟩ := row_view (v := u4) (by simpa using t4)
  exact ⟨z0, z1, z2, z3, xs, a, c, by rw [hz0, hz1, hz2, hz3, hv], v1, m1⟩
end Go.Proofs.Ytbmljcpeonopmaa
