/-
  The walk of FnExactDeskOk; a desk that came in.
-/
import Derived.Test.YtbmljcpeonopmaaDkOkZz
import Derived.Test.YtbmljcpeonopmaaDkMemZz
import Derived.Test.YtbmljcpeonopmaaStArgsZz
import Derived.Test.YtbmljcpeonopmaaSsArgsZz
import Derived.Test.YtbmljcpeonopmaaLastZz
namespace Go.Proofs.Ytbmljcpeonopmaa
open Go Go.RowKit Go.Deep

set_option maxRecDepth 100000 in
set_option maxHeartbeats 4000000 in
theorem walkDeskOk (am aw aq : Option Addr) (cm cw cs : Nat) (wd : Int) (ms : List Mk) (d : Int) (ts : List Wb) (nx : Int) (ss : List ThS7) (w : World) (hm : MView w am ms) (hw : WbView false w aw ts) (hs : TViewS7 w aq ss) (hf : StFit ms ts) (hn : ss.length ≤ maxLen) :
    Calls Try.prog 5 #[.agg #[.int .i64 wd, .slice am ms.length cm, .int .i64 d, .slice aw ts.length cw, .int .i64 nx, .slice aq ss.length cs]] w fun e w' => e = .returned (.bool true) ∧ Below w.heap.size w w' := by
  obtain ⟨W, hW⟩ : ∃ W, w.alloc (.cells #[.int .i64 wd, .slice am ms.length cm, .int .i64 d, .slice aw ts.length cw, .int .i64 nx, .slice aq ss.length cs] 52) = W := ⟨_, rfl⟩
  have hB : Below w.heap.size w W := by rw [← hW]; exact (Below.refl _ _).alloc (Nat.le_refl _) _
  have hI : DkIn false W w.heap.size am aw aq cm cw cs wd ms d ts nx ss := by rw [← hW]; exact DkIn.box hm hw hs
  have HS := hidP (szDk false am aw aq cm cw cs wd ms d ts nx ss W hI.mv hI.wv hI.sv hf hn)
  have HB := hidP hB
  have HW := hidP hI
  have k0 := hI.c0
  have k1 := hI.c1
  have k2 := hI.c2
  have k3 := hI.c3
  have k4 := hI.c4
  have k5 := hI.c5
  clear hm hw hs hB hI hf hn
  go_enter Try.func5, Try.ntmps5
  go_wp2_with fail
  refine HS.out.mono ?_
  rintro e w1 ⟨r, rfl, -, hr, L1⟩
  by_cases hneg : r < 0
  · go_wp2_with fail
    go_ret
    exact ⟨rfl, chain HB.out L1⟩
  have hsm : DkSmall ms ts ss := by rcases hr with h | h; exact absurd h hneg; exact h
  have hI1 := HW.out.below L1
  replace k0 := hI1.c0
  replace k1 := hI1.c1
  replace k2 := hI1.c2
  replace k3 := hI1.c3
  replace k4 := hI1.c4
  replace k5 := hI1.c5
  have HW1 := hidP hI1
  have HB1 := hidP (chain HB.out L1)
  have HSM := hidP hsm
  have HC := hidP (toDk false am aw aq cm cw cs wd ms d ts nx ss w1 hI1.mv hI1.wv hI1.sv hsm)
  obtain ⟨R, hR⟩ : ∃ R, dkB wd ms d ts nx ss = R := ⟨_, rfl⟩
  have HR := hidP hR
  clear hr L1 hI1 HS hW hR hsm
  go_wp2_with fail
  refine HC.out.mono ?_
  rintro e w2 ⟨m2, b2, s2, rfl, ⟨i2, lo2, o2⟩, -, L2⟩
  have HC2 := hidP (sDeskOk true (some ⟨m2, 0, none⟩) (some ⟨b2, 0, none⟩) (some ⟨s2, 0, none⟩) ms.length ts.length ss.length wd ms d ts nx ss w2 o2.st.mview o2.st.wview (trow_view o2.row) HSM.out.1 HSM.out.2)
  rw [HR.out] at HC2
  have HB2 := hidP L2
  clear o2 L2
  go_wp2_with fail
  refine HC2.out.mono ?_
  rintro e w3 ⟨rfl, L3⟩
  have HB3 := hidP (chain HB2.out L3)
  have hI3 := HW1.out.below (chain HB2.out L3)
  replace k0 := hI3.c0
  replace k1 := hI3.c1
  replace k2 := hI3.c2
  replace k3 := hI3.c3
  replace k4 := hI3.c4
  replace k5 := hI3.c5
  have HC3 := hidP (toDk false am aw aq cm cw cs wd ms d ts nx ss w3 hI3.mv hI3.wv hI3.sv HSM.out)
  have HW3 := hidP hI3
  clear L3 hI3
  go_wp2_with fail
  refine HC3.out.mono ?_
  rintro e w4 ⟨m4, b4, s4, rfl, ⟨i4, lo4, o4⟩, -, L4⟩
  obtain ⟨w5, hw5⟩ : ∃ w5, w4.alloc (.cells #[.int .i64 wd, .slice (some ⟨m4, 0, none⟩) ms.length ms.length, .int .i64 d, .slice (some ⟨b4, 0, none⟩) ts.length ts.length, .int .i64 nx, .slice (some ⟨s4, 0, none⟩) ss.length ss.length] 57) = w5 := ⟨_, rfl⟩
  have L5 : Below w4.heap.size w4 w5 := by rw [← hw5]; exact (Below.refl _ _).alloc (Nat.le_refl _) _
  have hI5 : DkIn true w5 w4.heap.size (some ⟨m4, 0, none⟩) (some ⟨b4, 0, none⟩) (some ⟨s4, 0, none⟩) ms.length ts.length ss.length wd ms d ts nx ss := by rw [← hw5]; exact DkIn.box o4.st.mview o4.st.wview (trow_view o4.row)
  have q0 := hI5.c0
  have q1 := hI5.c1
  have q2 := hI5.c2
  have q3 := hI5.c3
  have q4 := hI5.c4
  have q5 := hI5.c5
  have HW5 := hidP hI5
  have HI5 := hidP (HW3.out.below (chain L4 L5))
  have HB5 := hidP (chain (chain HB3.out L4) L5)
  have HC5 := hidP (iDeskOk (some ⟨m4, 0, none⟩) (some ⟨b4, 0, none⟩) (some ⟨s4, 0, none⟩) ms.length ts.length ss.length wd ms d ts nx ss w5 hI5.mv hI5.wv hI5.sv HSM.out.1 HSM.out.2)
  rw [HR.out] at HC5
  clear o4 L4 L5 hI5
  go_wp2_with fail
  refine HC5.out.mono ?_
  rintro e w6 ⟨rfl, L6⟩
  have ht : ((R : Bool) != R) = false := by simp
  have HW6 := hidP (HW5.out.below L6)
  have HI6 := hidP (HI5.out.below L6)
  have HB6 := hidP (chain HB5.out L6)
  have HS6 : Hid (∀ W', Below w6.heap.size w6 W' → (W'.cell? ⟨w4.heap.size, 0, none⟩ = some (.int .i64 wd) ∧ W'.cell? ⟨w4.heap.size, 1, none⟩ = some (.slice (some ⟨m4, 0, none⟩) ms.length ms.length) ∧ W'.cell? ⟨w4.heap.size, 2, none⟩ = some (.int .i64 d) ∧ W'.cell? ⟨w4.heap.size, 3, none⟩ = some (.slice (some ⟨b4, 0, none⟩) ts.length ts.length) ∧ W'.cell? ⟨w4.heap.size, 4, none⟩ = some (.int .i64 nx) ∧ W'.cell? ⟨w4.heap.size, 5, none⟩ = some (.slice (some ⟨s4, 0, none⟩) ss.length ss.length)) ∧ W'.cell? ⟨w.heap.size, 0, none⟩ = some (.int .i64 wd) ∧ W'.cell? ⟨w.heap.size, 1, none⟩ = some (.slice am ms.length cm) ∧ W'.cell? ⟨w.heap.size, 2, none⟩ = some (.int .i64 d) ∧ W'.cell? ⟨w.heap.size, 3, none⟩ = some (.slice aw ts.length cw) ∧ W'.cell? ⟨w.heap.size, 4, none⟩ = some (.int .i64 nx) ∧ W'.cell? ⟨w.heap.size, 5, none⟩ = some (.slice aq ss.length cs)) := fun W' L' => ⟨⟨(HW6.out.below L').c0, (HW6.out.below L').c1, (HW6.out.below L').c2, (HW6.out.below L').c3, (HW6.out.below L').c4, (HW6.out.below L').c5⟩, (HI6.out.below L').c0, (HI6.out.below L').c1, (HI6.out.below L').c2, (HI6.out.below L').c3, (HI6.out.below L').c4, (HI6.out.below L').c5⟩
  have HC6 := hidP (toDk false am aw aq cm cw cs wd ms d ts nx ss w6.drew (HI6.out.below (Below.refl _ _).drew).mv (HI6.out.below (Below.refl _ _).drew).wv (HI6.out.below (Below.refl _ _).drew).sv HSM.out)
  have BL := hidP ((Below.refl w6.heap.size w6).drew)
  clear L6 hw5
  go_wp2_with fail
  refine wp_region_takes (S := fun W' => Below w6.heap.size w6 W') (fuel := 3) [0, 1] (by kernel_rfl) (by kernel_rfl) (by kernel_rfl) (by kernel_rfl) BL.out (fun _ => ?_)
  iterate 2
    refine ⟨_, rfl, ?_⟩
    apply Exists.intro
    refine ⟨Or.inl ⟨by rfl, fun w' hw' => ?_⟩, ?_⟩
    · obtain ⟨⟨e1, e2, e3, e4, e5, e6⟩, f1, f2, f3, f4, f5, f6⟩ := HS6.out w' hw'
      first
      | (go_simp; done)
      | (go_simp; with_reducible rfl)
    simp only [Act.put, List.getElem_toArray, List.getElem_cons_succ, List.getElem_cons_zero, List.setIfInBounds_toArray, List.set_cons_zero, List.set_cons_succ]
  refine calm_one 2 (by kernel_rfl) rfl (fun K hK => ?_)
  go_simp
  refine HC6.out.mono ?_
  rintro e w7 ⟨m7, b7, s7, rfl, ⟨i7, lo7, o7⟩, -, L7⟩
  have HL7 := hidP (chain BL.out L7)
  have HC7 := hidP (eqDk true true (some ⟨m4, 0, none⟩) (some ⟨b4, 0, none⟩) (some ⟨s4, 0, none⟩) ms.length ts.length ss.length wd ms d ts nx ss (some ⟨m7, 0, none⟩) (some ⟨b7, 0, none⟩) (some ⟨s7, 0, none⟩) ms.length ts.length ss.length w7 (HW6.out.below HL7.out).mv (HW6.out.below HL7.out).wv (HW6.out.below HL7.out).sv o7.st.mview o7.st.wview (trow_view o7.row) HSM.out)
  clear o7 L7
  refine hK.out _ _ HL7.out (fun _ => ?_)
  clear hK K
  refine calm_one 3 (by kernel_rfl) rfl (fun K hK => ?_)
  go_simp
  refine HC7.out.mono ?_
  rintro e w8 ⟨rfl, L8⟩
  have HL8 := hidP (chain HL7.out L8)
  clear L8
  refine hK.out _ _ HL8.out (fun _ => ?_)
  clear hK K
  refine calm_rest [4] rfl (by kernel_rfl) (by kernel_rfl) (by kernel_rfl) HL8.out ?_
  iterate 1
    refine ⟨_, rfl, ?_⟩
    apply Exists.intro
    refine ⟨Or.inl ⟨by rfl, fun w' hw' => ?_⟩, ?_⟩
    · skip
      first
      | (go_simp; done)
      | (go_simp; with_reducible rfl)
    simp only [Act.put, List.getElem_toArray, List.getElem_cons_succ, List.getElem_cons_zero, List.setIfInBounds_toArray, List.set_cons_zero, List.set_cons_succ]
  refine NoPanic.normal (NoPanic.normal ?_)
  have HF := hidP (chain HB1.out (chain HB6.out HL8.out))
  clear HS6 HC6 BL HL7 HL8
  go_wp2_with fail
  go_ret
  exact ⟨rfl, HF.out⟩

set_option maxRecDepth 100000 in
theorem okWide_desk {W : World} {base : Nat} {v : Value} (h : Value.okWide Try.prog W .any base 52 v) : ∃ cs : Array Value, v = .agg cs ∧ cs.size = 6 := by
  unfold Value.okWide at h
  rw [Try.underlying52] at h
  obtain ⟨cs, rfl, hs, _⟩ := h
  exact ⟨cs, rfl, hs.trans (by kernel_rfl)⟩
theorem six_arr {α : Type} {cs : Array α} (h : cs.size = 6) : ∃ c0 c1 c2 c3 c4 c5, cs = #[c0, c1, c2, c3, c4, c5] := by
  obtain ⟨l⟩ := cs
  match l, h with
  | [c0, c1, c2, c3, c4, c5], _ => exact ⟨c0, c1, c2, c3, c4, c5, rfl⟩
theorem desk_view {H : Type} {enc : TypeId × Value → H} {W : World} {n : Nat} {cs : Array Value} {x : DataW H × List MemPlace} (hs : cs.size = 6) (h : DataW.trod enc Try.prog W 0 (fun _ => true) true n 52 cs.toList = some x) :
    ∃ (wd : Int) (ms : List Mk) (d : Int) (ts : List Wb) (nx : Int) (ss : List ThS7) (am : Option Addr) (cm : Nat) (aw : Option Addr) (cw : Nat) (aq : Option Addr) (cq : Nat), cs = #[.int .i64 wd, .slice am ms.length cm, .int .i64 d, .slice aw ts.length cw, .int .i64 nx, .slice aq ss.length cq] ∧ MView W am ms ∧ WbView false W aw ts ∧ TViewS7 W aq ss ∧ StFit ms ts ∧ ss.length ≤ maxLen := by
  obtain ⟨u0, u1, u2, u3, u4, u5, rfl⟩ := six_arr hs
  obtain ⟨y0, y1, m, _, hl, t0, t1⟩ := Go.ChangeShapes.trod_struct2 Try.underlying52 h
  have e0 : Try.prog.cellsOf 27 = 5 := by kernel_rfl
  have e1 : Try.prog.cellsOf 50 = 1 := by kernel_rfl
  simp only [e0, e1] at t0 t1
  have t0' : DataW.trod enc Try.prog W 0 (fun _ => true) true m 27 (#[u0, u1, u2, u3, u4] : Array Value).toList = some y0 := by simpa using t0
  obtain ⟨wd, ms, d, ts, nx, am, cm, aw, cw, he, hm, hw, hf⟩ := state_view rfl t0'
  have t1' : DataW.trod enc Try.prog W 0 (fun _ => true) true m 50 [u5] = some y1 := by simpa using t1
  obtain ⟨aq, lq, cq, hq⟩ : ∃ a l c, u5 = .slice a l c := by
    obtain ⟨a, l, c, e⟩ := Go.Joins.slice_form Try.underlying50 t1'
    injection e with e
    exact ⟨a, l, c, e⟩
  rw [hq] at t1'
  obtain ⟨ss, hln, hv, hn⟩ := threads_viewS7 t1'
  injection he with he
  simp only [List.cons.injEq, and_true] at he
  obtain ⟨a0, a1, a2, a3, a4⟩ := he
  exact ⟨wd, ms, d, ts, nx, ss, am, cm, aw, cw, aq, cq, by rw [a0, a1, a2, a3, a4, hq, hln], hm, hw, hv, hf, hn⟩
end Go.Proofs.Ytbmljcpeonopmaa
