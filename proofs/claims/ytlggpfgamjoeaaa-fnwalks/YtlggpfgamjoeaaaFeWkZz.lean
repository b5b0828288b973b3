/-
  The walks of the exact laws of chapter 14, over what the program's own functions answer.
  The walks of FnExactWalk and FnExactBeam, over what the program's own functions answer.
-/
import Derived.Test.YtlggpfgamjoeaaaFeHelpZz
import Derived.Test.YtlggpfgamjoeaaaFeIsZz
import Derived.Test.YtlggpfgamjoeaaaFeBmZz
import Derived.Test.YtlggpfgamjoeaaaLastZz
import Derived.Test.YtlggpfgamjoeaaaBMarkZz
import Derived.Test.YtlggpfgamjoeaaaHOtZz
import Derived.Test.YtlggpfgamjoeaaaGKeepZz
namespace Go.Proofs.Ytlggpfgamjoeaaa
open Go Go.RowKit

def IWebOk : Prop := ∀ (am : Option Addr) (cm : Nat) (ms : List Mk) (al : Option Addr) (cl : Nat) (ls : List (List Int)) (w : World), MView w am ms → CView w al ls → MSmall ms → CSmall ls → ms.length ≤ cm → ls.length ≤ cl → Calls Try.prog 27 #[.agg #[.slice am ms.length cm, .slice al ls.length cl]] w fun e w' => e = .returned (.bool (webB ms ls)) ∧ Below w.heap.size w w'
def IIslands : Prop := ∀ (am : Option Addr) (cm : Nat) (ms : List Mk) (al : Option Addr) (cl : Nat) (ls : List (List Int)) (w : World), MView w am ms → CView w al ls → MSmall ms → CSmall ls → ms.length ≤ cm → ls.length ≤ cl → Calls Try.prog 22 #[.agg #[.slice am ms.length cm, .slice al ls.length cl]] w fun e w' => e = .returned (.int .i64 (islV ms ls)) ∧ Below w.heap.size w w'

set_option maxRecDepth 100000 in
set_option maxHeartbeats 4000000 in
theorem walkWebOk (HI : IWebOk) (a1 a2 : Option Addr) (c1 c2 : Nat) (ms : List Mk) (ls : List (List Int)) (w : World) (hv1 : MView w a1 ms) (hv2 : CView w a2 ls) (hn1 : ms.length ≤ maxLen) (hat1 : ∀ i, (mat ms i).length ≤ maxLen) (hn2 : ls.length ≤ maxLen) (hat2 : ∀ i, (cn ls i).length ≤ maxLen) :
    Calls Try.prog 5 #[.agg #[.slice a1 ms.length c1, .slice a2 ls.length c2]] w fun e w' => e = .returned (.bool true) ∧ Below w.heap.size w w' := by
  have HII := hidP HI
  clear HI
  obtain ⟨W, hW⟩ : ∃ W, w.alloc (.cells #[.slice a1 ms.length c1, .slice a2 ls.length c2] 50) = W := ⟨_, rfl⟩
  have hB : Below w.heap.size w W := by rw [← hW]; exact (Below.refl _ _).alloc (Nat.le_refl _) _
  have hI : WebIn W w.heap.size a1 c1 ms a2 c2 ls := by rw [← hW]; exact WebIn.box hv1 hv2
  have HS := hidP (szW a1 a2 c1 c2 ms ls W hI.mv hI.cv hn1 hat1 hn2 hat2)
  have HB := hidP hB
  have HW := hidP hI
  have k0 := hI.c0
  have k1 := hI.c1
  clear hv1 hv2 hB hI hat1 hat2
  go_enter Try.func5, Try.ntmps5
  go_wp2_with fail
  refine HS.out.mono ?_
  rintro e w1 ⟨r, rfl, hr, L1⟩
  by_cases hneg : r < 0
  · go_wp2_with fail
    go_ret
    exact ⟨rfl, chain HB.out L1⟩
  obtain ⟨hsm, hcs⟩ : MSmall ms ∧ CSmall ls := by rcases hr with h | h; exact absurd h hneg; exact h
  have hI1 := HW.out.below L1
  have p0 := hI1.c0
  have p1 := hI1.c1
  have HW1 := hidP hI1
  have HB1 := hidP (chain HB.out L1)
  have HC := hidP (toW a1 a2 c1 c2 ms ls w1 hI1.mv hI1.cv hsm hcs)
  obtain ⟨R, hR⟩ : ∃ R, webB ms ls = R := ⟨_, rfl⟩
  have HR := hidP hR
  clear hr L1 hI1 HS k0 k1 hW hR
  go_wp2_with fail
  refine HC.out.mono ?_
  rintro e w2 ⟨bm2, bl2, rfl, o2, L2⟩
  have HC2 := hidP (sWebOk _ _ ms.length ls.length ms ls w2 o2.mv o2.cv hsm hcs)
  rw [HR.out] at HC2
  have HB2 := hidP L2
  clear o2 L2
  go_wp2_with fail
  refine HC2.out.mono ?_
  rintro e w3 ⟨rfl, L3⟩
  have HB3 := hidP (chain HB2.out L3)
  have hI3 := HW1.out.below (chain HB2.out L3)
  have p0 := hI3.c0
  have p1 := hI3.c1
  have HC3 := hidP (toW a1 a2 c1 c2 ms ls w3 hI3.mv hI3.cv hsm hcs)
  have HW3 := hidP hI3
  clear L3 hI3
  go_wp2_with fail
  refine HC3.out.mono ?_
  rintro e w4 ⟨bm, bl, rfl, o4, L4⟩
  obtain ⟨w5, hw5⟩ : ∃ w5, w4.alloc (.cells #[.slice (some ⟨bm, 0, none⟩) ms.length ms.length, .slice (some ⟨bl, 0, none⟩) ls.length ls.length] 27) = w5 := ⟨_, rfl⟩
  have L5 : Below w4.heap.size w4 w5 := by rw [← hw5]; exact (Below.refl _ _).alloc (Nat.le_refl _) _
  have hI5 : WebIn w5 w4.heap.size (some ⟨bm, 0, none⟩) ms.length ms (some ⟨bl, 0, none⟩) ls.length ls := by rw [← hw5]; exact WebIn.box o4.mv o4.cv
  have q0 := hI5.c0
  have q1 := hI5.c1
  have HW5 := hidP hI5
  have HI5 := hidP (HW3.out.below (chain L4 L5))
  have HB5 := hidP (chain (chain HB3.out L4) L5)
  have HC5 := hidP (HII.out _ ms.length ms _ ls.length ls w5 hI5.mv hI5.cv hsm hcs (Nat.le_refl _) (Nat.le_refl _))
  rw [HR.out] at HC5
  clear o4 L4 L5 hI5
  go_wp2_with fail
  refine HC5.out.mono ?_
  rintro e w6 ⟨rfl, L6⟩
  have ht : ((R : Bool) != R) = false := by simp
  have HW6 := hidP (HW5.out.below L6)
  have HI6 := hidP (HI5.out.below L6)
  have HB6 := hidP (chain HB5.out L6)
  have HS6 : Hid (∀ W', Below w6.heap.size w6 W' → (W'.cell? ⟨w4.heap.size, 0, none⟩ = some (.slice (some ⟨bm, 0, none⟩) ms.length ms.length) ∧ W'.cell? ⟨w4.heap.size, 1, none⟩ = some (.slice (some ⟨bl, 0, none⟩) ls.length ls.length)) ∧ W'.cell? ⟨w.heap.size, 0, none⟩ = some (.slice a1 ms.length c1) ∧ W'.cell? ⟨w.heap.size, 1, none⟩ = some (.slice a2 ls.length c2)) := fun W' L' => ⟨⟨(HW6.out.below L').c0, (HW6.out.below L').c1⟩, (HI6.out.below L').c0, (HI6.out.below L').c1⟩
  have HC6 := hidP (toW a1 a2 c1 c2 ms ls w6.drew (HI6.out.below (Below.refl _ _).drew).mv (HI6.out.below (Below.refl _ _).drew).cv hsm hcs)
  have BL := hidP ((Below.refl w6.heap.size w6).drew)
  clear L6 hw5
  go_wp2_with fail
  refine wp_region_takes (S := fun W' => Below w6.heap.size w6 W') (fuel := 3) [0, 1] (by kernel_rfl) (by kernel_rfl) (by kernel_rfl) (by kernel_rfl) BL.out (fun _ => ?_)
  iterate 2
    refine ⟨_, rfl, ?_⟩
    apply Exists.intro
    refine ⟨Or.inl ⟨by rfl, fun w' hw' => ?_⟩, ?_⟩
    · obtain ⟨⟨e1, e2⟩, e3, e4⟩ := HS6.out w' hw'
      first
      | (go_simp; done)
      | (go_simp; with_reducible rfl)
    simp only [Act.put, List.getElem_toArray, List.getElem_cons_succ, List.getElem_cons_zero, List.setIfInBounds_toArray, List.set_cons_zero, List.set_cons_succ]
  refine calm_one 2 (by kernel_rfl) rfl (fun K hK => ?_)
  go_simp
  refine HC6.out.mono ?_
  rintro e w7 ⟨bm7, bl7, rfl, o7, L7⟩
  have HL7 := hidP (chain BL.out L7)
  have HC7 := hidP (eqW _ _ _ _ ms.length ls.length ms.length ls.length ms ls w7 (HW6.out.below HL7.out).mv (HW6.out.below HL7.out).cv o7.mv o7.cv hsm hcs)
  clear o7 L7
  refine hK.out _ _ HL7.out (fun _ => ?_)
  clear hK K
  refine calm_one 3 (by kernel_rfl) rfl (fun K hK => ?_)
  go_simp
  refine HC7.out.mono ?_
  rintro e w8 ⟨rfl, L8⟩
  have HL8 := hidP (chain HL7.out L8)
  clear L8
  refine hK.out _ _ HL8.out (fun _ => ?_)
  clear hK K
  refine calm_rest [4] rfl (by kernel_rfl) (by kernel_rfl) (by kernel_rfl) HL8.out ?_
  iterate 1
    refine ⟨_, rfl, ?_⟩
    apply Exists.intro
    refine ⟨Or.inl ⟨by rfl, fun w' hw' => ?_⟩, ?_⟩
    · skip
      first
      | (go_simp; done)
      | (go_simp; with_reducible rfl)
    simp only [Act.put, List.getElem_toArray, List.getElem_cons_succ, List.getElem_cons_zero, List.setIfInBounds_toArray, List.set_cons_zero, List.set_cons_succ]
  refine NoPanic.normal (NoPanic.normal ?_)
  have HF := hidP (chain HB1.out (chain HB6.out HL8.out))
  clear HS6 HC6 BL HL7 HL8
  go_wp2_with fail
  go_ret
  exact ⟨rfl, HF.out⟩

set_option maxRecDepth 100000 in
set_option maxHeartbeats 4000000 in
theorem walkIslands (HI : IIslands) (a1 a2 : Option Addr) (c1 c2 : Nat) (ms : List Mk) (ls : List (List Int)) (w : World) (hv1 : MView w a1 ms) (hv2 : CView w a2 ls) (hn1 : ms.length ≤ maxLen) (hat1 : ∀ i, (mat ms i).length ≤ maxLen) (hn2 : ls.length ≤ maxLen) (hat2 : ∀ i, (cn ls i).length ≤ maxLen) :
    Calls Try.prog 8 #[.agg #[.slice a1 ms.length c1, .slice a2 ls.length c2]] w fun e w' => e = .returned (.bool true) ∧ Below w.heap.size w w' := by
  have HII := hidP HI
  clear HI
  obtain ⟨W, hW⟩ : ∃ W, w.alloc (.cells #[.slice a1 ms.length c1, .slice a2 ls.length c2] 50) = W := ⟨_, rfl⟩
  have hB : Below w.heap.size w W := by rw [← hW]; exact (Below.refl _ _).alloc (Nat.le_refl _) _
  have hI : WebIn W w.heap.size a1 c1 ms a2 c2 ls := by rw [← hW]; exact WebIn.box hv1 hv2
  have HS := hidP (szW a1 a2 c1 c2 ms ls W hI.mv hI.cv hn1 hat1 hn2 hat2)
  have HB := hidP hB
  have HW := hidP hI
  have k0 := hI.c0
  have k1 := hI.c1
  clear hv1 hv2 hB hI hat1 hat2
  go_enter Try.func8, Try.ntmps8
  go_wp2_with fail
  refine HS.out.mono ?_
  rintro e w1 ⟨r, rfl, hr, L1⟩
  by_cases hneg : r < 0
  · go_wp2_with fail
    go_ret
    exact ⟨rfl, chain HB.out L1⟩
  obtain ⟨hsm, hcs⟩ : MSmall ms ∧ CSmall ls := by rcases hr with h | h; exact absurd h hneg; exact h
  have hI1 := HW.out.below L1
  have p0 := hI1.c0
  have p1 := hI1.c1
  have HW1 := hidP hI1
  have HB1 := hidP (chain HB.out L1)
  have HC := hidP (toW a1 a2 c1 c2 ms ls w1 hI1.mv hI1.cv hsm hcs)
  obtain ⟨R, hR⟩ : ∃ R, islV ms ls = R := ⟨_, rfl⟩
  have HR := hidP hR
  clear hr L1 hI1 HS k0 k1 hW hR
  go_wp2_with fail
  refine HC.out.mono ?_
  rintro e w2 ⟨bm2, bl2, rfl, o2, L2⟩
  have HC2 := hidP (sIslands _ _ ms.length ls.length ms ls w2 o2.mv o2.cv hsm hcs)
  rw [HR.out] at HC2
  have HB2 := hidP L2
  clear o2 L2
  go_wp2_with fail
  refine HC2.out.mono ?_
  rintro e w3 ⟨rfl, L3⟩
  have HB3 := hidP (chain HB2.out L3)
  have hI3 := HW1.out.below (chain HB2.out L3)
  have p0 := hI3.c0
  have p1 := hI3.c1
  have HC3 := hidP (toW a1 a2 c1 c2 ms ls w3 hI3.mv hI3.cv hsm hcs)
  have HW3 := hidP hI3
  clear L3 hI3
  go_wp2_with fail
  refine HC3.out.mono ?_
  rintro e w4 ⟨bm, bl, rfl, o4, L4⟩
  obtain ⟨w5, hw5⟩ : ∃ w5, w4.alloc (.cells #[.slice (some ⟨bm, 0, none⟩) ms.length ms.length, .slice (some ⟨bl, 0, none⟩) ls.length ls.length] 27) = w5 := ⟨_, rfl⟩
  have L5 : Below w4.heap.size w4 w5 := by rw [← hw5]; exact (Below.refl _ _).alloc (Nat.le_refl _) _
  have hI5 : WebIn w5 w4.heap.size (some ⟨bm, 0, none⟩) ms.length ms (some ⟨bl, 0, none⟩) ls.length ls := by rw [← hw5]; exact WebIn.box o4.mv o4.cv
  have q0 := hI5.c0
  have q1 := hI5.c1
  have HW5 := hidP hI5
  have HI5 := hidP (HW3.out.below (chain L4 L5))
  have HB5 := hidP (chain (chain HB3.out L4) L5)
  have HC5 := hidP (HII.out _ ms.length ms _ ls.length ls w5 hI5.mv hI5.cv hsm hcs (Nat.le_refl _) (Nat.le_refl _))
  rw [HR.out] at HC5
  clear o4 L4 L5 hI5
  go_wp2_with fail
  refine HC5.out.mono ?_
  rintro e w6 ⟨rfl, L6⟩
  have ht : ((R : Int) != R) = false := by simp
  have HW6 := hidP (HW5.out.below L6)
  have HI6 := hidP (HI5.out.below L6)
  have HB6 := hidP (chain HB5.out L6)
  have HS6 : Hid (∀ W', Below w6.heap.size w6 W' → (W'.cell? ⟨w4.heap.size, 0, none⟩ = some (.slice (some ⟨bm, 0, none⟩) ms.length ms.length) ∧ W'.cell? ⟨w4.heap.size, 1, none⟩ = some (.slice (some ⟨bl, 0, none⟩) ls.length ls.length)) ∧ W'.cell? ⟨w.heap.size, 0, none⟩ = some (.slice a1 ms.length c1) ∧ W'.cell? ⟨w.heap.size, 1, none⟩ = some (.slice a2 ls.length c2)) := fun W' L' => ⟨⟨(HW6.out.below L').c0, (HW6.out.below L').c1⟩, (HI6.out.below L').c0, (HI6.out.below L').c1⟩
  have HC6 := hidP (toW a1 a2 c1 c2 ms ls w6.drew (HI6.out.below (Below.refl _ _).drew).mv (HI6.out.below (Below.refl _ _).drew).cv hsm hcs)
  have BL := hidP ((Below.refl w6.heap.size w6).drew)
  clear L6 hw5
  go_wp2_with fail
  refine wp_region_takes (S := fun W' => Below w6.heap.size w6 W') (fuel := 3) [0, 1] (by kernel_rfl) (by kernel_rfl) (by kernel_rfl) (by kernel_rfl) BL.out (fun _ => ?_)
  iterate 2
    refine ⟨_, rfl, ?_⟩
    apply Exists.intro
    refine ⟨Or.inl ⟨by rfl, fun w' hw' => ?_⟩, ?_⟩
    · obtain ⟨⟨e1, e2⟩, e3, e4⟩ := HS6.out w' hw'
      first
      | (go_simp; done)
      | (go_simp; with_reducible rfl)
    simp only [Act.put, List.getElem_toArray, List.getElem_cons_succ, List.getElem_cons_zero, List.setIfInBounds_toArray, List.set_cons_zero, List.set_cons_succ]
  refine calm_one 2 (by kernel_rfl) rfl (fun K hK => ?_)
  go_simp
  refine HC6.out.mono ?_
  rintro e w7 ⟨bm7, bl7, rfl, o7, L7⟩
  have HL7 := hidP (chain BL.out L7)
  have HC7 := hidP (eqW _ _ _ _ ms.length ls.length ms.length ls.length ms ls w7 (HW6.out.below HL7.out).mv (HW6.out.below HL7.out).cv o7.mv o7.cv hsm hcs)
  clear o7 L7
  refine hK.out _ _ HL7.out (fun _ => ?_)
  clear hK K
  refine calm_one 3 (by kernel_rfl) rfl (fun K hK => ?_)
  go_simp
  refine HC7.out.mono ?_
  rintro e w8 ⟨rfl, L8⟩
  have HL8 := hidP (chain HL7.out L8)
  clear L8
  refine hK.out _ _ HL8.out (fun _ => ?_)
  clear hK K
  refine calm_rest [4] rfl (by kernel_rfl) (by kernel_rfl) (by kernel_rfl) HL8.out ?_
  iterate 1
    refine ⟨_, rfl, ?_⟩
    apply Exists.intro
    refine ⟨Or.inl ⟨by rfl, fun w' hw' => ?_⟩, ?_⟩
    · skip
      first
      | (go_simp; done)
      | (go_simp; with_reducible rfl)
    simp only [Act.put, List.getElem_toArray, List.getElem_cons_succ, List.getElem_cons_zero, List.setIfInBounds_toArray, List.set_cons_zero, List.set_cons_succ]
  refine NoPanic.normal (NoPanic.normal ?_)
  have HF := hidP (chain HB1.out (chain HB6.out HL8.out))
  clear HS6 HC6 BL HL7 HL8
  go_wp2_with fail
  go_ret
  exact ⟨rfl, HF.out⟩

end Go.Proofs.Ytlggpfgamjoeaaa
namespace Go.Proofs.Ytlggpfgamjoeaaa
open Go Go.RowKit

def IWalk : Prop := ∀ (am : Option Addr) (cm : Nat) (ms : List Mk) (al : Option Addr) (cl : Nat) (ls : List (List Int)) (fr : Int) (aq : Option Addr) (cq : Nat) (q : List Int) (w : World), MView w am ms → CView w al ls → View w aq q → MSmall ms → CSmall ls → q.length ≤ 1048576 → ms.length ≤ cm → ls.length ≤ cl → q.length ≤ cq → Calls Try.prog 11 #[.agg #[.slice am ms.length cm, .slice al ls.length cl], .int .i64 fr, .slice aq q.length cq] w fun e w' => ∃ a c, e = .returned (.slice a (walkL ms ls fr q).length c) ∧ IOut w.heap.size w' (.slice a (walkL ms ls fr q).length c) (walkL ms ls fr q) ∧ Below w.heap.size w w'
def IBeam : Prop := ∀ (am : Option Addr) (cm : Nat) (ms : List Mk) (al : Option Addr) (cl : Nat) (ls : List (List Int)) (fr : Int) (aq : Option Addr) (cq : Nat) (q : List Int) (wide : Int) (w : World), MView w am ms → CView w al ls → View w aq q → MSmall ms → CSmall ls → q.length ≤ 1048576 → ms.length ≤ cm → ls.length ≤ cl → q.length ≤ cq → Calls Try.prog 17 #[.agg #[.slice am ms.length cm, .slice al ls.length cl], .int .i64 fr, .slice aq q.length cq, .int .i64 wide] w fun e w' => ∃ a c, e = .returned (.slice a (beamL ms ls fr q wide).length c) ∧ HOut w.heap.size w' (.slice a (beamL ms ls fr q wide).length c) (beamL ms ls fr q wide) ∧ Below w.heap.size w w'
theorem Walk_len14 (ms : List Mk) (ls : List (List Int)) (fr : Int) (q : List Int) : (walkL ms ls fr q).length ≤ 61 := by
  unfold walkL
  split
  · rename_i h
    have h1 := walkG_short (ms := ms) (ls := ls) (q := q) fr
    have h2 := marksB_len (web_marks ((toldW_iff _ _ _ _).1 h).1)
    omega
  · simp
theorem Beam_len14 (ms : List Mk) (ls : List (List Int)) (fr : Int) (q : List Int) (wide : Int) : (beamL ms ls fr q wide).length ≤ 61 := by
  unfold beamL
  split
  · rename_i h
    obtain ⟨h1, h2, h3⟩ := (toldW_iff _ _ _ _).1 h.1
    obtain ⟨s', ids', op', e, hb, -⟩ := beam_ends (q := q) h1 wide.toNat ms.length [hitOf ms q fr] [fr] [] (by simp) (beam_start (ls := ls) h3).1 (beam_start (q := q) h3).2
    rw [e, List.length_take]
    have := hb.len
    have := hb.short
    have := marksB_len (web_marks h1)
    omega
  · simp
theorem seg_same14 {w w' : World} {b off : Nat} {xs : List Int} (h : Seg w b off xs) (e : w'.heap[b]? = w.heap[b]?) : Seg w' b off xs := fun i hi => (World.cell?_of_block (w := w) (a := ⟨b, off + i, none⟩) e).trans (h i hi)
theorem hseg_same14 {w w' : World} {b off : Nat} {xs : List Ht} (h : HSeg w b off xs) (e : w'.heap[b]? = w.heap[b]?) : HSeg w' b off xs := fun i hi => ⟨(World.cell?_of_block (w := w) (a := ⟨b, off + i * 2, none⟩) e).trans (h i hi).1, (World.cell?_of_block (w := w) (a := ⟨b, off + i * 2 + 1, none⟩) e).trans (h i hi).2⟩
theorem below_gin14 {lo hi : Nat} {W w1 w2 : World} (h : Below W.heap.size W w1) (g : GIn lo hi w1 w2) (hl : W.heap.size ≤ lo) : Below W.heap.size W w2 := below_gin h g hl
theorem eqI14 (ao ao' : Option Addr) (cap cap' : Nat) (R : List Int) (w : World) (hv : View w ao R) (hv' : View w ao' R) (hn : R.length ≤ 1048576) :
    Calls Try.prog 30 #[.slice ao R.length cap, .slice ao' R.length cap'] w fun e w' => e = .returned (.bool true) ∧ Below w.heap.size w w' := by
  refine (eqS ao ao' cap cap' R R w hv hv' hn).mono ?_
  rintro e w' ⟨rfl, n, rfl⟩
  exact ⟨ret_bool (by simp), below_drewN (Below.refl _ _) n⟩
theorem eqH14 (ao ao' : Option Addr) (cap cap' : Nat) (R : List Ht) (w : World) (hv : HView w ao R) (hv' : HView w ao' R) (hn : R.length ≤ 1048576) :
    Calls Try.prog 34 #[.slice ao R.length cap, .slice ao' R.length cap'] w fun e w' => e = .returned (.bool true) ∧ Below w.heap.size w w' := by
  refine (eqHS ao ao' cap cap' R R w hv hv' (by omega)).mono ?_
  rintro e w' ⟨rfl, L⟩
  exact ⟨ret_bool (by simp), L⟩
theorem markI14 (b : Nat) (k0 : Int) (xs : List Int) (w : World) (ho : Own w b xs) (hn : xs.length ≤ 1048576) (h0 : 1 ≤ k0) (h1 : k0 ≤ 2305844108725321728) :
    Calls Try.prog 32 #[.slice (some ⟨b, 0, none⟩) xs.length xs.length, .int .i64 k0] w fun e w' => (∃ k1 : Int, 1 ≤ k1 ∧ e = .returned (.int .i64 k1)) ∧ w.grownBy w' (some b) := by
  refine (mark_big b k0 xs w ho hn h0 (by omega)).mono ?_
  rintro e w' ⟨rfl, -, hg⟩
  exact ⟨⟨k0 + xs.length, by omega, rfl⟩, hg⟩
theorem outMarkI (Z c : Nat) (ao : Option Addr) (R : List Int) (w : World) (h : IOut Z w (.slice ao R.length c) R) (hn : R.length ≤ 1048576) (hZ : Z ≤ w.heap.size) :
    Calls Try.prog 32 #[.slice ao R.length c, .int .i64 1] w fun e w' => e = .returned (.int .i64 (1 + (R.length : Int))) ∧ View w' ao (tabL (fun i => 1 + (i : Int)) R.length) ∧ Below Z w w' := by
  refine (markO Z c ao 1 R w h hn (by omega) (by omega)).mono ?_
  rintro e w' ⟨rfl, g, hc, hb⟩
  rw [tabL_length] at g
  refine ⟨rfl, g.slice, hc.1, hc.2.1, hc.2.2.1, hc.2.2.2.1, fun i hi => ?_⟩
  refine hc.2.2.2.2 i (by omega) (fun a n c e e' => ?_)
  injection e with e1
  have := hb a.block ⟨a, e1, rfl⟩
  omega
theorem outMarkH (Z c : Nat) (ao : Option Addr) (R : List Ht) (w : World) (h : HOut Z w (.slice ao R.length c) R) (hn : R.length ≤ 1048576) (hZ : Z ≤ w.heap.size) :
    Calls Try.prog 35 #[.slice ao R.length c, .int .i64 1] w fun e w' => e = .returned (.int .i64 (1 + 2 * (R.length : Int))) ∧ HView w' ao (seqH 1 R.length) ∧ Below Z w w' := by
  refine (markOut Z c ao R w h (by omega)).mono ?_
  rintro e w' ⟨rfl, hv, r, hg, hr⟩
  refine ⟨rfl, hv, hg.os, hg.tape, hg.output, hg.size, fun i hi => hg.block i (by omega) (fun e => ?_)⟩
  have := hr i e.symm
  omega

/-- What is kept in hand while Walk's law goes on. -/
structure WkWalk (W : World) (gw bm bl hi bx bq Z : Nat) (ms : List Mk) (ls : List (List Int)) (q : List Int) (R : List Int) (ag : Option Addr) (cg : Nat) (w : World) : Prop where
  low : Below W.heap.size W w
  row : Seg w gw 0 R
  web : WebOwn W.heap.size hi w bm bl ms ls
  box : WebIn w bx (some ⟨bm, 0, none⟩) ms.length ms (some ⟨bl, 0, none⟩) ls.length ls
  own : Own w bq q
  out : IOut Z w (.slice ag R.length cg) R
  hz : Z ≤ w.heap.size
  gl : gw < w.heap.size
theorem WkWalk.next {W w w' : World} {gw bm bl hi bx bq Z : Nat} {ms : List Mk} {ls : List (List Int)} {q : List Int} {R : List Int} {ag : Option Addr} {cg : Nat} (h : WkWalk W gw bm bl hi bx bq Z ms ls q R ag cg w) (L : Below w.heap.size w w') : WkWalk W gw bm bl hi bx bq Z ms ls q R ag cg w' :=
  ⟨chain h.low L, Seg.below h.row h.gl L, h.web.next L, h.box.below L, h.own.below h.own.lt L, h.out.below L, Nat.le_trans h.hz L.size, Nat.lt_of_lt_of_le h.gl L.size⟩

set_option maxRecDepth 100000 in
set_option maxHeartbeats 8000000 in
theorem walkWalk (HI : IWalk) (a1 a2 aq : Option Addr) (c1 c2 cq : Nat) (ms : List Mk) (ls : List (List Int)) (q : List Int) (fr : Int) (w : World) (hv1 : MView w a1 ms) (hv2 : CView w a2 ls) (hvq : View w aq q) (hn1 : ms.length ≤ maxLen) (hat1 : ∀ i, (mat ms i).length ≤ maxLen) (hn2 : ls.length ≤ maxLen) (hat2 : ∀ i, (cn ls i).length ≤ maxLen) (hnq : q.length ≤ maxLen) :
    Calls Try.prog 6 #[.agg #[.slice a1 ms.length c1, .slice a2 ls.length c2], .int .i64 fr, .slice aq q.length cq] w fun e w' => e = .returned (.bool true) ∧ Below w.heap.size w w' := by
  have HII := hidP HI
  clear HI
  unfold maxLen at hnq
  obtain ⟨W, hW⟩ : ∃ W, w.alloc (.cells #[.slice a1 ms.length c1, .slice a2 ls.length c2] 50) = W := ⟨_, rfl⟩
  have hB : Below w.heap.size w W := by rw [← hW]; exact (Below.refl _ _).alloc (Nat.le_refl _) _
  have hI : WebIn W w.heap.size a1 c1 ms a2 c2 ls := by rw [← hW]; exact WebIn.box hv1 hv2
  have HB := hidP hB
  by_cases hbig : 1048576 < q.length
  · go_enter Try.func6, Try.ntmps6
    go_wp2_with fail
    go_ret
    exact ⟨rfl, HB.out⟩
  have hql : q.length ≤ 1048576 := by omega
  have HS := hidP (szW a1 a2 c1 c2 ms ls W hI.mv hI.cv hn1 hat1 hn2 hat2)
  have HW := hidP hI
  have HQ := hidP (View.next hvq hB)
  have k0 := hI.c0
  have k1 := hI.c1
  clear hv1 hv2 hvq hB hI hat1 hat2
  go_enter Try.func6, Try.ntmps6
  go_wp2_with fail
  refine HS.out.mono ?_
  rintro e w1 ⟨r, rfl, hr, L1⟩
  by_cases hneg : r < 0
  · go_wp2_with fail
    go_ret
    exact ⟨rfl, chain HB.out L1⟩
  obtain ⟨hsm, hcs⟩ : MSmall ms ∧ CSmall ls := by rcases hr with h | h; exact absurd h hneg; exact h
  have HM := hidP hsm
  have HCS := hidP hcs
  have TW := hidP (fun W' (L : Below W.heap.size W W') => toW a1 a2 c1 c2 ms ls W' (HW.out.below L).mv (HW.out.below L).cv hsm hcs)
  have TQ := hidP (fun W' (L : Below W.heap.size W W') => toS aq cq q W' (View.next HQ.out L) hql)
  have K01 := hidP (fun W' (L : Below W.heap.size W W') => And.intro (HW.out.below L).c0 (HW.out.below L).c1)
  obtain ⟨R, hR⟩ : ∃ R, walkL ms ls fr q = R := ⟨_, rfl⟩
  have nR : R.length ≤ 61 := by rw [← hR]; exact Walk_len14 ms ls fr q
  have HR := hidP hR
  have hRR : decide (R = R) = true := by simp
  have HL1 := hidP L1
  obtain ⟨p0, p1⟩ := K01.out w1 L1
  have HC1 := hidP (TW.out w1 L1)
  clear hr L1 HS k0 k1 hW hR hsm hcs
  go_wp2_with fail
  refine HC1.out.mono ?_
  rintro e w2 ⟨bm2, bl2, rfl, o2, L2⟩
  have HL2 := hidP (chain HL1.out L2)
  have HC2 := hidP (TQ.out w2 HL2.out)
  have HO2 := hidP o2
  clear o2 L2
  go_wp2_with fail
  refine HC2.out.mono ?_
  rintro e w3 ⟨b3, rfl, o3, hb3, L3⟩
  have HL3 := hidP (chain HL2.out L3)
  have HC3 := hidP (sWalk _ _ _ ms.length ls.length q.length ms ls q fr w3 (HO2.out.next L3).mv (HO2.out.next L3).cv o3.view HM.out HCS.out hql)
  rw [HR.out] at HC3
  clear o3 L3 hb3
  go_wp2_with fail
  refine HC3.out.mono ?_
  rintro e w4 ⟨gw, cw, rfl, row4, L4⟩
  have HL4 := hidP (chain HL3.out L4)
  have HR4 := hidP row4.seg
  have hg4 : gw < w4.heap.size := row4.lt2.2
  obtain ⟨q0, q1⟩ := K01.out w4 HL4.out
  have HC4 := hidP (TW.out w4 HL4.out)
  clear row4 L4 HO2
  go_wp2_with fail
  refine HC4.out.mono ?_
  rintro e w5 ⟨bm, bl, rfl, o5, L5⟩
  have hlo := o5.lo
  have hbm5 := o5.lt
  have hbl5 : bl < w5.heap.size := o5.co.1
  obtain ⟨bx, hbx⟩ : ∃ b, w5.heap.size = b := ⟨_, rfl⟩
  obtain ⟨w6, hw6⟩ : ∃ w6, w5.alloc (.cells #[.slice (some ⟨bm, 0, none⟩) ms.length ms.length, .slice (some ⟨bl, 0, none⟩) ls.length ls.length] 27) = w6 := ⟨_, rfl⟩
  have L6 : Below w5.heap.size w5 w6 := by rw [← hw6]; exact (Below.refl _ _).alloc (Nat.le_refl _) _
  have hI6 : WebIn w6 bx (some ⟨bm, 0, none⟩) ms.length ms (some ⟨bl, 0, none⟩) ls.length ls := by rw [← hw6, ← hbx]; exact WebIn.box o5.mv o5.cv
  have hs6 : w6.heap.size = bx + 1 := by rw [← hw6, ← hbx]; simp
  have HO6 := hidP (o5.next L6)
  have HI6 := hidP hI6
  have HL6 := hidP (chain (chain HL4.out L5) L6)
  have HR6 := hidP (Seg.below HR4.out hg4 (chain L5 L6))
  have hz5 := L5.size
  have HC6 := hidP (TQ.out w6 HL6.out)
  clear o5 L5 L6 hI6
  go_wp2_with fail
  clear hw6
  refine HC6.out.mono ?_
  rintro e w7 ⟨bq, rfl, o7, hbq, L7⟩
  have hI7 := HI6.out.below L7
  have s0 := hI7.c0
  have s1 := hI7.c1
  have HI7 := hidP hI7
  have HO7 := hidP (HO6.out.next L7)
  have HL7 := hidP (chain HL6.out L7)
  have HR7 := hidP (Seg.below HR6.out (by omega) L7)
  have HQ7 := hidP o7
  have hql7 := o7.lt
  have HC7 := hidP (HII.out _ ms.length ms _ ls.length ls fr _ q.length q w7 hI7.mv hI7.cv o7.view HM.out HCS.out hql (Nat.le_refl _) (Nat.le_refl _) (Nat.le_refl _))
  rw [HR.out] at HC7
  clear L7 o7 hI7
  go_wp2_with fail
  refine HC7.out.mono ?_
  rintro e w8 ⟨ag, cg, rfl, g8, L8⟩
  have hz8 := L8.size
  obtain ⟨Z, hZ⟩ : ∃ Z, w7.heap.size = Z := ⟨_, rfl⟩
  have ST8 : Hid (WkWalk W gw bm bl bx bx bq Z ms ls q R ag cg w8) := ⟨chain HL7.out L8, Seg.below HR7.out (by omega) L8, ⟨Nat.le_trans HL4.out.size hlo, (HO7.out.next L8).mv, (HO7.out.next L8).cv, (HO7.out.next L8).mo, by have h := (HO7.out.next L8).co; rw [hbx] at h; exact h, (HO7.out.next L8).lt, by have h := (HO7.out.next L8).hi; rw [hbx] at h; exact h⟩, HI7.out.below L8, HQ7.out.below hql7 L8, by rw [← hZ]; exact g8, by omega, by omega⟩
  have HZ : Hid (gw < bm ∧ bm < bl ∧ bl < bx ∧ bx ≤ bq ∧ bq < Z ∧ W.heap.size ≤ gw ∨ gw < bm ∧ bm < bl ∧ bl < bx ∧ bx ≤ bq ∧ bq < Z) := Or.inr ⟨by omega, by omega, by omega, by omega, by omega⟩
  have hzz : gw < bm ∧ bm < bl ∧ bl < bx ∧ bx ≤ bq ∧ bq < Z := by rcases HZ.out with h | h; exact ⟨h.1, h.2.1, h.2.2.1, h.2.2.2.1, h.2.2.2.2.1⟩; exact h
  have hWb : W.heap.size ≤ bm := by have := HL4.out.size; omega
  clear L8 g8 HZ hZ hz8 HI7 HO7 HR7 HQ7 HL7 HC7 HC6 HI6 HO6 HR6 HL6 HL4 HR4 HC4 HC3 HC2 HC1 HL1 HL2 HL3 hz5 hs6 hg4 hlo hbm5 hbl5 hbq hql7
  have HRV : Hid (∀ W', Seg W' gw 0 R → gw < W'.heap.size → View W' (some ⟨gw, 0, none⟩) R) := fun W' h1 h2 => Or.inr ⟨gw, 0, rfl, h2, h1⟩
  have HE8 := hidP (eqI14 _ _ cg cw R w8 ST8.out.out.slice (HRV.out _ ST8.out.row ST8.out.gl) (by omega))
  go_wp2_with fail
  refine HE8.out.mono ?_
  rintro e w9 ⟨rfl, L9⟩
  have ST9 := hidP (ST8.out.next L9)
  have HS9 : Hid (∀ W', Below w9.heap.size w9 W' → (W'.cell? ⟨bx, 0, none⟩ = some (.slice (some ⟨bm, 0, none⟩) ms.length ms.length) ∧ W'.cell? ⟨bx, 1, none⟩ = some (.slice (some ⟨bl, 0, none⟩) ls.length ls.length)) ∧ W'.cell? ⟨w.heap.size, 0, none⟩ = some (.slice a1 ms.length c1) ∧ W'.cell? ⟨w.heap.size, 1, none⟩ = some (.slice a2 ls.length c2)) := fun W' L' => ⟨⟨(ST9.out.box.below L').c0, (ST9.out.box.below L').c1⟩, K01.out W' (chain ST9.out.low L')⟩
  have BL := hidP ((Below.refl w9.heap.size w9).drew)
  have HC9 := hidP (TW.out w9.drew (chain ST9.out.low BL.out))
  clear L9 HE8 ST8 s0 s1
  go_wp2_with fail
  refine wp_region_takes (S := fun W' => Below w9.heap.size w9 W') (fuel := 3) [0, 1] (by kernel_rfl) (by kernel_rfl) (by kernel_rfl) (by kernel_rfl) BL.out (fun _ => ?_)
  iterate 2
    refine ⟨_, rfl, ?_⟩
    apply Exists.intro
    refine ⟨Or.inl ⟨by rfl, fun w' hw' => ?_⟩, ?_⟩
    · obtain ⟨⟨e1, e2⟩, e3, e4⟩ := HS9.out w' hw'
      first
      | (go_simp; done)
      | (go_simp; with_reducible rfl)
    simp only [Act.put, List.getElem_toArray, List.getElem_cons_succ, List.getElem_cons_zero, List.setIfInBounds_toArray, List.set_cons_zero, List.set_cons_succ]
  refine calm_one 2 (by kernel_rfl) rfl (fun K hK => ?_)
  go_simp
  refine HC9.out.mono ?_
  rintro e wa ⟨bma, bla, rfl, oa, La⟩
  have HLa := hidP (chain BL.out La)
  have HCa := hidP (eqW _ _ _ _ ms.length ls.length ms.length ls.length ms ls wa (ST9.out.box.below HLa.out).mv (ST9.out.box.below HLa.out).cv oa.mv oa.cv HM.out HCS.out)
  clear oa La
  refine hK.out _ _ HLa.out (fun _ => ?_)
  clear hK K
  refine calm_one 3 (by kernel_rfl) rfl (fun K hK => ?_)
  go_simp
  refine HCa.out.mono ?_
  rintro e wb ⟨rfl, Lb⟩
  have HLb := hidP (chain HLa.out Lb)
  clear Lb
  refine hK.out _ _ HLb.out (fun _ => ?_)
  clear hK K
  refine calm_rest [4] rfl (by kernel_rfl) (by kernel_rfl) (by kernel_rfl) HLb.out ?_
  iterate 1
    refine ⟨_, rfl, ?_⟩
    apply Exists.intro
    refine ⟨Or.inl ⟨by rfl, fun w' hw' => ?_⟩, ?_⟩
    · skip
      first
      | (go_simp; done)
      | (go_simp; with_reducible rfl)
    simp only [Act.put, List.getElem_toArray, List.getElem_cons_succ, List.getElem_cons_zero, List.setIfInBounds_toArray, List.set_cons_zero, List.set_cons_succ]
  refine NoPanic.normal (NoPanic.normal ?_)
  have STb := hidP (ST9.out.next HLb.out)
  have HCb := hidP (TQ.out wb STb.out.low)
  clear HS9 BL HC9 HLa HCa HLb ST9
  go_wp2_with fail
  refine HCb.out.mono ?_
  rintro e wc ⟨bc, rfl, oc, hbc, Lc⟩
  have STc := hidP (STb.out.next Lc)
  have HCc := hidP (eqI14 _ _ q.length q.length q wc STc.out.own.view oc.view hql)
  clear oc Lc STb HCb hbc
  go_wp2_with fail
  refine HCc.out.mono ?_
  rintro e wd ⟨rfl, Ld⟩
  have STd := hidP (STc.out.next Ld)
  have s0 := STd.out.box.c0
  have s1 := STd.out.box.c1
  have HCd := hidP (markW W.heap.size bx bm bl ms.length ls.length 1 ms ls wd STd.out.web HM.out HCS.out (by omega) (by omega))
  clear Ld STc HCc
  -- the arguments written over: the answer stays
  go_wp2_with fail
  refine HCd.out.mono ?_
  rintro e we ⟨⟨ke, hke, hke2, rfl⟩, ge⟩
  have hze := ge.2.2.2.1
  have HGe : Hid (Below W.heap.size W we ∧ Seg we gw 0 R ∧ Own we bq q ∧ IOut Z we (.slice ag R.length cg) R ∧ Z ≤ we.heap.size ∧ gw < we.heap.size) :=
    ⟨below_gin14 STd.out.low ge hWb, seg_same14 STd.out.row (ge.2.2.2.2 gw STd.out.gl (Or.inl hzz.1)), ge.own STd.out.own (Or.inr hzz.2.2.2.1), STd.out.out.same (fun i h1 h2 => ge.2.2.2.2 i h2 (Or.inr (by omega))), by have := STd.out.hz; omega, by have := STd.out.gl; omega⟩
  clear ge STd HCd s0 s1
  have HCe := hidP (markI14 bq ke q we HGe.out.2.2.1 hql hke hke2)
  go_wp2_with fail
  refine HCe.out.mono ?_
  rintro e wf ⟨⟨kf, hkf, rfl⟩, gf⟩
  have hkn : ¬ kf < 0 := by omega
  have hkd : decide (kf < 0) = false := by simp; omega
  have hzf := gf.size
  have HGf : Hid (Below W.heap.size W wf ∧ Seg wf gw 0 R ∧ IOut Z wf (.slice ag R.length cg) R ∧ Z ≤ wf.heap.size ∧ gw < wf.heap.size) :=
    ⟨HGe.out.1.grown gf HGe.out.1.size (by intro x hx; cases hx; omega), seg_same14 HGe.out.2.1 (gf.block gw HGe.out.2.2.2.2.2 (by simp; omega)), HGe.out.2.2.2.1.same (fun i h1 h2 => gf.block i h2 (by simp; omega)), by have := HGe.out.2.2.2.2.1; omega, by have := HGe.out.2.2.2.2.2; omega⟩
  have HCf := hidP (eqI14 _ _ cg cw R wf HGf.out.2.2.1.slice (HRV.out _ HGf.out.2.1 HGf.out.2.2.2.2) (by omega))
  clear gf HGe HCe
  go_wp2_with fail
  refine HCf.out.mono ?_
  rintro e wg ⟨rfl, Lg⟩
  have HGg : Hid (Below W.heap.size W wg ∧ Seg wg gw 0 R ∧ IOut Z wg (.slice ag R.length cg) R ∧ Z ≤ wg.heap.size ∧ gw < wg.heap.size) := ⟨chain HGf.out.1 Lg, Seg.below HGf.out.2.1 HGf.out.2.2.2.2 Lg, HGf.out.2.2.1.below Lg, Nat.le_trans HGf.out.2.2.2.1 Lg.size, Nat.lt_of_lt_of_le HGf.out.2.2.2.2 Lg.size⟩
  have HCg := hidP (outMarkI Z cg ag R wg HGg.out.2.2.1 (by omega) HGg.out.2.2.2.1)
  clear Lg HGf HCf
  -- the answer written over: it is the call's own
  go_wp2_with fail
  refine HCg.out.mono ?_
  rintro e wh ⟨rfl, vh, Lh⟩
  have hzh := Lh.size
  have HGh : Hid (Below W.heap.size W wh ∧ Seg wh gw 0 R ∧ View wh ag (tabL (fun i => 1 + (i : Int)) R.length) ∧ gw < wh.heap.size) := ⟨HGg.out.1.trans (Lh.mono (by omega)), Seg.below HGg.out.2.1 (by omega) Lh, vh, by have := HGg.out.2.2.2.2; omega⟩
  have hq0 : ¬ ((1 + (R.length : Int)) < 0) := by omega
  have hq1 : ((1 + (R.length : Int)) != (1 + (R.length : Int))) = false := by simp
  obtain ⟨V, hV⟩ : ∃ V : Int, 1 + (R.length : Int) = V := ⟨_, rfl⟩
  have HCh := hidP (heldI ag cg R.length 1 wh HGh.out.2.2.1 (by omega) (by omega) (by omega))
  rw [hV] at HCh hq0 hq1
  rw [hV]
  obtain ⟨t0, t1⟩ := K01.out wh HGh.out.1
  have HTh := hidP (TW.out wh HGh.out.1)
  clear vh Lh HGg HCg
  go_wp2_with fail
  refine HCh.out.mono ?_
  rintro e wi ⟨rfl, hwi⟩
  subst hwi
  go_wp2_with fail
  refine HTh.out.mono ?_
  rintro e wj ⟨bmj, blj, rfl, oj, Lj⟩
  have HGj : Hid (Below W.heap.size W wj ∧ Seg wj gw 0 R ∧ View wj ag (tabL (fun i => 1 + (i : Int)) R.length) ∧ gw < wj.heap.size) := ⟨chain HGh.out.1 Lj, Seg.below HGh.out.2.1 HGh.out.2.2.2 Lj, View.next HGh.out.2.2.1 Lj, Nat.lt_of_lt_of_le HGh.out.2.2.2 Lj.size⟩
  have HOj := hidP oj
  have HTj := hidP (TQ.out wj HGj.out.1)
  clear oj Lj HGh HTh HCh
  go_wp2_with fail
  refine HTj.out.mono ?_
  rintro e wk ⟨bk, rfl, ok, hbk, Lk⟩
  have HGk : Hid (Below W.heap.size W wk ∧ Seg wk gw 0 R ∧ View wk ag (tabL (fun i => 1 + (i : Int)) R.length) ∧ gw < wk.heap.size) := ⟨chain HGj.out.1 Lk, Seg.below HGj.out.2.1 HGj.out.2.2.2 Lk, View.next HGj.out.2.2.1 Lk, Nat.lt_of_lt_of_le HGj.out.2.2.2 Lk.size⟩
  have HCk := hidP (HII.out _ ms.length ms _ ls.length ls fr _ q.length q wk (HOj.out.next Lk).mv (HOj.out.next Lk).cv ok.view HM.out HCS.out hql (Nat.le_refl _) (Nat.le_refl _) (Nat.le_refl _))
  rw [HR.out] at HCk
  clear ok Lk HGj HTj HOj hbk
  go_wp2_with fail
  refine HCk.out.mono ?_
  rintro e wl ⟨al, cl, rfl, gl, Ll⟩
  have HGl : Hid (Below W.heap.size W wl ∧ Seg wl gw 0 R ∧ View wl ag (tabL (fun i => 1 + (i : Int)) R.length) ∧ gw < wl.heap.size) := ⟨chain HGk.out.1 Ll, Seg.below HGk.out.2.1 HGk.out.2.2.2 Ll, View.next HGk.out.2.2.1 Ll, Nat.lt_of_lt_of_le HGk.out.2.2.2 Ll.size⟩
  have HCl := hidP (eqI14 _ _ cl cw R wl gl.slice (HRV.out _ HGl.out.2.1 HGl.out.2.2.2) (by omega))
  clear Ll gl HGk HCk
  go_wp2_with fail
  refine HCl.out.mono ?_
  rintro e wm ⟨rfl, Lm⟩
  have HGm : Hid (Below W.heap.size W wm ∧ View wm ag (tabL (fun i => 1 + (i : Int)) R.length)) := ⟨chain HGl.out.1 Lm, View.next HGl.out.2.2.1 Lm⟩
  have HCm := hidP (heldI ag cg R.length 1 wm HGm.out.2 (by omega) (by omega) (by omega))
  rw [hV] at HCm
  clear Lm HGl HCl
  go_wp2_with fail
  refine HCm.out.mono ?_
  rintro e wn ⟨rfl, hwn⟩
  subst hwn
  go_wp2_with fail
  go_ret
  exact ⟨rfl, chain HB.out HGm.out.1⟩

/-- What is kept in hand while Beam's law goes on. -/
structure WkBeam (W : World) (gw bm bl hi bx bq Z : Nat) (ms : List Mk) (ls : List (List Int)) (q : List Int) (R : List Ht) (ag : Option Addr) (cg : Nat) (w : World) : Prop where
  low : Below W.heap.size W w
  row : HSeg w gw 0 R
  web : WebOwn W.heap.size hi w bm bl ms ls
  box : WebIn w bx (some ⟨bm, 0, none⟩) ms.length ms (some ⟨bl, 0, none⟩) ls.length ls
  own : Own w bq q
  out : HOut Z w (.slice ag R.length cg) R
  hz : Z ≤ w.heap.size
  gl : gw < w.heap.size
theorem WkBeam.next {W w w' : World} {gw bm bl hi bx bq Z : Nat} {ms : List Mk} {ls : List (List Int)} {q : List Int} {R : List Ht} {ag : Option Addr} {cg : Nat} (h : WkBeam W gw bm bl hi bx bq Z ms ls q R ag cg w) (L : Below w.heap.size w w') : WkBeam W gw bm bl hi bx bq Z ms ls q R ag cg w' :=
  ⟨chain h.low L, HSeg.below h.row h.gl L, h.web.next L, h.box.below L, h.own.below h.own.lt L, h.out.below L, Nat.le_trans h.hz L.size, Nat.lt_of_lt_of_le h.gl L.size⟩

set_option maxRecDepth 100000 in
set_option maxHeartbeats 8000000 in
theorem walkBeam (HI : IBeam) (a1 a2 aq : Option Addr) (c1 c2 cq : Nat) (ms : List Mk) (ls : List (List Int)) (q : List Int) (fr : Int) (wide : Int) (w : World) (hv1 : MView w a1 ms) (hv2 : CView w a2 ls) (hvq : View w aq q) (hn1 : ms.length ≤ maxLen) (hat1 : ∀ i, (mat ms i).length ≤ maxLen) (hn2 : ls.length ≤ maxLen) (hat2 : ∀ i, (cn ls i).length ≤ maxLen) (hnq : q.length ≤ maxLen) :
    Calls Try.prog 7 #[.agg #[.slice a1 ms.length c1, .slice a2 ls.length c2], .int .i64 fr, .slice aq q.length cq, .int .i64 wide] w fun e w' => e = .returned (.bool true) ∧ Below w.heap.size w w' := by
  have HII := hidP HI
  clear HI
  unfold maxLen at hnq
  obtain ⟨W, hW⟩ : ∃ W, w.alloc (.cells #[.slice a1 ms.length c1, .slice a2 ls.length c2] 50) = W := ⟨_, rfl⟩
  have hB : Below w.heap.size w W := by rw [← hW]; exact (Below.refl _ _).alloc (Nat.le_refl _) _
  have hI : WebIn W w.heap.size a1 c1 ms a2 c2 ls := by rw [← hW]; exact WebIn.box hv1 hv2
  have HB := hidP hB
  by_cases hbig : 1048576 < q.length
  · go_enter Try.func7, Try.ntmps7
    go_wp2_with fail
    go_ret
    exact ⟨rfl, HB.out⟩
  have hql : q.length ≤ 1048576 := by omega
  have HS := hidP (szW a1 a2 c1 c2 ms ls W hI.mv hI.cv hn1 hat1 hn2 hat2)
  have HW := hidP hI
  have HQ := hidP (View.next hvq hB)
  have k0 := hI.c0
  have k1 := hI.c1
  clear hv1 hv2 hvq hB hI hat1 hat2
  go_enter Try.func7, Try.ntmps7
  go_wp2_with fail
  refine HS.out.mono ?_
  rintro e w1 ⟨r, rfl, hr, L1⟩
  by_cases hneg : r < 0
  · go_wp2_with fail
    go_ret
    exact ⟨rfl, chain HB.out L1⟩
  obtain ⟨hsm, hcs⟩ : MSmall ms ∧ CSmall ls := by rcases hr with h | h; exact absurd h hneg; exact h
  have HM := hidP hsm
  have HCS := hidP hcs
  have TW := hidP (fun W' (L : Below W.heap.size W W') => toW a1 a2 c1 c2 ms ls W' (HW.out.below L).mv (HW.out.below L).cv hsm hcs)
  have TQ := hidP (fun W' (L : Below W.heap.size W W') => toS aq cq q W' (View.next HQ.out L) hql)
  have K01 := hidP (fun W' (L : Below W.heap.size W W') => And.intro (HW.out.below L).c0 (HW.out.below L).c1)
  obtain ⟨R, hR⟩ : ∃ R, beamL ms ls fr q wide = R := ⟨_, rfl⟩
  have nR : R.length ≤ 61 := by rw [← hR]; exact Beam_len14 ms ls fr q wide
  have HR := hidP hR
  have hRR : decide (R = R) = true := by simp
  have HL1 := hidP L1
  obtain ⟨p0, p1⟩ := K01.out w1 L1
  have HC1 := hidP (TW.out w1 L1)
  clear hr L1 HS k0 k1 hW hR hsm hcs
  go_wp2_with fail
  refine HC1.out.mono ?_
  rintro e w2 ⟨bm2, bl2, rfl, o2, L2⟩
  have HL2 := hidP (chain HL1.out L2)
  have HC2 := hidP (TQ.out w2 HL2.out)
  have HO2 := hidP o2
  clear o2 L2
  go_wp2_with fail
  refine HC2.out.mono ?_
  rintro e w3 ⟨b3, rfl, o3, hb3, L3⟩
  have HL3 := hidP (chain HL2.out L3)
  have HC3 := hidP (sBeam _ _ _ ms.length ls.length q.length ms ls q fr wide w3 (HO2.out.next L3).mv (HO2.out.next L3).cv o3.view HM.out HCS.out hql)
  rw [HR.out] at HC3
  clear o3 L3 hb3
  go_wp2_with fail
  refine HC3.out.mono ?_
  rintro e w4 ⟨gw, cw, rfl, row4, L4⟩
  have HL4 := hidP (chain HL3.out L4)
  have HR4 := hidP row4.seg
  have hg4 : gw < w4.heap.size := row4.lt.2
  obtain ⟨q0, q1⟩ := K01.out w4 HL4.out
  have HC4 := hidP (TW.out w4 HL4.out)
  clear row4 L4 HO2
  go_wp2_with fail
  refine HC4.out.mono ?_
  rintro e w5 ⟨bm, bl, rfl, o5, L5⟩
  have hlo := o5.lo
  have hbm5 := o5.lt
  have hbl5 : bl < w5.heap.size := o5.co.1
  obtain ⟨bx, hbx⟩ : ∃ b, w5.heap.size = b := ⟨_, rfl⟩
  obtain ⟨w6, hw6⟩ : ∃ w6, w5.alloc (.cells #[.slice (some ⟨bm, 0, none⟩) ms.length ms.length, .slice (some ⟨bl, 0, none⟩) ls.length ls.length] 27) = w6 := ⟨_, rfl⟩
  have L6 : Below w5.heap.size w5 w6 := by rw [← hw6]; exact (Below.refl _ _).alloc (Nat.le_refl _) _
  have hI6 : WebIn w6 bx (some ⟨bm, 0, none⟩) ms.length ms (some ⟨bl, 0, none⟩) ls.length ls := by rw [← hw6, ← hbx]; exact WebIn.box o5.mv o5.cv
  have hs6 : w6.heap.size = bx + 1 := by rw [← hw6, ← hbx]; simp
  have HO6 := hidP (o5.next L6)
  have HI6 := hidP hI6
  have HL6 := hidP (chain (chain HL4.out L5) L6)
  have HR6 := hidP (HSeg.below HR4.out hg4 (chain L5 L6))
  have hz5 := L5.size
  have HC6 := hidP (TQ.out w6 HL6.out)
  clear o5 L5 L6 hI6
  go_wp2_with fail
  clear hw6
  refine HC6.out.mono ?_
  rintro e w7 ⟨bq, rfl, o7, hbq, L7⟩
  have hI7 := HI6.out.below L7
  have s0 := hI7.c0
  have s1 := hI7.c1
  have HI7 := hidP hI7
  have HO7 := hidP (HO6.out.next L7)
  have HL7 := hidP (chain HL6.out L7)
  have HR7 := hidP (HSeg.below HR6.out (by omega) L7)
  have HQ7 := hidP o7
  have hql7 := o7.lt
  have HC7 := hidP (HII.out _ ms.length ms _ ls.length ls fr _ q.length q wide w7 hI7.mv hI7.cv o7.view HM.out HCS.out hql (Nat.le_refl _) (Nat.le_refl _) (Nat.le_refl _))
  rw [HR.out] at HC7
  clear L7 o7 hI7
  go_wp2_with fail
  refine HC7.out.mono ?_
  rintro e w8 ⟨ag, cg, rfl, g8, L8⟩
  have hz8 := L8.size
  obtain ⟨Z, hZ⟩ : ∃ Z, w7.heap.size = Z := ⟨_, rfl⟩
  have ST8 : Hid (WkBeam W gw bm bl bx bx bq Z ms ls q R ag cg w8) := ⟨chain HL7.out L8, HSeg.below HR7.out (by omega) L8, ⟨Nat.le_trans HL4.out.size hlo, (HO7.out.next L8).mv, (HO7.out.next L8).cv, (HO7.out.next L8).mo, by have h := (HO7.out.next L8).co; rw [hbx] at h; exact h, (HO7.out.next L8).lt, by have h := (HO7.out.next L8).hi; rw [hbx] at h; exact h⟩, HI7.out.below L8, HQ7.out.below hql7 L8, by rw [← hZ]; exact g8, by omega, by omega⟩
  have HZ : Hid (gw < bm ∧ bm < bl ∧ bl < bx ∧ bx ≤ bq ∧ bq < Z ∧ W.heap.size ≤ gw ∨ gw < bm ∧ bm < bl ∧ bl < bx ∧ bx ≤ bq ∧ bq < Z) := Or.inr ⟨by omega, by omega, by omega, by omega, by omega⟩
  have hzz : gw < bm ∧ bm < bl ∧ bl < bx ∧ bx ≤ bq ∧ bq < Z := by rcases HZ.out with h | h; exact ⟨h.1, h.2.1, h.2.2.1, h.2.2.2.1, h.2.2.2.2.1⟩; exact h
  have hWb : W.heap.size ≤ bm := by have := HL4.out.size; omega
  clear L8 g8 HZ hZ hz8 HI7 HO7 HR7 HQ7 HL7 HC7 HC6 HI6 HO6 HR6 HL6 HL4 HR4 HC4 HC3 HC2 HC1 HL1 HL2 HL3 hz5 hs6 hg4 hlo hbm5 hbl5 hbq hql7
  have HRV : Hid (∀ W', HSeg W' gw 0 R → gw < W'.heap.size → HView W' (some ⟨gw, 0, none⟩) R) := fun W' h1 h2 => Or.inr ⟨gw, 0, rfl, h2, h1⟩
  have HE8 := hidP (eqH14 _ _ cg cw R w8 ST8.out.out.slice (HRV.out _ ST8.out.row ST8.out.gl) (by omega))
  go_wp2_with fail
  refine HE8.out.mono ?_
  rintro e w9 ⟨rfl, L9⟩
  have ST9 := hidP (ST8.out.next L9)
  have HS9 : Hid (∀ W', Below w9.heap.size w9 W' → (W'.cell? ⟨bx, 0, none⟩ = some (.slice (some ⟨bm, 0, none⟩) ms.length ms.length) ∧ W'.cell? ⟨bx, 1, none⟩ = some (.slice (some ⟨bl, 0, none⟩) ls.length ls.length)) ∧ W'.cell? ⟨w.heap.size, 0, none⟩ = some (.slice a1 ms.length c1) ∧ W'.cell? ⟨w.heap.size, 1, none⟩ = some (.slice a2 ls.length c2)) := fun W' L' => ⟨⟨(ST9.out.box.below L').c0, (ST9.out.box.below L').c1⟩, K01.out W' (chain ST9.out.low L')⟩
  have BL := hidP ((Below.refl w9.heap.size w9).drew)
  have HC9 := hidP (TW.out w9.drew (chain ST9.out.low BL.out))
  clear L9 HE8 ST8 s0 s1
  go_wp2_with fail
  refine wp_region_takes (S := fun W' => Below w9.heap.size w9 W') (fuel := 3) [0, 1] (by kernel_rfl) (by kernel_rfl) (by kernel_rfl) (by kernel_rfl) BL.out (fun _ => ?_)
  iterate 2
    refine ⟨_, rfl, ?_⟩
    apply Exists.intro
    refine ⟨Or.inl ⟨by rfl, fun w' hw' => ?_⟩, ?_⟩
    · obtain ⟨⟨e1, e2⟩, e3, e4⟩ := HS9.out w' hw'
      first
      | (go_simp; done)
      | (go_simp; with_reducible rfl)
    simp only [Act.put, List.getElem_toArray, List.getElem_cons_succ, List.getElem_cons_zero, List.setIfInBounds_toArray, List.set_cons_zero, List.set_cons_succ]
  refine calm_one 2 (by kernel_rfl) rfl (fun K hK => ?_)
  go_simp
  refine HC9.out.mono ?_
  rintro e wa ⟨bma, bla, rfl, oa, La⟩
  have HLa := hidP (chain BL.out La)
  have HCa := hidP (eqW _ _ _ _ ms.length ls.length ms.length ls.length ms ls wa (ST9.out.box.below HLa.out).mv (ST9.out.box.below HLa.out).cv oa.mv oa.cv HM.out HCS.out)
  clear oa La
  refine hK.out _ _ HLa.out (fun _ => ?_)
  clear hK K
  refine calm_one 3 (by kernel_rfl) rfl (fun K hK => ?_)
  go_simp
  refine HCa.out.mono ?_
  rintro e wb ⟨rfl, Lb⟩
  have HLb := hidP (chain HLa.out Lb)
  clear Lb
  refine hK.out _ _ HLb.out (fun _ => ?_)
  clear hK K
  refine calm_rest [4] rfl (by kernel_rfl) (by kernel_rfl) (by kernel_rfl) HLb.out ?_
  iterate 1
    refine ⟨_, rfl, ?_⟩
    apply Exists.intro
    refine ⟨Or.inl ⟨by rfl, fun w' hw' => ?_⟩, ?_⟩
    · skip
      first
      | (go_simp; done)
      | (go_simp; with_reducible rfl)
    simp only [Act.put, List.getElem_toArray, List.getElem_cons_succ, List.getElem_cons_zero, List.setIfInBounds_toArray, List.set_cons_zero, List.set_cons_succ]
  refine NoPanic.normal (NoPanic.normal ?_)
  have STb := hidP (ST9.out.next HLb.out)
  have HCb := hidP (TQ.out wb STb.out.low)
  clear HS9 BL HC9 HLa HCa HLb ST9
  go_wp2_with fail
  refine HCb.out.mono ?_
  rintro e wc ⟨bc, rfl, oc, hbc, Lc⟩
  have STc := hidP (STb.out.next Lc)
  have HCc := hidP (eqI14 _ _ q.length q.length q wc STc.out.own.view oc.view hql)
  clear oc Lc STb HCb hbc
  go_wp2_with fail
  refine HCc.out.mono ?_
  rintro e wd ⟨rfl, Ld⟩
  have STd := hidP (STc.out.next Ld)
  have s0 := STd.out.box.c0
  have s1 := STd.out.box.c1
  have HCd := hidP (markW W.heap.size bx bm bl ms.length ls.length 1 ms ls wd STd.out.web HM.out HCS.out (by omega) (by omega))
  clear Ld STc HCc
  -- the arguments written over: the answer stays
  go_wp2_with fail
  refine HCd.out.mono ?_
  rintro e we ⟨⟨ke, hke, hke2, rfl⟩, ge⟩
  have hze := ge.2.2.2.1
  have HGe : Hid (Below W.heap.size W we ∧ HSeg we gw 0 R ∧ Own we bq q ∧ HOut Z we (.slice ag R.length cg) R ∧ Z ≤ we.heap.size ∧ gw < we.heap.size) :=
    ⟨below_gin14 STd.out.low ge hWb, hseg_same14 STd.out.row (ge.2.2.2.2 gw STd.out.gl (Or.inl hzz.1)), ge.own STd.out.own (Or.inr hzz.2.2.2.1), ge.out STd.out.out (by omega), by have := STd.out.hz; omega, by have := STd.out.gl; omega⟩
  clear ge STd HCd s0 s1
  have HCe := hidP (markI14 bq ke q we HGe.out.2.2.1 hql hke hke2)
  go_wp2_with fail
  refine HCe.out.mono ?_
  rintro e wf ⟨⟨kf, hkf, rfl⟩, gf⟩
  have hkn : ¬ kf < 0 := by omega
  have hkd : decide (kf < 0) = false := by simp; omega
  have hzf := gf.size
  have HGf : Hid (Below W.heap.size W wf ∧ HSeg wf gw 0 R ∧ HOut Z wf (.slice ag R.length cg) R ∧ Z ≤ wf.heap.size ∧ gw < wf.heap.size) :=
    ⟨HGe.out.1.grown gf HGe.out.1.size (by intro x hx; cases hx; omega), hseg_same14 HGe.out.2.1 (gf.block gw HGe.out.2.2.2.2.2 (by simp; omega)), HGe.out.2.2.2.1.kept gf (by omega), by have := HGe.out.2.2.2.2.1; omega, by have := HGe.out.2.2.2.2.2; omega⟩
  have HCf := hidP (eqH14 _ _ cg cw R wf HGf.out.2.2.1.slice (HRV.out _ HGf.out.2.1 HGf.out.2.2.2.2) (by omega))
  clear gf HGe HCe
  go_wp2_with fail
  refine HCf.out.mono ?_
  rintro e wg ⟨rfl, Lg⟩
  have HGg : Hid (Below W.heap.size W wg ∧ HSeg wg gw 0 R ∧ HOut Z wg (.slice ag R.length cg) R ∧ Z ≤ wg.heap.size ∧ gw < wg.heap.size) := ⟨chain HGf.out.1 Lg, HSeg.below HGf.out.2.1 HGf.out.2.2.2.2 Lg, HGf.out.2.2.1.below Lg, Nat.le_trans HGf.out.2.2.2.1 Lg.size, Nat.lt_of_lt_of_le HGf.out.2.2.2.2 Lg.size⟩
  have HCg := hidP (outMarkH Z cg ag R wg HGg.out.2.2.1 (by omega) HGg.out.2.2.2.1)
  clear Lg HGf HCf
  -- the answer written over: it is the call's own
  go_wp2_with fail
  refine HCg.out.mono ?_
  rintro e wh ⟨rfl, vh, Lh⟩
  have hzh := Lh.size
  have HGh : Hid (Below W.heap.size W wh ∧ HSeg wh gw 0 R ∧ HView wh ag (seqH 1 R.length) ∧ gw < wh.heap.size) := ⟨HGg.out.1.trans (Lh.mono (by omega)), HSeg.below HGg.out.2.1 (by omega) Lh, vh, by have := HGg.out.2.2.2.2; omega⟩
  have hq0 : ¬ ((1 + 2 * (R.length : Int)) < 0) := by omega
  have hq1 : ((1 + 2 * (R.length : Int)) != (1 + 2 * (R.length : Int))) = false := by simp
  obtain ⟨V, hV⟩ : ∃ V : Int, 1 + 2 * (R.length : Int) = V := ⟨_, rfl⟩
  have HCh := hidP (heldHS ag cg R.length 1 wh HGh.out.2.2.1 (by omega) (by omega) (by omega))
  rw [hV] at HCh hq0 hq1
  rw [hV]
  obtain ⟨t0, t1⟩ := K01.out wh HGh.out.1
  have HTh := hidP (TW.out wh HGh.out.1)
  clear vh Lh HGg HCg
  go_wp2_with fail
  refine HCh.out.mono ?_
  rintro e wi ⟨rfl, hwi⟩
  subst hwi
  go_wp2_with fail
  refine HTh.out.mono ?_
  rintro e wj ⟨bmj, blj, rfl, oj, Lj⟩
  have HGj : Hid (Below W.heap.size W wj ∧ HSeg wj gw 0 R ∧ HView wj ag (seqH 1 R.length) ∧ gw < wj.heap.size) := ⟨chain HGh.out.1 Lj, HSeg.below HGh.out.2.1 HGh.out.2.2.2 Lj, HView.next HGh.out.2.2.1 Lj, Nat.lt_of_lt_of_le HGh.out.2.2.2 Lj.size⟩
  have HOj := hidP oj
  have HTj := hidP (TQ.out wj HGj.out.1)
  clear oj Lj HGh HTh HCh
  go_wp2_with fail
  refine HTj.out.mono ?_
  rintro e wk ⟨bk, rfl, ok, hbk, Lk⟩
  have HGk : Hid (Below W.heap.size W wk ∧ HSeg wk gw 0 R ∧ HView wk ag (seqH 1 R.length) ∧ gw < wk.heap.size) := ⟨chain HGj.out.1 Lk, HSeg.below HGj.out.2.1 HGj.out.2.2.2 Lk, HView.next HGj.out.2.2.1 Lk, Nat.lt_of_lt_of_le HGj.out.2.2.2 Lk.size⟩
  have HCk := hidP (HII.out _ ms.length ms _ ls.length ls fr _ q.length q wide wk (HOj.out.next Lk).mv (HOj.out.next Lk).cv ok.view HM.out HCS.out hql (Nat.le_refl _) (Nat.le_refl _) (Nat.le_refl _))
  rw [HR.out] at HCk
  clear ok Lk HGj HTj HOj hbk
  go_wp2_with fail
  refine HCk.out.mono ?_
  rintro e wl ⟨al, cl, rfl, gl, Ll⟩
  have HGl : Hid (Below W.heap.size W wl ∧ HSeg wl gw 0 R ∧ HView wl ag (seqH 1 R.length) ∧ gw < wl.heap.size) := ⟨chain HGk.out.1 Ll, HSeg.below HGk.out.2.1 HGk.out.2.2.2 Ll, HView.next HGk.out.2.2.1 Ll, Nat.lt_of_lt_of_le HGk.out.2.2.2 Ll.size⟩
  have HCl := hidP (eqH14 _ _ cl cw R wl gl.slice (HRV.out _ HGl.out.2.1 HGl.out.2.2.2) (by omega))
  clear Ll gl HGk HCk
  go_wp2_with fail
  refine HCl.out.mono ?_
  rintro e wm ⟨rfl, Lm⟩
  have HGm : Hid (Below W.heap.size W wm ∧ HView wm ag (seqH 1 R.length)) := ⟨chain HGl.out.1 Lm, HView.next HGl.out.2.2.1 Lm⟩
  have HCm := hidP (heldHS ag cg R.length 1 wm HGm.out.2 (by omega) (by omega) (by omega))
  rw [hV] at HCm
  clear Lm HGl HCl
  go_wp2_with fail
  refine HCm.out.mono ?_
  rintro e wn ⟨rfl, hwn⟩
  subst hwn
  go_wp2_with fail
  go_ret
  exact ⟨rfl, chain HB.out HGm.out.1⟩

end Go.Proofs.Ytlggpfgamjoeaaa
