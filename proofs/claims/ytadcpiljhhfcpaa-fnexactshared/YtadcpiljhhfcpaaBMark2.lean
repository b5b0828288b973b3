/-
  The laws' own helpers on boxes: written over, and held.
-/
import Derived.Test.YtadcpiljhhfcpaaBMark
namespace Go.Proofs.Ytadcpiljhhfcpaa
open Go Go.RowKit

/-- Of the blocks that were there, at most those of v and u have changed. -/
def ChgW (v u : Value) (w w' : World) : Prop := w'.os = w.os ∧ w'.tape = w.tape ∧ w'.output = w.output ∧ w.heap.size ≤ w'.heap.size ∧ ∀ i, i < w.heap.size → (∀ a n c, v = .slice (some a) n c → i ≠ a.block) → (∀ a n c, u = .slice (some a) n c → i ≠ a.block) → w'.heap[i]? = w.heap[i]?
theorem IOut.far {base : Nat} {w w' : World} {v u x : Value} {xs : List Int} (h : IOut base w x xs) (hc : ChgW v u w w') (ha : Apart x v) (hb : Apart x u) : IOut base w' x xs := by
  refine h.imp id fun ⟨g, c, e, hr⟩ => ⟨g, c, e, ?_⟩
  have hq := hc.2.2.2.2 g hr.lt.2 (fun a n d hu => ha ⟨g, 0, none⟩ _ _ a n d e hu) (fun a n d hu => hb ⟨g, 0, none⟩ _ _ a n d e hu)
  obtain ⟨k1, k2 | ⟨g', c', cur, e1, h3, h4, h5⟩⟩ := hr
  · exact ⟨k1, Or.inl k2⟩
  · refine ⟨k1, Or.inr ⟨g', c', cur, e1, h3, ?_, h5⟩⟩
    injection e1 with e2 e3 e4
    have : g' = g := by simp at e2; omega
    subst this
    rw [hq]; exact h4
theorem IOut.block {base : Nat} {w : World} {v : Value} {xs : List Int} (h : IOut base w v xs) : ∀ a n c, v = .slice (some a) n c → base ≤ a.block ∧ a.block < w.heap.size := by
  intro a n c e
  rcases h with ⟨e1, _⟩ | ⟨g, c', e1, hr⟩
  · rw [e1] at e; cases e
  · rw [e1] at e; cases e; exact hr.lt
theorem below_chgW {w w1 w2 : World} {v u : Value} (h : Below w.heap.size w w1) (hc : ChgW v u w1 w2) (hv : ∀ a n c, v = .slice (some a) n c → w.heap.size ≤ a.block) (hu : ∀ a n c, u = .slice (some a) n c → w.heap.size ≤ a.block) : Below w.heap.size w w2 :=
  ⟨hc.1.trans h.os, hc.2.1.trans h.tape, hc.2.2.1.trans h.output, Nat.le_trans h.size hc.2.2.2.1, fun i hi => (hc.2.2.2.2 i (Nat.lt_of_lt_of_le hi h.size) (fun a n c e => by have := hv a n c e; omega) (fun a n c e => by have := hu a n c e; omega)).trans (h.block i hi)⟩
/-- A row that was handed out later than another lies apart from it. -/
theorem apart_later {base base' : Nat} {w w' : World} {v u : Value} {xs ys : List Int} (h : IOut base w v xs) (k : IOut base' w' u ys) (hb : w.heap.size ≤ base') : Apart v u := fun a n c b m d e1 e2 => by
  have h1 := h.block a n c e1
  have h2 := k.block b m d e2
  omega

set_option maxHeartbeats 2000000 in
theorem markX (base c1 c2 : Nat) (a1 a2 : Option Addr) (k0 : Int) (lo hi : List Int) (w : World) (h1 : IOut base w (.slice a1 lo.length c1) lo) (h2 : IOut base w (.slice a2 hi.length c2) hi) (ha : Apart (.slice a1 lo.length c1) (.slice a2 hi.length c2)) (n1 : lo.length ≤ 1048576) (n2 : hi.length ≤ 1048576) (h0 : 1 ≤ k0) (hk : k0 ≤ 10000000) :
    Calls Try.prog 20 #[.agg #[.slice a1 lo.length c1, .slice a2 hi.length c2], .int .i64 k0] w fun e w' => e = .returned (.int .i64 (k0 + lo.length + hi.length)) ∧ View w' a1 (tabL (fun i => k0 + i) lo.length) ∧ View w' a2 (tabL (fun i => k0 + lo.length + i) hi.length) ∧ ChgW (.slice a1 lo.length c1) (.slice a2 hi.length c2) w w' := by
  obtain ⟨W, hW⟩ : ∃ W, W = w.alloc (.cells #[.slice a1 lo.length c1, .slice a2 hi.length c2] 27) := ⟨_, rfl⟩
  have hB : Below w.heap.size w W := by rw [hW]; exact alloc_below w _
  have t0 : Two W w.heap.size (.slice a1 lo.length c1) (.slice a2 hi.length c2) 27 := by rw [hW]; exact Two.new w _ _ _
  have HM := hidP (markO base c1 a1 k0 lo W (h1.below hB) n1 h0 (by omega))
  have HH := hidP (And.intro hB (And.intro t0 (And.intro (h2.below hB) (And.intro ha (And.intro h1.block h2.block)))))
  clear h1 h2 ha hB t0
  go_enter Try.func20, Try.ntmps20
  go_wp2_with fail
  rw [← hW]
  clear hW
  refine HM.out.mono ?_
  rintro e w2 ⟨rfl, i1, ch, _⟩
  obtain ⟨hB, t0, o2, ha, bl1, bl2⟩ := HH.out
  have t2 : Two w2 w.heap.size (.slice a1 lo.length c1) (.slice a2 hi.length c2) 27 := (ch.2.2.2.2 w.heap.size t0.lt (fun a n c e => by have := bl1 a n c e; omega)).trans t0
  have k1 := t2.c1
  have o2' := o2.other ch ha.symm
  have HM2 := hidP (markO base c2 a2 (k0 + lo.length) hi w2 o2' n2 (by omega) (by omega))
  have H2 := hidP (And.intro i1 ch)
  clear hB t0 o2 ha bl1 bl2 t2 o2' HM i1 ch
  go_wp2_with fail
  refine HM2.out.mono ?_
  rintro e w3 ⟨rfl, i2, ch2, _⟩
  obtain ⟨i1, ch⟩ := H2.out
  obtain ⟨hB, t0, o2, ha, bl1, bl2⟩ := HH.out
  have i1' : IOut base w3 (.slice a1 (tabL (fun i => k0 + i) lo.length).length c1) (tabL (fun i => k0 + i) lo.length) := i1.other ch2 (by rw [tabL_length]; exact ha)
  have HE : Hid (View w3 a1 (tabL (fun i => k0 + i) lo.length) ∧ View w3 a2 (tabL (fun i => k0 + lo.length + i) hi.length) ∧ ChgW (.slice a1 lo.length c1) (.slice a2 hi.length c2) w w3) :=
    ⟨i1'.slice, i2.slice, ch2.1.trans (ch.1.trans hB.os), ch2.2.1.trans (ch.2.1.trans hB.tape), ch2.2.2.1.trans (ch.2.2.1.trans hB.output), Nat.le_trans hB.size (Nat.le_trans ch.2.2.2.1 ch2.2.2.2.1), fun i hi e1 e2 => (ch2.2.2.2.2 i (Nat.lt_of_lt_of_le hi (Nat.le_trans hB.size ch.2.2.2.1)) e2).trans ((ch.2.2.2.2 i (Nat.lt_of_lt_of_le hi hB.size) e1).trans (hB.block i hi))⟩
  clear i1 ch hB t0 o2 ha bl1 bl2 i1' i2 ch2 HH H2
  go_wp2_with fail
  go_ret
  exact ⟨rfl, HE.out⟩

set_option maxHeartbeats 1000000 in
theorem heldX (c1 c2 : Nat) (a1 a2 : Option Addr) (k0 : Int) (n m : Nat) (w : World) (h1 : View w a1 (tabL (fun i => k0 + i) n)) (h2 : View w a2 (tabL (fun i => k0 + n + i) m)) (n1 : n ≤ 1048576) (n2 : m ≤ 1048576) (h0 : 1 ≤ k0) (hk : k0 ≤ 10000000) :
    Calls Try.prog 21 #[.agg #[.slice a1 n c1, .slice a2 m c2], .int .i64 k0] w fun e w' => e = .returned (.int .i64 (k0 + n + m)) ∧ Below w.heap.size w w' := by
  obtain ⟨W, hW⟩ : ∃ W, W = w.alloc (.cells #[.slice a1 n c1, .slice a2 m c2] 27) := ⟨_, rfl⟩
  have hB : Below w.heap.size w W := by rw [hW]; exact alloc_below w _
  have t0 : Two W w.heap.size (.slice a1 n c1) (.slice a2 m c2) 27 := by rw [hW]; exact Two.new w _ _ _
  have k1 := t0.c1
  have HM := hidP (heldI a1 c1 n k0 W (h1.next hB) n1 h0 (by omega))
  have HM2 := hidP (heldI a2 c2 m (k0 + n) W (h2.next hB) n2 (by omega) (by omega))
  have HB := hidP hB
  clear h1 h2 hB t0
  go_enter Try.func21, Try.ntmps21
  go_wp2_with fail
  rw [← hW]
  clear hW
  refine HM.out.mono ?_
  rintro e w2 ⟨rfl, hw2⟩
  subst w2
  have d1 : ¬ (k0 + (n : Int) < 0) := by omega
  go_wp2_with fail
  refine HM2.out.mono ?_
  rintro e w3 ⟨rfl, hw3⟩
  subst w3
  have d2 : ¬ (k0 + (n : Int) + (m : Int) < 0) := by omega
  go_wp2_with fail
  go_ret
  exact ⟨rfl, HB.out⟩

end Go.Proofs.Ytadcpiljhhfcpaa
