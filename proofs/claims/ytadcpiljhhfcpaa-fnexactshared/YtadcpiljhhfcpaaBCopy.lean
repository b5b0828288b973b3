/-
  The laws' own helpers on boxes: how great, copied, compared.
-/
import Derived.Test.YtadcpiljhhfcpaaBSpec
import Derived.Test.YtadcpiljhhfcpaaMSize
import Derived.Test.YtadcpiljhhfcpaaMCopy
namespace Go.Proofs.Ytadcpiljhhfcpaa
open Go Go.RowKit

theorem cutV_cases (left : Int) (n : Nat) : cutV left n < 0 ∨ (0 ≤ cutV left n ∧ cutV left n + n = left) := by
  unfold cutV; split <;> omega

set_option maxHeartbeats 1000000 in
theorem szX (a1 a2 : Option Addr) (n1 c1 n2 c2 : Nat) (left : Int) (w : World) (h1 : n1 ≤ maxLen) (h2 : n2 ≤ maxLen) (h0 : 0 ≤ left) (hl : left ≤ 1048576) :
    Calls Try.prog 9 #[.agg #[.slice a1 n1 c1, .slice a2 n2 c2], .int .i64 left] w fun e w' => (∃ r : Int, e = .returned (.int .i64 r) ∧ (r < 0 ∨ (0 ≤ r ∧ r + n1 + n2 = left))) ∧ Below w.heap.size w w' := by
  have hB := (Below.refl w.heap.size w).alloc (Nat.le_refl _) (.cells #[.slice a1 n1 c1, .slice a2 n2 c2] 24)
  have HB := hidP hB
  have HS := hidP (szS a1 n1 c1 left (w.alloc (.cells #[.slice a1 n1 c1, .slice a2 n2 c2] 24)) h1 h0 hl)
  have k1 : (w.alloc (.cells #[.slice a1 n1 c1, .slice a2 n2 c2] 24)).cell? ⟨w.heap.size, 1, none⟩ = some (.slice a2 n2 c2) := by simp
  have hc := cutV_cases left n1
  obtain ⟨r1, hr1⟩ : ∃ r1, r1 = cutV left n1 := ⟨_, rfl⟩
  rw [← hr1] at HS hc
  clear hB hr1
  by_cases hneg : r1 < 0
  · go_enter Try.func9, Try.ntmps9
    go_wp2_with fail
    refine HS.out.mono ?_
    rintro e w2 ⟨rfl, rfl⟩
    go_wp2_with fail
    go_ret
    exact ⟨⟨-1, rfl, Or.inl (by omega)⟩, HB.out⟩
  · have hr0 : 0 ≤ r1 ∧ r1 + n1 = left := by omega
    have HS2 := hidP (szS a2 n2 c2 r1 (w.alloc (.cells #[.slice a1 n1 c1, .slice a2 n2 c2] 24)) h2 hr0.1 (by omega))
    have hc2 := cutV_cases r1 n2
    obtain ⟨r2, hr2⟩ : ∃ r2, r2 = cutV r1 n2 := ⟨_, rfl⟩
    rw [← hr2] at HS2 hc2
    have HR := hidP (And.intro hr0 hc2)
    clear hr2 hr0 hc hc2
    by_cases hneg2 : r2 < 0
    · go_enter Try.func9, Try.ntmps9
      go_wp2_with fail
      refine HS.out.mono ?_
      rintro e w2 ⟨rfl, rfl⟩
      go_wp2_with fail
      refine HS2.out.mono ?_
      rintro e w3 ⟨rfl, rfl⟩
      go_wp2_with fail
      go_ret
      exact ⟨⟨-1, rfl, Or.inl (by omega)⟩, HB.out⟩
    · go_enter Try.func9, Try.ntmps9
      go_wp2_with fail
      refine HS.out.mono ?_
      rintro e w2 ⟨rfl, rfl⟩
      go_wp2_with fail
      refine HS2.out.mono ?_
      rintro e w3 ⟨rfl, rfl⟩
      go_wp2_with fail
      go_ret
      exact ⟨⟨r2, rfl, Or.inr (by have := HR.out; omega)⟩, HB.out⟩

set_option maxHeartbeats 1000000 in
theorem eqX (a1 a2 b1 b2 : Option Addr) (c1 c2 d1 d2 : Nat) (lo hi lo' hi' : List Int) (w : World) (h1 : View w a1 lo) (h2 : View w a2 hi) (h3 : View w b1 lo') (h4 : View w b2 hi') (n1 : lo.length ≤ 1048576) (n2 : hi.length ≤ 1048576) :
    Calls Try.prog 13 #[.agg #[.slice a1 lo.length c1, .slice a2 hi.length c2], .agg #[.slice b1 lo'.length d1, .slice b2 hi'.length d2]] w fun e w' => e = .returned (.bool (decide (lo = lo') && decide (hi = hi'))) ∧ Below w.heap.size w w' := by
  obtain ⟨W, hW⟩ : ∃ W, W = (w.alloc (.cells #[.slice a1 lo.length c1, .slice a2 hi.length c2] 27)).alloc (.cells #[.slice b1 lo'.length d1, .slice b2 hi'.length d2] 27) := ⟨_, rfl⟩
  have hB : Below w.heap.size w W := by rw [hW]; exact ((Below.refl w.heap.size w).alloc (Nat.le_refl _) _).alloc (by simp) _
  have k2 : W.cell? ⟨w.heap.size, 1, none⟩ = some (.slice a2 hi.length c2) := by rw [hW]; simp
  have k4 : W.cell? ⟨w.heap.size + 1, 1, none⟩ = some (.slice b2 hi'.length d2) := by rw [hW]; simp
  have HS := hidP (eqS a1 b1 c1 d1 lo lo' W (h1.next hB) (h3.next hB) n1)
  have HV := hidP (And.intro (h2.next hB) (h4.next hB))
  have HB := hidP hB
  clear hB h1 h2 h3 h4
  rcases he : decide (lo = lo') with _ | _
  · rw [he] at HS
    go_enter Try.func13, Try.ntmps13
    go_wp2_with fail
    rw [← hW]
    refine HS.out.mono ?_
    rintro e w2 ⟨rfl, n, hw2⟩
    have HB2 : Hid (Below w.heap.size w w2) := by rw [hw2]; exact below_drewN HB.out n
    clear hw2 hW k2 k4
    go_wp2_with fail
    go_ret
    exact ⟨by simp, HB2.out⟩
  · rw [he] at HS
    go_enter Try.func13, Try.ntmps13
    go_wp2_with fail
    rw [← hW]
    refine HS.out.mono ?_
    rintro e w2 ⟨rfl, n, hw2⟩
    have q2 : w2.cell? ⟨w.heap.size, 1, none⟩ = some (.slice a2 hi.length c2) := by rw [hw2]; exact k2
    have q4 : w2.cell? ⟨w.heap.size + 1, 1, none⟩ = some (.slice b2 hi'.length d2) := by rw [hw2]; exact k4
    have HS2 := hidP (eqS a2 b2 c2 d2 hi hi' w2 (by rw [hw2]; exact HV.out.1) (by rw [hw2]; exact HV.out.2) n2)
    have HB2 : Hid (Below w.heap.size w w2) := by rw [hw2]; exact below_drewN HB.out n
    clear hw2 HS k2 k4 hW
    rcases he2 : decide (hi = hi') with _ | _
    · rw [he2] at HS2
      go_wp2_with fail
      refine HS2.out.mono ?_
      rintro e w3 ⟨rfl, n3, rfl⟩
      go_wp2_with fail
      go_ret
      exact ⟨by simp [he2], below_drewN HB2.out n3⟩
    · rw [he2] at HS2
      go_wp2_with fail
      refine HS2.out.mono ?_
      rintro e w3 ⟨rfl, n3, rfl⟩
      go_wp2_with fail
      go_ret
      exact ⟨by simp [he2], below_drewN HB2.out n3⟩

/-- A block of two cells. -/
def Two (w : World) (p : Nat) (u v : Value) (t : TypeId) : Prop := w.heap[p]? = some (.cells #[u, v] t (0, 0))
theorem Two.lt {w : World} {p : Nat} {u v : Value} {t : TypeId} (h : Two w p u v t) : p < w.heap.size := by
  rcases Nat.lt_or_ge p w.heap.size with h1 | h1
  · exact h1
  · unfold Two at h; rw [Array.getElem?_eq_none h1] at h; cases h
theorem Two.c0 {w : World} {p : Nat} {u v : Value} {t : TypeId} (h : Two w p u v t) : w.cell? ⟨p, 0, none⟩ = some u := by unfold Two at h; simp [World.cell?, h]
theorem Two.c1 {w : World} {p : Nat} {u v : Value} {t : TypeId} (h : Two w p u v t) : w.cell? ⟨p, 1, none⟩ = some v := by unfold Two at h; simp [World.cell?, h]
theorem Two.frozen {w : World} {p : Nat} {u v : Value} {t : TypeId} (h : Two w p u v t) (j : Nat) : w.frozen? ⟨p, j, none⟩ = false := by unfold Two at h; simp [World.frozen?, h]
theorem Two.below {w w' : World} {p : Nat} {u v : Value} {t : TypeId} (h : Two w p u v t) (hb : Below w.heap.size w w') : Two w' p u v t := (hb.block p h.lt).trans h
theorem Two.set0 {w : World} {p : Nat} {u v : Value} {t : TypeId} (h : Two w p u v t) (x : Value) : Two (w.setCell ⟨p, 0, none⟩ x) p x v t := by
  unfold Two World.setCell at *
  rw [Array.getElem?_modify, if_pos rfl, h]; rfl
theorem Two.set1 {w : World} {p : Nat} {u v : Value} {t : TypeId} (h : Two w p u v t) (x : Value) : Two (w.setCell ⟨p, 1, none⟩ x) p u x t := by
  unfold Two World.setCell at *
  rw [Array.getElem?_modify, if_pos rfl, h]; rfl
theorem Two.far {w : World} {p q i : Nat} {u v : Value} {t : TypeId} (h : Two w p u v t) (hq : q ≠ p) (x : Value) : Two (w.setCell ⟨q, i, none⟩ x) p u v t := by
  unfold Two World.setCell at *
  rw [Array.getElem?_modify, if_neg hq, h]
theorem Two.new (w : World) (u v : Value) (t : TypeId) : Two (w.alloc (.cells #[u, v] t)) w.heap.size u v t := heap_alloc_new w _
theorem alloc_below (w : World) (o : Obj) : Below w.heap.size w (w.alloc o) := (Below.refl w.heap.size w).alloc (Nat.le_refl _) o
theorem set_below {w w' : World} {p i : Nat} {B : Nat} (h : Below B w w') (hp : B ≤ p) (x : Value) : Below B w (w'.setCell ⟨p, i, none⟩ x) := h.setCell hp x

set_option maxHeartbeats 2000000 in
theorem toX (a1 a2 : Option Addr) (c1 c2 : Nat) (lo hi : List Int) (w : World) (h1 : View w a1 lo) (h2 : View w a2 hi) (n1 : lo.length ≤ 1048576) (n2 : hi.length ≤ 1048576) :
    Calls Try.prog 11 #[.agg #[.slice a1 lo.length c1, .slice a2 hi.length c2]] w fun e w' => ∃ b1 b2, e = .returned (.agg #[.slice (some ⟨b1, 0, none⟩) lo.length lo.length, .slice (some ⟨b2, 0, none⟩) hi.length hi.length]) ∧ Own w' b1 lo ∧ Own w' b2 hi ∧ w.heap.size ≤ b1 ∧ b1 < b2 ∧ Below w.heap.size w w' := by
  obtain ⟨W, hW⟩ : ∃ W, W = ((w.alloc (.cells #[.slice a1 lo.length c1, .slice a2 hi.length c2] 24)).alloc (.cells #[.slice none 0 0, .slice none 0 0] 27)).alloc (.cells #[.slice none 0 0, .slice none 0 0] 27) := ⟨_, rfl⟩
  have t0 := (Two.new w (.slice a1 lo.length c1) (.slice a2 hi.length c2) 24).below (alloc_below _ (.cells #[.slice none 0 0, .slice none 0 0] 27)) |>.below (alloc_below _ (.cells #[.slice none 0 0, .slice none 0 0] 27))
  have t1 := (Two.new (w.alloc (.cells #[.slice a1 lo.length c1, .slice a2 hi.length c2] 24)) (.slice none 0 0) (.slice none 0 0) 27).below (alloc_below _ (.cells #[.slice none 0 0, .slice none 0 0] 27))
  have t2 := Two.new ((w.alloc (.cells #[.slice a1 lo.length c1, .slice a2 hi.length c2] 24)).alloc (.cells #[.slice none 0 0, .slice none 0 0] 27)) (.slice none 0 0) (.slice none 0 0) 27
  have hB : Below w.heap.size w W := by rw [hW]; exact chain (chain (alloc_below w _) (alloc_below _ _)) (alloc_below _ _)
  rw [← hW] at t0 t1 t2
  rw [show (w.alloc (.cells #[.slice a1 lo.length c1, .slice a2 hi.length c2] 24)).heap.size = w.heap.size + 1 by simp] at t1
  rw [show ((w.alloc (.cells #[.slice a1 lo.length c1, .slice a2 hi.length c2] 24)).alloc (.cells #[.slice none 0 0, .slice none 0 0] 27)).heap.size = w.heap.size + 2 by simp] at t2
  have HS := hidP (toS a1 c1 lo W (h1.next hB) n1)
  have HV := hidP h2
  have HB := hidP (And.intro hB (And.intro t0 (And.intro t1 t2)))
  clear hB h1 h2 t0 t1 t2
  go_enter Try.func11, Try.ntmps11
  go_wp2_with fail
  rw [← hW]
  clear hW
  refine HS.out.mono ?_
  rintro e w2 ⟨b1, rfl, o1, hb1, L1⟩
  obtain ⟨hB, t0, t1, t2⟩ := HB.out
  have hz := t2.lt
  have u0 := t0.below L1
  have u1 := t1.below L1
  have u2 := t2.below L1
  have f2 := u2.frozen 0
  have e2 := u2.c0
  have hb1' : b1 ≠ w.heap.size + 2 := by omega
  obtain ⟨w3, hw3⟩ : ∃ w3, w3 = w2.setCell ⟨w.heap.size + 2, 0, none⟩ (.slice (some ⟨b1, 0, none⟩) lo.length lo.length) := ⟨_, rfl⟩
  have v0 : Two w3 w.heap.size (.slice a1 lo.length c1) (.slice a2 hi.length c2) 24 := by rw [hw3]; exact u0.far (by omega) _
  have v1 : Two w3 (w.heap.size + 1) (.slice none 0 0) (.slice none 0 0) 27 := by rw [hw3]; exact u1.far (by omega) _
  have v2 : Two w3 (w.heap.size + 2) (.slice (some ⟨b1, 0, none⟩) lo.length lo.length) (.slice none 0 0) 27 := by rw [hw3]; exact u2.set0 _
  have p1 : Own w3 b1 lo := by rw [hw3]; exact o1.setOther (by simpa using hb1') _
  have L3 : Below w.heap.size w w3 := by rw [hw3]; exact set_below (chain hB L1) (by omega) _
  have g0 : (w2.setCell ⟨w.heap.size + 2, 0, none⟩ (.slice (some ⟨b1, 0, none⟩) lo.length lo.length)).cell? ⟨w.heap.size, 1, none⟩ = some (.slice a2 hi.length c2) := by rw [← hw3]; exact v0.c1
  have HW3 := hidP hw3
  have HS2 := hidP (toS a2 c2 hi w3 (HV.out.next L3) n2)
  have H3 := hidP (And.intro v1 (And.intro v2 (And.intro p1 (And.intro L3 (show w.heap.size + 3 ≤ b1 by omega)))))
  clear hB t0 t1 t2 u0 u1 u2 v0 v1 v2 p1 L3 o1 L1 HS HB hb1 hb1' hw3
  go_wp2_with fail
  rw [← HW3.out]
  clear g0 f2 e2 HW3
  refine HS2.out.mono ?_
  rintro e w4 ⟨b2, rfl, o2, hb2, L4⟩
  obtain ⟨v1, v2, p1, L3, hb1⟩ := H3.out
  have hz3 := v2.lt
  have hl1 := p1.lt
  have x1 := v1.below L4
  have x2 := v2.below L4
  have q1 := p1.below hl1 L4
  have f4 := x2.frozen 1
  have e4 := x2.c1
  obtain ⟨w5, hw5⟩ : ∃ w5, w5 = w4.setCell ⟨w.heap.size + 2, 1, none⟩ (.slice (some ⟨b2, 0, none⟩) hi.length hi.length) := ⟨_, rfl⟩
  have y1 : Two w5 (w.heap.size + 1) (.slice none 0 0) (.slice none 0 0) 27 := by rw [hw5]; exact x1.far (by omega) _
  have y2 : Two w5 (w.heap.size + 2) (.slice (some ⟨b1, 0, none⟩) lo.length lo.length) (.slice (some ⟨b2, 0, none⟩) hi.length hi.length) 27 := by rw [hw5]; exact x2.set1 _
  have q2 : Own w5 b1 lo := by rw [hw5]; exact q1.setOther (by simp; omega) _
  have o2' : Own w5 b2 hi := by rw [hw5]; exact o2.setOther (by simp; omega) _
  have L5 : Below w.heap.size w w5 := by rw [hw5]; exact set_below (chain L3 L4) (by omega) _
  have i0 : (w4.setCell ⟨w.heap.size + 2, 1, none⟩ (.slice (some ⟨b2, 0, none⟩) hi.length hi.length)).cell? ⟨w.heap.size + 2, 0, none⟩ = some (.slice (some ⟨b1, 0, none⟩) lo.length lo.length) := by rw [← hw5]; exact y2.c0
  have i1 : (w4.setCell ⟨w.heap.size + 2, 1, none⟩ (.slice (some ⟨b2, 0, none⟩) hi.length hi.length)).cell? ⟨w.heap.size + 2, 1, none⟩ = some (.slice (some ⟨b2, 0, none⟩) hi.length hi.length) := by rw [← hw5]; exact y2.c1
  have j0 : (w4.setCell ⟨w.heap.size + 2, 1, none⟩ (.slice (some ⟨b2, 0, none⟩) hi.length hi.length)).cell? ⟨w.heap.size + 1, 0, none⟩ = some (.slice none 0 0) := by rw [← hw5]; exact y1.c0
  have j1 : (w4.setCell ⟨w.heap.size + 2, 1, none⟩ (.slice (some ⟨b2, 0, none⟩) hi.length hi.length)).cell? ⟨w.heap.size + 1, 1, none⟩ = some (.slice none 0 0) := by rw [← hw5]; exact y1.c1
  have m0 : (w4.setCell ⟨w.heap.size + 2, 1, none⟩ (.slice (some ⟨b2, 0, none⟩) hi.length hi.length)).frozen? ⟨w.heap.size + 1, 0, none⟩ = false := by rw [← hw5]; exact y1.frozen 0
  have m1 : (w4.setCell ⟨w.heap.size + 2, 1, none⟩ (.slice (some ⟨b2, 0, none⟩) hi.length hi.length)).frozen? ⟨w.heap.size + 1, 1, none⟩ = false := by rw [← hw5]; exact y1.frozen 1
  have HW5 := hidP hw5
  have H5 := hidP (And.intro y1 (And.intro q2 (And.intro o2' (And.intro L5 (And.intro hb1 (Nat.lt_of_lt_of_le hl1 hb2))))))
  have hbs : w.heap.size + 2 < b1 ∨ b1 < w.heap.size + 1 ∨ True := Or.inr (Or.inr trivial)
  clear y1 y2 q2 o2' L5 v1 v2 p1 L3 x1 x2 q1 L4 o2 hw5 hbs H3 HS2 hb2
  go_wp2_with fail
  obtain ⟨y1, q2, o2', L5, hb1, hlt⟩ := H5.out
  have hw5 := HW5.out
  rw [← hw5]
  have z1 := (y1.set0 (.slice (some ⟨b1, 0, none⟩) lo.length lo.length)).set1 (.slice (some ⟨b2, 0, none⟩) hi.length hi.length)
  have k0 := z1.c0
  have k1 := z1.c1
  refine bodyPost_ret (v := .agg #[.slice (some ⟨b1, 0, none⟩) lo.length lo.length, .slice (some ⟨b2, 0, none⟩) hi.length hi.length]) (by simp [results, Try.results11, go_sem, k0, k1]) rfl ?_
  exact ⟨b1, b2, rfl, (q2.setOther (by simp; omega) _).setOther (by simp; omega) _, (o2'.setOther (by simp; omega) _).setOther (by simp; omega) _, by omega, hlt, set_below (set_below L5 (by omega) _) (by omega) _⟩

end Go.Proofs.Ytadcpiljhhfcpaa
