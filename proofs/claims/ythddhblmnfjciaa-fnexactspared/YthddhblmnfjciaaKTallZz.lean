/-
  How tall the knots are: the given l5Tall and Tall, the program's tallFrom and Tall.
-/
import Derived.Test.YthddhblmnfjciaaKOkZz
import Derived.Test.YthddhblmnfjciaaMathZz
namespace Go.Proofs.Ythddhblmnfjciaa
open Go Go.RowKit

theorem tat_size (ks : List Kn) (t : Tr) : ∀ p, TAt ks t p → t.size = 0 ∨ p + t.size ≤ ks.length := by
  induction t with
  | leaf => intro p _; exact Or.inl rfl
  | node m ax l r ihl ihr =>
    intro p ⟨hp, _, hl, hr⟩
    have h1 := ihl _ hl
    have h2 := ihr _ hr
    simp only [Tr.size]
    right; omega
theorem tall_size (t : Tr) : t.tall ≤ t.size := by
  induction t with
  | leaf => exact Nat.le_refl _
  | node m ax l r ihl ihr => simp only [Tr.tall, Tr.size]; omega
theorem tat_at {ks : List Kn} {w : World} {b off p : Nat} {m : Mk} {ax : Nat} {l r : Tr} (h : TAt ks (.node m ax l r) p) (hs : KSeg w b off ks) : p < ks.length ∧ KAt w b (off + p * 5) (m, (ax : Int), l.place (p + 1), r.place (p + 1 + l.size)) ∧ TAt ks l (p + 1) ∧ TAt ks r (p + 1 + l.size) := by
  obtain ⟨hp, hk, hl, hr⟩ := h
  have := hs p hp
  have e : knth ks p = (m, (ax : Int), l.place (p + 1), r.place (p + 1 + l.size)) := hk
  rw [e] at this
  exact ⟨hp, this, hl, hr⟩
theorem KSeg.drewN {w : World} {b off : Nat} {ks : List Kn} (h : KSeg w b off ks) (n : Nat) : KSeg (w.drewN n) b off ks := fun i hi => (h i hi).drewN n

set_option maxHeartbeats 1000000 in
theorem sTallT (b off cap : Nat) (ks : List Kn) (hn : ks.length ≤ 1048576) (t : Tr) : ∀ (p : Nat) (w : World), TAt ks t p → KSeg w b off ks →
    Calls Try.prog 77 #[.slice (some ⟨b, off, none⟩) ks.length cap, .int .i64 (t.place p)] w fun e w' => e = .returned (.int .i64 (t.tall : Int)) ∧ ∃ n, w' = w.drewN n := by
  induction t with
  | leaf =>
    intro p w _ _
    show Calls Try.prog 77 #[.slice (some ⟨b, off, none⟩) ks.length cap, .int .i64 (-1)] w fun e w' => e = .returned (.int .i64 0) ∧ ∃ n, w' = w.drewN n
    go_enter Try.func77, Try.ntmps77
    go_wp2
    go_ret
    exact ⟨rfl, 0, rfl⟩
  | node m ax l r ihl ihr =>
    intro p w ht hs
    obtain ⟨hp, ⟨_, _, _, c3, c4⟩, hl, hr⟩ := tat_at ht hs
    have hsl := tat_size ks l _ hl
    have hsr := tat_size ks r _ hr
    have htl := tall_size l
    have htr := tall_size r
    have HA := hidP (fun n => ihl (p + 1) (w.drewN n) hl (hs.drewN n))
    have HB := hidP (fun n => ihr (p + 1 + l.size) (w.drewN n) hr (hs.drewN n))
    have hb1 : l.tall ≤ 1048576 := by omega
    have hb2 : r.tall ≤ 1048576 := by omega
    have HV : Hid ((((Tr.node m ax l r).tall : Nat) : Int) = 1 + maxV (l.tall : Int) (r.tall : Int)) := by show (((1 + max l.tall r.tall : Nat)) : Int) = _; unfold maxV; omega
    have hpl : (0 : Int) ≤ (p : Int) := Int.natCast_nonneg _
    have hpi : (p : Int) < (ks.length : Int) := by omega
    have hm1 : maxV (l.tall : Int) (r.tall : Int) ≤ 1048576 := by unfold maxV; omega
    have hm0 : 0 ≤ maxV (l.tall : Int) (r.tall : Int) := by unfold maxV; omega
    rw [HV.out]
    show Calls Try.prog 77 #[.slice (some ⟨b, off, none⟩) ks.length cap, .int .i64 (p : Int)] w _
    simp only at c3 c4
    generalize l.place (p + 1) = x at *
    generalize r.place (p + 1 + l.size) = y at *
    clear ihl ihr ht hs hsl hsr htl htr HV hl hr
    generalize (l.tall : Int) = tl at *
    generalize (r.tall : Int) = tr at *
    go_enter Try.func77, Try.ntmps77
    go_wp2_with fail
    go_quiet (first | (go_at_call_of 77 (Value.int .i64 x); exact Calls.quiet_of (HA.out _)) | (go_at_call_of 77 (Value.int .i64 y); exact Calls.quiet_of (HB.out _)) | (go_at_call 108; exact Calls.quiet_of_same (sMax _ _ _)))
    go_wp2_with fail
    go_ret
    exact ⟨rfl, nq, rfl⟩

set_option maxHeartbeats 1000000 in
theorem iTallT (b off cap : Nat) (ks : List Kn) (hn : ks.length ≤ 1048576) (t : Tr) : ∀ (p : Nat) (w : World), TAt ks t p → KSeg w b off ks →
    Calls Try.prog 78 #[.slice (some ⟨b, off, none⟩) ks.length cap, .int .i64 (t.place p)] w fun e w' => e = .returned (.int .i64 (t.tall : Int)) ∧ ∃ n, w' = w.drewN n := by
  induction t with
  | leaf =>
    intro p w _ _
    show Calls Try.prog 78 #[.slice (some ⟨b, off, none⟩) ks.length cap, .int .i64 (-1)] w fun e w' => e = .returned (.int .i64 0) ∧ ∃ n, w' = w.drewN n
    go_enter Try.func78, Try.ntmps78
    go_wp2
    go_ret
    exact ⟨rfl, 0, rfl⟩
  | node m ax l r ihl ihr =>
    intro p w ht hs
    obtain ⟨hp, ⟨_, _, _, c3, c4⟩, hl, hr⟩ := tat_at ht hs
    have hsl := tat_size ks l _ hl
    have hsr := tat_size ks r _ hr
    have htl := tall_size l
    have htr := tall_size r
    have HA := hidP (fun n => ihl (p + 1) (w.drewN n) hl (hs.drewN n))
    have HB := hidP (fun n => ihr (p + 1 + l.size) (w.drewN n) hr (hs.drewN n))
    have hb1 : l.tall ≤ 1048576 := by omega
    have hb2 : r.tall ≤ 1048576 := by omega
    have HV : Hid ((((Tr.node m ax l r).tall : Nat) : Int) = 1 + max (l.tall : Int) (r.tall : Int)) := by show (((1 + max l.tall r.tall : Nat)) : Int) = _; omega
    have hpl : (0 : Int) ≤ (p : Int) := Int.natCast_nonneg _
    have hpi : (p : Int) < (ks.length : Int) := by omega
    have hm1 : max (l.tall : Int) (r.tall : Int) ≤ 1048576 := by omega
    have hm0 : 0 ≤ max (l.tall : Int) (r.tall : Int) := by omega
    rw [HV.out]
    show Calls Try.prog 78 #[.slice (some ⟨b, off, none⟩) ks.length cap, .int .i64 (p : Int)] w _
    simp only at c3 c4
    generalize l.place (p + 1) = x at *
    generalize r.place (p + 1 + l.size) = y at *
    clear ihl ihr ht hs hsl hsr htl htr HV hl hr
    generalize (l.tall : Int) = tl at *
    generalize (r.tall : Int) = tr at *
    go_enter Try.func78, Try.ntmps78
    go_wp2_with fail
    go_quiet (first | (go_at_call_of 78 (Value.int .i64 x); exact Calls.quiet_of (HA.out _)) | (go_at_call_of 78 (Value.int .i64 y); exact Calls.quiet_of (HB.out _)))
    go_wp2_with fail
    go_ret
    exact ⟨rfl, nq, rfl⟩

set_option maxHeartbeats 400000 in
theorem iTall0 (ao : Option Addr) (n cap : Nat) (w : World) :
    Calls Try.prog 78 #[.slice ao n cap, .int .i64 (-1)] w fun e w' => e = .returned (.int .i64 ((Tr.leaf.tall : Nat) : Int)) ∧ ∃ n, w' = w.drewN n := by
  show Calls Try.prog 78 #[.slice ao n cap, .int .i64 (-1)] w fun e w' => e = .returned (.int .i64 0) ∧ ∃ n, w' = w.drewN n
  go_enter Try.func78, Try.ntmps78
  go_wp2
  go_ret
  exact ⟨rfl, 0, rfl⟩

set_option maxHeartbeats 400000 in
theorem iTop (ao : Option Addr) (n cap : Nat) (w : World) (hn : n ≤ 1048576) :
    Calls Try.prog 79 #[.slice ao n cap] w fun e w' => e = .returned (.int .i64 (if n = 0 then -1 else 0)) ∧ w' = w := by
  by_cases h : n = 0
  · subst h
    go_enter Try.func79, Try.ntmps79
    go_wp2
    go_ret
    exact ⟨rfl, rfl⟩
  · have HV : Hid ((if n = 0 then (-1 : Int) else 0) = min 0 ((n : Int) - 1)) := by show (if n = 0 then (-1 : Int) else 0) = _; rw [if_neg h]; omega
    rw [HV.out]
    clear HV
    go_enter Try.func79, Try.ntmps79
    go_wp2
    go_ret
    exact ⟨rfl, rfl⟩

set_option maxHeartbeats 1000000 in
theorem sTall (ao : Option Addr) (cap : Nat) (ks : List Kn) (w : World) (hv : KView w ao ks) (hsm : KSmall ks) :
    Calls Try.prog 19 #[.slice ao ks.length cap] w fun e w' => e = .returned (.int .i64 (tallV ks)) ∧ Below w.heap.size w w' := by
  have HC := hidP (sKnotsOk ao cap ks w hv hsm)
  rcases hk : knotsB ks with _ | _
  · have HV : Hid (tallV ks = -1) := by show tallV ks = -1; simp [tallV, hk]
    rw [hk] at HC
    rw [HV.out]
    go_enter Try.func19, Try.ntmps19
    go_wp2_with fail
    refine HC.out.mono ?_
    rintro e w1 ⟨rfl, L1⟩
    go_wp2_with fail
    go_ret
    exact ⟨rfl, L1⟩
  · obtain ⟨hm, hf, hz⟩ := knots_tree hk
    have HV : Hid (tallV ks = ((treeF 60 (knotMs ks) 0).tall : Int)) := by show tallV ks = _; simp [tallV, hk]
    rw [hk] at HC
    have ht : TAt ks (treeF 60 (knotMs ks) 0) 0 := by have := tat_flat (treeF 60 (knotMs ks) 0); rwa [← hf] at this
    rw [HV.out]
    rcases Nat.eq_zero_or_pos ks.length with h0 | h0
    · have h00 : (treeF 60 (knotMs ks) 0).tall = 0 := by have := tall_size (treeF 60 (knotMs ks) 0); omega
      rw [h00, h0]
      rw [h0] at HC
      clear ht hf hz h00
      go_enter Try.func19, Try.ntmps19
      go_wp2_with fail
      refine HC.out.mono ?_
      rintro e w1 ⟨rfl, L1⟩
      go_wp2_with fail
      go_ret
      exact ⟨rfl, L1⟩
    · have hpl : (treeF 60 (knotMs ks) 0).place 0 = 0 := by rw [place_zero, if_neg (by omega)]
      have hlb : ((ks.length : Int) == 0) = false := by simp; intro h; rw [h] at h0; simp at h0
      have HS : Hid (∀ w1, Below w.heap.size w w1 → Calls Try.prog 77 #[.slice ao ks.length cap, .int .i64 0] w1 fun e w' => e = .returned (.int .i64 ((treeF 60 (knotMs ks) 0).tall : Int)) ∧ ∃ n, w' = w1.drewN n) := fun w1 L => by
        obtain ⟨b, off, e, hb, hs⟩ : ∃ b off, ao = some ⟨b, off, none⟩ ∧ b < w1.heap.size ∧ KSeg w1 b off ks := by
          rcases hv.next L with h | h
          · rw [h] at h0; simp at h0
          · exact h
        subst e
        have := sTallT b off cap ks hsm.1 (treeF 60 (knotMs ks) 0) 0 w1 ht hs
        rwa [hpl] at this
      clear ht hf hz hpl hm hk hv hsm
      generalize ((treeF 60 (knotMs ks) 0).tall : Int) = v at *
      go_enter Try.func19, Try.ntmps19
      go_wp2_with fail
      refine HC.out.mono ?_
      rintro e w1 ⟨rfl, L1⟩
      have HL := hidP L1
      have HS1 := hidP (HS.out w1 L1)
      clear L1
      go_wp2_with fail
      refine HS1.out.mono ?_
      rintro e w2 ⟨rfl, n2, rfl⟩
      go_wp2_with fail
      go_ret
      exact ⟨rfl, below_drewN HL.out n2⟩

set_option maxHeartbeats 1000000 in
theorem iTall (ao : Option Addr) (cap : Nat) (ks : List Kn) (w : World) (hv : KView w ao ks) (hsm : KSmall ks) :
    Calls Try.prog 20 #[.slice ao ks.length cap] w fun e w' => e = .returned (.int .i64 (tallV ks)) ∧ Below w.heap.size w w' := by
  have HC := hidP (iKnotsOk ao cap ks w hv hsm)
  rcases hk : knotsB ks with _ | _
  · have HV : Hid (tallV ks = -1) := by show tallV ks = -1; simp [tallV, hk]
    rw [hk] at HC
    rw [HV.out]
    go_enter Try.func20, Try.ntmps20
    go_wp2_with fail
    refine HC.out.mono ?_
    rintro e w1 ⟨rfl, L1⟩
    go_wp2_with fail
    go_ret
    exact ⟨rfl, L1⟩
  · obtain ⟨hm, hf, hz⟩ := knots_tree hk
    have HV : Hid (tallV ks = ((treeF 60 (knotMs ks) 0).tall : Int)) := by show tallV ks = _; simp [tallV, hk]
    rw [hk] at HC
    have ht : TAt ks (treeF 60 (knotMs ks) 0) 0 := by have := tat_flat (treeF 60 (knotMs ks) 0); rwa [← hf] at this
    rw [HV.out]
    have hpl : (treeF 60 (knotMs ks) 0).place 0 = if ks.length = 0 then -1 else 0 := by rw [place_zero, hz]
    have HT := hidP (fun w1 => iTop ao ks.length cap w1 hsm.1)
    have HS : Hid (∀ w1, Below w.heap.size w w1 → Calls Try.prog 78 #[.slice ao ks.length cap, .int .i64 (if ks.length = 0 then -1 else 0)] w1 fun e w' => e = .returned (.int .i64 ((treeF 60 (knotMs ks) 0).tall : Int)) ∧ ∃ n, w' = w1.drewN n) := fun w1 L => by
      rcases Nat.eq_zero_or_pos ks.length with h0 | h0
      · have hz0 : (treeF 60 (knotMs ks) 0).size = 0 := by omega
        generalize treeF 60 (knotMs ks) 0 = t at *
        cases t with
        | leaf => rw [if_pos h0]; exact iTall0 ao ks.length cap w1
        | node m ax l r => simp [Tr.size] at hz0
      · obtain ⟨b, off, e, hb, hs⟩ : ∃ b off, ao = some ⟨b, off, none⟩ ∧ b < w1.heap.size ∧ KSeg w1 b off ks := by
          rcases hv.next L with h | h
          · rw [h] at h0; simp at h0
          · exact h
        subst e
        have := iTallT b off cap ks hsm.1 (treeF 60 (knotMs ks) 0) 0 w1 ht hs
        rwa [hpl] at this
    clear ht hf hz hpl hm hk hv hsm
    generalize ((treeF 60 (knotMs ks) 0).tall : Int) = v at *
    generalize (if ks.length = 0 then (-1 : Int) else 0) = x at *
    go_enter Try.func20, Try.ntmps20
    go_wp2_with fail
    refine HC.out.mono ?_
    rintro e w1 ⟨rfl, L1⟩
    have HL := hidP L1
    have HS1 := hidP (HS.out w1 L1)
    clear L1
    go_wp2_with fail
    refine (HT.out _).mono ?_
    rintro e w2 ⟨rfl, hw2⟩
    rw [hw2]
    clear hw2
    go_wp2_with fail
    refine HS1.out.mono ?_
    rintro e w2 ⟨rfl, n2, rfl⟩
    go_wp2_with fail
    go_ret
    exact ⟨rfl, below_drewN HL.out n2⟩

end Go.Proofs.Ythddhblmnfjciaa
