/-
  The table of who is tied to whom: under each number a lesser one of its part, or itself; the program's own first, tie and looseTies.
-/
import Derived.Test.YtfbindjacmaeoaaProg
import Derived.Test.YtfbindjacmaeoaaECellsZz
import Derived.Test.YtfbindjacmaeoaaMCellsZz
import Derived.Maps.OwnOps
import Derived.Maps.OwnSet
import Derived.Maps.Views
namespace Go.Proofs.Ytfbindjacmaeoaa
open Go Go.RowKit Go.Maps

/-- Whom each one names, and the least of its part. -/
structure UfOk (n : Nat) (q p : Nat → Nat) : Prop where
  le : ∀ i, i < n → q i ≤ i
  root : ∀ i, i < n → (q i = i ↔ p i = i)
  up : ∀ i, i < n → p (q i) = p i
  ple : ∀ i, p i ≤ i
  idem : ∀ i, p (p i) = p i
theorem UfOk.start (n : Nat) : UfOk n (fun i => i) (fun i => i) := ⟨fun _ _ => Nat.le_refl _, fun _ _ => Iff.rfl, fun _ _ => rfl, fun _ => Nat.le_refl _, fun _ => rfl⟩
theorem UfOk.tie {n : Nat} {q p : Nat → Nat} (h : UfOk n q p) (a b : Nat) : UfOk n (fun i => if i = max (p a) (p b) then min (p a) (p b) else q i) (relab p a b) := by
  have hMM : p (max (p a) (p b)) = max (p a) (p b) := by
    rcases Nat.le_total (p a) (p b) with e | e
    · rw [Nat.max_eq_right e]; exact h.idem b
    · rw [Nat.max_eq_left e]; exact h.idem a
  have hmm : p (min (p a) (p b)) = min (p a) (p b) := by
    rcases Nat.le_total (p a) (p b) with e | e
    · rw [Nat.min_eq_left e]; exact h.idem a
    · rw [Nat.min_eq_right e]; exact h.idem b
  have hle : min (p a) (p b) ≤ max (p a) (p b) := by omega
  generalize hM : max (p a) (p b) = M at *
  generalize hm : min (p a) (p b) = m at *
  have hr : ∀ i, relab p a b i = if p i = M then m else p i := fun i => by unfold relab; rw [hM, hm]
  refine ⟨fun i hi => ?_, fun i hi => ?_, fun i hi => ?_, fun i => ?_, fun i => ?_⟩
  · show (if i = M then m else q i) ≤ i
    split
    · omega
    · exact h.le i hi
  · show (if i = M then m else q i) = i ↔ relab p a b i = i
    rw [hr]
    by_cases e : i = M
    · subst e
      rw [if_pos rfl, if_pos hMM]
    · rw [if_neg e]
      by_cases e2 : p i = M
      · rw [if_pos e2, h.root i hi]
        constructor
        · intro e3; omega
        · intro e3; subst e3; omega
      · rw [if_neg e2]; exact h.root i hi
  · show relab p a b (if i = M then m else q i) = relab p a b i
    rw [hr, hr]
    by_cases e : i = M
    · subst e
      rw [if_pos rfl, if_pos hMM, hmm]
      split <;> rfl
    · rw [if_neg e, h.up i hi]
  · rw [hr]
    have := h.ple i
    split
    · omega
    · exact this
  · rw [hr, hr]
    by_cases e : p i = M
    · rw [if_pos e, hmm]
      split <;> rfl
    · rw [if_neg e, h.idem i, if_neg e]

theorem lawI : Keyed Try.prog 2 := int_keyed Try.underlying2
theorem zeroI (w : World) : (zeroValue 2).run Try.prog w = .ok (.int .i64 0) w := by kernel_rfl
/-- A table in memory: under the number of each of the first k marks the number of whom it names. -/
def TMap (w : World) (B : Nat) (ms : List Mk) (k : Nat) (q : Nat → Nat) : Prop := ∃ D : DataW Unit, w.ownsMap Try.prog 2 (plainElem Try.prog 2) B k D ∧ IsMap D ∧ ∀ i, i < k → Maps.has D (.int .i64 (mid ms i)) = true ∧ D.atKey (.int .i64 (mid ms i)) (.lit (.int .i64 0)) = .lit (.int .i64 (mid ms (q i)))
theorem mid_wf {ms : List Mk} (hm : marksB ms = true) {i : Nat} (hi : i < ms.length) : (Lit.int .i64 (mid ms i)).wf = true := by
  have := (mOkAt_iff ms i).1 (marksB_at hm hi)
  exact WalkArith.wf_i64 (by omega)
theorem TMap.lt {w : World} {B : Nat} {ms : List Mk} {k : Nat} {q : Nat → Nat} (h : TMap w B ms k q) : B < w.heap.size := by
  obtain ⟨D, h, _⟩ := h
  exact h.lt
theorem TMap.kept {w w' : World} {r : Option Nat} {B : Nat} {ms : List Mk} {k : Nat} {q : Nat → Nat} (h : TMap w B ms k q) (hg : w.grownBy w' r) (hne : some B ≠ r) : TMap w' B ms k q := by
  obtain ⟨D, h1, h2⟩ := h
  exact ⟨D, h1.kept hg hne, h2⟩
theorem TMap.look {w : World} {B : Nat} {ms : List Mk} {k : Nat} {q : Nat → Nat} (h : TMap w B ms k q) (hm : marksB ms = true) (hk : k ≤ ms.length) {i : Nat} (hi : i < k) : (Instr.lookup 76 (.map (some B)) (.int .i64 (mid ms i)) false).run Try.prog w = .ok (.int .i64 (mid ms (q i))) w := by
  obtain ⟨D, h1, h2, h3⟩ := h
  obtain ⟨c, e1, e2, -⟩ := h1.lookup_int lawI Try.underlying76 Try.underlying2 (zeroI w) (keyOf_int_mk Try.underlying2 (mid_wf hm (by omega : i < ms.length)))
  rw [(h3 i hi).2] at e2
  simp only [DataW.lit.injEq, Lit.int.injEq, true_and] at e2
  subst e2
  exact e1
theorem owns_size {w : World} {B n : Nat} {D : DataW Unit} (h : w.ownsMap Try.prog 2 (plainElem Try.prog 2) B n D) {m : Nat} (hm : Maps.size D ≤ m) : w.ownsMap Try.prog 2 (plainElem Try.prog 2) B m D := by
  obtain ⟨es, clock, hb, F, hs, hD⟩ := h
  refine ⟨es, clock, hb, F, ?_, hD⟩
  have e1 : Maps.size D = es.size := by rw [hD]; show ((es.toList.map _).foldr DataW.insert []).length = _; rw [length_sorted]; simp
  omega
theorem owns_le {w : World} {B n : Nat} {D : DataW Unit} (h : w.ownsMap Try.prog 2 (plainElem Try.prog 2) B n D) : Maps.size D ≤ n := by
  obtain ⟨es, clock, hb, F, hs, hD⟩ := h
  have e1 : Maps.size D = es.size := by rw [hD]; show ((es.toList.map _).foldr DataW.insert []).length = _; rw [length_sorted]; simp
  omega
theorem keyInt (a : Int) : WideAt.IsKeyLit (.int .i64 a) := trivial
/-- One more number, with itself. -/
theorem TMap.add {w : World} {B : Nat} {ms : List Mk} {k : Nat} (h : TMap w B ms k (fun i => i)) (hm : marksB ms = true) (hk : k < ms.length) : ∃ w', (Instr.mapUpdate 76 (.map (some B)) (.int .i64 (mid ms k)) (.int .i64 (mid ms k))).run Try.prog w = .ok () w' ∧ TMap w' B ms (k + 1) (fun i => i) ∧ w.grownBy w' (some B) := by
  obtain ⟨D, h1, h2, h3⟩ := h
  have hl := marksB_len hm
  obtain ⟨w', e1, e2, e3⟩ := h1.update lawI Try.underlying76 (by unfold maxLen; omega) (keyOf_int_mk Try.underlying2 (mid_wf hm hk)) (plainElem_int Try.underlying2 (mid_wf hm hk))
  refine ⟨w', e1, ⟨_, e2, h2.put _ _, fun i hi => ?_⟩, e3⟩
  by_cases e : i = k
  · subst e
    exact ⟨has_put_same h2 (keyInt _) _, atKey_put_same h2 (keyInt _) _ _⟩
  · have hne : (Lit.int .i64 (mid ms i)) ≠ .int .i64 (mid ms k) := fun e' => by injection e' with _ e'; exact e (zmid_inj hm (by omega) hk e')
    rw [has_put_other hne, atKey_put_other hne]
    exact h3 i (by omega)
/-- Under a number that is there another one. -/
theorem TMap.set {w : World} {B : Nat} {ms : List Mk} {q : Nat → Nat} (h : TMap w B ms ms.length q) (hm : marksB ms = true) {i r : Nat} (hi : i < ms.length) (hr : r < ms.length) : ∃ w', (Instr.mapUpdate 76 (.map (some B)) (.int .i64 (mid ms i)) (.int .i64 (mid ms r))).run Try.prog w = .ok () w' ∧ TMap w' B ms ms.length (fun j => if j = i then r else q j) ∧ w.grownBy w' (some B) := by
  obtain ⟨D, h1, h2, h3⟩ := h
  have hl := marksB_len hm
  obtain ⟨w', e1, e2, e3⟩ := h1.update lawI Try.underlying76 (by unfold maxLen; omega) (keyOf_int_mk Try.underlying2 (mid_wf hm hi)) (plainElem_int Try.underlying2 (mid_wf hm hr))
  have hsz : Maps.size (D.put (.int .i64 (mid ms i)) (.lit (.int .i64 (mid ms r)))) ≤ ms.length := by
    rw [size_put (h1.tidy lawI), (h3 i hi).1, if_pos rfl]
    exact owns_le h1
  refine ⟨w', e1, ⟨_, owns_size e2 hsz, h2.put _ _, fun j hj => ?_⟩, e3⟩
  by_cases e : j = i
  · subst e
    refine ⟨has_put_same h2 (keyInt _) _, ?_⟩
    show _ = DataW.lit (.int .i64 (mid ms (if j = j then r else q j)))
    rw [atKey_put_same h2 (keyInt _) _ _, if_pos rfl]
  · have hne : (Lit.int .i64 (mid ms j)) ≠ .int .i64 (mid ms i) := fun e' => by injection e' with _ e'; exact e (zmid_inj hm hj hi e')
    rw [has_put_other hne, atKey_put_other hne]
    show _ ∧ _ = DataW.lit (.int .i64 (mid ms (if j = i then r else q j)))
    rw [if_neg e]
    exact h3 j hj

/-- The table tells the parts p. -/
def Ties (w : World) (B : Nat) (ms : List Mk) (p : Nat → Nat) : Prop := ∃ q, UfOk ms.length q p ∧ TMap w B ms ms.length q
theorem Ties.lt {w : World} {B : Nat} {ms : List Mk} {p : Nat → Nat} (h : Ties w B ms p) : B < w.heap.size := by
  obtain ⟨q, _, h⟩ := h
  exact h.lt
theorem Ties.kept {w w' : World} {r : Option Nat} {B : Nat} {ms : List Mk} {p : Nat → Nat} (h : Ties w B ms p) (hg : w.grownBy w' r) (hne : some B ≠ r) : Ties w' B ms p := by
  obtain ⟨q, h1, h2⟩ := h
  exact ⟨q, h1, h2.kept hg hne⟩
theorem Ties.below {w w' : World} {B : Nat} {ms : List Mk} {p : Nat → Nat} (h : Ties w B ms p) (hb : Below w.heap.size w w') : Ties w' B ms p :=
  h.kept (r := none) ⟨hb.os, hb.tape, hb.output, hb.size, fun i hi _ => hb.block i hi⟩ (by simp)

set_option maxRecDepth 100000 in
set_option maxHeartbeats 1000000 in
theorem iFirst (B : Nat) (ms : List Mk) (p : Nat → Nat) (a : Nat) (w : World) (hm : marksB ms = true) (h : Ties w B ms p) (ha : a < ms.length) :
    Calls Try.prog 97 #[.map (some B), .int .i64 (mid ms a)] w fun e w' => e = .returned (.int .i64 (mid ms (p a))) ∧ w' = w := by
  obtain ⟨q, hu, hM⟩ := h
  have HM := hidP hm
  have HU := hidP hu
  have HT := hidP hM
  clear hm hu hM
  go_enter Try.func97, Try.ntmps97
  go_wp2_with fail
  go_loop [1] (fun v => ∃ i : Nat, i < ms.length ∧ v = .int .i64 (mid ms i) ∧ p i = p a) (fun v => (intOf v).toNat)
  case atStart => exact ⟨a, ha, rfl, rfl⟩
  case round =>
    obtain ⟨i, hi, rfl, hpi⟩ := hrel
    have hk := HT.out.look HM.out (Nat.le_refl _) hi
    have HP := hidP hpi
    clear hpi
    by_cases hq : q i = i
    · have HQ := hidP hq
      rw [hq] at hk
      have hne : (mid ms i != mid ms i) = false := by simp
      clear hq
      go_wp2_with fail
      go_ret
      exact ⟨by rw [← HP.out, (HU.out.root i hi).1 HQ.out]; rfl, rfl⟩
    · have hle := HU.out.le i hi
      have hlt : mid ms (q i) < mid ms i := zmid_rises HM.out (by omega) hi
      have h1 := ((mOkAt_iff ms (q i)).1 (marksB_at HM.out (by omega))).1
      have hne : (mid ms (q i) != mid ms i) = true := by simp; omega
      have HQ := hidP hq
      clear hq
      go_wp2_with fail
      go_round
      case rel => exact ⟨q i, by omega, rfl, by rw [HU.out.up i hi]; exact HP.out⟩
      case measure => simp [intOf]; omega

set_option maxRecDepth 100000 in
set_option maxHeartbeats 1000000 in
theorem iTie (B : Nat) (ms : List Mk) (p : Nat → Nat) (a b : Nat) (w : World) (hm : marksB ms = true) (h : Ties w B ms p) (ha : a < ms.length) (hb : b < ms.length) :
    Calls Try.prog 64 #[.map (some B), .int .i64 (mid ms a), .int .i64 (mid ms b)] w fun e w' => e = .returned (.bool (decide (p a ≠ p b))) ∧ Ties w' B ms (relab p a b) ∧ w.grownBy w' (some B) := by
  have HA := hidP (iFirst B ms p a w hm h ha)
  have HB := hidP (iFirst B ms p b w hm h hb)
  obtain ⟨q, hu, hM⟩ := h
  have hpa := hu.ple a
  have hpb := hu.ple b
  obtain ⟨w', hrun, hT, hg⟩ := hM.set hm (i := max (p a) (p b)) (r := min (p a) (p b)) (by omega) (by omega)
  have HE : Hid (Ties w' B ms (relab p a b) ∧ w.grownBy w' (some B)) := ⟨⟨_, hu.tie a b, hT⟩, hg⟩
  have hmx : mid ms (max (p a) (p b)) = max (mid ms (p a)) (mid ms (p b)) := by
    rcases Nat.le_total (p a) (p b) with e | e
    · have : mid ms (p a) ≤ mid ms (p b) := by
        rcases Nat.lt_or_eq_of_le e with e' | e'
        · have := zmid_rises hm e' (by omega); omega
        · rw [e']; omega
      rw [Nat.max_eq_right e]; omega
    · have : mid ms (p b) ≤ mid ms (p a) := by
        rcases Nat.lt_or_eq_of_le e with e' | e'
        · have := zmid_rises hm e' (by omega); omega
        · rw [e']; omega
      rw [Nat.max_eq_left e]; omega
  have hmn : mid ms (min (p a) (p b)) = min (mid ms (p a)) (mid ms (p b)) := by
    rcases Nat.le_total (p a) (p b) with e | e
    · have : mid ms (p a) ≤ mid ms (p b) := by
        rcases Nat.lt_or_eq_of_le e with e' | e'
        · have := zmid_rises hm e' (by omega); omega
        · rw [e']; omega
      rw [Nat.min_eq_left e]; omega
    · have : mid ms (p b) ≤ mid ms (p a) := by
        rcases Nat.lt_or_eq_of_le e with e' | e'
        · have := zmid_rises hm e' (by omega); omega
        · rw [e']; omega
      rw [Nat.min_eq_right e]; omega
  rw [hmx, hmn] at hrun
  have HD : Hid ((mid ms (p a) != mid ms (p b)) = decide (p a ≠ p b)) := by
    show _ = _
    by_cases e : p a = p b
    · simp [e]
    · have : mid ms (p a) ≠ mid ms (p b) := fun e' => e (zmid_inj hm (by omega) (by omega) e')
      simp [e, this]
  clear hmx hmn hT hg hu hM hm hpa hpb ha hb
  obtain ⟨x, hx⟩ : ∃ x, x = mid ms (p a) := ⟨_, rfl⟩
  obtain ⟨y, hy⟩ : ∃ y, y = mid ms (p b) := ⟨_, rfl⟩
  rw [← hx] at HA HD hrun
  rw [← hy] at HB HD hrun
  clear hx hy
  rcases Int.lt_trichotomy x y with hxy | hxy | hxy
  · rw [Int.max_eq_right (by omega), Int.min_eq_left (by omega)] at hrun
    go_enter Try.func64, Try.ntmps64
    go_wp2_with fail
    refine HA.out.mono ?_
    rintro e w2 ⟨rfl, hw2⟩
    subst w2
    go_wp2_with fail
    refine HB.out.mono ?_
    rintro e w2 ⟨rfl, hw2⟩
    subst w2
    go_wp2_with fail
    go_ret
    exact ⟨by rw [← HD.out]; rfl, HE.out⟩
  · subst hxy
    rw [Int.max_eq_right (by omega), Int.min_eq_left (by omega)] at hrun
    go_enter Try.func64, Try.ntmps64
    go_wp2_with fail
    refine HA.out.mono ?_
    rintro e w2 ⟨rfl, hw2⟩
    subst w2
    go_wp2_with fail
    refine HB.out.mono ?_
    rintro e w2 ⟨rfl, hw2⟩
    subst w2
    go_wp2_with fail
    go_ret
    exact ⟨by rw [← HD.out, bne_self_eq_false]; rfl, HE.out⟩
  · rw [Int.max_eq_left (by omega), Int.min_eq_right (by omega)] at hrun
    go_enter Try.func64, Try.ntmps64
    go_wp2_with fail
    refine HA.out.mono ?_
    rintro e w2 ⟨rfl, hw2⟩
    subst w2
    go_wp2_with fail
    refine HB.out.mono ?_
    rintro e w2 ⟨rfl, hw2⟩
    subst w2
    go_wp2_with fail
    go_ret
    exact ⟨by rw [← HD.out]; rfl, HE.out⟩

set_option maxRecDepth 100000 in
set_option maxHeartbeats 1000000 in
theorem iLoose (ao : Option Addr) (cap : Nat) (ms : List Mk) (w : World) (hm : marksB ms = true) (hv : MView w ao ms) :
    Calls Try.prog 51 #[.slice ao ms.length cap] w fun e w' => e = .returned (.map (some w.heap.size)) ∧ Ties w' w.heap.size ms (fun i => i) ∧ Below w.heap.size w w' := by
  have hmm := @run_makeMap Try.prog
  have HM := hidP hm
  have HV := hidP hv
  have hl := marksB_len hm
  clear hm hv
  go_enter Try.func51, Try.ntmps51
  go_wp2_with fail
  go_loopw [9] (fun i wr => ∃ k : Nat, k ≤ ms.length ∧ i = .int .i64 k ∧ TMap wr w.heap.size ms k (fun i => i) ∧ Below w.heap.size w wr) (fun i _ => ms.length - (intOf i).toNat)
  case atStart => exact ⟨0, Nat.zero_le _, rfl, ⟨_, World.ownsMap_made _ _ _ _, isMap_empty, fun i hi => by omega⟩, (Below.refl _ _).alloc (Nat.le_refl _) _⟩
  case round =>
    obtain ⟨k, hk, rfl, hT, L⟩ := hrel
    clear hmm
    by_cases hlt : k < ms.length
    · obtain ⟨b, off, rfl, hb, hs⟩ := MSeg.seg (HV.out.next L) (by omega)
      obtain ⟨p0, ae, ce, p1, vae⟩ := hs.at hlt
      have hi0 : (0 : Int) ≤ (k : Int) := Int.natCast_nonneg _
      have hi1 : (k : Int) < (ms.length : Int) := by omega
      have hB := (Below.refl wr.heap.size wr).alloc (Nat.le_refl _) (.cells #[.int .i64 (mid ms k), .slice ae (mat ms k).length ce] 38)
      obtain ⟨w', hrun, hT', hg⟩ := (hT.kept (r := none) ⟨hB.os, hB.tape, hB.output, hB.size, fun i hi _ => hB.block i hi⟩ (by simp)).add HM.out hlt
      have HE : Hid (TMap w' w.heap.size ms (k + 1) (fun i => i) ∧ Below w.heap.size w w') := ⟨hT', (L.trans (hB.mono L.size)).grown hg (Nat.le_trans L.size hB.size) (by intro j hj; cases hj; exact Nat.le_refl _)⟩
      clear hT hT' hg hB L vae hs
      go_wp2_with fail
      go_roundw
      case rel => exact ⟨k + 1, by omega, by go_num, HE.out.1, HE.out.2⟩
      case measure => simp [intOf]; omega
    · obtain rfl : k = ms.length := by omega
      have HE := hidP (And.intro hT L)
      clear hT L
      go_wp2_with fail
      go_ret
      exact ⟨rfl, ⟨_, UfOk.start _, HE.out.1⟩, HE.out.2⟩

end Go.Proofs.Ytfbindjacmaeoaa
