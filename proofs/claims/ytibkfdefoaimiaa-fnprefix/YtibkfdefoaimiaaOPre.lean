/-
  The program's Prefix: what the given one answers.
-/
import Derived.Test.YtibkfdefoaimiaaOIter
namespace Go.Proofs.Ytibkfdefoaimiaa
open Go Go.RowKit Go.Shelf

attribute [local go_sem] Oper.semAt_some

/-- Has x no more than m bits? -/
def hasB (x : Int) (m : Nat) : Bool := decide (x / 2 ^ m = 0)
theorem hasB_iff (x : Int) (m : Nat) : hasB x m = true ↔ 0 ≤ x ∧ x < 2 ^ m := by
  unfold hasB
  have hp : (0 : Int) < 2 ^ m := Int.pow_pos (by decide)
  rw [decide_eq_true_eq]
  constructor
  · intro h
    have h1 := Int.mul_ediv_add_emod x (2 ^ m)
    have h2 := Int.emod_nonneg x (Int.ne_of_gt hp)
    have h3 := Int.emod_lt_of_pos x hp
    rw [h, Int.mul_zero] at h1
    omega
  · rintro ⟨h1, h2⟩
    exact Int.ediv_eq_zero_of_lt h1 h2
theorem hasB_forty (x : Int) : hasB x 40 = fortyB x := by
  rw [Bool.eq_iff_iff, hasB_iff]
  simp [fortyB]
  omega

set_option maxHeartbeats 400000 in
theorem iHas (x : Int) (m : Nat) (hm : m ≤ 40) (w : World) :
    Calls Try.prog 44 #[.int .i64 x, .int .i64 (m : Int)] w fun e w' => e = .returned (.bool (hasB x m)) ∧ w' = w := by
  go_enter Try.func44, Try.ntmps44
  go_wp2
  go_ret
  exact ⟨rfl, rfl⟩

/-- What the rounds leave. -/
def preL (x : Nat) (pre : List (Fin 40)) : Int := pre.foldl (fun a i => if bitN x i.1 = 1 then 39 - (i.1 : Int) else a) 40
theorem preL_snoc (x : Nat) (pre : List (Fin 40)) (i : Fin 40) : preL x (pre ++ [i]) = if bitN x i.1 = 1 then 39 - (i.1 : Int) else preL x pre := by simp [preL]
theorem preL_bits (x : Nat) : ∀ k, k ≤ 40 → preL x (bitsL 40 k) = preP x k
  | 0, _ => rfl
  | k + 1, h => by rw [bitsL_succ (by omega), preL_snoc, preP, preL_bits x k (by omega)]

set_option maxRecDepth 100000 in
set_option maxHeartbeats 4000000 in
theorem iPre_in (a b : Int) (w : World) (ha : fortyB a = true) (hb : fortyB b = true) :
    Calls Try.prog 26 #[.int .i64 a, .int .i64 b] w fun e w' => e = .returned (.int .i64 (preV a b)) ∧ Below w.heap.size w w' := by
  have HA : Hid (hasB a 40 = true) := (hasB_forty a).trans ha
  have HB : Hid (hasB b 40 = true) := (hasB_forty b).trans hb
  have HX := hidP (i64_xor (a := a) (b := b) (fortyB_lt ha).2 (by have := (fortyB_lt ha).1; omega) (fortyB_lt hb).2 (by have := (fortyB_lt hb).1; omega))
  have HL := hidP (xor_lt40 ha hb)
  have HP := hidP (show preV a b = 40 - blen (a.toNat ^^^ b.toNat) from if_pos ⟨ha, hb⟩)
  clear ha hb
  obtain ⟨X, hX⟩ : ∃ X, a.toNat ^^^ b.toNat = X := ⟨_, rfl⟩
  rw [hX] at HX HL HP
  clear hX
  refine (callsIn_wide (n := 5)).1 ?_
  refine callsIn_of_wp_marks Try.func26 rfl trivial ?_ rfl
  simp only [Try.ntmps26, List.size_toArray, List.length_cons, List.length_nil, Nat.reduceAdd, Nat.reduceSub, Array.replicate_succ, Array.replicate_zero, List.push_toArray, List.append_toArray, List.nil_append, List.cons_append]
  gi_wp2_with first
    | (refine ⟨trivial, ?_⟩; gi_at_call 44; have h1 := HA; clear HA; refine (callsIn_wide.2 (iHas a 40 (by decide) _)).mono ?_; rintro e w' ⟨rfl, rfl⟩; rw [h1.out])
    | (refine ⟨trivial, ?_⟩; gi_at_call 44; have h1 := HB; clear HB; refine (callsIn_wide.2 (iHas b 40 (by decide) _)).mono ?_; rintro e w' ⟨rfl, rfl⟩; rw [h1.out])
    | (refine ⟨trivial, ?_⟩; gi_at_call 40; rw [HX.out]; refine (callsIn_wide.2 (iBits (X : Int) 40 _)).mono ?_; rintro e w' ⟨rfl, rfl⟩)
  obtain ⟨w3, hw3⟩ : ∃ w3, ((w'.alloc (.cells #[.int .i64 40] 2)).alloc (.cells #[.int .i64 (X : Int)] 2)).alloc (.cells #[.int .i64 40] 2) = w3 := ⟨_, rfl⟩
  have hsz : w3.heap.size = w'.heap.size + 3 := by rw [← hw3]; simp
  have b0 : Boxed w3 w'.heap.size 2 (.int .i64 40) := by rw [← hw3]; exact ((Boxed.new w' 2 _).alloc _).alloc _
  have b1 : Boxed w3 (w'.heap.size + 1) 2 (.int .i64 (X : Int)) := by
    rw [← hw3]; have := Boxed.new (w'.alloc (.cells #[.int .i64 40] 2)) 2 (.int .i64 (X : Int)); rw [World.size_alloc] at this; exact this.alloc _
  have b2 : Boxed w3 (w'.heap.size + 1 + 1) 2 (.int .i64 ((40 : Nat) : Int)) := by
    rw [← hw3]; have := Boxed.new ((w'.alloc (.cells #[.int .i64 40] 2)).alloc (.cells #[.int .i64 (X : Int)] 2)) 2 (.int .i64 40); rw [World.size_alloc, World.size_alloc] at this; exact this
  have hB3 : Below w'.heap.size w' w3 := by rw [← hw3]; exact (((Below.refl _ w').alloc (Nat.le_refl _) _).alloc (by simp) _).alloc (by simp; omega) _
  rw [hw3]
  clear hw3
  refine wpIn_rangeFunc_ownG rfl (by decide) (gf := 62) (lb := #[.pointer (some ⟨w'.heap.size + 1 + 1, 0, none⟩), .pointer (some ⟨w'.heap.size + 1, 0, none⟩)]) rfl trivial (enters_of Try.func62 (by kernel_rfl) rfl)
    (bits_stops Fence.wide (5 - 1) trivial rfl (by decide) (w'.heap.size + 1 + 1) (w'.heap.size + 1) X 40 (by have := HL.out; omega) (by decide) w3 b2 b1) (fun h k => k.trans h)
    (fun W l o o' hl h _ _ => (belowK_b (Nat.le_refl _) W l o o' hl h ‹_› ‹_›).block _ (by omega)) (Below.refl _ _) (fun _ => rfl)
    (fun pre W => Boxed W w'.heap.size 2 (.int .i64 (preL X pre)) ∧ Boxed W (w'.heap.size + 1) 2 (.int .i64 (X : Int)) ∧ Below w'.heap.size w' W) (fun _ _ _ => False)
    (OwnFrom.and (Own.from (boxed_own _ 2 (fun pre => .int .i64 (preL X pre))) _) (OwnFrom.and (Own.from (boxed_own _ 2 (fun _ => .int .i64 (X : Int))) _) (ownFrom_below (Nat.le_refl _) (by omega))))
    (fun _ _ _ _ _ hs _ _ => hs) ⟨b0, b1, hB3⟩
    (fun i => { tmps := #[.int .i64 a, .int .i64 b, undef, undef, .int .i64 0,
          .pointer (some { block := w'.heap.size, off := 0 }), .int .i64 (i.1 : Int), .int .i64 (bitN X i.1 : Int), .int .i64 a,
          .bool true, .bool false, .bool false, .int .i64 b, .bool true, .bool false, .bool false, .int .i64 a, .int .i64 b, .int .i64 (X : Int),
          .func (.func 62) #[] #[.pointer (some { block := w'.heap.size + 1 + 1, off := 0 }), .pointer (some { block := w'.heap.size + 1, off := 0 })],
          .int .i64 (i.1 : Int), .int .i64 (bitN X i.1 : Int), undef, undef, undef, undef, undef], defers := [] }) ?assign ?body ?done ?stop
  case assign =>
    intro l i W K hK
    dsimp only [encB]
    gi_wp2
    exact hK
  case body =>
    rintro l pre i W ⟨hbx, hbX, hB⟩ _
    have hc := hbx.cell
    have hf := hbx.frozen
    have HS := hidP (preL_snoc X pre i)
    have hi := i.2
    have hb := bitN_lt X i.1
    by_cases h1 : bitN X i.1 = 1
    · rw [if_pos h1] at HS
      rw [show ((bitN X i.1 : Nat) : Int) = 1 by omega]
      gi_wp2
      refine ⟨(KeepsOthers.setCell _ _ _).from _, ?_, ?_, hbX.other (by omega) _, ?_⟩
      · exact (hbX.other (by omega) _).trans hbX.symm
      · rw [HS.out]; exact hbx.set _
      · exact hB.setCell (p := ⟨w'.heap.size, 0, none⟩) (Nat.le_refl _) _
    · rw [if_neg h1] at HS
      rw [show ((bitN X i.1 : Nat) : Int) = 0 by omega]
      gi_wp2
      exact ⟨(KeepsOthers.refl _).from _, rfl, by rw [HS.out]; exact hbx, hbX, hB⟩
  case done =>
    rintro D ys W hD rfl ⟨hbx, _, hB⟩ hK
    have hc := hbx.cell
    gi_wp2
    refine ⟨by simp, .inl ⟨_, _, rfl, run_takeDeferred hK, ?_⟩⟩
    refine ⟨_, results_tmp rfl _ _ _, ?_, ?_⟩
    · rw [HP.out, ← preP_blen X 40 HL.out, ← preL_bits X 40 (Nat.le_refl _)]; rfl
    · exact hB.trans (belowK_b (w := w') (Nat.le_refl _) W D _ _ (by omega) hK rfl rfl)
  case stop =>
    rintro D c pre W _ _ h _
    exact h.elim

set_option maxRecDepth 100000 in
set_option maxHeartbeats 2000000 in
theorem iPre (a b : Int) (w : World) :
    Calls Try.prog 26 #[.int .i64 a, .int .i64 b] w fun e w' => e = .returned (.int .i64 (preV a b)) ∧ Below w.heap.size w w' := by
  rcases hfa : fortyB a with _ | _
  · have HP := hidP (preV_neg (a := a) (b := b) (by simp [hfa]))
    have HA : Hid (hasB a 40 = false) := (hasB_forty a).trans hfa
    clear hfa
    go_enter Try.func26, Try.ntmps26
    go_wp2_with (go_at_call 44; refine (iHas a 40 (by decide) _).mono ?_; rintro e w' ⟨rfl, rfl⟩; rw [HA.out])
    go_ret
    exact ⟨by rw [HP.out]; rfl, Below.refl _ _⟩
  · rcases hfb : fortyB b with _ | _
    · have HP := hidP (preV_neg (a := a) (b := b) (by simp [hfb]))
      have HA : Hid (hasB a 40 = true) := (hasB_forty a).trans hfa
      have HB : Hid (hasB b 40 = false) := (hasB_forty b).trans hfb
      clear hfa hfb
      go_enter Try.func26, Try.ntmps26
      go_wp2_with (go_at_call 44; first | (have h1 := HA; clear HA; refine (iHas a 40 (by decide) _).mono ?_; rintro e w' ⟨rfl, rfl⟩; rw [h1.out]) | (refine (iHas b 40 (by decide) _).mono ?_; rintro e w' ⟨rfl, rfl⟩; rw [HB.out]))
      go_ret
      exact ⟨by rw [HP.out]; rfl, Below.refl _ _⟩
    · exact iPre_in a b w hfa hfb
end Go.Proofs.Ytibkfdefoaimiaa
