/-
  The library's slices.BinarySearch over numbers: behind how many less ones a number comes.
-/
import Derived.Test.YtaaagmgglolibaaGreatFgRowZz
import Derived.Test.YtaaagmgglolibaaGreatMathZz
import Derived.BigQuiet
namespace Go.Proofs.YtaaagmgglolibaaGreat
open Go Go.RowKit

/-- How many at the front are less. -/
def plcI (x : Int) : List Int → Nat
  | [] => 0
  | y :: l => if y < x then plcI x l + 1 else 0
theorem plcI_le (x : Int) (l : List Int) : plcI x l ≤ l.length := by
  induction l with
  | nil => simp [plcI]
  | cons y l ih => simp only [plcI]; split <;> simp <;> omega
theorem plcI_low (x : Int) (l : List Int) (i : Nat) (hi : i < plcI x l) : nth l i < x := by
  induction l generalizing i with
  | nil => simp [plcI] at hi
  | cons y l ih =>
    simp only [plcI] at hi
    by_cases hm : y < x
    · rw [if_pos hm] at hi
      match i with
      | 0 => simpa [nth] using hm
      | i + 1 => simpa [nth] using ih i (by omega)
    · simp [hm] at hi
theorem plcI_high {l : List Int} (h : l.Pairwise (fun a b => a < b)) (x : Int) (i : Nat) (hi : plcI x l ≤ i) (hl : i < l.length) : x ≤ nth l i := by
  induction l generalizing i with
  | nil => simp at hl
  | cons y l ih =>
    obtain ⟨h1, h2⟩ := List.pairwise_cons.1 h
    simp only [plcI] at hi
    by_cases hm : y < x
    · rw [if_pos hm] at hi
      match i with
      | 0 => omega
      | i + 1 => simpa [nth] using ih h2 i (by omega) (by simpa using hl)
    · match i with
      | 0 => simpa [nth] using hm
      | i + 1 =>
        have hlt : i < l.length := by simpa using hl
        have := h1 l[i] (List.getElem_mem hlt)
        have e : nth (y :: l) (i + 1) = l[i] := by simp [nth, List.getD, hlt]
        rw [e]; omega
/-- Put in there, the list still rises. -/
theorem insI_plc {l : List Int} (x : Int) (hx : x ∉ l) : insI l x = l.take (plcI x l) ++ x :: l.drop (plcI x l) := by
  induction l with
  | nil => rfl
  | cons y l ih =>
    have hy : y ≠ x := fun e => hx (by simp [e])
    have ih' := ih (fun h => hx (List.mem_cons_of_mem _ h))
    simp only [insI, plcI]
    by_cases hm : y < x
    · simp [hm, ih']
    · simp [hm, hy]

set_option maxHeartbeats 400000 in
theorem pNaNs (x : Int) (w : World) : Calls Tryz.prog 274 #[.int .i64 x] w fun e w' => e = .returned (.bool false) ∧ w' = w := by
  have hx : (x != x) = false := by simp
  go_enter Tryz.func274, Tryz.ntmps274
  go_wp2
  go_ret
  exact ⟨rfl, rfl⟩
set_option maxHeartbeats 400000 in
theorem pNaNc (x : Int) (w : World) : Calls Tryz.prog 292 #[.int .i64 x] w fun e w' => e = .returned (.bool false) ∧ w' = w := by
  have hx : (x != x) = false := by simp
  go_enter Tryz.func292, Tryz.ntmps292
  go_wp2
  go_ret
  exact ⟨rfl, rfl⟩
set_option maxHeartbeats 400000 in
theorem pLess (x y : Int) (w : World) : Calls Tryz.prog 273 #[.int .i64 x, .int .i64 y] w fun e w' => e = .returned (.bool (decide (x < y))) ∧ w' = w := by
  go_enter Tryz.func273, Tryz.ntmps273
  go_wp2_with (go_at_call 292; refine (pNaNc _ _).mono ?_; rintro e w' ⟨rfl, rfl⟩)
  go_ret
  exact ⟨rfl, rfl⟩

set_option maxRecDepth 100000 in
set_option maxHeartbeats 2000000 in
theorem iBsI (ao : Option Addr) (cap : Nat) (l : List Int) (x : Int) (w : World) (hv : View w ao l) (hs : l.Pairwise (fun a b => a < b)) (hn : l.length ≤ 1048576) :
    Calls Tryz.prog 240 #[.slice ao l.length cap, .int .i64 x] w fun e w' => (∃ b : Bool, e = .returned (.tuple #[.int .i64 (plcI x l : Nat), .bool b])) ∧ Below w.heap.size w w' := by
  have HLO := hidP (plcI_low x l)
  have HHI := hidP (plcI_high hs x)
  have hpl := plcI_le x l
  have HV := hidP hv
  clear hv hs
  generalize plcI x l = p at *
  go_enter Tryz.func240, Tryz.ntmps240
  go_wp2_with fail
  go_loop [7, 8] (fun i j => ∃ u v : Nat, u ≤ p ∧ p ≤ v ∧ v ≤ l.length ∧ i = .int .i64 u ∧ j = .int .i64 v) (fun i j => (intOf j).toNat - (intOf i).toNat)
  case atStart => exact ⟨0, l.length, Nat.zero_le _, hpl, Nat.le_refl _, rfl, rfl⟩
  case round =>
    obtain ⟨u, v, hup, hpv, hv, rfl, rfl⟩ := hrel
    by_cases hlt : u < v
    · have hu1 : IntKind.u64.wrap ((u : Int) + (v : Int)) = (u : Int) + (v : Int) := by rw [IntKind.wrap_u64]; omega
      obtain ⟨m, hm⟩ : ∃ m : Nat, m = (u + v) / 2 := ⟨_, rfl⟩
      have hmi : ((u : Int) + (v : Int)) / 2 = (m : Int) := by omega
      have hm1 : u ≤ m ∧ m < v := by omega
      obtain ⟨b, off, rfl, hb, hsg⟩ : ∃ b off, ao = some ⟨b, off, none⟩ ∧ b < w.heap.size ∧ Seg w b off l := by
        rcases HV.out with h | h
        · rw [h] at hv; simp at hv; omega
        · exact h
      have hc := hsg m (by omega)
      have hc2 : w.cell? ⟨b, off + (u + v) / 2, none⟩ = some (.int .i64 (nth l m)) := by rw [← hm]; exact hc
      have hm0 : (0 : Int) ≤ (m : Int) := Int.natCast_nonneg _
      have hml : (m : Int) < (l.length : Int) := by omega
      have HMI := hidP hmi
      have HM1 := hidP hm1
      have HLE := hidP (pLess (nth l m) x w)
      have HR : Hid ((nth l m < x → m < p) ∧ (¬ nth l m < x → p ≤ m)) := ⟨fun h => by
        rcases Nat.lt_or_ge m p with e | e
        · exact e
        · have := HHI.out m e (by omega); omega, fun h => by
        rcases Nat.lt_or_ge m p with e | e
        · exact absurd (HLO.out m e) h
        · exact e⟩
      clear hmi hm hm1 hsg
      generalize nth l m = y at *
      by_cases hyx : y < x
      · rw [decide_eq_true hyx] at HLE
        have hpm := HR.out.1 hyx
        clear hyx
        go_wp2_with fail
        refine HLE.out.mono ?_
        rintro e w2 ⟨rfl, hw⟩
        subst w2
        go_wp2_with fail
        go_round
        case rel => exact ⟨m + 1, v, by omega, hpv, hv, by have := HMI.out; rw [this]; go_num, rfl⟩
        case measure => have := HM1.out; simp [intOf]; omega
      · rw [decide_eq_false hyx] at HLE
        have hpm := HR.out.2 hyx
        clear hyx
        go_wp2_with fail
        refine HLE.out.mono ?_
        rintro e w2 ⟨rfl, hw⟩
        subst w2
        go_wp2_with fail
        go_round
        case rel => exact ⟨u, m, hup, hpm, by have := HM1.out; omega, rfl, by rw [HMI.out]⟩
        case measure => have := HM1.out; simp [intOf]; omega
    · obtain rfl : u = p := by omega
      by_cases hp : u < l.length
      · obtain ⟨b, off, rfl, hb, hsg⟩ : ∃ b off, ao = some ⟨b, off, none⟩ ∧ b < w.heap.size ∧ Seg w b off l := by
          rcases HV.out with h | h
          · rw [h] at hp; simp at hp
          · exact h
        have hc := hsg u hp
        have hul : (u : Int) < (l.length : Int) := by omega
        have hu0 : (0 : Int) ≤ (u : Int) := Int.natCast_nonneg _
        by_cases hyx : nth l u = x
        · have hyb : (nth l u == x) = true := by simp [hyx]
          clear hyx
          generalize nth l u = y at *
          go_wp2_with (go_at_call 274; refine (pNaNs _ _).mono ?_; rintro e w' ⟨rfl, rfl⟩)
          go_ret2
          exact ⟨by first | exact ⟨_, rfl⟩ | exact Or.inl rfl | exact Or.inr rfl | simp, Below.refl _ _⟩
        · have hyb : (nth l u == x) = false := by simp [hyx]
          clear hyx
          generalize nth l u = y at *
          go_wp2_with (go_at_call 274; refine (pNaNs _ _).mono ?_; rintro e w' ⟨rfl, rfl⟩)
          go_ret2
          exact ⟨by first | exact ⟨_, rfl⟩ | exact Or.inl rfl | exact Or.inr rfl | simp, Below.refl _ _⟩
      · have hul : ¬ ((u : Int) < (l.length : Int)) := by omega
        go_wp2_with fail
        go_ret2
        exact ⟨by first | exact ⟨_, rfl⟩ | exact Or.inl rfl | exact Or.inr rfl | simp, Below.refl _ _⟩
end Go.Proofs.YtaaagmgglolibaaGreat
