/-
  The program's search among halves: the place of a hit by sort.Search, and keep.
-/
import Derived.Test.YtodielfilhodeaaHInsZz
import Derived.Test.YtodielfilhodeaaHSpecZz
import Derived.Test.YtodielfilhodeaaKCellsZz
import Derived.Test.YtodielfilhodeaaArgsZz
namespace Go.Proofs.Ytodielfilhodeaa
open Go Go.RowKit

/-- Where a hit comes in: ahead of the first that it is ahead of. -/
def posH (h : Ht) : List Ht → Nat
  | [] => 0
  | x :: l => if aheadB h x = true then 0 else posH h l + 1
theorem posH_le (h : Ht) (l : List Ht) : posH h l ≤ l.length := by
  induction l with
  | nil => simp [posH]
  | cons x l ih => simp only [posH]; split <;> simp <;> omega
theorem putL_pos (l : List Ht) (h : Ht) : putL l h = l.take (posH h l) ++ h :: l.drop (posH h l) := by
  induction l with
  | nil => rfl
  | cons x l ih =>
    simp only [putL, posH]
    by_cases hx : aheadB h x = true
    · simp [hx]
    · simp [hx, ih]
theorem posH_low (h : Ht) (l : List Ht) (i : Nat) (hi : i < posH h l) : aheadB h (hnth l i) = false := by
  induction l generalizing i with
  | nil => simp [posH] at hi
  | cons x l ih =>
    simp only [posH] at hi
    by_cases hx : aheadB h x = true
    · simp [hx] at hi
    · rw [if_neg hx] at hi
      match i with
      | 0 => simpa [hnth] using hx
      | i + 1 => simpa [hnth] using ih i (by omega)
theorem posH_high {l : List Ht} (hs : SortedH l) (h : Ht) (i : Nat) (hi : posH h l ≤ i) (hl : i < l.length) : aheadB h (hnth l i) = true := by
  induction l generalizing i with
  | nil => simp at hl
  | cons x l ih =>
    simp only [posH] at hi
    have hs2 := List.pairwise_cons.1 hs
    by_cases hx : aheadB h x = true
    · match i with
      | 0 => simpa [hnth] using hx
      | i + 1 =>
        simp at hl
        have hm : l[i] ∈ l := List.getElem_mem hl
        have h1 := hs2.1 _ hm
        have e : hnth (x :: l) (i + 1) = l[i] := by simp [hnth, List.getD, hl]
        rw [e]
        rw [aheadB_iff] at hx ⊢
        unfold leH at h1
        omega
    · rw [if_neg hx] at hi
      match i with
      | 0 => omega
      | i + 1 =>
        simp at hl
        have := ih hs2.2 i (by omega) hl
        simpa [hnth] using this
set_option maxRecDepth 100000 in
set_option maxHeartbeats 1000000 in
theorem iKeepFn (A S P : Nat) (h : Ht) (a : Option Addr) (c : Nat) (hs : List Ht) (kn qv cv lv : Value) (i : Nat) (w : World) (hA : Two w A (.int .i64 h.1) (.int .i64 h.2) 154) (hS : w.cell? ⟨S, 0, none⟩ = some (.pointer (some ⟨P, 0, none⟩))) (hP : Five w P kn qv cv (.slice a hs.length c) lv 98) (hv : HView w a hs) (hi : i < hs.length) :
    Calls Try.prog 196 #[.int .i64 i, .pointer (some ⟨A, 0, none⟩), .pointer (some ⟨S, 0, none⟩)] w fun e w' => e = .returned (.bool (aheadB h (hnth hs i))) ∧ Below w.heap.size w w' := by
  obtain ⟨b, off, rfl, hb, hseg⟩ : ∃ b off, a = some ⟨b, off, none⟩ ∧ b < w.heap.size ∧ HSeg w b off hs := by
    rcases hv with hv | hv
    · rw [hv] at hi; simp at hi
    · exact hv
  obtain ⟨d0, d1⟩ := hseg i hi
  have a0 := hA.c0
  have a1 := hA.c1
  obtain ⟨_, _, _, p3, _⟩ := hP.cells
  have HAH := hidP (iAhead h (hnth hs i) w.drew)
  have hAl := hA.lt
  have hSl : S < w.heap.size := cell_lt hS
  have hPl := hP.lt
  have hi0 : (0 : Int) ≤ (i : Int) := Int.natCast_nonneg _
  have hi1 : (i : Int) < (hs.length : Int) := by omega
  clear hA hP hv hseg
  generalize hnth hs i = x at *
  go_enter Try.func196, Try.ntmps196
  go_wp2_with fail
  go_region_held3 (fun w' => w'.cell? ⟨A, 0, none⟩ = some (.int .i64 h.1) ∧ w'.cell? ⟨A, 1, none⟩ = some (.int .i64 h.2) ∧ w'.cell? ⟨S, 0, none⟩ = some (.pointer (some ⟨P, 0, none⟩)) ∧ w'.cell? ⟨P, 3, none⟩ = some (.slice (some ⟨b, off, none⟩) hs.length c) ∧ w'.cell? ⟨b, off + i * 2, none⟩ = some (.int .i64 x.1) ∧ w'.cell? ⟨b, off + i * 2 + 1, none⟩ = some (.int .i64 x.2))
    (first
      | go_keep
      | exact ⟨(L2.cell (p := ⟨A, 0, none⟩) hAl).trans a0, (L2.cell (p := ⟨A, 1, none⟩) hAl).trans a1, (L2.cell (p := ⟨S, 0, none⟩) hSl).trans hS, (L2.cell (p := ⟨P, 3, none⟩) hPl).trans p3, (L2.cell (p := ⟨b, off + i * 2, none⟩) hb).trans d0, (L2.cell (p := ⟨b, off + i * 2 + 1, none⟩) hb).trans d1⟩)
    (first | (go_at_call 197; refine HAH.out.mono ?_; rintro e w2 ⟨rfl, L2⟩))
  have L3 : Below w.heap.size w w2 := Below.trans ((Below.refl w.heap.size w).drew) L2
  clear L2 HAH a0 a1 p3 d0 d1 hS
  simp only [Exit.then]
  go_wp2_with fail
  go_ret
  exact ⟨rfl, L3⟩

set_option maxRecDepth 100000 in
set_option maxHeartbeats 1000000 in
theorem iSearchK (A S P : Nat) (h : Ht) (a : Option Addr) (c : Nat) (hs : List Ht) (kn qv cv lv : Value) (w : World) (hA : Two w A (.int .i64 h.1) (.int .i64 h.2) 154) (hS : w.cell? ⟨S, 0, none⟩ = some (.pointer (some ⟨P, 0, none⟩))) (hP : Five w P kn qv cv (.slice a hs.length c) lv 98) (hv : HView w a hs) (hso : SortedH hs) (hn : hs.length ≤ 60) :
    Calls Try.prog 195 #[.int .i64 hs.length, .func (Fn.func 196) #[] #[.pointer (some ⟨A, 0, none⟩), .pointer (some ⟨S, 0, none⟩)]] w fun e w' => e = .returned (.int .i64 (posH h hs : Nat)) ∧ Below w.heap.size w w' := by
  have hSl : S < w.heap.size := cell_lt hS
  have HF : Hid (∀ W i, Below w.heap.size w W → i < hs.length → Calls Try.prog 196 #[.int .i64 (i : Nat), .pointer (some ⟨A, 0, none⟩), .pointer (some ⟨S, 0, none⟩)] W fun e w' => e = .returned (.bool (aheadB h (hnth hs i))) ∧ Below W.heap.size W w') := fun W i L hi =>
    iKeepFn A S P h a c hs kn qv cv lv i W (hA.below L) ((L.cell (p := ⟨S, 0, none⟩) hSl).trans hS) (hP.below L) (hv.imp id fun ⟨b, off, e, hb, hg⟩ => ⟨b, off, e, Nat.lt_of_lt_of_le hb L.size, fun j hj => ⟨(L.cell (p := ⟨b, off + j * 2, none⟩) hb).trans (hg j hj).1, (L.cell (p := ⟨b, off + j * 2 + 1, none⟩) hb).trans (hg j hj).2⟩⟩) hi
  have HLO := hidP (posH_low h hs)
  have HHI := hidP (posH_high hso h)
  have hpl := posH_le h hs
  clear hA hS hP hv
  generalize posH h hs = p at *
  go_enter Try.func195, Try.ntmps195
  go_wp2_with fail
  go_loopw [5, 6] (fun i j wr => ∃ x y : Nat, x ≤ p ∧ p ≤ y ∧ y ≤ hs.length ∧ i = .int .i64 x ∧ j = .int .i64 y ∧ Below w.heap.size w wr) (fun i j _ => (intOf j).toNat - (intOf i).toNat)
  case atStart => exact ⟨0, hs.length, Nat.zero_le _, hpl, Nat.le_refl _, rfl, rfl, Below.refl _ _⟩
  case round =>
    obtain ⟨x, y, hxp, hpy, hy, rfl, rfl, L⟩ := hrel
    by_cases hlt : x < y
    · have hu1 : IntKind.u64.wrap ((x : Int) + (y : Int)) = (x : Int) + (y : Int) := by rw [IntKind.wrap_u64]; omega
      obtain ⟨m, hm⟩ : ∃ m : Nat, m = (x + y) / 2 := ⟨_, rfl⟩
      have hmi : ((x : Int) + (y : Int)) / 2 = (m : Int) := by omega
      have HC := hidP (HF.out wr m L (by omega))
      have HL := hidP L
      have HMI := hidP hmi
      have hm1 : x ≤ m ∧ m < y := by omega
      have HM1 := hidP hm1
      clear L hmi hm hm1
      rcases hv : aheadB h (hnth hs m) with _ | _
      · have hpm : m < p := by
          rcases Nat.lt_or_ge m p with h1 | h1
          · exact h1
          · have := HHI.out m h1 (by have := HM1.out; omega); rw [hv] at this; cases this
        rw [hv] at HC
        clear hv
        go_wp2_with fail
        rw [HMI.out]
        refine HC.out.mono ?_
        rintro e w2 ⟨rfl, L2⟩
        have HL2 := hidP (chain HL.out L2)
        clear L2
        go_wp2_with fail
        go_roundw
        case rel => exact ⟨m + 1, y, by omega, hpy, hy, by go_num, rfl, HL2.out⟩
        case measure => have := HM1.out; simp [intOf]; omega
      · have hpm : p ≤ m := by
          rcases Nat.lt_or_ge m p with h1 | h1
          · have := HLO.out m h1; rw [hv] at this; cases this
          · exact h1
        rw [hv] at HC
        clear hv
        go_wp2_with fail
        rw [HMI.out]
        refine HC.out.mono ?_
        rintro e w2 ⟨rfl, L2⟩
        have HL2 := hidP (chain HL.out L2)
        clear L2
        go_wp2_with fail
        go_roundw
        case rel => exact ⟨x, m, hxp, hpm, by have := HM1.out; omega, rfl, rfl, HL2.out⟩
        case measure => have := HM1.out; simp [intOf]; omega
    · obtain rfl : x = p := by omega
      go_wp2_with fail
      go_ret
      exact ⟨rfl, L⟩

end Go.Proofs.Ytodielfilhodeaa
