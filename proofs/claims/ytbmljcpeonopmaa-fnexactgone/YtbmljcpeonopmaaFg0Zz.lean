/-
  The program's place: where the mark with a number stands (slices.BinarySearchFunc over marks, by byId).
-/
import Derived.Test.YtbmljcpeonopmaaHSpecZz
import Derived.Test.YtbmljcpeonopmaaArgsZz
import Derived.Test.YtbmljcpeonopmaaMathZz
import Derived.Deep.RegionHeld3
import Derived.BigQuiet
namespace Go.Proofs.Ytbmljcpeonopmaa
open Go Go.RowKit

/-- How many marks at the front have a less number. -/
def plc (x : Int) : List Mk → Nat
  | [] => 0
  | m :: l => if m.1 < x then plc x l + 1 else 0
theorem plc_le (x : Int) (l : List Mk) : plc x l ≤ l.length := by
  induction l with
  | nil => simp [plc]
  | cons m l ih => simp only [plc]; split <;> simp <;> omega
theorem plc_low (x : Int) (l : List Mk) (i : Nat) (hi : i < plc x l) : mid l i < x := by
  induction l generalizing i with
  | nil => simp [plc] at hi
  | cons m l ih =>
    simp only [plc] at hi
    by_cases hm : m.1 < x
    · rw [if_pos hm] at hi
      match i with
      | 0 => simpa [mid] using hm
      | i + 1 => simpa [mid] using ih i (by omega)
    · simp [hm] at hi
theorem plc_at (x : Int) (l : List Mk) (h : plc x l < l.length) : x ≤ mid l (plc x l) := by
  induction l with
  | nil => simp at h
  | cons m l ih =>
    simp only [plc] at h ⊢
    by_cases hm : m.1 < x
    · rw [if_pos hm] at h ⊢
      simpa [mid] using ih (by simpa using h)
    · rw [if_neg hm]
      simpa [mid] using hm
theorem plc_high {ms : List Mk} (h : marksB ms = true) (x : Int) (i : Nat) (hi : plc x ms ≤ i) (hl : i < ms.length) : x ≤ mid ms i := by
  have h1 := plc_at x ms (by omega)
  rcases Nat.lt_or_ge (plc x ms) i with c | c
  · have := zmid_rises h c hl; omega
  · rw [show i = plc x ms by omega]; exact h1
theorem plc_find {ms : List Mk} (h : marksB ms = true) (x : Int) : (decide (plc x ms < ms.length) && decide (mid ms (plc x ms) = x)) = decide (0 ≤ zFind ms x) := by
  by_cases hf : 0 ≤ zFind ms x
  · obtain ⟨a, b, c⟩ := zIdx_lt hf
    have h1 : plc x ms ≤ zIdx ms x := by
      rcases Nat.lt_or_ge (zIdx ms x) (plc x ms) with e | e
      · have := plc_low x ms _ e; omega
      · exact e
    have h2 := plc_at x ms (by omega)
    have h3 : plc x ms = zIdx ms x := by
      rcases Nat.lt_or_ge (plc x ms) (zIdx ms x) with e | e
      · have := zmid_rises h e a; omega
      · omega
    rw [h3, c]
    simp [a, hf]
  · rw [decide_eq_false hf, Bool.and_eq_false_iff]
    by_cases hl : plc x ms < ms.length
    · right
      refine decide_eq_false fun e => hf ?_
      rw [← e, (zFind_mid h hl).1]; omega
    · left; exact decide_eq_false hl
theorem plc_idx {ms : List Mk} (h : marksB ms = true) {x : Int} (hf : 0 ≤ zFind ms x) : plc x ms = zIdx ms x := by
  have e := plc_find h x
  rw [decide_eq_true hf] at e
  simp at e
  obtain ⟨a, b, c⟩ := zIdx_lt hf
  exact zmid_inj h e.1 a (by omega)
def cmpI (x y : Int) : Int := if x < y then -1 else if y < x then 1 else 0
theorem cmpI_neg (x y : Int) : decide (cmpI x y < 0) = decide (x < y) := by
  unfold cmpI
  by_cases h1 : x < y
  · simp [h1]
  · by_cases h2 : y < x <;> simp [h1, h2]
theorem cmpI_zero (x y : Int) : (cmpI x y == 0) = decide (x = y) := by
  unfold cmpI
  by_cases h1 : x < y
  · simp [h1]; omega
  · by_cases h2 : y < x
    · simp [h1, h2]; omega
    · simp [h1, h2]; omega

set_option maxHeartbeats 400000 in
theorem pCompare (x y : Int) (w : World) :
    Calls Try.prog 120 #[.int .i64 x, .int .i64 y] w fun e w' => e = .returned (.int .i64 (cmpI x y)) ∧ w' = w := by
  have hx : (x != x) = false := by simp
  have hy : (y != y) = false := by simp
  by_cases h1 : x < y
  · have HV : Hid (cmpI x y = -1) := by show cmpI x y = -1; simp [cmpI, h1]
    go_enter Try.func120, Try.ntmps120
    go_wp2
    go_ret
    exact ⟨ret_int HV.out.symm, rfl⟩
  · by_cases h2 : y < x
    · have HV : Hid (cmpI x y = 1) := by show cmpI x y = 1; simp [cmpI, h1, h2]
      go_enter Try.func120, Try.ntmps120
      go_wp2
      go_ret
      exact ⟨ret_int HV.out.symm, rfl⟩
    · have HV : Hid (cmpI x y = 0) := by show cmpI x y = 0; simp [cmpI, h1, h2]
      go_enter Try.func120, Try.ntmps120
      go_wp2
      go_ret
      exact ⟨ret_int HV.out.symm, rfl⟩

set_option maxHeartbeats 400000 in
theorem pById14 (x y : Int) (a1 a2 : Option Addr) (n1 c1 n2 c2 : Nat) (w : World) :
    Calls Try.prog 114 #[.agg #[.int .i64 x, .slice a1 n1 c1], .agg #[.int .i64 y, .slice a2 n2 c2]] w fun e w' => e = .returned (.int .i64 (cmpI x y)) ∧ Below w.heap.size w w' := by
  have hB : Below w.heap.size w ((w.alloc (.cells #[.int .i64 x, .slice a1 n1 c1] 76)).alloc (.cells #[.int .i64 y, .slice a2 n2 c2] 76)) := ((Below.refl _ _).alloc (Nat.le_refl _) _).alloc (by simp) _
  have HB := hidP hB
  clear hB
  go_enter Try.func114, Try.ntmps114
  go_wp2_with (go_at_call 120; refine (pCompare _ _ _).mono ?_; rintro e w' ⟨rfl, rfl⟩)
  go_ret
  exact ⟨rfl, HB.out⟩

set_option maxRecDepth 100000 in
set_option maxHeartbeats 2000000 in
theorem pSearch14 (am : Option Addr) (cm : Nat) (ms : List Mk) (x : Int) (w : World) (hm : MView w am ms) (hb : marksB ms = true) :
    Calls Try.prog 113 #[.slice am ms.length cm, .agg #[.int .i64 x, .slice none 0 0], .func (.func 114) #[] #[]] w fun e w' => e = .returned (.tuple #[.int .i64 (plc x ms : Nat), .bool (decide (0 ≤ zFind ms x))]) ∧ Below w.heap.size w w' := by
  obtain ⟨W, hW⟩ : ∃ W, w.alloc (.cells #[.int .i64 x, .slice none 0 0] 76) = W := ⟨_, rfl⟩
  obtain ⟨X, hX⟩ : ∃ X, X = w.heap.size := ⟨_, rfl⟩
  have hXW : X < W.heap.size := by rw [← hW, hX]; simp
  have hx0 : W.cell? ⟨X, 0, none⟩ = some (.int .i64 x) := by rw [← hW, hX]; simp
  have hx1 : W.cell? ⟨X, 1, none⟩ = some (.slice none 0 0) := by rw [← hW, hX]; simp
  have HB : Hid (Below w.heap.size w W) := by show Below w.heap.size w W; rw [← hW]; exact (Below.refl _ _).alloc (Nat.le_refl _) _
  have HM : Hid (MView W am ms) := hm.next HB.out
  have hlen := marksB_len hb
  have HLO := hidP (plc_low x ms)
  have HHI := hidP (plc_high hb x)
  have HF := hidP (plc_find hb x)
  have hpl := plc_le x ms
  clear hm hb
  generalize plc x ms = p at *
  generalize decide (0 ≤ zFind ms x) = fb at *
  go_enter Try.func113, Try.ntmps113
  go_wp2_with fail
  rw [← hX]
  clear hW hX
  go_loopw [9, 10] (fun i j wr => ∃ u v : Nat, u ≤ p ∧ p ≤ v ∧ v ≤ ms.length ∧ i = .int .i64 u ∧ j = .int .i64 v ∧ Below W.heap.size W wr) (fun i j _ => (intOf j).toNat - (intOf i).toNat)
  case atStart => exact ⟨0, ms.length, Nat.zero_le _, hpl, Nat.le_refl _, rfl, rfl, Below.refl _ _⟩
  case round =>
    obtain ⟨u, v, hup, hpv, hv, rfl, rfl, L⟩ := hrel
    have x0 : wr.cell? ⟨X, 0, none⟩ = some (.int .i64 x) := (L.cell (p := ⟨X, 0, none⟩) hXW).trans hx0
    have x1 : wr.cell? ⟨X, 1, none⟩ = some (.slice none 0 0) := (L.cell (p := ⟨X, 1, none⟩) hXW).trans hx1
    have hXr : X < wr.heap.size := Nat.lt_of_lt_of_le hXW L.size
    have HL := hidP L
    have hmr := HM.out.next L
    clear L
    by_cases hlt : u < v
    · have hu1 : IntKind.u64.wrap ((u : Int) + (v : Int)) = (u : Int) + (v : Int) := by rw [IntKind.wrap_u64]; omega
      obtain ⟨m, hm⟩ : ∃ m : Nat, m = (u + v) / 2 := ⟨_, rfl⟩
      have hmi : ((u : Int) + (v : Int)) / 2 = (m : Int) := by omega
      have hm1 : u ≤ m ∧ m < v := by omega
      obtain ⟨b, off, rfl, hbr, hs⟩ := MSeg.seg hmr (by omega)
      obtain ⟨c0, ao, cc, c1, -⟩ := hs.at (i := m) (by omega)
      have HMI := hidP hmi
      have HM1 := hidP hm1
      have hm0 : (0 : Int) ≤ (m : Int) := Int.natCast_nonneg _
      have hml : (m : Int) < (ms.length : Int) := by omega
      have HC : Hid (∀ W', Calls Try.prog 114 #[.agg #[.int .i64 (mid ms m), .slice ao (mat ms m).length cc], .agg #[.int .i64 x, .slice none 0 0]] W' fun e w' => e = .returned (.int .i64 (cmpI (mid ms m) x)) ∧ Below W'.heap.size W' w') := fun W' => pById14 _ _ _ _ _ _ _ _ W'
      have hcn := cmpI_neg (mid ms m) x
      have hlow : m < p → mid ms m < x := HLO.out m
      have hhigh : p ≤ m → x ≤ mid ms m := fun h => HHI.out m h (by omega)
      have HR : Hid ((mid ms m < x → m < p) ∧ (x ≤ mid ms m → p ≤ m)) := ⟨fun h => by
        rcases Nat.lt_or_ge m p with e | e
        · exact e
        · have := hhigh e; omega, fun h => by
        rcases Nat.lt_or_ge m p with e | e
        · have := hlow e; omega
        · exact e⟩
      clear hmi hm hm1 hs hmr hlow hhigh
      generalize mid ms m = y at *
      generalize (mat ms m).length = yl at *
      generalize cmpI y x = cv at *
      go_wp2_with fail
      rw [HMI.out]
      have HK : Hid (∀ w', Below wr.heap.size wr w' → w'.cell? ⟨b, off + m * 2, none⟩ = some (.int .i64 y) ∧ w'.cell? ⟨b, off + m * 2 + 1, none⟩ = some (.slice ao yl cc) ∧ w'.cell? ⟨X, 0, none⟩ = some (.int .i64 x) ∧ w'.cell? ⟨X, 1, none⟩ = some (.slice none 0 0)) := fun w' L => ⟨(L.cell (p := ⟨b, off + m * 2, none⟩) hbr).trans c0, (L.cell (p := ⟨b, off + m * 2 + 1, none⟩) hbr).trans c1, (L.cell (p := ⟨X, 0, none⟩) hXr).trans x0, (L.cell (p := ⟨X, 1, none⟩) hXr).trans x1⟩
      go_region_held3 (fun w' => w'.cell? ⟨b, off + m * 2, none⟩ = some (.int .i64 y) ∧ w'.cell? ⟨b, off + m * 2 + 1, none⟩ = some (.slice ao yl cc) ∧ w'.cell? ⟨X, 0, none⟩ = some (.int .i64 x) ∧ w'.cell? ⟨X, 1, none⟩ = some (.slice none 0 0))
        (first
          | go_keep
          | exact HK.out _ (Below.trans ((Below.refl wr.heap.size wr).drew) L2))
        (first | (go_at_call 114; refine (HC.out _).mono ?_; rintro e w2 ⟨rfl, L2⟩))
      have HL3 : Hid (Below W.heap.size W w2) := chain HL.out (Below.trans ((Below.refl wr.heap.size wr).drew) L2)
      clear L2 HC HK x0 x1 c0 c1
      simp only [Exit.then]
      by_cases hyx : y < x
      · have hcl : cv < 0 := by simpa [hyx] using hcn
        go_wp2_with fail
        go_roundw
        case rel => exact ⟨m + 1, v, HR.out.1 hyx, hpv, hv, by go_num, rfl, HL3.out⟩
        case measure => have := HM1.out; simp [intOf]; omega
      · have hcl : ¬ cv < 0 := by simpa [hyx] using hcn
        go_wp2_with fail
        go_roundw
        case rel => exact ⟨u, m, hup, HR.out.2 (by omega), by have := HM1.out; omega, rfl, rfl, HL3.out⟩
        case measure => have := HM1.out; simp [intOf]; omega
    · obtain rfl : u = p := by omega
      by_cases hp : u < ms.length
      · obtain ⟨b, off, rfl, hbr, hs⟩ := MSeg.seg hmr (by omega)
        obtain ⟨c0, ao, cc, c1, -⟩ := hs.at (i := u) hp
        have hm0 : (0 : Int) ≤ (u : Int) := Int.natCast_nonneg _
        have hml : (u : Int) < (ms.length : Int) := by omega
        have HC : Hid (∀ W', Calls Try.prog 114 #[.agg #[.int .i64 (mid ms u), .slice ao (mat ms u).length cc], .agg #[.int .i64 x, .slice none 0 0]] W' fun e w' => e = .returned (.int .i64 (cmpI (mid ms u) x)) ∧ Below W'.heap.size W' w') := fun W' => pById14 _ _ _ _ _ _ _ _ W'
        have HV : Hid ((cmpI (mid ms u) x == 0) = fb) := by show _ = _; rw [cmpI_zero, ← HF.out]; simp [hp]
        clear HF hs hmr HLO HHI
        generalize mid ms u = y at *
        generalize (mat ms u).length = yl at *
        generalize cmpI y x = cv at *
        have HK : Hid (∀ w', Below wr.heap.size wr w' → w'.cell? ⟨b, off + u * 2, none⟩ = some (.int .i64 y) ∧ w'.cell? ⟨b, off + u * 2 + 1, none⟩ = some (.slice ao yl cc) ∧ w'.cell? ⟨X, 0, none⟩ = some (.int .i64 x) ∧ w'.cell? ⟨X, 1, none⟩ = some (.slice none 0 0)) := fun w' L => ⟨(L.cell (p := ⟨b, off + u * 2, none⟩) hbr).trans c0, (L.cell (p := ⟨b, off + u * 2 + 1, none⟩) hbr).trans c1, (L.cell (p := ⟨X, 0, none⟩) hXr).trans x0, (L.cell (p := ⟨X, 1, none⟩) hXr).trans x1⟩
        go_wp2_with fail
        go_region_held3 (fun w' => w'.cell? ⟨b, off + u * 2, none⟩ = some (.int .i64 y) ∧ w'.cell? ⟨b, off + u * 2 + 1, none⟩ = some (.slice ao yl cc) ∧ w'.cell? ⟨X, 0, none⟩ = some (.int .i64 x) ∧ w'.cell? ⟨X, 1, none⟩ = some (.slice none 0 0))
          (first
            | go_keep
            | exact HK.out _ (Below.trans ((Below.refl wr.heap.size wr).drew) L2))
          (first | (go_at_call 114; refine (HC.out _).mono ?_; rintro e w2 ⟨rfl, L2⟩))
        have HL3 : Hid (Below W.heap.size W w2) := chain HL.out (Below.trans ((Below.refl wr.heap.size wr).drew) L2)
        clear L2 HC HK x0 x1 c0 c1
        simp only [Exit.then]
        go_wp2_with fail
        go_ret2
        exact ⟨by rw [← HV.out]; rfl, chain HB.out HL3.out⟩
      · have HV : Hid (false = fb) := by show _ = _; rw [← HF.out]; simp [hp]
        clear HF hmr HLO HHI
        obtain rfl : u = ms.length := by omega
        have hml : ¬ ((ms.length : Int) < (ms.length : Int)) := by omega
        go_wp2_with fail
        refine wp_region_quiet_lit (by kernel_rfl) (by kernel_rfl) ?_
        try simp only [List.append_eq, List.cons_append, List.nil_append]
        repeat (go_big_quiet_step (fail))
        refine wpQuiet_nil ?_
        intro _ hw'
        obtain ⟨nq, hw''⟩ := hw'
        subst hw''
        go_wp2_with fail
        go_ret2
        exact ⟨by rw [← HV.out]; rfl, chain HB.out (below_drewN HL.out _)⟩

set_option maxRecDepth 100000 in
set_option maxHeartbeats 1000000 in
/-- Where the mark with this number stands, and whether there is one. -/
theorem iPlace (am al : Option Addr) (cm nl cl : Nat) (ms : List Mk) (x : Int) (w : World) (hm : MView w am ms) (hb : marksB ms = true) :
    Calls Try.prog 100 #[.agg #[.slice am ms.length cm, .slice al nl cl], .int .i64 x] w fun e w' => e = .returned (.tuple #[.int .i64 (plc x ms : Nat), .bool (decide (0 ≤ zFind ms x))]) ∧ Below w.heap.size w w' := by
  have hB : Below w.heap.size w (w.alloc (.cells #[.slice am ms.length cm, .slice al nl cl] 105)) := (Below.refl _ _).alloc (Nat.le_refl _) _
  have HC := hidP (pSearch14 am cm ms x _ (hm.next hB) hb)
  have HB := hidP hB
  clear hm hb hB
  generalize decide (0 ≤ zFind ms x) = fb at *
  generalize plc x ms = p at *
  go_enter Try.func100, Try.ntmps100
  go_wp2_with fail
  refine HC.out.mono ?_
  rintro e w2 ⟨rfl, L2⟩
  have HL2 := hidP (chain HB.out L2)
  clear L2
  go_wp2_with fail
  go_ret2
  exact ⟨rfl, HL2.out⟩
end Go.Proofs.Ytbmljcpeonopmaa
