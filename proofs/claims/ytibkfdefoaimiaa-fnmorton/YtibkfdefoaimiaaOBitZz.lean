/-
  The bitwise operators on numbers of 64 bits that are not below 0; both Prefix.
-/
import Derived.Test.YtibkfdefoaimiaaMCopyZz
import Derived.Test.YtibkfdefoaimiaaOMathZz
namespace Go.Proofs.Ytibkfdefoaimiaa
open Go Go.RowKit

theorem wrap_i64 {x : Int} (h1 : 0 ≤ x) (h2 : x < 9223372036854775808) : IntKind.i64.wrap x = x := by
  simp [IntKind.wrap, IntKind.bits, IntKind.signed]
  omega

theorem ofInt_i64 {a : Int} (h1 : 0 ≤ a) (h2 : a < 9223372036854775808) : (BitVec.ofInt 64 a).toNat = a.toNat := by
  rw [BitVec.toNat_ofInt]
  omega

theorem i64_or {a b : Int} (h1 : 0 ≤ a) (h2 : a < 9223372036854775808) (h3 : 0 ≤ b) (h4 : b < 9223372036854775808) : bits .or .i64 a b = ((a.toNat ||| b.toNat : Nat) : Int) := by
  have hlt : a.toNat ||| b.toNat < 2 ^ 63 := Nat.or_lt_two_pow (by omega) (by omega)
  show IntKind.i64.wrap ((BitVec.ofInt 64 a ||| BitVec.ofInt 64 b).toNat : Int) = _
  rw [BitVec.toNat_or, ofInt_i64 h1 h2, ofInt_i64 h3 h4]
  exact wrap_i64 (by omega) (by omega)

theorem i64_xor {a b : Int} (h1 : 0 ≤ a) (h2 : a < 9223372036854775808) (h3 : 0 ≤ b) (h4 : b < 9223372036854775808) : bits .xor .i64 a b = ((a.toNat ^^^ b.toNat : Nat) : Int) := by
  have hlt : a.toNat ^^^ b.toNat < 2 ^ 63 := Nat.xor_lt_two_pow (by omega) (by omega)
  show IntKind.i64.wrap ((BitVec.ofInt 64 a ^^^ BitVec.ofInt 64 b).toNat : Int) = _
  rw [BitVec.toNat_xor, ofInt_i64 h1 h2, ofInt_i64 h3 h4]
  exact wrap_i64 (by omega) (by omega)

theorem i64_and1 {a : Int} (h1 : 0 ≤ a) (h2 : a < 9223372036854775808) : bits .and .i64 a 1 = ((a.toNat % 2 : Nat) : Int) := by
  show IntKind.i64.wrap ((BitVec.ofInt 64 a &&& BitVec.ofInt 64 1).toNat : Int) = _
  rw [BitVec.toNat_and, ofInt_i64 h1 h2, ofInt_i64 (by decide) (by decide), show (1 : Int).toNat = 2 ^ 1 - 1 from rfl, Nat.and_two_pow_sub_one_eq_mod]
  exact wrap_i64 (by omega) (by omega)

set_option maxHeartbeats 1000000 in
theorem sPre_in (a b : Int) (w : World) (ha : fortyB a = true) (hb : fortyB b = true) :
    Calls Try.prog 27 #[.int .i64 a, .int .i64 b] w fun e w' => e = .returned (.int .i64 (preV a b)) ∧ w' = w := by
  have HA : Hid (inR a 0 1099511627775 = true) := ha
  have HB : Hid (inR b 0 1099511627775 = true) := hb
  have HX := hidP (i64_xor (a := a) (b := b) (fortyB_lt ha).2 (by have := (fortyB_lt ha).1; omega) (fortyB_lt hb).2 (by have := (fortyB_lt hb).1; omega))
  have HL := hidP (xor_lt40 ha hb)
  have HP := hidP (show preV a b = 40 - blen (a.toNat ^^^ b.toNat) from if_pos ⟨ha, hb⟩)
  clear ha hb
  obtain ⟨X, hX⟩ : ∃ X, a.toNat ^^^ b.toNat = X := ⟨_, rfl⟩
  rw [hX] at HX HL HP
  clear hX
  go_enter Try.func27, Try.ntmps27
  go_wp2_with (go_at_call 54; first | (have h1 := HA; clear HA; refine (sIn a 0 1099511627775 _).mono ?_; rintro e w' ⟨rfl, rfl⟩; rw [h1.out]) | (refine (sIn b 0 1099511627775 _).mono ?_; rintro e w' ⟨rfl, rfl⟩; rw [HB.out]))
  rw [HX.out]
  go_loop [6, 5] (fun x n => ∃ y m : Nat, x = .int .i64 (y : Int) ∧ n = .int .i64 (40 - (m : Int)) ∧ y < 1099511627776 ∧ m + blen y = blen X) (fun x _ => (intOf x).toNat)
  case atStart => exact ⟨X, 0, rfl, rfl, by have := HL.out; omega, by omega⟩
  case round =>
    obtain ⟨y, m, rfl, rfl, hy, hm⟩ := hrel
    have HM := hidP hm
    clear hm
    have hbl : blen X ≤ 40 := (blen_le _ _).2 HL.out
    by_cases h0 : 0 < y
    · have hm' := HM.out
      have hh := blen_half h0
      have hm40 : m < 40 := by omega
      have HM2 := hidP (show (m + 1) + blen (y / 2) = blen X by omega)
      clear hm' hh hbl
      go_wp2
      go_round
      case rel => exact ⟨y / 2, m + 1, by go_num, by go_num, by omega, HM2.out⟩
      case measure => simp [intOf]; omega
    · clear hbl
      obtain rfl : y = 0 := by omega
      go_wp2
      go_ret
      refine ⟨?_, rfl⟩
      have := HM.out
      rw [HP.out, ← this, blen_zero]
      rfl

set_option maxHeartbeats 1000000 in
theorem sPre (a b : Int) (w : World) :
    Calls Try.prog 27 #[.int .i64 a, .int .i64 b] w fun e w' => e = .returned (.int .i64 (preV a b)) ∧ w' = w := by
  rcases hfa : fortyB a with _ | _
  · have HP := hidP (preV_neg (a := a) (b := b) (by simp [hfa]))
    have HA : Hid (inR a 0 1099511627775 = false) := hfa
    clear hfa
    go_enter Try.func27, Try.ntmps27
    go_wp2_with (go_at_call 54; refine (sIn a 0 1099511627775 _).mono ?_; rintro e w' ⟨rfl, rfl⟩; rw [HA.out])
    go_ret
    exact ⟨by rw [HP.out]; rfl, rfl⟩
  · rcases hfb : fortyB b with _ | _
    · have HP := hidP (preV_neg (a := a) (b := b) (by simp [hfb]))
      have HA : Hid (inR a 0 1099511627775 = true) := hfa
      have HB : Hid (inR b 0 1099511627775 = false) := hfb
      clear hfa hfb
      go_enter Try.func27, Try.ntmps27
      go_wp2_with (go_at_call 54; first | (have h1 := HA; clear HA; refine (sIn a 0 1099511627775 _).mono ?_; rintro e w' ⟨rfl, rfl⟩; rw [h1.out]) | (refine (sIn b 0 1099511627775 _).mono ?_; rintro e w' ⟨rfl, rfl⟩; rw [HB.out]))
      go_ret
      exact ⟨by rw [HP.out]; rfl, rfl⟩
    · exact sPre_in a b w hfa hfb
end Go.Proofs.Ytibkfdefoaimiaa
