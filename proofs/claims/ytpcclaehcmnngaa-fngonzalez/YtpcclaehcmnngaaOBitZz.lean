/-
  The bitwise operators on numbers of 64 bits that are not below 0; both Prefix.
-/
import Derived.Test.YtpcclaehcmnngaaMCopyZz
import Derived.Test.YtpcclaehcmnngaaOMath
namespace Go.Proofs.Ytpcclaehcmnngaa
open Go Go.RowKit

theorem wrap_i64 {x : Int} (h1 : 0 ≤ x) (h2 : x < 9223372036854775808) : IntKind.i64.wrap x = x := by
  simp [IntKind.wrap, IntKind.bits, IntKind.signed]
  omega

theorem ofInt_i64 {a : Int} (h1 : 0 ≤ a) (h2 : a < 9223372036854775808) : (BitVec.ofInt 64 a).toNat = a.toNat := by
  rw [BitVec.toNat_ofInt]
  omega

theorem i64_or {a b : Int} (h1 : 0 ≤ a) (h2 : a < 9223372036854775808) (h3 : 0 ≤ b) (h4 : b < 9223372036854775808) : bits .or .i64 a b = ((a.toNat ||| b.toNat : Nat) : Int) := by
  have hlt : a.toNat ||| b.toNat < 2 ^ 63 := Nat.or_lt_two_pow (by omega) (by omega)
  show IntKind.i64.wrap ((BitVec.ofInt 64 a ||| BitVec.ofInt 64 b).toNat : Int) = _
  rw [BitVec.toNat_or, ofInt_i64 h1 h2, ofInt_i64 h3 h4]
  exact wrap_i64 (by omega) (by omega)

theorem i64_xor {a b : Int} (h1 : 0 ≤ a) (h2 : a < 9223372036854775808) (h3 : 0 ≤ b) (h4 : b < 9223372036854775808) : bits .xor .i64 a b = ((a.toNat ^^^ b.toNat : Nat) : Int) := by
  have hlt : a.toNat ^^^ b.toNat < 2 ^ 63 := Nat.xor_lt_two_pow (by omega) (by omega)
  show IntKind.i64.wrap ((BitVec.ofInt 64 a ^^^ BitVec.ofInt 64 b).toNat : Int) = _
  rw [BitVec.toNat_xor, ofInt_i64 h1 h2, ofInt_i64 h3 h4]
  exact wrap_i64 (by omega) (by omega)

theorem i64_and1 {a : Int} (h1 : 0 ≤ a) (h2 : a < 9223372036854775808) : bits .and .i64 a 1 = ((a.toNat % 2 : Nat) : Int) := by
  show IntKind.i64.wrap ((BitVec.ofInt 64 a &&& BitVec.ofInt 64 1).toNat : Int) = _
  rw [BitVec.toNat_and, ofInt_i64 h1 h2, ofInt_i64 (by decide) (by decide), show (1 : Int).toNat = 2 ^ 1 - 1 from rfl, Nat.and_two_pow_sub_one_eq_mod]
  exact wrap_i64 (by omega) (by omega)

end Go.Proofs.Ytpcclaehcmnngaa
