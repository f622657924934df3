/- The last bit of a number that is not below 0; no condition. -/
import Derived.Test.YtohcoknnalgjnaaRsPlain
import Derived.Test.YtohcoknnalgjnaaNtRel
namespace Go.Proofs.Ytohcoknnalgjnaa
open Go.RowKit

theorem of_nat64 (m : Nat) (h : m < 9223372036854775808) : (BitVec.ofInt 64 (m : Int)).toNat = m := by
  rw [BitVec.toNat_ofInt]
  omega
theorem back64 (m : Nat) (h : m < 9223372036854775808) : IntKind.wrap .i64 (m : Int) = (m : Int) := by
  unfold IntKind.wrap
  have e : (m : Int) % (2 ^ IntKind.i64.bits : Int) = (m : Int) := by
    simp only [IntKind.bits]
    omega
  simp only [e]
  rw [if_neg]
  simp [IntKind.signed, IntKind.bits]
  omega
theorem nat_half {a b : Nat} (h1 : a / 2 = b / 2) (h2 : a % 2 = b % 2) : a = b := by omega
theorem xor_one (m : Nat) : m ^^^ 1 = m / 2 * 2 + (1 - m % 2) := by
  refine nat_half ?_ ?_
  · rw [Nat.xor_div_two]
    simp
    omega
  · have := @Nat.xor_mod_two_eq_one m 1
    omega
theorem or_one (m : Nat) : m ||| 1 = m / 2 * 2 + 1 := by
  refine nat_half ?_ ?_
  · rw [Nat.or_div_two]
    simp
    omega
  · have : (m ||| 1) % 2 = 1 := by rw [Nat.or_mod_two_eq_one]; simp
    omega
theorem and_high (m : Nat) (h : m < 9223372036854775808) : m &&& 18446744073709551614 = m / 2 * 2 := by
  refine nat_half ?_ ?_
  · rw [Nat.and_div_two]
    have : (18446744073709551614 / 2 : Nat) = 2 ^ 63 - 1 := by decide
    rw [this, Nat.and_two_pow_sub_one_eq_mod]
    omega
  · have : ¬ (m &&& 18446744073709551614) % 2 = 1 := by
      rw [Nat.and_mod_two_eq_one]
      omega
    omega

variable {m : Nat}
theorem bits_and1 (h : m < 9223372036854775808) : bits .and .i64 (m : Int) 1 = ((m % 2 : Nat) : Int) := by
  have h1 : (BitVec.ofInt 64 (1 : Int)).toNat = 1 := by decide
  have : bits .and .i64 (m : Int) 1 = IntKind.wrap .i64 ((((BitVec.ofInt 64 (m : Int)) &&& (BitVec.ofInt 64 (1 : Int))).toNat : Nat) : Int) := rfl
  rw [this, BitVec.toNat_and, of_nat64 m h, h1, Nat.and_one_is_mod, back64 _ (by omega)]
theorem bits_or1 (h : m < 9223372036854775808) : bits .or .i64 (m : Int) 1 = ((m / 2 * 2 + 1 : Nat) : Int) := by
  have h1 : (BitVec.ofInt 64 (1 : Int)).toNat = 1 := by decide
  have : bits .or .i64 (m : Int) 1 = IntKind.wrap .i64 ((((BitVec.ofInt 64 (m : Int)) ||| (BitVec.ofInt 64 (1 : Int))).toNat : Nat) : Int) := rfl
  rw [this, BitVec.toNat_or, of_nat64 m h, h1, or_one, back64 _ (by omega)]
theorem bits_xor1 (h : m < 9223372036854775808) : bits .xor .i64 (m : Int) 1 = ((m / 2 * 2 + (1 - m % 2) : Nat) : Int) := by
  have h1 : (BitVec.ofInt 64 (1 : Int)).toNat = 1 := by decide
  have : bits .xor .i64 (m : Int) 1 = IntKind.wrap .i64 ((((BitVec.ofInt 64 (m : Int)) ^^^ (BitVec.ofInt 64 (1 : Int))).toNat : Nat) : Int) := rfl
  rw [this, BitVec.toNat_xor, of_nat64 m h, h1, xor_one, back64 _ (by omega)]
theorem bits_not1 (h : m < 9223372036854775808) : bits .andNot .i64 (m : Int) 1 = ((m / 2 * 2 : Nat) : Int) := by
  have h1 : (~~~(BitVec.ofInt 64 (1 : Int))).toNat = 18446744073709551614 := by decide
  have : bits .andNot .i64 (m : Int) 1 = IntKind.wrap .i64 ((((BitVec.ofInt 64 (m : Int)) &&& ~~~(BitVec.ofInt 64 (1 : Int))).toNat : Nat) : Int) := rfl
  rw [this, BitVec.toNat_and, of_nat64 m h, h1, and_high m h, back64 _ (by omega)]

/-- .. as arcs. -/
theorem arc_and {a : Int} (h : 0 ≤ a) (h2 : a ≤ 9223372036854775807) : bits .and .i64 a 1 = a % 2 := by
  obtain ⟨m, rfl⟩ := Int.eq_ofNat_of_zero_le h
  rw [bits_and1 (by omega)]
  omega
theorem arc_or {a : Int} (h : 0 ≤ a) (h2 : a ≤ 9223372036854775807) : bits .or .i64 a 1 = a / 2 * 2 + 1 := by
  obtain ⟨m, rfl⟩ := Int.eq_ofNat_of_zero_le h
  rw [bits_or1 (by omega)]
  omega
theorem arc_not {a : Int} (h : 0 ≤ a) (h2 : a ≤ 9223372036854775807) : bits .andNot .i64 a 1 = a / 2 * 2 := by
  obtain ⟨m, rfl⟩ := Int.eq_ofNat_of_zero_le h
  rw [bits_not1 (by omega)]
  omega
/-- The other arc of the same edge. -/
def othA (a : Int) : Int := if a % 2 = 0 then a + 1 else a - 1
theorem arc_xor {a : Int} (h : 0 ≤ a) (h2 : a ≤ 9223372036854775807) : bits .xor .i64 a 1 = othA a := by
  obtain ⟨m, rfl⟩ := Int.eq_ofNat_of_zero_le h
  rw [bits_xor1 (by omega)]
  unfold othA
  split <;> omega
end Go.Proofs.Ytohcoknnalgjnaa
