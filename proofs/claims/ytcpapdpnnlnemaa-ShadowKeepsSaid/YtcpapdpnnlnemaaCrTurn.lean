/- Bytes that end in their sum, and such of which bits were turned, in plain words; no condition. -/
import Derived.Test.YtcpapdpnnlnemaaCrcRight
namespace Go.Proofs.Ytcpapdpnnlnemaa
open Go.RowKit

/-- The four bytes of a number, the lowest first. -/
def four (s : Nat) : List UInt8 := [UInt8.ofNat s, UInt8.ofNat (s / 256), UInt8.ofNat (s / 65536), UInt8.ofNat (s / 16777216)]

theorem leN_four_eq (s : Nat) (h : s < 4294967296) : leN (four s) = s := by
  unfold four
  rw [leN_four]
  simp only [UInt8.toNat_ofNat']
  omega

theorem right_sealed (l : List UInt8) : rightB (l ++ four (sumN l)) = true := by
  have h4 : (l ++ four (sumN l)).length - 4 = l.length := by simp [four]
  unfold rightB
  rw [h4, List.drop_left, List.take_left, leN_four_eq _ (sumN_lt l)]
  simp [four]

/-- The bits of t, up to i, turned from at on. -/
def Turned (l m : List UInt8) (at_ t i : Nat) : Prop := m.length = l.length ∧ leN m = leN l ^^^ (t % 2 ^ i) * 2 ^ at_

theorem Turned.zero (l : List UInt8) (at_ t : Nat) : Turned l l at_ t 0 := ⟨rfl, by simp [Nat.mod_one]⟩
theorem Turned.skip {l m : List UInt8} {at_ t i : Nat} (h : Turned l m at_ t i) (hb : t / 2 ^ i % 2 = 0) : Turned l m at_ t (i + 1) := by
  refine ⟨h.1, ?_⟩
  rw [h.2, mod_succ, hb, Nat.zero_mul, Nat.xor_zero]

theorem Turned.turn {l m : List UInt8} {at_ t i : Nat} (h : Turned l m at_ t i) (hb : t / 2 ^ i % 2 = 1) (hi : (at_ + i) / 8 < m.length) :
    Turned l (turnL m ((at_ + i) / 8) (2 ^ ((at_ + i) % 8))) at_ t (i + 1) := by
  have hm : 2 ^ ((at_ + i) % 8) < 256 := by
    have : 2 ^ ((at_ + i) % 8) ≤ 2 ^ 7 := Nat.pow_le_pow_right (by decide) (by omega)
    omega
  refine ⟨by rw [turnL_length]; exact h.1, ?_⟩
  rw [leN_turn _ _ _ hi hm, h.2, mod_succ, hb, Nat.one_mul, xor_mul, ← Nat.pow_add, ← Nat.pow_add, Nat.xor_assoc]
  congr 3
  omega

theorem turned_right {l m : List UInt8} {at_ t : Nat} (h4 : 4 ≤ l.length) (hr : rightB l = true) (ht : t < 4294967296) (hat : at_ ≤ 8 * l.length) (h : Turned l m at_ t 32) : rightB m = decide (t = 0) := by
  apply right_turned l m at_ t h4 h.1 hr ht hat
  rw [h.2, Nat.mod_eq_of_lt ht]

theorem u8_one_shl (j : Nat) (h : j < 8) : (2 : Int) ^ j % 256 = ((2 ^ j : Nat) : Int) := by
  have h1 : 2 ^ j ≤ 2 ^ 7 := Nat.pow_le_pow_right (by decide) (by omega)
  have h2 : (2 : Int) ^ j = ((2 ^ j : Nat) : Int) := by simp
  rw [h2]
  generalize 2 ^ j = q at *
  omega

theorem turn_val (y : UInt8) (j : Nat) (h : j < 8) : Value.int .u8 (bits .xor .u8 (y.toNat : Int) ((2 : Int) ^ j % 256)) = bv (UInt8.ofNat (y.toNat ^^^ 2 ^ j)) := by
  have h1 : 2 ^ j ≤ 2 ^ 7 := Nat.pow_le_pow_right (by decide) (by omega)
  have h2 : y.toNat ^^^ 2 ^ j < 256 := Nat.xor_lt_two_pow (n := 8) y.toNat_lt (by omega)
  rw [u8_one_shl j h, u8_xor_nat y.toNat (2 ^ j) y.toNat_lt (by omega)]
  unfold bv
  rw [UInt8.toNat_ofNat', Nat.mod_eq_of_lt h2]

theorem four_cells (s : Nat) (h : s < 4294967296) : (#[.int .u8 ((s : Int) % 256), .int .u8 ((s : Int) / 256 % 256), .int .u8 ((s : Int) / 65536 % 256), .int .u8 ((s : Int) / 16777216)] : Array Value) = (bvs (four s)).toArray := by
  simp only [bvs, four, List.map_cons, List.map_nil, bv, UInt8.toNat_ofNat']
  have e1 : ((s % 2 ^ 8 : Nat) : Int) = (s : Int) % 256 := by omega
  have e2 : ((s / 256 % 2 ^ 8 : Nat) : Int) = (s : Int) / 256 % 256 := by omega
  have e3 : ((s / 65536 % 2 ^ 8 : Nat) : Int) = (s : Int) / 65536 % 256 := by omega
  have e4 : ((s / 16777216 % 2 ^ 8 : Nat) : Int) = (s : Int) / 16777216 := by omega
  rw [e1, e2, e3, e4]
end Go.Proofs.Ytcpapdpnnlnemaa
