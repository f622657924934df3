/- Contracts of the functions of package crc: each answers as the chapter says and writes nothing that was there; conditions: the lengths that each contract names. -/
import Derived.Test.YtcpapdpnnlnemaaBy
import Derived.Test.YtcpapdpnnlnemaaCrcPlain
namespace Go.Proofs.Ytcpapdpnnlnemaa
open Go.RowKit

theorem stepN_odd {n : Nat} (h : n % 2 = 1) : stepN n = n / 2 ^^^ 3988292384 := if_pos h
theorem stepN_even {n : Nat} (h : ¬ n % 2 = 1) : stepN n = n / 2 := if_neg h

theorem and_one (n : Nat) (h : n < 4294967296) : bits .and .u32 (n : Int) 1 = ((n % 2 : Nat) : Int) := by
  have := u32_and_nat n 1 h (by decide)
  rw [Nat.and_one_is_mod] at this
  exact this

theorem half_xor (n : Nat) (h : n < 4294967296) : bits .xor .u32 ((n : Int) / 2) 3988292384 = ((n / 2 ^^^ 3988292384 : Nat) : Int) :=
  u32_xor_nat (n / 2) 3988292384 (by omega) (by decide)

set_option maxHeartbeats 400000 in
theorem step_any (n : Nat) (w : World) (hn : n < 4294967296) :
    Calls Try.prog 74 #[.int .u32 (n : Int)] w fun e w' => e = .returned (.int .u32 (stepN n : Nat)) ∧ w = w' := by
  have h1 := and_one n hn
  have h2 := half_xor n hn
  by_cases hp : n % 2 = 1
  · have hs := stepN_odd hp
    rw [hp] at h1
    rw [hs]
    clear hs
    go_enter Try.func74, Try.ntmps74
    go_wp2
    go_ret
    exact ⟨rfl, rfl⟩
  · have hs := stepN_even hp
    rw [show n % 2 = 0 by omega] at h1
    rw [hs]
    clear hs hp
    go_enter Try.func74, Try.ntmps74
    go_wp2
    go_ret
    exact ⟨rfl, rfl⟩

theorem byte_xor (n : Nat) (c : UInt8) (h : n < 4294967296) : bits .xor .u32 (n : Int) (c.toNat : Int) = ((n ^^^ c.toNat : Nat) : Int) :=
  u32_xor_nat n c.toNat h (by have := c.toNat_lt; omega)

set_option maxHeartbeats 400000 in
theorem crcTake_any (n : Nat) (c : UInt8) (w : World) (hn : n < 4294967296) :
    Calls Try.prog 66 #[.int .u32 (n : Int), .int .u8 (c.toNat : Int)] w fun e w' => e = .returned (.int .u32 (takN n c.toNat : Nat)) ∧ w = w' := by
  have h1 := byte_xor n c hn
  have hx : n ^^^ c.toNat < 4294967296 := Nat.xor_lt_two_pow (n := 32) hn (by have := c.toNat_lt; omega)
  have hc := c.toNat_lt
  unfold takN
  generalize n ^^^ c.toNat = x at *
  generalize c.toNat = c at *
  go_enter Try.func66, Try.ntmps66
  go_wp2
  go_loopw [0, 9] (fun s i wr => ∃ r : Nat, r ≤ 8 ∧ i = .int .i64 r ∧ s = .int .u32 (steps r x : Nat) ∧ w = wr) (fun _ i _ => 8 - (intOf i).toNat)
  case atStart => exact ⟨0, by omega, rfl, rfl, rfl⟩
  case round =>
    obtain ⟨r, hr, rfl, rfl, rfl⟩ := hrel
    by_cases hlt : r < 8
    · go_wp2_with fail
      refine (step_any _ _ (steps_lt r hx)).mono ?_
      rintro e w1 ⟨rfl, rfl⟩
      go_wp2
      go_roundw
      case rel => exact ⟨r + 1, by omega, by go_num, by rw [steps_last], by trivial⟩
      case measure => simp [intOf]; omega
    · obtain rfl : r = 8 := by omega
      go_wp2
      go_ret
      exact ⟨rfl, rfl⟩

theorem max_u32 : IntKind.u32.max = ((fullN : Nat) : Int) := by decide
theorem not_u32 (n : Nat) (h : n < 4294967296) : bits .xor .u32 IntKind.u32.max (n : Int) = (notN n : Nat) := by
  have := u32_xor_nat fullN n (by decide) h
  rw [max_u32, this, notN_eq]

set_option maxHeartbeats 400000 in
theorem more_any {b : Value} {l : List UInt8} (s : Nat) (w : World) (hb : Bs w b l) (hs : s < 4294967296) :
    Calls Try.prog 58 #[.int .u32 (s : Int), b] w fun e w' => e = .returned (.int .u32 (moreN s l : Nat)) ∧ w = w' := by
  obtain ⟨a, cap, rfl, hb⟩ := hb.shape
  have h1 := not_u32 s hs
  have h2 := not_u32 (foldN (notN s) l) (foldN_lt l (notN_lt hs))
  have hn := notN_lt hs
  have hlen := hb.len
  unfold moreN
  generalize notN s = f at *
  generalize hm : notN (foldN f l) = m at *
  clear hm
  go_enter Try.func58, Try.ntmps58
  go_wp2
  go_loopw [5, 7, 12] (fun s _ i wr => ∃ r : Nat, r ≤ l.length ∧ i = .int .i64 r ∧ s = .int .u32 (foldN f (l.take r) : Nat) ∧ w = wr) (fun _ _ i _ => l.length - (intOf i).toNat)
  case atStart => exact ⟨0, by omega, rfl, rfl, rfl⟩
  case round =>
    obtain ⟨r, hr, rfl, rfl, rfl⟩ := hrel
    by_cases hlt : r < l.length
    · obtain ⟨b0, o0, cap0, e0, q0, hb0, hcells⟩ := hb.open (by omega)
      simp only [Value.slice.injEq] at e0
      obtain ⟨rfl, _, rfl⟩ := e0
      obtain ⟨x, hx⟩ : ∃ x, l[r]? = some x := ⟨_, List.getElem?_eq_getElem hlt⟩
      have hcell := hcells r x hx
      have hf := foldN_lt (l.take r) hn
      have hsn : foldN f (l.take (r + 1)) = takN (foldN f (l.take r)) x.toNat := by
        rw [List.take_add_one, hx]
        exact foldN_snoc _ _ _
      have H := Lib.hid (And.intro hx hsn)
      clear hx hsn hcells
      go_wp2_with fail
      refine (crcTake_any _ x _ hf).mono ?_
      rintro e w1 ⟨rfl, rfl⟩
      go_wp2
      go_roundw
      case rel => exact ⟨r + 1, by omega, by go_num, by rw [H.out.2], by trivial⟩
      case measure => simp [intOf]; omega
    · obtain rfl : r = l.length := by omega
      rw [List.take_length]
      go_wp2
      go_ret
      exact ⟨rfl, rfl⟩

set_option maxHeartbeats 400000 in
theorem sum_any {b : Value} {l : List UInt8} (w : World) (hb : Bs w b l) :
    Calls Try.prog 47 #[b] w fun e w' => e = .returned (.int .u32 (sumN l : Nat)) ∧ w = w' := by
  go_enter Try.func47, Try.ntmps47
  go_wp2_with fail
  refine (more_any 0 _ hb (by decide)).mono ?_
  rintro e w1 ⟨rfl, rfl⟩
  go_wp2
  go_ret
  exact ⟨rfl, rfl⟩
end Go.Proofs.Ytcpapdpnnlnemaa
