/- Contracts of the document's answers for layer 2: each answers as the chapter says and writes nothing that was there; conditions: the lengths that each contract names. -/
import Derived.Test.YtnhpdpplkjfjhaaCrcRight
namespace Go.Proofs.Ytnhpdpplkjfjhaa
open Go.RowKit

set_option maxHeartbeats 400000 in
theorem crcRefTake_any (n : Nat) (c : UInt8) (w : World) (hn : n < 4294967296) :
    Calls Try.prog 33 #[.int .u32 (n : Int), .int .u8 (c.toNat : Int)] w fun e w' => e = .returned (.int .u32 (takN n c.toNat : Nat)) ∧ w = w' := by
  have h1 := byte_xor n c hn
  have hx : n ^^^ c.toNat < 4294967296 := Nat.xor_lt_two_pow (n := 32) hn (by have := c.toNat_lt; omega)
  have hc := c.toNat_lt
  unfold takN
  generalize n ^^^ c.toNat = x at *
  generalize c.toNat = c at *
  go_enter Try.func33, Try.ntmps33
  go_wp2
  go_loopw [0, 5, 6] (fun s i _ wr => ∃ r : Nat, r ≤ 8 ∧ i = .int .i64 r ∧ s = .int .u32 (steps r x : Nat) ∧ w = wr) (fun _ i _ _ => 8 - (intOf i).toNat)
  case atStart => exact ⟨0, by omega, rfl, rfl, rfl⟩
  case round =>
    obtain ⟨r, hr, rfl, rfl, rfl⟩ := hrel
    by_cases hlt : r < 8
    · have hy := steps_lt r hx
      have hsl := steps_last r x
      generalize hyy : steps r x = y at *
      clear hyy
      have h2 := half_xor y hy
      by_cases hp : y % 2 = 1
      · have hs := stepN_odd hp
        have hq : (((y : Int) % 2) == 1) = true := by rw [beq_iff_eq]; omega
        have H := Lib.hid (And.intro hsl hs)
        clear hsl hs hp
        go_wp2
        go_roundw
        case rel => exact ⟨r + 1, by omega, by go_num, by rw [H.out.1, H.out.2], by trivial⟩
        case measure => simp [intOf]; omega
      · have hs := stepN_even hp
        have hq : (((y : Int) % 2) == 1) = false := by rw [beq_eq_false_iff_ne]; omega
        have H := Lib.hid (And.intro hsl hs)
        clear hsl hs hp
        go_wp2
        go_roundw
        case rel => exact ⟨r + 1, by omega, by go_num, by rw [H.out.1, H.out.2]; rfl, by trivial⟩
        case measure => simp [intOf]; omega
    · obtain rfl : r = 8 := by omega
      go_wp2
      go_ret
      exact ⟨rfl, rfl⟩

set_option maxHeartbeats 400000 in
theorem refMore_any {b : Value} {l : List UInt8} (s : Nat) (w : World) (hb : Bs w b l) (hs : s < 4294967296) :
    Calls Try.prog 29 #[.int .u32 (s : Int), b] w fun e w' => e = .returned (.int .u32 (moreN s l : Nat)) ∧ w = w' := by
  obtain ⟨a, cap, rfl, hb⟩ := hb.shape
  have h1 := not_u32 s hs
  have h2 := not_u32 (foldN (notN s) l) (foldN_lt l (notN_lt hs))
  have hn := notN_lt hs
  have hlen := hb.len
  unfold moreN
  generalize notN s = f at *
  generalize hm : notN (foldN f l) = m at *
  clear hm
  go_enter Try.func29, Try.ntmps29
  go_wp2
  go_loopw [5, 6] (fun s i wr => ∃ r : Nat, r ≤ l.length ∧ i = .int .i64 r ∧ s = .int .u32 (foldN f (l.take r) : Nat) ∧ w = wr) (fun _ i _ => l.length - (intOf i).toNat)
  case atStart => exact ⟨0, by omega, rfl, rfl, rfl⟩
  case round =>
    obtain ⟨r, hr, rfl, rfl, rfl⟩ := hrel
    by_cases hlt : r < l.length
    · obtain ⟨b0, o0, cap0, e0, q0, hb0, hcells⟩ := hb.open (by omega)
      simp only [Value.slice.injEq] at e0
      obtain ⟨rfl, _, rfl⟩ := e0
      obtain ⟨x, hx⟩ : ∃ x, l[r]? = some x := ⟨_, List.getElem?_eq_getElem hlt⟩
      have hcell := hcells r x hx
      have hf := foldN_lt (l.take r) hn
      have hsn : foldN f (l.take (r + 1)) = takN (foldN f (l.take r)) x.toNat := by
        rw [List.take_add_one, hx]
        exact foldN_snoc _ _ _
      have H := Lib.hid (And.intro hx hsn)
      clear hx hsn hcells
      go_wp2_with fail
      refine (crcRefTake_any _ x _ hf).mono ?_
      rintro e w1 ⟨rfl, rfl⟩
      go_wp2
      go_roundw
      case rel => exact ⟨r + 1, by omega, by go_num, by rw [H.out.2], by trivial⟩
      case measure => simp [intOf]; omega
    · obtain rfl : r = l.length := by omega
      rw [List.take_length]
      go_wp2
      go_ret
      exact ⟨rfl, rfl⟩

set_option maxHeartbeats 400000 in
theorem refSum_any {b : Value} {l : List UInt8} (w : World) (hb : Bs w b l) :
    Calls Try.prog 18 #[b] w fun e w' => e = .returned (.int .u32 (sumN l : Nat)) ∧ w = w' := by
  go_enter Try.func18, Try.ntmps18
  go_wp2_with fail
  refine (refMore_any 0 _ hb (by decide)).mono ?_
  rintro e w1 ⟨rfl, rfl⟩
  go_wp2
  go_ret
  exact ⟨rfl, rfl⟩

theorem leN_four (x0 x1 x2 x3 : UInt8) : leN [x0, x1, x2, x3] = x0.toNat + x1.toNat * 256 + x2.toNat * 65536 + x3.toNat * 16777216 := by
  simp only [leN]; omega

theorem or_four (x0 x1 x2 x3 : UInt8) : bits .or .u32 (bits .or .u32 (bits .or .u32 (x0.toNat : Int) ((x1.toNat : Int) * 256)) ((x2.toNat : Int) * 65536)) ((x3.toNat : Int) * 16777216) = ((leN [x0, x1, x2, x3] : Nat) : Int) := by
  have t1 := leN_take_succ [x0, x1, x2, x3] 1 x1 rfl
  have t2 := leN_take_succ [x0, x1, x2, x3] 2 x2 rfl
  have t3 := leN_take_succ [x0, x1, x2, x3] 3 x3 rfl
  have l1 := leN_take_lt [x0, x1, x2, x3] 1 (by simp)
  have l2 := leN_take_lt [x0, x1, x2, x3] 2 (by simp)
  have l3 := leN_take_lt [x0, x1, x2, x3] 3 (by simp)
  have b1 := byte_shl x1 1 (by decide)
  have b2 := byte_shl x2 2 (by decide)
  have b3 := byte_shl x3 3 (by decide)
  have z : leN (List.take 1 [x0, x1, x2, x3]) = x0.toNat := by show x0.toNat + 256 * 0 = _; omega
  have e1 : (x1.toNat : Int) * 256 = ((x1.toNat * 2 ^ (8 * 1) : Nat) : Int) := by omega
  have e2 : (x2.toNat : Int) * 65536 = ((x2.toNat * 2 ^ (8 * 2) : Nat) : Int) := by omega
  have e3 : (x3.toNat : Int) * 16777216 = ((x3.toNat * 2 ^ (8 * 3) : Nat) : Int) := by omega
  rw [e1, e2, e3, ← z, u32_or_nat _ _ l1 b1, ← t1, u32_or_nat _ _ l2 b2, ← t2, u32_or_nat _ _ l3 b3, ← t3]
  rfl

theorem end_four (s : Nat) (x0 x1 x2 x3 : UInt8) : ((s : Int) == bits .or .u32 (bits .or .u32 (bits .or .u32 (x0.toNat : Int) ((x1.toNat : Int) * 256)) ((x2.toNat : Int) * 65536)) ((x3.toNat : Int) * 16777216)) = (leN [x0, x1, x2, x3] == s) := by
  rw [or_four, nat_beq, BEq.comm]

theorem ret_bool {a b : Bool} (h : a = b) : Ending.returned (.bool a) = .returned (.bool b) := by rw [h]

set_option maxHeartbeats 1000000 in
theorem refRight_any {b : Value} {l : List UInt8} (w : World) (hb : Bs w b l) :
    Calls Try.prog 22 #[b] w fun e w' => e = .returned (.bool (rightB l)) ∧ ∃ n, w' = w.drewN n := by
  have hlen := hb.len
  by_cases h4 : 4 ≤ l.length
  · rw [rightB_long h4]
    obtain ⟨k, hk⟩ : ∃ k, l.length = k + 4 := ⟨l.length - 4, by omega⟩
    have hk4 : l.length - 4 = k := by omega
    unfold rightP
    rw [hk4]
    obtain ⟨v2, r2, s2⟩ := run_slice_to_bs bt w hb .i64 k (by omega)
    have hd : (l.drop k).length = 4 := by simp; omega
    obtain ⟨x0, x1, x2, x3, hx⟩ : ∃ x0 x1 x2 x3, l.drop k = [x0, x1, x2, x3] := by
      match h : l.drop k, hd with
      | [x0, x1, x2, x3], _ => exact ⟨x0, x1, x2, x3, rfl⟩
    have hg : ∀ i x, [x0, x1, x2, x3][i]? = some x → l[k + i]? = some x := by
      intro i x hi
      rw [← hx, List.getElem?_drop] at hi
      exact hi
    obtain ⟨b0, o0, cap0, rfl, q0, hb0, hcells⟩ := hb.open (by omega)
    have c0 := hcells _ _ (hg 0 x0 rfl)
    have c1 := hcells _ _ (hg 1 x1 rfl)
    have c2 := hcells _ _ (hg 2 x2 rfl)
    have c3 := hcells _ _ (hg 3 x3 rfl)
    rw [hx]
    have y0 := x0.toNat_lt
    have y1 := x1.toNat_lt
    have y2 := x2.toNat_lt
    have y3 := x3.toNat_lt
    rw [Nat.add_zero] at c0
    clear hg hcells hx hd hk4 hb h4
    generalize l.take k = q at *
    generalize l.length = n at *
    subst hk
    have e1 : IntKind.i64.wrap ((k : Int) + 1) = (k : Int) + 1 := IntWalk.i64_in _ (by omega)
    have e2 : IntKind.i64.wrap ((k : Int) + 2) = (k : Int) + 2 := IntWalk.i64_in _ (by omega)
    have e3 : IntKind.i64.wrap ((k : Int) + 3) = (k : Int) + 3 := IntWalk.i64_in _ (by omega)
    go_enter Try.func22, Try.ntmps22
    go_wp2_with fail
    go_quiet ((go_at_call 18; exact quiet_left (refSum_any _ (s2.drewN _))))
    go_wp2
    go_ret
    exact ⟨ret_bool (end_four _ _ _ _ _), _, rfl⟩
  · rw [rightB_short h4]
    obtain ⟨a, cap, rfl, hb⟩ := hb.shape
    have hp : (l.length : Int) - 4 < 0 := by omega
    clear h4
    go_enter Try.func22, Try.ntmps22
    go_wp2_with fail
    go_ret
    exact ⟨rfl, 0, rfl⟩

end Go.Proofs.Ytnhpdpplkjfjhaa
