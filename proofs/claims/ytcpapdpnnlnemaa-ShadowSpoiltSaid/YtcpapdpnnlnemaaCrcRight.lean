/- Contracts of Right of package crc, of the document's answers for layer 2, and of the statements' small helpers: each answers as the chapter says; conditions: the lengths that each contract names. -/
import Derived.Test.YtcpapdpnnlnemaaCrcCalls
import Derived.Deep.QuietTactic
import Derived.BigQuiet
namespace Go.Proofs.Ytcpapdpnnlnemaa
open Go.RowKit

theorem leN_append (l m : List UInt8) : leN (l ++ m) = leN l + leN m * 256 ^ l.length := by
  induction l with
  | nil => simp [leN]
  | cons c l ih =>
    simp only [List.cons_append, leN, ih, List.length_cons, Nat.pow_succ]
    rw [Nat.mul_add, Nat.add_assoc, Nat.mul_left_comm, Nat.mul_comm 256 (256 ^ _)]

theorem leN_take_succ (l : List UInt8) (r : Nat) (x : UInt8) (hx : l[r]? = some x) : leN (l.take (r + 1)) = leN (l.take r) ||| x.toNat * 2 ^ (8 * r) := by
  have hr : r < l.length := (List.getElem?_eq_some_iff.1 hx).1
  have hl : (l.take r).length = r := by simp; omega
  have hlt := leN_lt (l.take r)
  rw [hl, ← Nat.pow_mul 2 8 r] at hlt
  rw [List.take_add_one, hx]
  show leN (l.take r ++ [x]) = _
  rw [leN_append, hl]
  show leN (l.take r) + (x.toNat + 256 * 0) * 256 ^ r = _
  rw [← Nat.pow_mul 2 8 r, Nat.mul_zero, Nat.add_zero, Nat.add_comm, Nat.mul_comm, Nat.two_pow_add_eq_or_of_lt hlt, Nat.or_comm, Nat.mul_comm]

theorem byte_shl (x : UInt8) (r : Nat) (hr : r < 4) : x.toNat * 2 ^ (8 * r) < 4294967296 := by
  have := x.toNat_lt
  have h : 2 ^ (8 * r) ≤ 16777216 := Nat.pow_le_pow_right (by decide) (show 8 * r ≤ 24 by omega)
  calc x.toNat * 2 ^ (8 * r) ≤ 255 * 16777216 := Nat.mul_le_mul (by omega) h
    _ < 4294967296 := by decide

theorem or_shl (a : Nat) (x : UInt8) (r : Nat) (ha : a < 4294967296) (hr : r < 4) : bits .or .u32 (a : Int) ((x.toNat : Int) * 2 ^ (8 * r) % 4294967296) = ((a ||| x.toNat * 2 ^ (8 * r) : Nat) : Int) := by
  have hb := byte_shl x r hr
  have e : (x.toNat : Int) * 2 ^ (8 * r) % 4294967296 = ((x.toNat * 2 ^ (8 * r) : Nat) : Int) := by
    rw [Int.natCast_mul, Int.natCast_pow]
    have h1 : ((x.toNat * 2 ^ (8 * r) : Nat) : Int) < 4294967296 := by omega
    rw [Int.natCast_mul, Int.natCast_pow] at h1
    exact Int.emod_eq_of_lt (Int.mul_nonneg (by omega) (Int.le_of_lt (Int.pow_pos (by decide)))) h1
  rw [e]
  exact u32_or_nat a _ ha hb

theorem leN_take_lt (l : List UInt8) (r : Nat) (hl : l.length ≤ 4) : leN (l.take r) < 4294967296 := by
  have h := leN_lt (l.take r)
  have h2 : 256 ^ (l.take r).length ≤ 256 ^ 4 := Nat.pow_le_pow_right (by decide) (by simp; omega)
  have h3 : (256 : Nat) ^ 4 = 4294967296 := by decide
  omega

set_option maxHeartbeats 400000 in
theorem lowest_any {b : Value} {l : List UInt8} (w : World) (hb : Bs w b l) (hl : l.length ≤ 4) :
    Calls Try.prog 78 #[b] w fun e w' => e = .returned (.int .u32 (leN l : Nat)) ∧ w = w' := by
  obtain ⟨a, cap, rfl, hb⟩ := hb.shape
  go_enter Try.func78, Try.ntmps78
  go_wp2
  go_loopw [3, 4, 5, 8] (fun s _ _ i wr => ∃ r : Nat, r ≤ l.length ∧ i = .int .i64 r ∧ s = .int .u32 (leN (l.take r) : Nat) ∧ w = wr) (fun _ _ _ i _ => l.length - (intOf i).toNat)
  case atStart => exact ⟨0, by omega, rfl, rfl, rfl⟩
  case round =>
    obtain ⟨r, hr, rfl, rfl, rfl⟩ := hrel
    by_cases hlt : r < l.length
    · obtain ⟨b0, o0, cap0, e0, q0, hb0, hcells⟩ := hb.open (by omega)
      simp only [Value.slice.injEq] at e0
      obtain ⟨rfl, _, rfl⟩ := e0
      obtain ⟨x, hx⟩ : ∃ x, l[r]? = some x := ⟨_, List.getElem?_eq_getElem hlt⟩
      have hcell := hcells r x hx
      have hsn := leN_take_succ l r x hx
      have hbx := byte_shl x r (by omega)
      have hx8 := x.toNat_lt
      have H := Lib.hid (And.intro hx hsn)
      clear hx hsn hcells
      have ho := or_shl (leN (l.take r)) x r (leN_take_lt l r hl) (by omega)
      have HO := Lib.hid ho
      clear ho
      go_wp2
      go_roundw
      case rel => exact ⟨r + 1, by omega, by go_num, by rw [H.out.2, HO.out], by trivial⟩
      case measure => simp [intOf]; omega
    · obtain rfl : r = l.length := by omega
      rw [List.take_length]
      go_wp2
      go_ret
      exact ⟨rfl, rfl⟩

def rightP (l : List UInt8) : Bool := leN (l.drop (l.length - 4)) == sumN (l.take (l.length - 4))

theorem rightB_long {l : List UInt8} (h : 4 ≤ l.length) : rightB l = rightP l := by
  unfold rightB rightP
  rw [decide_eq_true h, Bool.true_and]
theorem rightB_short {l : List UInt8} (h : ¬ 4 ≤ l.length) : rightB l = false := by
  unfold rightB
  rw [decide_eq_false h, Bool.false_and]

theorem nat_beq (a b : Nat) : ((a : Int) == (b : Int)) = (a == b) := by
  by_cases h : a = b
  · subst h; simp
  · rw [beq_eq_false_iff_ne.2 h, beq_eq_false_iff_ne.2 (by omega)]

theorem run_slice_from_bs {P : Program} {t e : TypeId} (T : ByteTy P t e) (w : World) {v : Value} {l : List UInt8} (hv : Bs w v l) (k1 : IntKind) (lo : Nat) (h : lo ≤ l.length) :
    ∃ v', (∀ w1, (Instr.slice t v (some (.int k1 (lo : Int))) none none).run P w1 = .ok v' w1) ∧ Bs w v' (l.drop lo) := by
  obtain ⟨a, cap, rfl, g1, g2, g3, g4⟩ := hv
  refine ⟨sliced a lo l.length cap 1, fun w1 => ?_, by simpa using bs_sliced g1 g2 g3 g4 lo l.length h (Nat.le_refl _)⟩
  rw [run_slice_l w1 t a _ cap T.slice' k1 _ (by omega) (by omega), T.elem, T.run_size]
  simp [Result.andThen]

set_option maxHeartbeats 1000000 in
theorem right_any {b : Value} {l : List UInt8} (w : World) (hb : Bs w b l) :
    Calls Try.prog 71 #[b] w fun e w' => e = .returned (.bool (rightB l)) ∧ ∃ n, w' = w.drewN n := by
  have hlen := hb.len
  by_cases h4 : 4 ≤ l.length
  · rw [rightB_long h4]
    obtain ⟨v1, r1, s1⟩ := run_slice_from_bs bt w hb .i64 (l.length - 4) (by omega)
    obtain ⟨v2, r2, s2⟩ := run_slice_to_bs bt w hb .i64 (l.length - 4) (by omega)
    have hd : (l.drop (l.length - 4)).length ≤ 4 := by simp; omega
    rw [show ((l.length - 4 : Nat) : Int) = (l.length : Int) - 4 by omega] at r1 r2
    unfold rightP
    rw [← nat_beq]
    generalize l.drop (l.length - 4) = p at *
    generalize l.take (l.length - 4) = q at *
    obtain ⟨a, cap, rfl, hb⟩ := hb.shape
    have hg : decide ((4 : Int) ≤ (l.length : Int)) = true := decide_eq_true (by omega)
    have hp : (0 : Int) ≤ (l.length : Int) - 4 := by omega
    clear h4
    go_enter Try.func71, Try.ntmps71
    go_wp2_with fail
    go_quiet (first | (go_at_call 78; exact quiet_left (lowest_any _ (s1.drewN _) hd)) | (go_at_call 47; exact quiet_left (sum_any _ (s2.drewN _))))
    go_wp2
    go_ret
    exact ⟨rfl, _, rfl⟩
  · rw [rightB_short h4]
    have hd : decide ((4 : Int) ≤ (l.length : Int)) = false := decide_eq_false (by omega)
    have hp : (l.length : Int) - 4 < 0 := by omega
    clear h4
    obtain ⟨a, cap, rfl, hb⟩ := hb.shape
    go_enter Try.func71, Try.ntmps71
    go_wp2_with fail
    go_quiet (fail)
    go_wp2
    go_ret
    exact ⟨rfl, _, rfl⟩

theorem leN_four (x0 x1 x2 x3 : UInt8) : leN [x0, x1, x2, x3] = x0.toNat + x1.toNat * 256 + x2.toNat * 65536 + x3.toNat * 16777216 := by
  simp only [leN]; omega

theorem ret_bool {a b : Bool} (h : a = b) : Ending.returned (.bool a) = .returned (.bool b) := by rw [h]

end Go.Proofs.Ytcpapdpnnlnemaa
