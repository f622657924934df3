/- Sums of 32 bits, as numbers: a step, bytes taken, what is linear, and that turned bits are told; no condition. · Contracts of the functions of package crc: each answers as the chapter says and writes nothing that was there; conditions: the lengths that each contract names. · Contracts of Right of package crc, of the document's answers for layer 2, and of the statements' small helpers: each answers as the chapter says; conditions: the lengths that each contract names. · Bytes that end in their sum, and such of which bits were turned, in plain words; no condition. · Plain mathematics of numbers and byte strings as lists of bytes: the bytes of a number, the number of bytes, the order of lists; no condition. · Blocks with their kind, their length and their sum, in plain words: what is sealed, what is opened, and that each undoes the other; no condition. · A region that draws its order, reads and calls in whatever order, and writes by its last operation: what reads alike in every world that meets S, till the last one, is taken first; condition: the last one waits for it. · An array of bytes in a block of the call's own: what its slices read as, a cell of it written, bytes copied into it; conditions: the sizes that each law names. -/
import Derived.Test.YtcpapdpnnlnemaaM01
import Derived.Deep.QuietTactic
import Derived.BigQuiet
import Derived.Lib.Bytealg
import Derived.Deep.RegionHeld3
import Derived.OrdersIn
import Derived.TacticsIn
import Derived.RangeFuncCalls
import Derived.Laws.CopyOwn
import Derived.StillTailTactics
namespace Go.Proofs.Ytcpapdpnnlnemaa

/-- The word that is laid over where a step meets an odd number. -/
def polyN : Nat := 3988292384
def fullN : Nat := 4294967295

/-- One step. -/
def stepN (x : Nat) : Nat := if x % 2 = 1 then x / 2 ^^^ polyN else x / 2

def steps : Nat → Nat → Nat
  | 0, x => x
  | k + 1, x => steps k (stepN x)

theorem steps_add (a b x : Nat) : steps (a + b) x = steps b (steps a x) := by
  induction a generalizing x with
  | zero => simp [steps]
  | succ a ih => rw [Nat.succ_add]; exact ih _

theorem steps_last (k x : Nat) : steps (k + 1) x = stepN (steps k x) := by
  rw [steps_add]; rfl

theorem stepN_xor (a b : Nat) : stepN (a ^^^ b) = stepN a ^^^ stepN b := by
  have h2 : (a ^^^ b) / 2 = a / 2 ^^^ b / 2 := Nat.xor_div_two
  have h3 : (a ^^^ b) % 2 = (a + b) % 2 := by
    have h := @Nat.xor_mod_two_eq_one a b
    rcases Nat.mod_two_eq_zero_or_one (a ^^^ b) with hc | hc
    · have : ¬ (¬(a % 2 = 1 ↔ b % 2 = 1)) := fun hx => by rw [h.2 hx] at hc; cases hc
      rw [hc]; omega
    · have := h.1 hc
      rw [hc]; omega
  unfold stepN
  rw [h2, h3]
  rcases Nat.mod_two_eq_zero_or_one a with ha | ha <;> rcases Nat.mod_two_eq_zero_or_one b with hb | hb
  · rw [if_neg (by omega), if_neg (by omega), if_neg (by omega)]
  · rw [if_pos (by omega), if_neg (by omega), if_pos hb, Nat.xor_assoc]
  · rw [if_pos (by omega), if_pos ha, if_neg (by omega), Nat.xor_assoc, Nat.xor_assoc, Nat.xor_comm polyN]
  · rw [if_neg (by omega), if_pos ha, if_pos hb]
    rw [Nat.xor_assoc, Nat.xor_comm (b / 2) polyN, ← Nat.xor_assoc polyN, Nat.xor_self, Nat.zero_xor]

theorem steps_xor (k a b : Nat) : steps k (a ^^^ b) = steps k a ^^^ steps k b := by
  induction k generalizing a b with
  | zero => rfl
  | succ k ih => show steps k (stepN (a ^^^ b)) = _; rw [stepN_xor, ih]; rfl

theorem stepN_double (x : Nat) : stepN (x * 2) = x := by
  unfold stepN
  rw [if_neg (by omega)]; omega

theorem steps_pow (k x : Nat) : steps k (x * 2 ^ k) = x := by
  induction k with
  | zero => simp [steps]
  | succ k ih =>
    show steps k (stepN (x * 2 ^ (k + 1))) = x
    rw [Nat.pow_succ, ← Nat.mul_assoc, stepN_double, ih]

theorem stepN_lt {x : Nat} (h : x < 4294967296) : stepN x < 4294967296 := by
  unfold stepN
  split
  · exact Nat.xor_lt_two_pow (n := 32) (by omega) (by decide)
  · omega

theorem steps_lt (k : Nat) {x : Nat} (h : x < 4294967296) : steps k x < 4294967296 := by
  induction k generalizing x with
  | zero => exact h
  | succ k ih => exact ih (stepN_lt h)

theorem xor_zero_eq {a b : Nat} (h : a ^^^ b = 0) : a = b := by
  have : (a ^^^ b) ^^^ b = b := by rw [h, Nat.zero_xor]
  rwa [Nat.xor_assoc, Nat.xor_self, Nat.xor_zero] at this

theorem stepN_zero {x : Nat} (h : x < 4294967296) (h0 : stepN x = 0) : x = 0 := by
  unfold stepN at h0
  split at h0
  · have := xor_zero_eq h0
    unfold polyN at this
    omega
  · omega

theorem steps_zero (k : Nat) {x : Nat} (h : x < 4294967296) (h0 : steps k x = 0) : x = 0 := by
  induction k generalizing x with
  | zero => exact h0
  | succ k ih => exact stepN_zero h (ih (stepN_lt h) h0)

theorem steps_of_zero (k : Nat) : steps k 0 = 0 := by
  induction k with
  | zero => rfl
  | succ k ih => exact ih

theorem steps_inj (k : Nat) {a b : Nat} (ha : a < 4294967296) (hb : b < 4294967296) (h : steps k a = steps k b) : a = b := by
  apply xor_zero_eq
  apply steps_zero k (Nat.xor_lt_two_pow (n := 32) ha hb)
  rw [steps_xor, h, Nat.xor_self]

/-- A byte taken. -/
def takN (w c : Nat) : Nat := steps 8 (w ^^^ c)
def foldN (w : Nat) : List UInt8 → Nat
  | [] => w
  | c :: l => foldN (takN w c.toNat) l

theorem foldN_append (w : Nat) (l m : List UInt8) : foldN w (l ++ m) = foldN (foldN w l) m := by
  induction l generalizing w with
  | nil => rfl
  | cons c l ih => exact ih _

theorem foldN_snoc (w : Nat) (l : List UInt8) (c : UInt8) : foldN w (l ++ [c]) = takN (foldN w l) c.toNat := foldN_append w l [c]

theorem takN_lt {w : Nat} (c : UInt8) (h : w < 4294967296) : takN w c.toNat < 4294967296 :=
  steps_lt 8 (Nat.xor_lt_two_pow (n := 32) h (by have := c.toNat_lt; omega))

theorem foldN_lt {w : Nat} (l : List UInt8) (h : w < 4294967296) : foldN w l < 4294967296 := by
  induction l generalizing w with
  | nil => exact h
  | cons c l ih => exact ih (takN_lt c h)

/-- The number of bytes whose lowest stands first. -/
def leN : List UInt8 → Nat
  | [] => 0
  | c :: l => c.toNat + 256 * leN l

theorem low_xor (c L : Nat) (h : c < 256) : c + 256 * L = c ^^^ L * 2 ^ 8 := by
  have h1 := Nat.two_pow_add_eq_or_of_lt (i := 8) (b := c) h L
  have h2 : 256 * L + c = 2 ^ 8 * L ^^^ c := by
    rw [show 256 * L + c = 2 ^ 8 * L + c from rfl, h1]
    apply Nat.eq_of_testBit_eq
    intro i
    simp only [Nat.testBit_or, Nat.testBit_xor, Nat.testBit_two_pow_mul]
    by_cases hi : 8 ≤ i
    · have : c.testBit i = false := Nat.testBit_lt_two_pow (Nat.lt_of_lt_of_le h (Nat.pow_le_pow_right (by decide) hi : 2 ^ 8 ≤ 2 ^ i))
      simp [this]
    · simp [hi]
  rw [Nat.add_comm, h2, Nat.xor_comm, Nat.mul_comm]

theorem leN_cons (c : UInt8) (l : List UInt8) : leN (c :: l) = c.toNat ^^^ leN l * 2 ^ 8 := low_xor _ _ c.toNat_lt

theorem leN_lt (l : List UInt8) : leN l < 256 ^ l.length := by
  induction l with
  | nil => simp [leN]
  | cons c l ih =>
    have := c.toNat_lt
    simp only [leN, List.length_cons, Nat.pow_succ]
    omega

theorem foldN_steps (w : Nat) (l : List UInt8) : foldN w l = steps (8 * l.length) (w ^^^ leN l) := by
  induction l generalizing w with
  | nil =>
    show w = steps 0 (w ^^^ 0)
    rw [Nat.xor_zero]; rfl
  | cons c l ih =>
    show foldN (takN w c.toNat) l = _
    rw [ih, leN_cons, List.length_cons, show 8 * (l.length + 1) = 8 + 8 * l.length by omega, steps_add, ← Nat.xor_assoc, steps_xor 8 (w ^^^ c.toNat), steps_pow]
    rfl

theorem foldN_xor (a b : Nat) (l : List UInt8) : foldN a l ^^^ foldN b l = steps (8 * l.length) (a ^^^ b) := by
  rw [foldN_steps, foldN_steps, ← steps_xor]
  congr 1
  rw [Nat.xor_assoc, Nat.xor_comm b, ← Nat.xor_assoc (leN l), Nat.xor_self, Nat.zero_xor]

/-- A sum, and others behind it. -/
def notN (x : Nat) : Nat := fullN ^^^ x
def moreN (s : Nat) (l : List UInt8) : Nat := notN (foldN (notN s) l)
def sumN (l : List UInt8) : Nat := moreN 0 l

theorem notN_lt {x : Nat} (h : x < 4294967296) : notN x < 4294967296 := Nat.xor_lt_two_pow (n := 32) (by decide) h
theorem xor_back (f x : Nat) : f ^^^ (f ^^^ x) = x := by rw [← Nat.xor_assoc, Nat.xor_self, Nat.zero_xor]
theorem notN_eq (x : Nat) : notN x = fullN ^^^ x := rfl
theorem notN_not (x : Nat) : notN (notN x) = x := by
  rw [notN_eq, notN_eq]
  generalize fullN = f
  exact xor_back f x
theorem notN_xor (x y : Nat) : notN x ^^^ notN y = x ^^^ y := by
  unfold notN
  rw [Nat.xor_assoc, ← Nat.xor_assoc x, Nat.xor_comm x, Nat.xor_assoc, ← Nat.xor_assoc, Nat.xor_self, Nat.zero_xor]
theorem moreN_lt {s : Nat} (l : List UInt8) (h : s < 4294967296) : moreN s l < 4294967296 := notN_lt (foldN_lt l (notN_lt h))
theorem sumN_lt (l : List UInt8) : sumN l < 4294967296 := moreN_lt l (by decide)

theorem moreN_append (s : Nat) (l m : List UInt8) : moreN s (l ++ m) = moreN (moreN s l) m := by
  unfold moreN
  rw [notN_not, foldN_append]
theorem sumN_append (l m : List UInt8) : sumN (l ++ m) = moreN (sumN l) m := moreN_append 0 l m
theorem sumN_nil : sumN [] = 0 := by
  unfold sumN moreN foldN
  exact notN_not 0

/-- Bytes that end in the sum of those ahead. -/
def rightB (l : List UInt8) : Bool := decide (4 ≤ l.length) && (leN (l.drop (l.length - 4)) == sumN (l.take (l.length - 4)))

theorem right_iff (l : List UInt8) (h : 4 ≤ l.length) : rightB l = true ↔ foldN fullN l = steps 32 fullN := by
  have hl : (l.drop (l.length - 4)).length = 4 := by simp; omega
  have e : foldN fullN l = steps 32 (foldN fullN (l.take (l.length - 4)) ^^^ leN (l.drop (l.length - 4))) := by
    conv => lhs; rw [← List.take_append_drop (l.length - 4) l]
    rw [foldN_append, foldN_steps _ (l.drop (l.length - 4)), hl]
  have hf : foldN fullN (l.take (l.length - 4)) < 4294967296 := foldN_lt _ (by decide)
  have hd : leN (l.drop (l.length - 4)) < 4294967296 := by have := leN_lt (l.drop (l.length - 4)); rw [hl] at this; exact this
  have hs : sumN (l.take (l.length - 4)) = fullN ^^^ foldN fullN (l.take (l.length - 4)) := by
    unfold sumN moreN
    rw [show notN 0 = fullN from rfl]
    rfl
  unfold rightB
  rw [e, hs]
  generalize foldN fullN (l.take (l.length - 4)) = f at *
  generalize leN (l.drop (l.length - 4)) = d at *
  simp only [h, decide_true, Bool.true_and, beq_iff_eq]
  constructor
  · intro hd'
    rw [hd', Nat.xor_comm fullN, ← Nat.xor_assoc, Nat.xor_self, Nat.zero_xor]
  · intro hx
    have := steps_inj 32 (Nat.xor_lt_two_pow (n := 32) hf hd) (by decide) hx
    rw [← this, Nat.xor_comm (f ^^^ d), ← Nat.xor_assoc, Nat.xor_self, Nat.zero_xor]

/-- Bits turned. -/
def turnL (l : List UInt8) (i m : Nat) : List UInt8 := l.set i (UInt8.ofNat ((l[i]?.getD 0).toNat ^^^ m))

theorem turnL_length (l : List UInt8) (i m : Nat) : (turnL l i m).length = l.length := by simp [turnL]

theorem xor_mul (a b k : Nat) : (a ^^^ b) * 2 ^ k = a * 2 ^ k ^^^ b * 2 ^ k := by
  have := @Nat.shiftLeft_xor_distrib k a b
  simpa [Nat.shiftLeft_eq] using this

theorem leN_turn (l : List UInt8) (i m : Nat) (hi : i < l.length) (hm : m < 256) : leN (turnL l i m) = leN l ^^^ m * 2 ^ (8 * i) := by
  induction l generalizing i with
  | nil => simp at hi
  | cons c l ih =>
    cases i with
    | zero =>
      show leN (UInt8.ofNat (c.toNat ^^^ m) :: l) = _
      have hx : c.toNat ^^^ m < 256 := Nat.xor_lt_two_pow (n := 8) c.toNat_lt hm
      rw [leN_cons, leN_cons, UInt8.toNat_ofNat', Nat.mod_eq_of_lt hx, Nat.mul_zero, Nat.pow_zero, Nat.mul_one, Nat.xor_assoc, Nat.xor_assoc, Nat.xor_comm m]
    | succ i =>
      show leN (c :: turnL l i m) = _
      rw [leN_cons, leN_cons, ih i (by simpa using hi), Nat.xor_assoc, xor_mul]
      congr 2
      rw [Nat.mul_assoc, ← Nat.pow_add]
      congr 2

theorem right_turned (l m : List UInt8) (at_ t : Nat) (h4 : 4 ≤ l.length) (hm : m.length = l.length) (hr : rightB l = true) (ht : t < 4294967296) (hat : at_ ≤ 8 * l.length)
    (he : leN m = leN l ^^^ t * 2 ^ at_) : rightB m = decide (t = 0) := by
  have h1 := (right_iff l h4).1 hr
  have h2 := right_iff m (by omega)
  have e : foldN fullN m = foldN fullN l ^^^ steps (8 * l.length - at_) t := by
    rw [foldN_steps, foldN_steps, hm, he, ← Nat.xor_assoc, steps_xor]
    congr 1
    conv => lhs; rw [show 8 * l.length = at_ + (8 * l.length - at_) by omega, steps_add, steps_pow]
  rw [e, h1] at h2
  by_cases h0 : t = 0
  · subst h0
    rw [steps_of_zero, Nat.xor_zero] at h2
    rw [h2.2 rfl]; rfl
  · have : ¬ rightB m = true := by
      intro hx
      have hz := h2.1 hx
      apply h0
      apply steps_zero (8 * l.length - at_) ht
      have : steps 32 fullN ^^^ (steps 32 fullN ^^^ steps (8 * l.length - at_) t) = steps 32 fullN ^^^ steps 32 fullN := by rw [hz]
      rwa [← Nat.xor_assoc, Nat.xor_self, Nat.zero_xor] at this
    simp [h0, this]

/-- The bits of a number up to some place. -/
theorem mod_succ (t i : Nat) : t % 2 ^ (i + 1) = t % 2 ^ i ^^^ (t / 2 ^ i % 2) * 2 ^ i := by
  apply Nat.eq_of_testBit_eq
  intro j
  simp only [Nat.testBit_mod_two_pow, Nat.testBit_xor, Nat.testBit_mul_two_pow]
  by_cases h1 : j < i
  · simp [h1, show j < i + 1 by omega, show ¬ i ≤ j by omega]
  · by_cases h2 : j = i
    · subst h2
      simp only [Nat.lt_irrefl, decide_false, Bool.false_and, Nat.lt_succ_self, decide_true, Bool.true_and, Nat.le_refl, Nat.sub_self, Bool.false_xor]
      rw [Nat.testBit_zero, Nat.testBit_eq_decide_div_mod_eq]
      simp
    · have h3 : (t / 2 ^ i % 2).testBit (j - i) = false := Nat.testBit_lt_two_pow (Nat.lt_of_lt_of_le (Nat.mod_lt _ (by decide)) (by calc 2 = 2 ^ 1 := rfl
          _ ≤ 2 ^ (j - i) := Nat.pow_le_pow_right (by decide) (by omega)))
      simp [h1, show ¬ j < i + 1 by omega, h3]

theorem sumN_adds (a b c : List UInt8) (d : List UInt8) (h1 : b.length = a.length) (h2 : c.length = a.length) (h3 : d.length = a.length) (h : leN d = leN a ^^^ leN b ^^^ leN c) :
    sumN a ^^^ sumN b ^^^ sumN c = sumN d := by
  unfold sumN moreN
  rw [foldN_steps, foldN_steps, foldN_steps, foldN_steps, h1, h2, h3, h]
  generalize 8 * a.length = k
  rw [show notN 0 = fullN from rfl]
  simp only [steps_xor, notN]
  generalize steps k fullN = s
  generalize steps k (leN a) = x
  generalize steps k (leN b) = y
  generalize steps k (leN c) = z
  apply Nat.eq_of_testBit_eq
  intro i
  simp only [Nat.testBit_xor]
  cases fullN.testBit i <;> cases s.testBit i <;> cases x.testBit i <;> cases y.testBit i <;> cases z.testBit i <;> rfl
end Go.Proofs.Ytcpapdpnnlnemaa
namespace Go.Proofs.Ytcpapdpnnlnemaa
open Go.RowKit

theorem stepN_odd {n : Nat} (h : n % 2 = 1) : stepN n = n / 2 ^^^ 3988292384 := if_pos h
theorem stepN_even {n : Nat} (h : ¬ n % 2 = 1) : stepN n = n / 2 := if_neg h

theorem and_one (n : Nat) (h : n < 4294967296) : bits .and .u32 (n : Int) 1 = ((n % 2 : Nat) : Int) := by
  have := u32_and_nat n 1 h (by decide)
  rw [Nat.and_one_is_mod] at this
  exact this

theorem half_xor (n : Nat) (h : n < 4294967296) : bits .xor .u32 ((n : Int) / 2) 3988292384 = ((n / 2 ^^^ 3988292384 : Nat) : Int) :=
  u32_xor_nat (n / 2) 3988292384 (by omega) (by decide)

set_option maxHeartbeats 400000 in
theorem step_any (n : Nat) (w : World) (hn : n < 4294967296) :
    Calls Try.prog 74 #[.int .u32 (n : Int)] w fun e w' => e = .returned (.int .u32 (stepN n : Nat)) ∧ w = w' := by
  have h1 := and_one n hn
  have h2 := half_xor n hn
  by_cases hp : n % 2 = 1
  · have hs := stepN_odd hp
    rw [hp] at h1
    rw [hs]
    clear hs
    go_enter Try.func74, Try.ntmps74
    go_wp2
    go_ret
    exact ⟨rfl, rfl⟩
  · have hs := stepN_even hp
    rw [show n % 2 = 0 by omega] at h1
    rw [hs]
    clear hs hp
    go_enter Try.func74, Try.ntmps74
    go_wp2
    go_ret
    exact ⟨rfl, rfl⟩

theorem byte_xor (n : Nat) (c : UInt8) (h : n < 4294967296) : bits .xor .u32 (n : Int) (c.toNat : Int) = ((n ^^^ c.toNat : Nat) : Int) :=
  u32_xor_nat n c.toNat h (by have := c.toNat_lt; omega)

set_option maxHeartbeats 400000 in
theorem crcTake_any (n : Nat) (c : UInt8) (w : World) (hn : n < 4294967296) :
    Calls Try.prog 66 #[.int .u32 (n : Int), .int .u8 (c.toNat : Int)] w fun e w' => e = .returned (.int .u32 (takN n c.toNat : Nat)) ∧ w = w' := by
  have h1 := byte_xor n c hn
  have hx : n ^^^ c.toNat < 4294967296 := Nat.xor_lt_two_pow (n := 32) hn (by have := c.toNat_lt; omega)
  have hc := c.toNat_lt
  unfold takN
  generalize n ^^^ c.toNat = x at *
  generalize c.toNat = c at *
  go_enter Try.func66, Try.ntmps66
  go_wp2
  go_loopw [0, 9] (fun s i wr => ∃ r : Nat, r ≤ 8 ∧ i = .int .i64 r ∧ s = .int .u32 (steps r x : Nat) ∧ w = wr) (fun _ i _ => 8 - (intOf i).toNat)
  case atStart => exact ⟨0, by omega, rfl, rfl, rfl⟩
  case round =>
    obtain ⟨r, hr, rfl, rfl, rfl⟩ := hrel
    by_cases hlt : r < 8
    · go_wp2_with fail
      refine (step_any _ _ (steps_lt r hx)).mono ?_
      rintro e w1 ⟨rfl, rfl⟩
      go_wp2
      go_roundw
      case rel => exact ⟨r + 1, by omega, by go_num, by rw [steps_last], by trivial⟩
      case measure => simp [intOf]; omega
    · obtain rfl : r = 8 := by omega
      go_wp2
      go_ret
      exact ⟨rfl, rfl⟩

theorem max_u32 : IntKind.u32.max = ((fullN : Nat) : Int) := by decide
theorem not_u32 (n : Nat) (h : n < 4294967296) : bits .xor .u32 IntKind.u32.max (n : Int) = (notN n : Nat) := by
  have := u32_xor_nat fullN n (by decide) h
  rw [max_u32, this, notN_eq]

set_option maxHeartbeats 400000 in
theorem more_any {b : Value} {l : List UInt8} (s : Nat) (w : World) (hb : Bs w b l) (hs : s < 4294967296) :
    Calls Try.prog 58 #[.int .u32 (s : Int), b] w fun e w' => e = .returned (.int .u32 (moreN s l : Nat)) ∧ w = w' := by
  obtain ⟨a, cap, rfl, hb⟩ := hb.shape
  have h1 := not_u32 s hs
  have h2 := not_u32 (foldN (notN s) l) (foldN_lt l (notN_lt hs))
  have hn := notN_lt hs
  have hlen := hb.len
  unfold moreN
  generalize notN s = f at *
  generalize hm : notN (foldN f l) = m at *
  clear hm
  go_enter Try.func58, Try.ntmps58
  go_wp2
  go_loopw [5, 7, 12] (fun s _ i wr => ∃ r : Nat, r ≤ l.length ∧ i = .int .i64 r ∧ s = .int .u32 (foldN f (l.take r) : Nat) ∧ w = wr) (fun _ _ i _ => l.length - (intOf i).toNat)
  case atStart => exact ⟨0, by omega, rfl, rfl, rfl⟩
  case round =>
    obtain ⟨r, hr, rfl, rfl, rfl⟩ := hrel
    by_cases hlt : r < l.length
    · obtain ⟨b0, o0, cap0, e0, q0, hb0, hcells⟩ := hb.open (by omega)
      simp only [Value.slice.injEq] at e0
      obtain ⟨rfl, _, rfl⟩ := e0
      obtain ⟨x, hx⟩ : ∃ x, l[r]? = some x := ⟨_, List.getElem?_eq_getElem hlt⟩
      have hcell := hcells r x hx
      have hf := foldN_lt (l.take r) hn
      have hsn : foldN f (l.take (r + 1)) = takN (foldN f (l.take r)) x.toNat := by
        rw [List.take_add_one, hx]
        exact foldN_snoc _ _ _
      have H := Lib.hid (And.intro hx hsn)
      clear hx hsn hcells
      go_wp2_with fail
      refine (crcTake_any _ x _ hf).mono ?_
      rintro e w1 ⟨rfl, rfl⟩
      go_wp2
      go_roundw
      case rel => exact ⟨r + 1, by omega, by go_num, by rw [H.out.2], by trivial⟩
      case measure => simp [intOf]; omega
    · obtain rfl : r = l.length := by omega
      rw [List.take_length]
      go_wp2
      go_ret
      exact ⟨rfl, rfl⟩

set_option maxHeartbeats 400000 in
theorem sum_any {b : Value} {l : List UInt8} (w : World) (hb : Bs w b l) :
    Calls Try.prog 47 #[b] w fun e w' => e = .returned (.int .u32 (sumN l : Nat)) ∧ w = w' := by
  go_enter Try.func47, Try.ntmps47
  go_wp2_with fail
  refine (more_any 0 _ hb (by decide)).mono ?_
  rintro e w1 ⟨rfl, rfl⟩
  go_wp2
  go_ret
  exact ⟨rfl, rfl⟩
end Go.Proofs.Ytcpapdpnnlnemaa
namespace Go.Proofs.Ytcpapdpnnlnemaa
open Go.RowKit

theorem leN_append (l m : List UInt8) : leN (l ++ m) = leN l + leN m * 256 ^ l.length := by
  induction l with
  | nil => simp [leN]
  | cons c l ih =>
    simp only [List.cons_append, leN, ih, List.length_cons, Nat.pow_succ]
    rw [Nat.mul_add, Nat.add_assoc, Nat.mul_left_comm, Nat.mul_comm 256 (256 ^ _)]

theorem leN_take_succ (l : List UInt8) (r : Nat) (x : UInt8) (hx : l[r]? = some x) : leN (l.take (r + 1)) = leN (l.take r) ||| x.toNat * 2 ^ (8 * r) := by
  have hr : r < l.length := (List.getElem?_eq_some_iff.1 hx).1
  have hl : (l.take r).length = r := by simp; omega
  have hlt := leN_lt (l.take r)
  rw [hl, ← Nat.pow_mul 2 8 r] at hlt
  rw [List.take_add_one, hx]
  show leN (l.take r ++ [x]) = _
  rw [leN_append, hl]
  show leN (l.take r) + (x.toNat + 256 * 0) * 256 ^ r = _
  rw [← Nat.pow_mul 2 8 r, Nat.mul_zero, Nat.add_zero, Nat.add_comm, Nat.mul_comm, Nat.two_pow_add_eq_or_of_lt hlt, Nat.or_comm, Nat.mul_comm]

theorem byte_shl (x : UInt8) (r : Nat) (hr : r < 4) : x.toNat * 2 ^ (8 * r) < 4294967296 := by
  have := x.toNat_lt
  have h : 2 ^ (8 * r) ≤ 16777216 := Nat.pow_le_pow_right (by decide) (show 8 * r ≤ 24 by omega)
  calc x.toNat * 2 ^ (8 * r) ≤ 255 * 16777216 := Nat.mul_le_mul (by omega) h
    _ < 4294967296 := by decide

theorem or_shl (a : Nat) (x : UInt8) (r : Nat) (ha : a < 4294967296) (hr : r < 4) : bits .or .u32 (a : Int) ((x.toNat : Int) * 2 ^ (8 * r) % 4294967296) = ((a ||| x.toNat * 2 ^ (8 * r) : Nat) : Int) := by
  have hb := byte_shl x r hr
  have e : (x.toNat : Int) * 2 ^ (8 * r) % 4294967296 = ((x.toNat * 2 ^ (8 * r) : Nat) : Int) := by
    rw [Int.natCast_mul, Int.natCast_pow]
    have h1 : ((x.toNat * 2 ^ (8 * r) : Nat) : Int) < 4294967296 := by omega
    rw [Int.natCast_mul, Int.natCast_pow] at h1
    exact Int.emod_eq_of_lt (Int.mul_nonneg (by omega) (Int.le_of_lt (Int.pow_pos (by decide)))) h1
  rw [e]
  exact u32_or_nat a _ ha hb

theorem leN_take_lt (l : List UInt8) (r : Nat) (hl : l.length ≤ 4) : leN (l.take r) < 4294967296 := by
  have h := leN_lt (l.take r)
  have h2 : 256 ^ (l.take r).length ≤ 256 ^ 4 := Nat.pow_le_pow_right (by decide) (by simp; omega)
  have h3 : (256 : Nat) ^ 4 = 4294967296 := by decide
  omega

set_option maxHeartbeats 400000 in
theorem lowest_any {b : Value} {l : List UInt8} (w : World) (hb : Bs w b l) (hl : l.length ≤ 4) :
    Calls Try.prog 78 #[b] w fun e w' => e = .returned (.int .u32 (leN l : Nat)) ∧ w = w' := by
  obtain ⟨a, cap, rfl, hb⟩ := hb.shape
  go_enter Try.func78, Try.ntmps78
  go_wp2
  go_loopw [3, 4, 5, 8] (fun s _ _ i wr => ∃ r : Nat, r ≤ l.length ∧ i = .int .i64 r ∧ s = .int .u32 (leN (l.take r) : Nat) ∧ w = wr) (fun _ _ _ i _ => l.length - (intOf i).toNat)
  case atStart => exact ⟨0, by omega, rfl, rfl, rfl⟩
  case round =>
    obtain ⟨r, hr, rfl, rfl, rfl⟩ := hrel
    by_cases hlt : r < l.length
    · obtain ⟨b0, o0, cap0, e0, q0, hb0, hcells⟩ := hb.open (by omega)
      simp only [Value.slice.injEq] at e0
      obtain ⟨rfl, _, rfl⟩ := e0
      obtain ⟨x, hx⟩ : ∃ x, l[r]? = some x := ⟨_, List.getElem?_eq_getElem hlt⟩
      have hcell := hcells r x hx
      have hsn := leN_take_succ l r x hx
      have hbx := byte_shl x r (by omega)
      have hx8 := x.toNat_lt
      have H := Lib.hid (And.intro hx hsn)
      clear hx hsn hcells
      have ho := or_shl (leN (l.take r)) x r (leN_take_lt l r hl) (by omega)
      have HO := Lib.hid ho
      clear ho
      go_wp2
      go_roundw
      case rel => exact ⟨r + 1, by omega, by go_num, by rw [H.out.2, HO.out], by trivial⟩
      case measure => simp [intOf]; omega
    · obtain rfl : r = l.length := by omega
      rw [List.take_length]
      go_wp2
      go_ret
      exact ⟨rfl, rfl⟩

def rightP (l : List UInt8) : Bool := leN (l.drop (l.length - 4)) == sumN (l.take (l.length - 4))

theorem rightB_long {l : List UInt8} (h : 4 ≤ l.length) : rightB l = rightP l := by
  unfold rightB rightP
  rw [decide_eq_true h, Bool.true_and]
theorem rightB_short {l : List UInt8} (h : ¬ 4 ≤ l.length) : rightB l = false := by
  unfold rightB
  rw [decide_eq_false h, Bool.false_and]

theorem nat_beq (a b : Nat) : ((a : Int) == (b : Int)) = (a == b) := by
  by_cases h : a = b
  · subst h; simp
  · rw [beq_eq_false_iff_ne.2 h, beq_eq_false_iff_ne.2 (by omega)]

theorem run_slice_from_bs {P : Program} {t e : TypeId} (T : ByteTy P t e) (w : World) {v : Value} {l : List UInt8} (hv : Bs w v l) (k1 : IntKind) (lo : Nat) (h : lo ≤ l.length) :
    ∃ v', (∀ w1, (Instr.slice t v (some (.int k1 (lo : Int))) none none).run P w1 = .ok v' w1) ∧ Bs w v' (l.drop lo) := by
  obtain ⟨a, cap, rfl, g1, g2, g3, g4⟩ := hv
  refine ⟨sliced a lo l.length cap 1, fun w1 => ?_, by simpa using bs_sliced g1 g2 g3 g4 lo l.length h (Nat.le_refl _)⟩
  rw [run_slice_l w1 t a _ cap T.slice' k1 _ (by omega) (by omega), T.elem, T.run_size]
  simp [Result.andThen]

set_option maxHeartbeats 1000000 in
theorem right_any {b : Value} {l : List UInt8} (w : World) (hb : Bs w b l) :
    Calls Try.prog 71 #[b] w fun e w' => e = .returned (.bool (rightB l)) ∧ ∃ n, w' = w.drewN n := by
  have hlen := hb.len
  by_cases h4 : 4 ≤ l.length
  · rw [rightB_long h4]
    obtain ⟨v1, r1, s1⟩ := run_slice_from_bs bt w hb .i64 (l.length - 4) (by omega)
    obtain ⟨v2, r2, s2⟩ := run_slice_to_bs bt w hb .i64 (l.length - 4) (by omega)
    have hd : (l.drop (l.length - 4)).length ≤ 4 := by simp; omega
    rw [show ((l.length - 4 : Nat) : Int) = (l.length : Int) - 4 by omega] at r1 r2
    unfold rightP
    rw [← nat_beq]
    generalize l.drop (l.length - 4) = p at *
    generalize l.take (l.length - 4) = q at *
    obtain ⟨a, cap, rfl, hb⟩ := hb.shape
    have hg : decide ((4 : Int) ≤ (l.length : Int)) = true := decide_eq_true (by omega)
    have hp : (0 : Int) ≤ (l.length : Int) - 4 := by omega
    clear h4
    go_enter Try.func71, Try.ntmps71
    go_wp2_with fail
    go_quiet (first | (go_at_call 78; exact quiet_left (lowest_any _ (s1.drewN _) hd)) | (go_at_call 47; exact quiet_left (sum_any _ (s2.drewN _))))
    go_wp2
    go_ret
    exact ⟨rfl, _, rfl⟩
  · rw [rightB_short h4]
    have hd : decide ((4 : Int) ≤ (l.length : Int)) = false := decide_eq_false (by omega)
    have hp : (l.length : Int) - 4 < 0 := by omega
    clear h4
    obtain ⟨a, cap, rfl, hb⟩ := hb.shape
    go_enter Try.func71, Try.ntmps71
    go_wp2_with fail
    go_quiet (fail)
    go_wp2
    go_ret
    exact ⟨rfl, _, rfl⟩

theorem leN_four (x0 x1 x2 x3 : UInt8) : leN [x0, x1, x2, x3] = x0.toNat + x1.toNat * 256 + x2.toNat * 65536 + x3.toNat * 16777216 := by
  simp only [leN]; omega

theorem ret_bool {a b : Bool} (h : a = b) : Ending.returned (.bool a) = .returned (.bool b) := by rw [h]

end Go.Proofs.Ytcpapdpnnlnemaa
namespace Go.Proofs.Ytcpapdpnnlnemaa
open Go.RowKit

/-- The four bytes of a number, the lowest first. -/
def four (s : Nat) : List UInt8 := [UInt8.ofNat s, UInt8.ofNat (s / 256), UInt8.ofNat (s / 65536), UInt8.ofNat (s / 16777216)]

theorem leN_four_eq (s : Nat) (h : s < 4294967296) : leN (four s) = s := by
  unfold four
  rw [leN_four]
  simp only [UInt8.toNat_ofNat']
  omega

theorem right_sealed (l : List UInt8) : rightB (l ++ four (sumN l)) = true := by
  have h4 : (l ++ four (sumN l)).length - 4 = l.length := by simp [four]
  unfold rightB
  rw [h4, List.drop_left, List.take_left, leN_four_eq _ (sumN_lt l)]
  simp [four]

/-- The bits of t, up to i, turned from at on. -/
def Turned (l m : List UInt8) (at_ t i : Nat) : Prop := m.length = l.length ∧ leN m = leN l ^^^ (t % 2 ^ i) * 2 ^ at_

theorem Turned.zero (l : List UInt8) (at_ t : Nat) : Turned l l at_ t 0 := ⟨rfl, by simp [Nat.mod_one]⟩
theorem Turned.skip {l m : List UInt8} {at_ t i : Nat} (h : Turned l m at_ t i) (hb : t / 2 ^ i % 2 = 0) : Turned l m at_ t (i + 1) := by
  refine ⟨h.1, ?_⟩
  rw [h.2, mod_succ, hb, Nat.zero_mul, Nat.xor_zero]

theorem Turned.turn {l m : List UInt8} {at_ t i : Nat} (h : Turned l m at_ t i) (hb : t / 2 ^ i % 2 = 1) (hi : (at_ + i) / 8 < m.length) :
    Turned l (turnL m ((at_ + i) / 8) (2 ^ ((at_ + i) % 8))) at_ t (i + 1) := by
  have hm : 2 ^ ((at_ + i) % 8) < 256 := by
    have : 2 ^ ((at_ + i) % 8) ≤ 2 ^ 7 := Nat.pow_le_pow_right (by decide) (by omega)
    omega
  refine ⟨by rw [turnL_length]; exact h.1, ?_⟩
  rw [leN_turn _ _ _ hi hm, h.2, mod_succ, hb, Nat.one_mul, xor_mul, ← Nat.pow_add, ← Nat.pow_add, Nat.xor_assoc]
  congr 3
  omega

theorem turned_right {l m : List UInt8} {at_ t : Nat} (h4 : 4 ≤ l.length) (hr : rightB l = true) (ht : t < 4294967296) (hat : at_ ≤ 8 * l.length) (h : Turned l m at_ t 32) : rightB m = decide (t = 0) := by
  apply right_turned l m at_ t h4 h.1 hr ht hat
  rw [h.2, Nat.mod_eq_of_lt ht]

theorem u8_one_shl (j : Nat) (h : j < 8) : (2 : Int) ^ j % 256 = ((2 ^ j : Nat) : Int) := by
  have h1 : 2 ^ j ≤ 2 ^ 7 := Nat.pow_le_pow_right (by decide) (by omega)
  have h2 : (2 : Int) ^ j = ((2 ^ j : Nat) : Int) := by simp
  rw [h2]
  generalize 2 ^ j = q at *
  omega

theorem turn_val (y : UInt8) (j : Nat) (h : j < 8) : Value.int .u8 (bits .xor .u8 (y.toNat : Int) ((2 : Int) ^ j % 256)) = bv (UInt8.ofNat (y.toNat ^^^ 2 ^ j)) := by
  have h1 : 2 ^ j ≤ 2 ^ 7 := Nat.pow_le_pow_right (by decide) (by omega)
  have h2 : y.toNat ^^^ 2 ^ j < 256 := Nat.xor_lt_two_pow (n := 8) y.toNat_lt (by omega)
  rw [u8_one_shl j h, u8_xor_nat y.toNat (2 ^ j) y.toNat_lt (by omega)]
  unfold bv
  rw [UInt8.toNat_ofNat', Nat.mod_eq_of_lt h2]

theorem four_cells (s : Nat) (h : s < 4294967296) : (#[.int .u8 ((s : Int) % 256), .int .u8 ((s : Int) / 256 % 256), .int .u8 ((s : Int) / 65536 % 256), .int .u8 ((s : Int) / 16777216)] : Array Value) = (bvs (four s)).toArray := by
  simp only [bvs, four, List.map_cons, List.map_nil, bv, UInt8.toNat_ofNat']
  have e1 : ((s % 2 ^ 8 : Nat) : Int) = (s : Int) % 256 := by omega
  have e2 : ((s / 256 % 2 ^ 8 : Nat) : Int) = (s : Int) / 256 % 256 := by omega
  have e3 : ((s / 65536 % 2 ^ 8 : Nat) : Int) = (s : Int) / 65536 % 256 := by omega
  have e4 : ((s / 16777216 % 2 ^ 8 : Nat) : Int) = (s : Int) / 16777216 := by omega
  rw [e1, e2, e3, e4]
end Go.Proofs.Ytcpapdpnnlnemaa
namespace Go.Proofs.Ytcpapdpnnlnemaa
open Go.Lib (compareBytes)

/-- The number that bytes are, the highest first. -/
def beNat (l : List UInt8) : Nat := l.foldl (fun n x => n * 256 + x.toNat) 0

/-- The lowest k bytes of n, the highest first. -/
def beL (n : Nat) : Nat → List UInt8
  | 0 => []
  | k + 1 => UInt8.ofNat (n / 2 ^ (8 * k)) :: beL n k

theorem beL_length (n : Nat) : ∀ k, (beL n k).length = k
  | 0 => rfl
  | k + 1 => by simp [beL, beL_length n k]

theorem foldl_acc (l : List UInt8) : ∀ a : Nat, l.foldl (fun n x => n * 256 + x.toNat) a = a * 256 ^ l.length + beNat l := by
  induction l with
  | nil => intro a; simp [beNat]
  | cons x l ih =>
    intro a
    have h1 := ih (a * 256 + x.toNat)
    have h2 := ih (0 * 256 + x.toNat)
    simp only [beNat, List.foldl_cons, List.length_cons] at *
    rw [h1, h2, Nat.pow_succ]
    simp only [Nat.add_mul, Nat.zero_mul, Nat.zero_add, Nat.mul_assoc, Nat.mul_comm (256 ^ l.length) 256, Nat.add_assoc]

theorem beNat_cons (x : UInt8) (l : List UInt8) : beNat (x :: l) = x.toNat * 256 ^ l.length + beNat l := by
  have := foldl_acc l (0 * 256 + x.toNat)
  simp only [beNat, List.foldl_cons] at *
  rw [this]
  simp

theorem beNat_append (a b : List UInt8) : beNat (a ++ b) = beNat a * 256 ^ b.length + beNat b := by
  unfold beNat
  rw [List.foldl_append, foldl_acc]
  rfl

theorem beNat_snoc (a : List UInt8) (x : UInt8) : beNat (a ++ [x]) = beNat a * 256 + x.toNat := by
  rw [beNat_append]; simp [beNat]

theorem beNat_take_succ (l : List UInt8) (r : Nat) (x : UInt8) (h : l[r]? = some x) : beNat (l.take (r + 1)) = beNat (l.take r) * 256 + x.toNat := by
  rw [List.take_add_one, h]
  exact beNat_snoc _ _

theorem beNat_lt (l : List UInt8) : beNat l < 256 ^ l.length := by
  induction l with
  | nil => simp [beNat]
  | cons x l ih =>
    rw [beNat_cons, List.length_cons, Nat.pow_succ]
    have h := x.toNat_lt
    have h1 : x.toNat * 256 ^ l.length ≤ 255 * 256 ^ l.length := Nat.mul_le_mul_right _ (by omega)
    omega

theorem pow_256 (k : Nat) : 2 ^ (8 * k) = 256 ^ k := by rw [Nat.pow_mul]

theorem beNat_beL (n : Nat) : ∀ k, beNat (beL n k) = n % 256 ^ k
  | 0 => by simp [beL, beNat, Nat.mod_one]
  | k + 1 => by
    rw [beL, beNat_cons, beNat_beL n k, beL_length, pow_256, Nat.pow_succ, Nat.mod_mul, UInt8.toNat_ofNat']
    simp only [Nat.reducePow]
    rw [Nat.mul_comm, Nat.add_comm]

theorem beL_get (n : Nat) : ∀ (k r : Nat), r < k → (beL n k)[r]? = some (UInt8.ofNat (n / 2 ^ (8 * (k - 1 - r))))
  | 0, r, h => by omega
  | k + 1, 0, _ => by simp [beL]
  | k + 1, r + 1, h => by
    have := beL_get n k r (by omega)
    rw [beL, List.getElem?_cons_succ, this]
    have e : k - 1 - r = k + 1 - 1 - (r + 1) := by omega
    rw [e]

theorem beL_take_succ (n k r : Nat) (h : r < k) : (beL n k).take (r + 1) = (beL n k).take r ++ [UInt8.ofNat (n / 2 ^ (8 * (k - 1 - r)))] := by
  rw [List.take_add_one, beL_get n k r h]
  rfl

theorem beL_take_all (n k : Nat) : (beL n k).take k = beL n k := List.take_of_length_le (by rw [beL_length]; omega)

/-! ### the order -/
theorem cmp_self : ∀ a : List UInt8, compareBytes a a = 0
  | [] => rfl
  | x :: a => by simp [compareBytes, cmp_self a]

theorem cmp_neg : ∀ a b : List UInt8, compareBytes b a = - compareBytes a b
  | [], [] => rfl
  | [], _ :: _ => rfl
  | _ :: _, [] => rfl
  | x :: a, y :: b => by
    simp only [compareBytes]
    by_cases h1 : x < y
    · have h2 : ¬ y < x := by simp only [UInt8.lt_iff_toNat_lt] at *; omega
      simp [h1, h2]
    · by_cases h2 : y < x
      · simp [h1, h2]
      · simp [h1, h2, cmp_neg a b]

theorem cmp_eq_zero : ∀ a b : List UInt8, compareBytes a b = 0 ↔ a = b
  | [], [] => by simp [compareBytes]
  | [], _ :: _ => by simp [compareBytes]
  | _ :: _, [] => by simp [compareBytes]
  | x :: a, y :: b => by
    simp only [compareBytes, List.cons.injEq]
    by_cases h1 : x < y
    · have : x ≠ y := by intro h; subst h; exact absurd h1 (UInt8.lt_irrefl x)
      simp [h1, this]
    · by_cases h2 : y < x
      · have : x ≠ y := by intro h; subst h; exact absurd h2 (UInt8.lt_irrefl x)
        simp [h1, h2, this]
      · have : x = y := UInt8.le_antisymm (UInt8.not_lt.1 h2) (UInt8.not_lt.1 h1)
        simp [this, cmp_eq_zero a b]

theorem cmp_three : ∀ a b : List UInt8, compareBytes a b = -1 ∨ compareBytes a b = 0 ∨ compareBytes a b = 1
  | [], [] => by simp [compareBytes]
  | [], _ :: _ => by simp [compareBytes]
  | _ :: _, [] => by simp [compareBytes]
  | x :: a, y :: b => by
    simp only [compareBytes]
    split
    · simp
    · split
      · simp
      · exact cmp_three a b

theorem cmp_trans : ∀ a b c : List UInt8, compareBytes a b ≤ 0 → compareBytes b c ≤ 0 → compareBytes a c ≤ 0
  | [], _, [], _, _ => by simp [compareBytes]
  | [], _, _ :: _, _, _ => by simp [compareBytes]
  | _ :: _, [], _, h, _ => by simp [compareBytes] at h
  | _ :: _, _ :: _, [], _, h => by simp [compareBytes] at h
  | x :: a, y :: b, z :: c, h, k => by
    simp only [compareBytes] at *
    by_cases h1 : x < y
    · by_cases k1 : y < z
      · simp [UInt8.lt_trans h1 k1]
      · simp only [k1, if_false] at k
        by_cases k2 : z < y
        · simp [k2] at k
        · have : y = z := UInt8.le_antisymm (UInt8.not_lt.1 k2) (UInt8.not_lt.1 k1)
          subst this; simp [h1]
    · simp only [h1, if_false] at h
      by_cases h2 : y < x
      · simp [h2] at h
      · have : x = y := UInt8.le_antisymm (UInt8.not_lt.1 h2) (UInt8.not_lt.1 h1)
        subst this
        simp only [UInt8.lt_irrefl, if_false] at h
        by_cases k1 : x < z
        · simp [k1]
        · simp only [k1, if_false] at *
          by_cases k2 : z < x
          · simp [k2] at k
          · simp only [k2, if_false] at *
            exact cmp_trans a b c h k

theorem cmp_head (h a b : List UInt8) : compareBytes (h ++ a) (h ++ b) = compareBytes a b := by
  induction h with
  | nil => rfl
  | cons x h ih => simpa [compareBytes] using ih

/-- Of lists of one length the order is that of their numbers. -/
theorem cmp_nat : ∀ a b : List UInt8, a.length = b.length → compareBytes a b = if beNat a < beNat b then -1 else if beNat b < beNat a then 1 else 0
  | [], [], _ => by simp [compareBytes]
  | [], _ :: _, h => by simp at h
  | _ :: _, [], h => by simp at h
  | x :: a, y :: b, h => by
    have hl : a.length = b.length := by simpa using h
    have ih := cmp_nat a b hl
    have ha := beNat_lt a
    have hb := beNat_lt b
    rw [hl] at ha
    rw [beNat_cons, beNat_cons, hl]
    simp only [compareBytes]
    generalize 256 ^ b.length = q at *
    by_cases h1 : x < y
    · have h1' : x.toNat < y.toNat := UInt8.lt_iff_toNat_lt.1 h1
      have : x.toNat * q + q ≤ y.toNat * q := by rw [← Nat.succ_mul]; exact Nat.mul_le_mul_right _ h1'
      simp only [h1, if_true]
      rw [if_pos (by omega)]
    · by_cases h2 : y < x
      · have h2' : y.toNat < x.toNat := UInt8.lt_iff_toNat_lt.1 h2
        have : y.toNat * q + q ≤ x.toNat * q := by rw [← Nat.succ_mul]; exact Nat.mul_le_mul_right _ h2'
        simp only [h1, h2, if_false, if_true]
        rw [if_neg (by omega), if_pos (by omega)]
      · have : x = y := UInt8.le_antisymm (UInt8.not_lt.1 h2) (UInt8.not_lt.1 h1)
        subst this
        simp only [UInt8.lt_irrefl, if_false]
        rw [ih]
        generalize x.toNat * q = z
        by_cases c1 : beNat a < beNat b
        · rw [if_pos c1, if_pos (by omega)]
        · by_cases c2 : beNat b < beNat a
          · rw [if_neg c1, if_pos c2, if_neg (by omega), if_pos (by omega)]
          · rw [if_neg c1, if_neg c2, if_neg (by omega), if_neg (by omega)]

theorem cmp_take (l m : List UInt8) (r : Nat) (h : l.take r = m.take r) : compareBytes l m = compareBytes (l.drop r) (m.drop r) := by
  have h1 := (List.take_append_drop r l).symm
  have h2 := (List.take_append_drop r m).symm
  rw [h] at h1
  have : compareBytes l m = compareBytes (m.take r ++ l.drop r) (m.take r ++ m.drop r) := by rw [← h1, ← h2]
  rw [this, cmp_head]

theorem drop_get (l : List UInt8) (r : Nat) (x : UInt8) (h : l[r]? = some x) : l.drop r = x :: l.drop (r + 1) := by
  obtain ⟨hr, rfl⟩ := List.getElem?_eq_some_iff.1 h
  exact List.drop_eq_getElem_cons hr

theorem cmp_lt {l m : List UInt8} {r : Nat} {x y : UInt8} (h : l.take r = m.take r) (hx : l[r]? = some x) (hy : m[r]? = some y) (hlt : x.toNat < y.toNat) : compareBytes l m = -1 := by
  rw [cmp_take l m r h, drop_get l r x hx, drop_get m r y hy]
  simp [compareBytes, UInt8.lt_iff_toNat_lt, hlt]
theorem cmp_gt {l m : List UInt8} {r : Nat} {x y : UInt8} (h : l.take r = m.take r) (hx : l[r]? = some x) (hy : m[r]? = some y) (hlt : y.toNat < x.toNat) : compareBytes l m = 1 := by
  have : ¬ x.toNat < y.toNat := by omega
  rw [cmp_take l m r h, drop_get l r x hx, drop_get m r y hy]
  simp [compareBytes, UInt8.lt_iff_toNat_lt, hlt, this]
theorem take_more {l m : List UInt8} {r : Nat} {x y : UInt8} (h : l.take r = m.take r) (hx : l[r]? = some x) (hy : m[r]? = some y) (he : x.toNat = y.toNat) : l.take (r + 1) = m.take (r + 1) := by
  have : x = y := UInt8.toNat_inj.1 he
  rw [List.take_add_one, List.take_add_one, h, hx, hy, this]
theorem cmp_short {l m : List UInt8} (h : l.take l.length = m.take l.length) (hlt : l.length < m.length) : compareBytes l m = -1 := by
  rw [cmp_take l m _ h, List.drop_length]
  cases hm : m.drop l.length with
  | nil => have := congrArg List.length hm; simp at this; omega
  | cons x t => rfl
theorem cmp_long {l m : List UInt8} (h : l.take m.length = m.take m.length) (hlt : m.length < l.length) : compareBytes l m = 1 := by
  rw [cmp_take l m _ h, List.drop_length]
  cases hm : l.drop m.length with
  | nil => have := congrArg List.length hm; simp at this; omega
  | cons x t => rfl
theorem cmp_same {l m : List UInt8} (h : l.take l.length = m.take l.length) (hlt : l.length = m.length) : compareBytes l m = 0 := by
  rw [cmp_take l m _ h, List.drop_length, hlt, List.drop_length]
  rfl

theorem cmp_after : ∀ a : List UInt8, compareBytes a (a ++ [0]) = -1
  | [] => rfl
  | x :: a => by simpa [compareBytes] using cmp_after a

theorem cmp_after_le : ∀ a b : List UInt8, compareBytes a b < 0 → compareBytes (a ++ [0]) b ≤ 0
  | [], [], h => by simp [compareBytes] at h
  | _ :: _, [], h => by simp [compareBytes] at h
  | [], y :: b, _ => by
    simp only [List.nil_append, compareBytes]
    by_cases h1 : 0 < y
    · simp [h1]
    · have : ¬ y < 0 := by simp [UInt8.lt_iff_toNat_lt]
      simp only [h1, this, if_false]
      cases b <;> simp [compareBytes]
  | x :: a, y :: b, h => by
    simp only [List.cons_append, compareBytes] at *
    by_cases h1 : x < y
    · simp [h1]
    · simp only [h1, if_false] at *
      by_cases h2 : y < x
      · simp [h2] at h
      · simp only [h2, if_false] at *
        exact cmp_after_le a b h

end Go.Proofs.Ytcpapdpnnlnemaa
namespace Go.Proofs.Ytcpapdpnnlnemaa
open Go.RowKit

/-! ### bytes laid over others -/
theorem leN_inj : ∀ (a b : List UInt8), a.length = b.length → leN a = leN b → a = b
  | [], [], _, _ => rfl
  | x :: a, y :: b, h, e => by
    have hx := x.toNat_lt
    have hy := y.toNat_lt
    simp only [leN] at e
    have h1 : x.toNat = y.toNat := by omega
    have h2 : leN a = leN b := by omega
    rw [UInt8.toNat_inj.1 h1, leN_inj a b (by simpa using h) h2]

theorem beNat_inj : ∀ (a b : List UInt8), a.length = b.length → beNat a = beNat b → a = b := by
  intro a b h e
  have h1 := leN_inj a.reverse b.reverse (by simpa using h)
  have h2 : ∀ l : List UInt8, leN l.reverse = beNat l := by
    intro l
    induction l with
    | nil => rfl
    | cons x l ih =>
      rw [List.reverse_cons, leN_append, ih, beNat_cons, List.length_reverse]
      simp only [leN]
      rw [Nat.mul_zero, Nat.add_zero, Nat.add_comm]
  rw [h2, h2] at h1
  simpa using h1 e

theorem beL_two_of (a : List UInt8) (h : a.length = 2) : beL (beNat a) 2 = a := by
  apply beNat_inj
  · rw [beL_length, h]
  · have := beNat_lt a
    rw [h] at this
    rw [beNat_beL, Nat.mod_eq_of_lt this]

/-- All ahead of the sum. -/
def aheadL (k : UInt8) (body : List UInt8) : List UInt8 := k :: (beL body.length 2 ++ (body ++ List.replicate (505 - body.length) 0))
def sealL (k : UInt8) (body : List UInt8) : List UInt8 := aheadL k body ++ four (sumN (aheadL k body))

theorem four_length (s : Nat) : (four s).length = 4 := rfl
theorem aheadL_length {k : UInt8} {body : List UInt8} (h : body.length ≤ 505) : (aheadL k body).length = 508 := by
  simp [aheadL, beL_length]; omega
theorem sealL_length {k : UInt8} {body : List UInt8} (h : body.length ≤ 505) : (sealL k body).length = 512 := by
  simp [sealL, aheadL_length h, four_length]
theorem sealL_take {k : UInt8} {body : List UInt8} (h : body.length ≤ 505) : (sealL k body).take 508 = aheadL k body := by
  unfold sealL
  rw [← aheadL_length (k := k) h, List.take_left]
theorem sealL_right (k : UInt8) (body : List UInt8) : rightB (sealL k body) = true := right_sealed _

/-- Bytes that are right are those ahead and their sum. -/
theorem right_form {l : List UInt8} (h : l.length = 512) (hr : rightB l = true) : l = l.take 508 ++ four (sumN (l.take 508)) := by
  have h1 : l.drop 508 = four (sumN (l.take 508)) := by
    apply leN_inj
    · rw [four_length, List.length_drop, h]
    · rw [leN_four_eq _ (sumN_lt _)]
      rw [rightB_long (by omega)] at hr
      unfold rightP at hr
      rw [h] at hr
      exact beq_iff_eq.1 hr
  rw [← h1, List.take_append_drop]

/-- How long the body says that it is. -/
def nOf (l : List UInt8) : Nat := beNat ((l.drop 1).take 2)
def noughtsB (l : List UInt8) : Bool := l.all (· == 0)
def openOk (l : List UInt8) : Bool := decide (nOf l ≤ 505) && (l.getD 0 0 != 0) && noughtsB ((l.take 508).drop (3 + nOf l))
/-- What Open answers: the kind, the body, the error. -/
def openV (l : List UInt8) : UInt8 × List UInt8 × Int :=
  if l.length = 512 ∧ rightB l = true then (if openOk l = true then (l.getD 0 0, (l.drop 3).take (nOf l), 0) else (0, [], 5)) else (0, [], 9)

theorem openV_spoilt {l : List UInt8} (h : ¬ (l.length = 512 ∧ rightB l = true)) : openV l = (0, [], 9) := if_neg h
theorem openV_bad {l : List UInt8} (h : l.length = 512 ∧ rightB l = true) (ho : ¬ openOk l = true) : openV l = (0, [], 5) := by
  unfold openV
  rw [if_pos h, if_neg ho]
theorem openV_good {l : List UInt8} (h : l.length = 512 ∧ rightB l = true) (ho : openOk l = true) : openV l = (l.getD 0 0, (l.drop 3).take (nOf l), 0) := by
  unfold openV
  rw [if_pos h, if_pos ho]

theorem noughtsB_replicate (n : Nat) : noughtsB (List.replicate n 0) = true := by simp [noughtsB]
theorem noughtsB_iff (l : List UInt8) : noughtsB l = true ↔ l = List.replicate l.length 0 := by
  unfold noughtsB
  constructor
  · intro h
    apply List.eq_replicate_iff.2
    refine ⟨rfl, fun b hb => ?_⟩
    simpa using List.all_eq_true.1 h b hb
  · intro h
    rw [h]
    simp

theorem nOf_seal {k : UInt8} {body : List UInt8} (h : body.length ≤ 505) : nOf (sealL k body) = body.length := by
  have e : ((sealL k body).drop 1).take 2 = beL body.length 2 := by
    unfold sealL aheadL
    rw [List.cons_append, List.drop_succ_cons, List.drop_zero, List.append_assoc]
    exact List.take_left' (beL_length _ _)
  unfold nOf
  rw [e, beNat_beL]
  omega

theorem openOk_seal {k : UInt8} {body : List UInt8} (hk : k ≠ 0) (h : body.length ≤ 505) : openOk (sealL k body) = true := by
  unfold openOk
  rw [nOf_seal h, sealL_take h]
  have e : (aheadL k body).drop (3 + body.length) = List.replicate (505 - body.length) 0 := by
    unfold aheadL
    rw [show 3 + body.length = (2 + body.length) + 1 by omega, List.drop_succ_cons, ← List.append_assoc]
    exact List.drop_left' (by simp [beL_length])
  rw [e, noughtsB_replicate]
  have : (sealL k body).getD 0 0 = k := rfl
  rw [this]
  simp [h, hk]

theorem open_seal {k : UInt8} {body : List UInt8} (hk : k ≠ 0) (h : body.length ≤ 505) : openV (sealL k body) = (k, body, 0) := by
  rw [openV_good ⟨sealL_length h, sealL_right _ _⟩ (openOk_seal hk h), nOf_seal h]
  have e : ((sealL k body).drop 3).take body.length = body := by
    unfold sealL aheadL
    rw [List.cons_append, List.drop_succ_cons, List.append_assoc, List.drop_left' (beL_length _ _), List.append_assoc]
    exact List.take_left
  rw [e]
  rfl

theorem seal_of_ok {l : List UInt8} (h : l.length = 512 ∧ rightB l = true) (ho : openOk l = true) : l = sealL (l.getD 0 0) ((l.drop 3).take (nOf l)) ∧ l.getD 0 0 ≠ 0 ∧ ((l.drop 3).take (nOf l)).length = nOf l ∧ nOf l ≤ 505 := by
  obtain ⟨h1, h2⟩ := h
  unfold openOk at ho
  simp only [Bool.and_eq_true, decide_eq_true_eq, bne_iff_ne] at ho
  obtain ⟨⟨hn, hk⟩, hz⟩ := ho
  have hlen : ((l.drop 3).take (nOf l)).length = nOf l := by simp; omega
  refine ⟨?_, hk, hlen, hn⟩
  have hf := right_form h1 h2
  have ha : aheadL (l.getD 0 0) ((l.drop 3).take (nOf l)) = l.take 508 := by
    rw [noughtsB_iff] at hz
    have hzl : ((l.take 508).drop (3 + nOf l)).length = 505 - nOf l := by simp; omega
    rw [hzl] at hz
    unfold aheadL
    rw [hlen, ← hz]
    match l, h1 with
    | x :: m, h1 =>
      have e1 : nOf (x :: m) = beNat (m.take 2) := rfl
      rw [List.getD_cons_zero]
      have e2 : beL (nOf (x :: m)) 2 = m.take 2 := by rw [e1]; exact beL_two_of _ (by simp at h1 ⊢; omega)
      rw [e2]
      generalize nOf (x :: m) = n at *
      rw [show (508 : Nat) = 507 + 1 from rfl, List.take_succ_cons, show 3 + n = (2 + n) + 1 by omega, List.drop_succ_cons]
      congr 1
      rw [show List.drop (2 + n + 1) (x :: List.take 507 m) = (List.take 507 m).drop (2 + n) from rfl]
      have e3 : (m.drop 2).take n = (m.take (2 + n)).drop 2 := by rw [List.take_drop]
      have e4 : m.take 2 = (m.take (2 + n)).take 2 := by rw [List.take_take]; congr 1; omega
      have e5 : m.take (2 + n) = (m.take 507).take (2 + n) := by rw [List.take_take]; congr 1; omega
      rw [e3, e4, ← List.append_assoc, List.take_append_drop, e5, List.take_append_drop]
  unfold sealL
  rw [ha]
  exact hf

theorem seal_open {l : List UInt8} (h : (openV l).2.2 = 0) : l = sealL (openV l).1 (openV l).2.1 ∧ (openV l).1 ≠ 0 ∧ (openV l).2.1.length ≤ 505 := by
  by_cases h1 : l.length = 512 ∧ rightB l = true
  · by_cases h2 : openOk l = true
    · rw [openV_good h1 h2]
      obtain ⟨a, b, c, d⟩ := seal_of_ok h1 h2
      exact ⟨a, b, by show (List.take _ _).length ≤ _; omega⟩
    · rw [openV_bad h1 h2] at h
      cases h
  · rw [openV_spoilt h1] at h
    cases h

theorem openV_zero {l : List UInt8} (h : (openV l).2.2 ≠ 0) : (openV l).1 = 0 ∧ (openV l).2.1 = [] ∧ ((openV l).2.2 = 9 ∨ (openV l).2.2 = 5) := by
  by_cases h1 : l.length = 512 ∧ rightB l = true
  · by_cases h2 : openOk l = true
    · rw [openV_good h1 h2] at h
      exact absurd rfl h
    · rw [openV_bad h1 h2]
      exact ⟨rfl, rfl, .inr rfl⟩
  · rw [openV_spoilt h1]
    exact ⟨rfl, rfl, .inl rfl⟩

/-- The document's way: sealed again, it is the same. -/
theorem openOk_iff {l : List UInt8} (h : l.length = 512 ∧ rightB l = true) (hn : nOf l ≤ 505) : openOk l = true ↔ l.getD 0 0 ≠ 0 ∧ sealL (l.getD 0 0) ((l.drop 3).take (nOf l)) = l := by
  constructor
  · intro ho
    obtain ⟨a, b, _, _⟩ := seal_of_ok h ho
    exact ⟨b, a.symm⟩
  · rintro ⟨hk, he⟩
    have hlen : ((l.drop 3).take (nOf l)).length ≤ 505 := by have := List.length_take_le (nOf l) (l.drop 3); omega
    have := openOk_seal hk hlen
    rwa [he] at this
end Go.Proofs.Ytcpapdpnnlnemaa
namespace Go.Proofs.Ytcpapdpnnlnemaa

section
variable {P : Program} {ops : Array Oper} {Q : Exit → Act → World → Prop} {md : Region.Mode} {S : World → Prop} {t : Nat}

/-- Whatever order is picked; S holds behind each operation but number t. -/
def AnyTill (P : Program) (md : Region.Mode) (ops : Array Oper) (Q : Exit → Act → World → Prop) (S : World → Prop) (t : Nat) : Nat → Array Bool → Act → World → Prop
  | 0, listed, a, w => Region.ready md ops listed = [] ∧ Q .normal a w
  | n + 1, listed, a, w => (Region.ready md ops listed = [] → Q .normal a w) ∧
      ∀ i ∈ Region.ready md ops listed, wpOp P ops Q i (fun a' w' => (i ≠ t → S w') ∧ AnyTill P md ops Q S t n (listed.setIfInBounds i true) a' w') a w

theorem AnyTill.any : ∀ (n : Nat) (listed : Array Bool) (a : Act) (w : World), AnyTill P md ops Q S t n listed a w → wpAny P md ops Q n listed a w
  | 0, _, _, _, h => h
  | n + 1, _, _, _, h => ⟨h.1, fun i hi => wpOp_mono (fun a' w' hh => AnyTill.any n _ a' w' hh.2) (h.2 i hi)⟩

/-- No operation that is ready waits for one that has not come up. -/
theorem ready_waits {listed : Array Bool} {i j : Nat} {oj : Oper} (hi : i ∈ Region.ready md ops listed) (hj : j ∈ Region.ready md ops listed) (hoj : ops[j]? = some oj) : ∀ e ∈ oj.after, Region.binds md e = true → e.on ≠ i := by
  intro e he hb heq
  obtain ⟨_, o', ho', hall⟩ := mem_ready.1 hj
  obtain rfl : oj = o' := Option.some.inj (hoj.symm.trans ho')
  have h1 := hall e he hb
  have h0 := (mem_ready.1 hi).1
  rw [heq] at h1
  by_cases hl : i < listed.size
  · rw [Array.getD_eq_getD_getElem?, Array.getElem?_eq_getElem hl] at h0 h1
    simp only [Option.getD_some] at h0 h1
    rw [h0] at h1
    cases h1
  · rw [Array.getD_eq_getD_getElem?, Array.getElem?_eq_none (by omega)] at h1
    cases h1

theorem AnyTill.first {i : Nat} {oi : Oper} {v : Value} (hi : ops[i]? = some oi) (hwait : ∀ ot, ops[t]? = some ot → ∃ e ∈ ot.after, Region.binds md e = true ∧ e.on = i)
    (hsel : ∀ (j : Nat) (o : Oper) cs b, ops[j]? = some o → o.op ≠ .select cs b) (hQ : ∀ c a w, Q (.panic c) (a.put oi.dst v) w → Q (.panic c) a w) :
    ∀ (n : Nat) (listed : Array Bool) (a : Act) (w : World),
      (∀ j oj, ops[j]? = some oj → j ≠ i → listed.getD j true = false → (∀ e ∈ oj.after, Region.binds md e = true → e.on ≠ i) → oi.apart ops oj = true) →
      i ∈ Region.ready md ops listed → YieldsIf P ops S oi v a → S w → i ≠ t →
      AnyTill P md ops Q S t n (listed.setIfInBounds i true) (a.put oi.dst v) w → AnyTill P md ops Q S t (n + 1) listed a w := by
  intro n
  induction n with
  | zero =>
    intro listed a w _ hr hy hS hit H
    refine ⟨fun h => absurd hr (by rw [h]; simp), fun j hj => ?_⟩
    rcases Decidable.em (j = i) with rfl | hji
    · exact hy.wpOp hi hS ⟨fun _ => hS, H⟩
    · exact absurd (ready_mono hj hji) (by rw [H.1]; simp)
  | succ n ih =>
    intro listed a w hfree hr hy hS hit H
    refine ⟨fun h => absurd hr (by rw [h]; simp), fun j hj => ?_⟩
    rcases Decidable.em (j = i) with rfl | hji
    · exact hy.wpOp hi hS ⟨fun _ => hS, H⟩
    obtain ⟨hun, oj, hoj, _⟩ := mem_ready.1 hj
    have hno := ready_waits hr hj hoj
    have hjt : j ≠ t := by
      rintro rfl
      obtain ⟨e, he, hb, hon⟩ := hwait oj hoj
      exact hno e he hb hon
    have step := wpOp_putIf hoj (hfree j oj hoj hji hun hno) (fun cs b => hsel i oi cs b hi) (fun cs b => hsel j oj cs b hoj) hQ hy (H.2 j (ready_mono hj hji))
    refine wpOp_mono (fun a' w' ⟨hy', hS', hrest⟩ => ⟨hS', ih _ a' w' (fun k ok hk hki hunk hnk => ?_) (ready_mono hr (fun e => hji e.symm)) hy' (hS' hjt) hit ?_⟩) step
    · refine hfree k ok hk hki ?_ hnk
      rcases Decidable.em (j = k) with rfl | hjk
      · exact hun
      · rwa [getD_set_ne true hjk] at hunk
    · rw [Array.setIfInBounds_comm _ _ hji]
      exact hrest

/-- Does the last operation wait for number i? (If there is no number t: yes.) -/
def waitsB (md : Region.Mode) (ops : Array Oper) (t i : Nat) : Bool :=
  match ops[t]? with
  | some o => o.after.any fun e => Region.binds md e && e.on == i
  | none => true

/-- Number i is taken first; its slot is d. -/
theorem take_till {i : Nat} {oi : Oper} (d : Option Tmp) (v : Value) {n : Nat} {listed : Array Bool} {a : Act} {w : World} (hi : ops[i]? = some oi) (hd : oi.dst = d) (hs : Region.noSelect ops = true) (hf : Region.free md ops listed i = true)
    (hr : (Region.ready md ops listed).contains i = true) (hwt : waitsB md ops t i = true) (hit : i ≠ t) (hQ : ∀ c a w, Q (.panic c) (a.put d v) w → Q (.panic c) a w)
    (hw : Region.wanted oi (yielded ops a.tmps) = true) (hy : ∀ w, S w → (execOp a.eval oi).run P w = .ok (.value v) w) (hS : S w)
    (h : AnyTill P md ops Q S t n (listed.setIfInBounds i true) (a.put d v) w) : AnyTill P md ops Q S t (n + 1) listed a w := by
  subst hd
  refine AnyTill.first hi (fun ot hot => ?_) (Region.noSelect_spec hs) hQ n listed a w (Region.free_spec hi hf) (by simpa using hr) (.inl ⟨hw, hy⟩) hS hit h
  unfold waitsB at hwt
  rw [hot] at hwt
  obtain ⟨e, he, hb⟩ := Array.any_eq_true'.1 hwt
  simp only [Bool.and_eq_true, beq_iff_eq] at hb
  exact ⟨e, he, hb.1, hb.2⟩

/-- Number i's guard is against it. -/
theorem skip_till {i : Nat} {oi : Oper} (d : Option Tmp) {n : Nat} {listed : Array Bool} {a : Act} {w : World} (hi : ops[i]? = some oi) (hd : oi.dst = d) (hs : Region.noSelect ops = true) (hf : Region.free md ops listed i = true)
    (hr : (Region.ready md ops listed).contains i = true) (hwt : waitsB md ops t i = true) (hit : i ≠ t) (hQ : ∀ c a w, Q (.panic c) (a.put d undef) w → Q (.panic c) a w)
    (hw : Region.wanted oi (yielded ops a.tmps) = false) (hS : S w)
    (h : AnyTill P md ops Q S t n (listed.setIfInBounds i true) (a.put d undef) w) : AnyTill P md ops Q S t (n + 1) listed a w := by
  subst hd
  refine AnyTill.first hi (fun ot hot => ?_) (Region.noSelect_spec hs) hQ n listed a w (Region.free_spec hi hf) (by simpa using hr) (.inr ⟨hw, rfl⟩) hS hit h
  unfold waitsB at hwt
  rw [hot] at hwt
  obtain ⟨e, he, hb⟩ := Array.any_eq_true'.1 hwt
  simp only [Bool.and_eq_true, beq_iff_eq] at hb
  exact ⟨e, he, hb.1, hb.2⟩

/-- The one that is ready comes up next. -/
theorem next_till (i : Nat) {o : Oper} {n : Nat} {listed : Array Bool} {a : Act} {w : World} (hr : Region.ready md ops listed = [i]) (ho : ops[i]? = some o)
    (h : ∀ K : Act → World → Prop, Shut (∀ a w, (i ≠ t → S w) → AnyTill P md ops Q S t n (listed.setIfInBounds i true) a w → K a w) → if Region.wanted o (yielded ops a.tmps) = true then Oper.wp P o a w K Q else K (a.put o.dst undef) w) :
    AnyTill P md ops Q S t (n + 1) listed a w := by
  refine ⟨fun h0 => (by rw [hr] at h0; cases h0), fun j hj => ?_⟩
  rw [hr] at hj
  obtain rfl : j = i := by simpa using hj
  exact wpOp_step ho (fun K hK => h K (fun a w hS hW => hK a w ⟨hS, hW⟩))

/-- Two are ready. -/
theorem two_till (i j : Nat) {oi oj : Oper} {n : Nat} {listed : Array Bool} {a : Act} {w : World} (hr : Region.ready md ops listed = [i, j]) (hi : ops[i]? = some oi) (hj : ops[j]? = some oj)
    (h1 : ∀ K : Act → World → Prop, Shut (∀ a w, (i ≠ t → S w) → AnyTill P md ops Q S t n (listed.setIfInBounds i true) a w → K a w) → if Region.wanted oi (yielded ops a.tmps) = true then Oper.wp P oi a w K Q else K (a.put oi.dst undef) w)
    (h2 : ∀ K : Act → World → Prop, Shut (∀ a w, (j ≠ t → S w) → AnyTill P md ops Q S t n (listed.setIfInBounds j true) a w → K a w) → if Region.wanted oj (yielded ops a.tmps) = true then Oper.wp P oj a w K Q else K (a.put oj.dst undef) w) :
    AnyTill P md ops Q S t (n + 1) listed a w := by
  refine ⟨fun h0 => (by rw [hr] at h0; cases h0), fun x hx => ?_⟩
  rw [hr] at hx
  rcases List.mem_cons.1 hx with rfl | hx
  · exact wpOp_step hi (fun K hK => h1 K (fun a w hS hW => hK a w ⟨hS, hW⟩))
  · obtain rfl := List.mem_singleton.1 hx
    exact wpOp_step hj (fun K hK => h2 K (fun a w hS hW => hK a w ⟨hS, hW⟩))

theorem done_till {listed : Array Bool} {a : Act} {w : World} (hr : Region.ready md ops listed = []) (h : Q .normal a w) : ∀ n, AnyTill P md ops Q S t n listed a w
  | 0 => ⟨hr, h⟩
  | _ + 1 => ⟨fun _ => h, by rw [hr]; simp⟩

theorem region_till {id : Nat} {a : Act} {w : World} (t : Nat) (S : World → Prop) (hm : P.follows .mixedOrders = true) (hS : S w.drew)
    (h : S w.drew → AnyTill P .any ops Q S t ops.size (Array.replicate ops.size false) a w.drew) : (Code.region id ops true).wp P Q a w :=
  wp_region_any hm (AnyTill.any _ _ _ _ (h hS))

/-- A built-in append whose run is known. -/
theorem wp_append_run {o : Oper} {a : Act} {w w' : World} {v x v' : Value} {K : Act → World → Prop} (sl xl : Operand) (ty : TypeId) (ho : o.op = .call { callee := .builtin .append, args := #[sl, xl], argTypes := #[ty, ty] }) (hs : a.eval sl = v) (hx : a.eval xl = x)
    (hr : (Builtin.append_ #[ty, ty] o.type #[v, x]).run P w = .ok v' w') (h : K (a.put o.dst v') w') : Oper.wp P o a w K Q := by
  unfold Oper.wp execOp
  simp only [ho, resolve, invoke, builtin, Sem.run_bind, Sem.run_pure, Result.andThen_ok, List.map_toArray, List.map_cons, List.map_nil, hs, hx, hr]
  exact h

/-! ### in a round of a range over a function -/
theorem rows_wide {n : Nat} {row : String} {args : Array Value} {w : World} {R : Value → World → Prop} (h : Rows P row args w R) : RowsIn Fence.wide n P row args w R :=
  fun c cs _ => let ⟨v, w', r, s⟩ := h c cs; ⟨v, w', r, stepsIn_wide.2 s⟩

theorem oper_round {l n : Nat} {o : Oper} {a : Act} {w : World} {K : Act → World → Prop} (hnd : ∀ c, o.op ≠ .defer c) (h : Oper.wp P o a w K Q) : o.wpIn (Fence.wide.inRound l) n P a w K Q := by
  refine ⟨fun _ _ => trivial, ?_⟩
  unfold Oper.wp at h
  have e : o.semAt (Fence.wide.inRound l).round a.eval = execOp a.eval o := Oper.semAt_some l a.eval o hnd
  rw [e]
  generalize (execOp a.eval o).run P w = r at h ⊢
  cases r with
  | ok x w' =>
    cases x
    case enter f args => exact ⟨fun hh => (by cases hh), CallsIn.inRound l (callsIn_wide.2 (Calls.mono h (fun e w'' he => (by cases e <;> exact he))))⟩
    case row row args => exact ⟨fun hh => (by cases hh), rows_wide h⟩
    all_goals first | exact h | exact h.elim
  | halt x w' => cases x <;> first | exact h | exact h.elim

theorem any_round {l n : Nat} (hnd : ∀ (i : Nat) (o : Oper), ops[i]? = some o → ∀ c, o.op ≠ .defer c) (hlo : ¬ LetsOut Q) : ∀ (k : Nat) (listed : Array Bool) (a : Act) (w : World), wpAny P md ops Q k listed a w → wpAnyIn (Fence.wide.inRound l) n P md ops Q k listed a w
  | 0, _, _, _, h => h
  | k + 1, listed, a, w, h => by
    refine ⟨h.1, fun i hi => ?_⟩
    have hop := h.2 i hi
    unfold wpOp at hop
    unfold wpOpIn
    split
    · rename_i ho
      simp only [ho] at hop
      exact any_round hnd hlo k _ a w hop
    · rename_i o ho
      simp only [ho] at hop
      split
      · rename_i hw
        simp only [hw, if_true] at hop
        rcases hop with hop | hop
        · exact oper_round (hnd i o ho) (Oper.wp_mono (fun a w hh => any_round hnd hlo k _ a w hh) hop)
        · exact absurd hop.2 hlo
      · rename_i hw
        simp only [hw] at hop
        exact ⟨fun _ _ => trivial, any_round hnd hlo k _ _ w hop⟩

/-- No operation of a region is a defer statement. -/
def noDeferB (ops : Array Oper) : Bool := ops.all fun o => match o.op with | .defer _ => false | _ => true
theorem noDefer_spec (h : noDeferB ops = true) : ∀ (i : Nat) (o : Oper), ops[i]? = some o → ∀ c, o.op ≠ .defer c := by
  intro i o hi c hc
  obtain ⟨hl, e⟩ := Array.getElem?_eq_some_iff.1 hi
  have := Array.all_eq_true.1 h i hl
  rw [e, hc] at this
  cases this

/-- The region in a round. -/
theorem region_till_round {l n id : Nat} {a : Act} {w : World} (t : Nat) (S : World → Prop) (hm : P.follows .mixedOrders = true) (hnd : noDeferB ops = true) (hlo : ¬ LetsOut Q) (hS : S w.drew)
    (h : S w.drew → AnyTill P .any ops Q S t ops.size (Array.replicate ops.size false) a w.drew) : (Code.region id ops true).wpIn (Fence.wide.inRound l) n P Q a w :=
  wpIn_region_any hm (any_round (noDefer_spec hnd) hlo _ _ _ _ (AnyTill.any _ _ _ _ (h hS)))
end
end Go.Proofs.Ytcpapdpnnlnemaa
namespace Go.Proofs.Ytcpapdpnnlnemaa
open Go.RowKit

/-- The block is a row of these bytes. -/
def Arr (w : World) (g : Nat) (t : TypeId) (l : List UInt8) : Prop := w.heap[g]? = some (.cells (bvs l).toArray t (0, 0))

theorem Arr.lt {w : World} {g : Nat} {t : TypeId} {l : List UInt8} (h : Arr w g t l) : g < w.heap.size := (Array.getElem?_eq_some_iff.1 h).1

theorem Arr.below {w w' : World} {g : Nat} {t : TypeId} {l : List UInt8} {B : Nat} (h : Arr w g t l) (hb : Below B w w') (hg : g < B) : Arr w' g t l := by
  unfold Arr at *
  rw [hb.block g hg]; exact h

theorem Arr.drewN {w : World} {g : Nat} {t : TypeId} {l : List UInt8} (h : Arr w g t l) (n : Nat) : Arr (w.drewN n) g t l := h

theorem Arr.cell {w : World} {g : Nat} {t : TypeId} {l : List UInt8} (h : Arr w g t l) (i : Nat) (hi : i < l.length) : w.cell? ⟨g, i, none⟩ = some (bv l[i]) ∧ w.frozen? ⟨g, i, none⟩ = false := by
  unfold Arr at h
  constructor
  · simp [World.cell?, h, bvs, hi]
  · simp [World.frozen?, h]

theorem Arr.bs {w : World} {g : Nat} {t : TypeId} {l : List UInt8} (h : Arr w g t l) (o n cap : Nat) (h1 : o + n ≤ l.length) (h2 : n ≤ cap) (h3 : cap ≤ maxLen) :
    Bs w (.slice (some ⟨g, o, none⟩) n cap) ((l.drop o).take n) := by
  have hlen : ((l.drop o).take n).length = n := by simp; omega
  refine ⟨_, cap, by rw [hlen], by omega, h3, (fun h => by cases h), fun ad had i u hu => ?_⟩
  cases had
  rw [Addr.add_lit]
  have hi := (List.getElem?_eq_some_iff.1 hu).1
  rw [bvs_length, hlen] at hi
  rw [(h.cell (o + i) (by omega)).1, ← hu]
  simp only [bvs, List.getElem?_map, List.getElem?_take, List.getElem?_drop]
  rw [if_pos hi, List.getElem?_eq_getElem (by omega)]
  rfl

theorem Arr.ow {w : World} {g : Nat} {t : TypeId} {l : List UInt8} {base : Nat} (h : Arr w g t l) (hb : base ≤ g) (hm : l.length ≤ maxLen) : Ow w base t (.slice (some ⟨g, 0, none⟩) l.length l.length) l :=
  ⟨by simp [bvs], .inr ⟨g, l.length, (bvs l).toArray, rfl, hb, h, Nat.le_refl _, hm, by simp [bvs], by simp [bvs, List.take_of_length_le]⟩⟩

theorem Arr.set {w : World} {g : Nat} {t : TypeId} {l : List UInt8} (h : Arr w g t l) (i : Nat) (x : UInt8) : Arr (w.setCell ⟨g, i, none⟩ (bv x)) g t (l.set i x) := by
  unfold Arr at *
  rw [Lib.heap_setCell_same h]
  congr 2
  apply Array.ext'
  simp [bvs, List.map_set]

theorem splice_bvs (l : List UInt8) (o : Nat) (m : List UInt8) : splice (bvs l) o (bvs m) = bvs (splice l o m) := by
  simp [splice, bvs]

theorem Arr.spliced {w : World} {g : Nat} {t : TypeId} {l m : List UInt8} {o : Nat} (h : Hid (w.heap[g]? = some (.cells (splice (bvs l) o (bvs m)).toArray t (0, 0)))) : Arr w g t (splice l o m) := by
  have := h.out
  rw [splice_bvs] at this
  exact this

theorem Arr.new (w : World) (t : TypeId) (l : List UInt8) : Arr (w.alloc (.cells (bvs l).toArray t)) w.heap.size t l := heap_alloc_new w _

theorem ByteTy.one {P : Program} {t e : TypeId} (T : ByteTy P t e) : (P.info? e).map (·.size) = some 1 := by
  obtain ⟨i, hi, _, hs, _⟩ := T.parts
  rw [hi]; simp [hs]

/-- copy(an own array from o on, bytes), where they fit. -/
theorem wpList_copy_bs {P : Program} {t e : TypeId} (T : ByteTy P t e) {w : World} {ops : Array Oper} {rest : List Oper} {o : Oper} {a : Act} {Q : Exit → Act → World → Prop} (hgd : o.guard = none) (d s : Operand)
    (ho : o.op = .call { callee := .builtin .copy, args := #[d, s], argTypes := #[t, t] }) (g off dLen dCap : Nat) (ty : TypeId) (l m : List UInt8) (sv : Value)
    (hd : a.eval d = .slice (some ⟨g, off, none⟩) dLen dCap) (hs : a.eval s = sv) (hm : Bs w sv m) (hg : Arr w g ty l) (hfit : m.length ≤ dLen) (hin : off + m.length ≤ l.length)
    (B : Nat) (w0 : World) (hb : Below B w0 w) (hBg : B ≤ g)
    (h : ∀ w', Arr w' g ty (splice l off m) → Below B w0 w' → wpList P ops Q rest (a.put o.dst (goInt m.length)) w') :
    wpList P ops Q (o :: rest) a w := by
  obtain ⟨sa, cap, rfl, h1, h2, h3, h4⟩ := hm
  have := wpList_copy_splice (P := P) (w := w) (ops := ops) (rest := rest) (o := o) (a := a) (Q := Q) hgd d s t t ho e T.slice T.one (some ⟨g, off, none⟩) sa dLen dCap m.length cap hd hs g off (bvs l) ty hg (bvs m)
    (by rw [bvs_length]; exact (Nat.min_eq_left hfit).symm)
    (fun hp => by
      refine ⟨rfl, ?_⟩
      rw [bvs_length] at hp
      rcases sa with _ | ad
      · have := h3 rfl; omega
      · exact ⟨ad, rfl, h4 ad rfl⟩)
    (by rw [bvs_length, bvs_length]; exact hin) bvs_one B w0 hb hBg
  apply this
  intro w' hw' hb'
  rw [bvs_length]
  exact h w' (Arr.spliced hw') hb'

/-- The same as a step of a region that draws its order. -/
theorem step_copy_bs {P : Program} {t e : TypeId} (T : ByteTy P t e) {w : World} {ops : Array Oper} {o : Oper} {a : Act} {K : Act → World → Prop} {Q : Exit → Act → World → Prop} {E : Prop} (hgd : o.guard = none) (d s : Operand)
    (ho : o.op = .call { callee := .builtin .copy, args := #[d, s], argTypes := #[t, t] }) (g off dLen dCap : Nat) (ty : TypeId) (l m : List UInt8) (sv : Value)
    (hd : a.eval d = .slice (some ⟨g, off, none⟩) dLen dCap) (hs : a.eval s = sv) (hm : Bs w sv m) (hg : Arr w g ty l) (hfit : m.length ≤ dLen) (hin : off + m.length ≤ l.length)
    (B : Nat) (w0 : World) (hb : Below B w0 w) (hBg : B ≤ g)
    (h : ∀ w', Arr w' g ty (splice l off m) → Below B w0 w' → K (a.put o.dst (goInt m.length)) w') :
    if Region.wanted o (yielded ops a.tmps) = true then Oper.wp P o a w K Q else E := by
  obtain ⟨sa, cap, rfl, h1, h2, h3, h4⟩ := hm
  have := step_copy_splice (P := P) (w := w) (ops := ops) (o := o) (a := a) (K := K) (Q := Q) (E := E) hgd d s t t ho e T.slice T.one (some ⟨g, off, none⟩) sa dLen dCap m.length cap hd hs g off (bvs l) ty hg (bvs m)
    (by rw [bvs_length]; exact (Nat.min_eq_left hfit).symm)
    (fun hp => by
      refine ⟨rfl, ?_⟩
      rw [bvs_length] at hp
      rcases sa with _ | ad
      · have := h3 rfl; omega
      · exact ⟨ad, rfl, h4 ad rfl⟩)
    (by rw [bvs_length, bvs_length]; exact hin) bvs_one B w0 hb hBg
  apply this
  intro w' hw' hb'
  rw [bvs_length]
  exact h w' (Arr.spliced hw') hb'
end Go.Proofs.Ytcpapdpnnlnemaa
