/- Sums of 32 bits, as numbers: a step, bytes taken, what is linear, and that turned bits are told; no condition. -/
namespace Go.Proofs.Ytcpapdpnnlnemaa

/-- The word that is laid over where a step meets an odd number. -/
def polyN : Nat := 3988292384
def fullN : Nat := 4294967295

/-- One step. -/
def stepN (x : Nat) : Nat := if x % 2 = 1 then x / 2 ^^^ polyN else x / 2

def steps : Nat → Nat → Nat
  | 0, x => x
  | k + 1, x => steps k (stepN x)

theorem steps_add (a b x : Nat) : steps (a + b) x = steps b (steps a x) := by
  induction a generalizing x with
  | zero => simp [steps]
  | succ a ih => rw [Nat.succ_add]; exact ih _

theorem steps_last (k x : Nat) : steps (k + 1) x = stepN (steps k x) := by
  rw [steps_add]; rfl

theorem stepN_xor (a b : Nat) : stepN (a ^^^ b) = stepN a ^^^ stepN b := by
  have h2 : (a ^^^ b) / 2 = a / 2 ^^^ b / 2 := Nat.xor_div_two
  have h3 : (a ^^^ b) % 2 = (a + b) % 2 := by
    have h := @Nat.xor_mod_two_eq_one a b
    rcases Nat.mod_two_eq_zero_or_one (a ^^^ b) with hc | hc
    · have : ¬ (¬(a % 2 = 1 ↔ b % 2 = 1)) := fun hx => by rw [h.2 hx] at hc; cases hc
      rw [hc]; omega
    · have := h.1 hc
      rw [hc]; omega
  unfold stepN
  rw [h2, h3]
  rcases Nat.mod_two_eq_zero_or_one a with ha | ha <;> rcases Nat.mod_two_eq_zero_or_one b with hb | hb
  · rw [if_neg (by omega), if_neg (by omega), if_neg (by omega)]
  · rw [if_pos (by omega), if_neg (by omega), if_pos hb, Nat.xor_assoc]
  · rw [if_pos (by omega), if_pos ha, if_neg (by omega), Nat.xor_assoc, Nat.xor_assoc, Nat.xor_comm polyN]
  · rw [if_neg (by omega), if_pos ha, if_pos hb]
    rw [Nat.xor_assoc, Nat.xor_comm (b / 2) polyN, ← Nat.xor_assoc polyN, Nat.xor_self, Nat.zero_xor]

theorem steps_xor (k a b : Nat) : steps k (a ^^^ b) = steps k a ^^^ steps k b := by
  induction k generalizing a b with
  | zero => rfl
  | succ k ih => show steps k (stepN (a ^^^ b)) = _; rw [stepN_xor, ih]; rfl

theorem stepN_double (x : Nat) : stepN (x * 2) = x := by
  unfold stepN
  rw [if_neg (by omega)]; omega

theorem steps_pow (k x : Nat) : steps k (x * 2 ^ k) = x := by
  induction k with
  | zero => simp [steps]
  | succ k ih =>
    show steps k (stepN (x * 2 ^ (k + 1))) = x
    rw [Nat.pow_succ, ← Nat.mul_assoc, stepN_double, ih]

theorem stepN_lt {x : Nat} (h : x < 4294967296) : stepN x < 4294967296 := by
  unfold stepN
  split
  · exact Nat.xor_lt_two_pow (n := 32) (by omega) (by decide)
  · omega

theorem steps_lt (k : Nat) {x : Nat} (h : x < 4294967296) : steps k x < 4294967296 := by
  induction k generalizing x with
  | zero => exact h
  | succ k ih => exact ih (stepN_lt h)

theorem xor_zero_eq {a b : Nat} (h : a ^^^ b = 0) : a = b := by
  have : (a ^^^ b) ^^^ b = b := by rw [h, Nat.zero_xor]
  rwa [Nat.xor_assoc, Nat.xor_self, Nat.xor_zero] at this

theorem stepN_zero {x : Nat} (h : x < 4294967296) (h0 : stepN x = 0) : x = 0 := by
  unfold stepN at h0
  split at h0
  · have := xor_zero_eq h0
    unfold polyN at this
    omega
  · omega

theorem steps_zero (k : Nat) {x : Nat} (h : x < 4294967296) (h0 : steps k x = 0) : x = 0 := by
  induction k generalizing x with
  | zero => exact h0
  | succ k ih => exact stepN_zero h (ih (stepN_lt h) h0)

theorem steps_of_zero (k : Nat) : steps k 0 = 0 := by
  induction k with
  | zero => rfl
  | succ k ih => exact ih

theorem steps_inj (k : Nat) {a b : Nat} (ha : a < 4294967296) (hb : b < 4294967296) (h : steps k a = steps k b) : a = b := by
  apply xor_zero_eq
  apply steps_zero k (Nat.xor_lt_two_pow (n := 32) ha hb)
  rw [steps_xor, h, Nat.xor_self]

/-- A byte taken. -/
def takN (w c : Nat) : Nat := steps 8 (w ^^^ c)
def foldN (w : Nat) : List UInt8 → Nat
  | [] => w
  | c :: l => foldN (takN w c.toNat) l

theorem foldN_append (w : Nat) (l m : List UInt8) : foldN w (l ++ m) = foldN (foldN w l) m := by
  induction l generalizing w with
  | nil => rfl
  | cons c l ih => exact ih _

theorem foldN_snoc (w : Nat) (l : List UInt8) (c : UInt8) : foldN w (l ++ [c]) = takN (foldN w l) c.toNat := foldN_append w l [c]

theorem takN_lt {w : Nat} (c : UInt8) (h : w < 4294967296) : takN w c.toNat < 4294967296 :=
  steps_lt 8 (Nat.xor_lt_two_pow (n := 32) h (by have := c.toNat_lt; omega))

theorem foldN_lt {w : Nat} (l : List UInt8) (h : w < 4294967296) : foldN w l < 4294967296 := by
  induction l generalizing w with
  | nil => exact h
  | cons c l ih => exact ih (takN_lt c h)

/-- The number of bytes whose lowest stands first. -/
def leN : List UInt8 → Nat
  | [] => 0
  | c :: l => c.toNat + 256 * leN l

theorem low_xor (c L : Nat) (h : c < 256) : c + 256 * L = c ^^^ L * 2 ^ 8 := by
  have h1 := Nat.two_pow_add_eq_or_of_lt (i := 8) (b := c) h L
  have h2 : 256 * L + c = 2 ^ 8 * L ^^^ c := by
    rw [show 256 * L + c = 2 ^ 8 * L + c from rfl, h1]
    apply Nat.eq_of_testBit_eq
    intro i
    simp only [Nat.testBit_or, Nat.testBit_xor, Nat.testBit_two_pow_mul]
    by_cases hi : 8 ≤ i
    · have : c.testBit i = false := Nat.testBit_lt_two_pow (Nat.lt_of_lt_of_le h (Nat.pow_le_pow_right (by decide) hi : 2 ^ 8 ≤ 2 ^ i))
      simp [this]
    · simp [hi]
  rw [Nat.add_comm, h2, Nat.xor_comm, Nat.mul_comm]

theorem leN_cons (c : UInt8) (l : List UInt8) : leN (c :: l) = c.toNat ^^^ leN l * 2 ^ 8 := low_xor _ _ c.toNat_lt

theorem leN_lt (l : List UInt8) : leN l < 256 ^ l.length := by
  induction l with
  | nil => simp [leN]
  | cons c l ih =>
    have := c.toNat_lt
    simp only [leN, List.length_cons, Nat.pow_succ]
    omega

theorem foldN_steps (w : Nat) (l : List UInt8) : foldN w l = steps (8 * l.length) (w ^^^ leN l) := by
  induction l generalizing w with
  | nil =>
    show w = steps 0 (w ^^^ 0)
    rw [Nat.xor_zero]; rfl
  | cons c l ih =>
    show foldN (takN w c.toNat) l = _
    rw [ih, leN_cons, List.length_cons, show 8 * (l.length + 1) = 8 + 8 * l.length by omega, steps_add, ← Nat.xor_assoc, steps_xor 8 (w ^^^ c.toNat), steps_pow]
    rfl

theorem foldN_xor (a b : Nat) (l : List UInt8) : foldN a l ^^^ foldN b l = steps (8 * l.length) (a ^^^ b) := by
  rw [foldN_steps, foldN_steps, ← steps_xor]
  congr 1
  rw [Nat.xor_assoc, Nat.xor_comm b, ← Nat.xor_assoc (leN l), Nat.xor_self, Nat.zero_xor]

/-- A sum, and others behind it. -/
def notN (x : Nat) : Nat := fullN ^^^ x
def moreN (s : Nat) (l : List UInt8) : Nat := notN (foldN (notN s) l)
def sumN (l : List UInt8) : Nat := moreN 0 l

theorem notN_lt {x : Nat} (h : x < 4294967296) : notN x < 4294967296 := Nat.xor_lt_two_pow (n := 32) (by decide) h
theorem xor_back (f x : Nat) : f ^^^ (f ^^^ x) = x := by rw [← Nat.xor_assoc, Nat.xor_self, Nat.zero_xor]
theorem notN_eq (x : Nat) : notN x = fullN ^^^ x := rfl
theorem notN_not (x : Nat) : notN (notN x) = x := by
  rw [notN_eq, notN_eq]
  generalize fullN = f
  exact xor_back f x
theorem notN_xor (x y : Nat) : notN x ^^^ notN y = x ^^^ y := by
  unfold notN
  rw [Nat.xor_assoc, ← Nat.xor_assoc x, Nat.xor_comm x, Nat.xor_assoc, ← Nat.xor_assoc, Nat.xor_self, Nat.zero_xor]
theorem moreN_lt {s : Nat} (l : List UInt8) (h : s < 4294967296) : moreN s l < 4294967296 := notN_lt (foldN_lt l (notN_lt h))
theorem sumN_lt (l : List UInt8) : sumN l < 4294967296 := moreN_lt l (by decide)

theorem moreN_append (s : Nat) (l m : List UInt8) : moreN s (l ++ m) = moreN (moreN s l) m := by
  unfold moreN
  rw [notN_not, foldN_append]
theorem sumN_append (l m : List UInt8) : sumN (l ++ m) = moreN (sumN l) m := moreN_append 0 l m
theorem sumN_nil : sumN [] = 0 := by
  unfold sumN moreN foldN
  exact notN_not 0

/-- Bytes that end in the sum of those ahead. -/
def rightB (l : List UInt8) : Bool := decide (4 ≤ l.length) && (leN (l.drop (l.length - 4)) == sumN (l.take (l.length - 4)))

theorem right_iff (l : List UInt8) (h : 4 ≤ l.length) : rightB l = true ↔ foldN fullN l = steps 32 fullN := by
  have hl : (l.drop (l.length - 4)).length = 4 := by simp; omega
  have e : foldN fullN l = steps 32 (foldN fullN (l.take (l.length - 4)) ^^^ leN (l.drop (l.length - 4))) := by
    conv => lhs; rw [← List.take_append_drop (l.length - 4) l]
    rw [foldN_append, foldN_steps _ (l.drop (l.length - 4)), hl]
  have hf : foldN fullN (l.take (l.length - 4)) < 4294967296 := foldN_lt _ (by decide)
  have hd : leN (l.drop (l.length - 4)) < 4294967296 := by have := leN_lt (l.drop (l.length - 4)); rw [hl] at this; exact this
  have hs : sumN (l.take (l.length - 4)) = fullN ^^^ foldN fullN (l.take (l.length - 4)) := by
    unfold sumN moreN
    rw [show notN 0 = fullN from rfl]
    rfl
  unfold rightB
  rw [e, hs]
  generalize foldN fullN (l.take (l.length - 4)) = f at *
  generalize leN (l.drop (l.length - 4)) = d at *
  simp only [h, decide_true, Bool.true_and, beq_iff_eq]
  constructor
  · intro hd'
    rw [hd', Nat.xor_comm fullN, ← Nat.xor_assoc, Nat.xor_self, Nat.zero_xor]
  · intro hx
    have := steps_inj 32 (Nat.xor_lt_two_pow (n := 32) hf hd) (by decide) hx
    rw [← this, Nat.xor_comm (f ^^^ d), ← Nat.xor_assoc, Nat.xor_self, Nat.zero_xor]

/-- Bits turned. -/
def turnL (l : List UInt8) (i m : Nat) : List UInt8 := l.set i (UInt8.ofNat ((l[i]?.getD 0).toNat ^^^ m))

theorem turnL_length (l : List UInt8) (i m : Nat) : (turnL l i m).length = l.length := by simp [turnL]

theorem xor_mul (a b k : Nat) : (a ^^^ b) * 2 ^ k = a * 2 ^ k ^^^ b * 2 ^ k := by
  have := @Nat.shiftLeft_xor_distrib k a b
  simpa [Nat.shiftLeft_eq] using this

theorem leN_turn (l : List UInt8) (i m : Nat) (hi : i < l.length) (hm : m < 256) : leN (turnL l i m) = leN l ^^^ m * 2 ^ (8 * i) := by
  induction l generalizing i with
  | nil => simp at hi
  | cons c l ih =>
    cases i with
    | zero =>
      show leN (UInt8.ofNat (c.toNat ^^^ m) :: l) = _
      have hx : c.toNat ^^^ m < 256 := Nat.xor_lt_two_pow (n := 8) c.toNat_lt hm
      rw [leN_cons, leN_cons, UInt8.toNat_ofNat', Nat.mod_eq_of_lt hx, Nat.mul_zero, Nat.pow_zero, Nat.mul_one, Nat.xor_assoc, Nat.xor_assoc, Nat.xor_comm m]
    | succ i =>
      show leN (c :: turnL l i m) = _
      rw [leN_cons, leN_cons, ih i (by simpa using hi), Nat.xor_assoc, xor_mul]
      congr 2
      rw [Nat.mul_assoc, ← Nat.pow_add]
      congr 2

theorem right_turned (l m : List UInt8) (at_ t : Nat) (h4 : 4 ≤ l.length) (hm : m.length = l.length) (hr : rightB l = true) (ht : t < 4294967296) (hat : at_ ≤ 8 * l.length)
    (he : leN m = leN l ^^^ t * 2 ^ at_) : rightB m = decide (t = 0) := by
  have h1 := (right_iff l h4).1 hr
  have h2 := right_iff m (by omega)
  have e : foldN fullN m = foldN fullN l ^^^ steps (8 * l.length - at_) t := by
    rw [foldN_steps, foldN_steps, hm, he, ← Nat.xor_assoc, steps_xor]
    congr 1
    conv => lhs; rw [show 8 * l.length = at_ + (8 * l.length - at_) by omega, steps_add, steps_pow]
  rw [e, h1] at h2
  by_cases h0 : t = 0
  · subst h0
    rw [steps_of_zero, Nat.xor_zero] at h2
    rw [h2.2 rfl]; rfl
  · have : ¬ rightB m = true := by
      intro hx
      have hz := h2.1 hx
      apply h0
      apply steps_zero (8 * l.length - at_) ht
      have : steps 32 fullN ^^^ (steps 32 fullN ^^^ steps (8 * l.length - at_) t) = steps 32 fullN ^^^ steps 32 fullN := by rw [hz]
      rwa [← Nat.xor_assoc, Nat.xor_self, Nat.zero_xor] at this
    simp [h0, this]

/-- The bits of a number up to some place. -/
theorem mod_succ (t i : Nat) : t % 2 ^ (i + 1) = t % 2 ^ i ^^^ (t / 2 ^ i % 2) * 2 ^ i := by
  apply Nat.eq_of_testBit_eq
  intro j
  simp only [Nat.testBit_mod_two_pow, Nat.testBit_xor, Nat.testBit_mul_two_pow]
  by_cases h1 : j < i
  · simp [h1, show j < i + 1 by omega, show ¬ i ≤ j by omega]
  · by_cases h2 : j = i
    · subst h2
      simp only [Nat.lt_irrefl, decide_false, Bool.false_and, Nat.lt_succ_self, decide_true, Bool.true_and, Nat.le_refl, Nat.sub_self, Bool.false_xor]
      rw [Nat.testBit_zero, Nat.testBit_eq_decide_div_mod_eq]
      simp
    · have h3 : (t / 2 ^ i % 2).testBit (j - i) = false := Nat.testBit_lt_two_pow (Nat.lt_of_lt_of_le (Nat.mod_lt _ (by decide)) (by calc 2 = 2 ^ 1 := rfl
          _ ≤ 2 ^ (j - i) := Nat.pow_le_pow_right (by decide) (by omega)))
      simp [h1, show ¬ j < i + 1 by omega, h3]

theorem sumN_adds (a b c : List UInt8) (d : List UInt8) (h1 : b.length = a.length) (h2 : c.length = a.length) (h3 : d.length = a.length) (h : leN d = leN a ^^^ leN b ^^^ leN c) :
    sumN a ^^^ sumN b ^^^ sumN c = sumN d := by
  unfold sumN moreN
  rw [foldN_steps, foldN_steps, foldN_steps, foldN_steps, h1, h2, h3, h]
  generalize 8 * a.length = k
  rw [show notN 0 = fullN from rfl]
  simp only [steps_xor, notN]
  generalize steps k fullN = s
  generalize steps k (leN a) = x
  generalize steps k (leN b) = y
  generalize steps k (leN c) = z
  apply Nat.eq_of_testBit_eq
  intro i
  simp only [Nat.testBit_xor]
  cases fullN.testBit i <;> cases s.testBit i <;> cases x.testBit i <;> cases y.testBit i <;> cases z.testBit i <;> rfl
end Go.Proofs.Ytcpapdpnnlnemaa
