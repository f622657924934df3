/- Plain mathematics of numbers and byte strings as lists of bytes: the bytes of a number, the number of bytes, the order of lists; no condition. -/
import Derived.Lib.Bytealg
namespace Go.Proofs.Ytcpapdpnnlnemaa
open Go.Lib (compareBytes)

/-- The number that bytes are, the highest first. -/
def beNat (l : List UInt8) : Nat := l.foldl (fun n x => n * 256 + x.toNat) 0

/-- The lowest k bytes of n, the highest first. -/
def beL (n : Nat) : Nat → List UInt8
  | 0 => []
  | k + 1 => UInt8.ofNat (n / 2 ^ (8 * k)) :: beL n k

theorem beL_length (n : Nat) : ∀ k, (beL n k).length = k
  | 0 => rfl
  | k + 1 => by simp [beL, beL_length n k]

theorem foldl_acc (l : List UInt8) : ∀ a : Nat, l.foldl (fun n x => n * 256 + x.toNat) a = a * 256 ^ l.length + beNat l := by
  induction l with
  | nil => intro a; simp [beNat]
  | cons x l ih =>
    intro a
    have h1 := ih (a * 256 + x.toNat)
    have h2 := ih (0 * 256 + x.toNat)
    simp only [beNat, List.foldl_cons, List.length_cons] at *
    rw [h1, h2, Nat.pow_succ]
    simp only [Nat.add_mul, Nat.zero_mul, Nat.zero_add, Nat.mul_assoc, Nat.mul_comm (256 ^ l.length) 256, Nat.add_assoc]

theorem beNat_cons (x : UInt8) (l : List UInt8) : beNat (x :: l) = x.toNat * 256 ^ l.length + beNat l := by
  have := foldl_acc l (0 * 256 + x.toNat)
  simp only [beNat, List.foldl_cons] at *
  rw [this]
  simp

theorem beNat_append (a b : List UInt8) : beNat (a ++ b) = beNat a * 256 ^ b.length + beNat b := by
  unfold beNat
  rw [List.foldl_append, foldl_acc]
  rfl

theorem beNat_snoc (a : List UInt8) (x : UInt8) : beNat (a ++ [x]) = beNat a * 256 + x.toNat := by
  rw [beNat_append]; simp [beNat]

theorem beNat_take_succ (l : List UInt8) (r : Nat) (x : UInt8) (h : l[r]? = some x) : beNat (l.take (r + 1)) = beNat (l.take r) * 256 + x.toNat := by
  rw [List.take_add_one, h]
  exact beNat_snoc _ _

theorem beNat_lt (l : List UInt8) : beNat l < 256 ^ l.length := by
  induction l with
  | nil => simp [beNat]
  | cons x l ih =>
    rw [beNat_cons, List.length_cons, Nat.pow_succ]
    have h := x.toNat_lt
    have h1 : x.toNat * 256 ^ l.length ≤ 255 * 256 ^ l.length := Nat.mul_le_mul_right _ (by omega)
    omega

theorem pow_256 (k : Nat) : 2 ^ (8 * k) = 256 ^ k := by rw [Nat.pow_mul]

theorem beNat_beL (n : Nat) : ∀ k, beNat (beL n k) = n % 256 ^ k
  | 0 => by simp [beL, beNat, Nat.mod_one]
  | k + 1 => by
    rw [beL, beNat_cons, beNat_beL n k, beL_length, pow_256, Nat.pow_succ, Nat.mod_mul, UInt8.toNat_ofNat']
    simp only [Nat.reducePow]
    rw [Nat.mul_comm, Nat.add_comm]

theorem beL_get (n : Nat) : ∀ (k r : Nat), r < k → (beL n k)[r]? = some (UInt8.ofNat (n / 2 ^ (8 * (k - 1 - r))))
  | 0, r, h => by omega
  | k + 1, 0, _ => by simp [beL]
  | k + 1, r + 1, h => by
    have := beL_get n k r (by omega)
    rw [beL, List.getElem?_cons_succ, this]
    have e : k - 1 - r = k + 1 - 1 - (r + 1) := by omega
    rw [e]

theorem beL_take_succ (n k r : Nat) (h : r < k) : (beL n k).take (r + 1) = (beL n k).take r ++ [UInt8.ofNat (n / 2 ^ (8 * (k - 1 - r)))] := by
  rw [List.take_add_one, beL_get n k r h]
  rfl

theorem beL_take_all (n k : Nat) : (beL n k).take k = beL n k := List.take_of_length_le (by rw [beL_length]; omega)

/-! ### the order -/
theorem cmp_self : ∀ a : List UInt8, compareBytes a a = 0
  | [] => rfl
  | x :: a => by simp [compareBytes, cmp_self a]

theorem cmp_neg : ∀ a b : List UInt8, compareBytes b a = - compareBytes a b
  | [], [] => rfl
  | [], _ :: _ => rfl
  | _ :: _, [] => rfl
  | x :: a, y :: b => by
    simp only [compareBytes]
    by_cases h1 : x < y
    · have h2 : ¬ y < x := by simp only [UInt8.lt_iff_toNat_lt] at *; omega
      simp [h1, h2]
    · by_cases h2 : y < x
      · simp [h1, h2]
      · simp [h1, h2, cmp_neg a b]

theorem cmp_eq_zero : ∀ a b : List UInt8, compareBytes a b = 0 ↔ a = b
  | [], [] => by simp [compareBytes]
  | [], _ :: _ => by simp [compareBytes]
  | _ :: _, [] => by simp [compareBytes]
  | x :: a, y :: b => by
    simp only [compareBytes, List.cons.injEq]
    by_cases h1 : x < y
    · have : x ≠ y := by intro h; subst h; exact absurd h1 (UInt8.lt_irrefl x)
      simp [h1, this]
    · by_cases h2 : y < x
      · have : x ≠ y := by intro h; subst h; exact absurd h2 (UInt8.lt_irrefl x)
        simp [h1, h2, this]
      · have : x = y := UInt8.le_antisymm (UInt8.not_lt.1 h2) (UInt8.not_lt.1 h1)
        simp [this, cmp_eq_zero a b]

theorem cmp_three : ∀ a b : List UInt8, compareBytes a b = -1 ∨ compareBytes a b = 0 ∨ compareBytes a b = 1
  | [], [] => by simp [compareBytes]
  | [], _ :: _ => by simp [compareBytes]
  | _ :: _, [] => by simp [compareBytes]
  | x :: a, y :: b => by
    simp only [compareBytes]
    split
    · simp
    · split
      · simp
      · exact cmp_three a b

theorem cmp_trans : ∀ a b c : List UInt8, compareBytes a b ≤ 0 → compareBytes b c ≤ 0 → compareBytes a c ≤ 0
  | [], _, [], _, _ => by simp [compareBytes]
  | [], _, _ :: _, _, _ => by simp [compareBytes]
  | _ :: _, [], _, h, _ => by simp [compareBytes] at h
  | _ :: _, _ :: _, [], _, h => by simp [compareBytes] at h
  | x :: a, y :: b, z :: c, h, k => by
    simp only [compareBytes] at *
    by_cases h1 : x < y
    · by_cases k1 : y < z
      · simp [UInt8.lt_trans h1 k1]
      · simp only [k1, if_false] at k
        by_cases k2 : z < y
        · simp [k2] at k
        · have : y = z := UInt8.le_antisymm (UInt8.not_lt.1 k2) (UInt8.not_lt.1 k1)
          subst this; simp [h1]
    · simp only [h1, if_false] at h
      by_cases h2 : y < x
      · simp [h2] at h
      · have : x = y := UInt8.le_antisymm (UInt8.not_lt.1 h2) (UInt8.not_lt.1 h1)
        subst this
        simp only [UInt8.lt_irrefl, if_false] at h
        by_cases k1 : x < z
        · simp [k1]
        · simp only [k1, if_false] at *
          by_cases k2 : z < x
          · simp [k2] at k
          · simp only [k2, if_false] at *
            exact cmp_trans a b c h k

theorem cmp_head (h a b : List UInt8) : compareBytes (h ++ a) (h ++ b) = compareBytes a b := by
  induction h with
  | nil => rfl
  | cons x h ih => simpa [compareBytes] using ih

/-- Of lists of one length the order is that of their numbers. -/
theorem cmp_nat : ∀ a b : List UInt8, a.length = b.length → compareBytes a b = if beNat a < beNat b then -1 else if beNat b < beNat a then 1 else 0
  | [], [], _ => by simp [compareBytes]
  | [], _ :: _, h => by simp at h
  | _ :: _, [], h => by simp at h
  | x :: a, y :: b, h => by
    have hl : a.length = b.length := by simpa using h
    have ih := cmp_nat a b hl
    have ha := beNat_lt a
    have hb := beNat_lt b
    rw [hl] at ha
    rw [beNat_cons, beNat_cons, hl]
    simp only [compareBytes]
    generalize 256 ^ b.length = q at *
    by_cases h1 : x < y
    · have h1' : x.toNat < y.toNat := UInt8.lt_iff_toNat_lt.1 h1
      have : x.toNat * q + q ≤ y.toNat * q := by rw [← Nat.succ_mul]; exact Nat.mul_le_mul_right _ h1'
      simp only [h1, if_true]
      rw [if_pos (by omega)]
    · by_cases h2 : y < x
      · have h2' : y.toNat < x.toNat := UInt8.lt_iff_toNat_lt.1 h2
        have : y.toNat * q + q ≤ x.toNat * q := by rw [← Nat.succ_mul]; exact Nat.mul_le_mul_right _ h2'
        simp only [h1, h2, if_false, if_true]
        rw [if_neg (by omega), if_pos (by omega)]
      · have : x = y := UInt8.le_antisymm (UInt8.not_lt.1 h2) (UInt8.not_lt.1 h1)
        subst this
        simp only [UInt8.lt_irrefl, if_false]
        rw [ih]
        generalize x.toNat * q = z
        by_cases c1 : beNat a < beNat b
        · rw [if_pos c1, if_pos (by omega)]
        · by_cases c2 : beNat b < beNat a
          · rw [if_neg c1, if_pos c2, if_neg (by omega), if_pos (by omega)]
          · rw [if_neg c1, if_neg c2, if_neg (by omega), if_neg (by omega)]

theorem cmp_take (l m : List UInt8) (r : Nat) (h : l.take r = m.take r) : compareBytes l m = compareBytes (l.drop r) (m.drop r) := by
  have h1 := (List.take_append_drop r l).symm
  have h2 := (List.take_append_drop r m).symm
  rw [h] at h1
  have : compareBytes l m = compareBytes (m.take r ++ l.drop r) (m.take r ++ m.drop r) := by rw [← h1, ← h2]
  rw [this, cmp_head]

theorem drop_get (l : List UInt8) (r : Nat) (x : UInt8) (h : l[r]? = some x) : l.drop r = x :: l.drop (r + 1) := by
  obtain ⟨hr, rfl⟩ := List.getElem?_eq_some_iff.1 h
  exact List.drop_eq_getElem_cons hr

theorem cmp_lt {l m : List UInt8} {r : Nat} {x y : UInt8} (h : l.take r = m.take r) (hx : l[r]? = some x) (hy : m[r]? = some y) (hlt : x.toNat < y.toNat) : compareBytes l m = -1 := by
  rw [cmp_take l m r h, drop_get l r x hx, drop_get m r y hy]
  simp [compareBytes, UInt8.lt_iff_toNat_lt, hlt]
theorem cmp_gt {l m : List UInt8} {r : Nat} {x y : UInt8} (h : l.take r = m.take r) (hx : l[r]? = some x) (hy : m[r]? = some y) (hlt : y.toNat < x.toNat) : compareBytes l m = 1 := by
  have : ¬ x.toNat < y.toNat := by omega
  rw [cmp_take l m r h, drop_get l r x hx, drop_get m r y hy]
  simp [compareBytes, UInt8.lt_iff_toNat_lt, hlt, this]
theorem take_more {l m : List UInt8} {r : Nat} {x y : UInt8} (h : l.take r = m.take r) (hx : l[r]? = some x) (hy : m[r]? = some y) (he : x.toNat = y.toNat) : l.take (r + 1) = m.take (r + 1) := by
  have : x = y := UInt8.toNat_inj.1 he
  rw [List.take_add_one, List.take_add_one, h, hx, hy, this]
theorem cmp_short {l m : List UInt8} (h : l.take l.length = m.take l.length) (hlt : l.length < m.length) : compareBytes l m = -1 := by
  rw [cmp_take l m _ h, List.drop_length]
  cases hm : m.drop l.length with
  | nil => have := congrArg List.length hm; simp at this; omega
  | cons x t => rfl
theorem cmp_long {l m : List UInt8} (h : l.take m.length = m.take m.length) (hlt : m.length < l.length) : compareBytes l m = 1 := by
  rw [cmp_take l m _ h, List.drop_length]
  cases hm : l.drop m.length with
  | nil => have := congrArg List.length hm; simp at this; omega
  | cons x t => rfl
theorem cmp_same {l m : List UInt8} (h : l.take l.length = m.take l.length) (hlt : l.length = m.length) : compareBytes l m = 0 := by
  rw [cmp_take l m _ h, List.drop_length, hlt, List.drop_length]
  rfl

theorem cmp_after : ∀ a : List UInt8, compareBytes a (a ++ [0]) = -1
  | [] => rfl
  | x :: a => by simpa [compareBytes] using cmp_after a

theorem cmp_after_le : ∀ a b : List UInt8, compareBytes a b < 0 → compareBytes (a ++ [0]) b ≤ 0
  | [], [], h => by simp [compareBytes] at h
  | _ :: _, [], h => by simp [compareBytes] at h
  | [], y :: b, _ => by
    simp only [List.nil_append, compareBytes]
    by_cases h1 : 0 < y
    · simp [h1]
    · have : ¬ y < 0 := by simp [UInt8.lt_iff_toNat_lt]
      simp only [h1, this, if_false]
      cases b <;> simp [compareBytes]
  | x :: a, y :: b, h => by
    simp only [List.cons_append, compareBytes] at *
    by_cases h1 : x < y
    · simp [h1]
    · simp only [h1, if_false] at *
      by_cases h2 : y < x
      · simp [h2] at h
      · simp only [h2, if_false] at *
        exact cmp_after_le a b h

end Go.Proofs.Ytcpapdpnnlnemaa
