/- Blocks with their kind, their length and their sum, in plain words: what is sealed, what is opened, and that each undoes the other; no condition. -/
import Derived.Test.YtcpapdpnnlnemaaCrTurn
import Derived.Test.YtcpapdpnnlnemaaOctPlain
namespace Go.Proofs.Ytcpapdpnnlnemaa
open Go.RowKit

/-! ### bytes laid over others -/
theorem leN_inj : ∀ (a b : List UInt8), a.length = b.length → leN a = leN b → a = b
  | [], [], _, _ => rfl
  | x :: a, y :: b, h, e => by
    have hx := x.toNat_lt
    have hy := y.toNat_lt
    simp only [leN] at e
    have h1 : x.toNat = y.toNat := by omega
    have h2 : leN a = leN b := by omega
    rw [UInt8.toNat_inj.1 h1, leN_inj a b (by simpa using h) h2]

theorem beNat_inj : ∀ (a b : List UInt8), a.length = b.length → beNat a = beNat b → a = b := by
  intro a b h e
  have h1 := leN_inj a.reverse b.reverse (by simpa using h)
  have h2 : ∀ l : List UInt8, leN l.reverse = beNat l := by
    intro l
    induction l with
    | nil => rfl
    | cons x l ih =>
      rw [List.reverse_cons, leN_append, ih, beNat_cons, List.length_reverse]
      simp only [leN]
      rw [Nat.mul_zero, Nat.add_zero, Nat.add_comm]
  rw [h2, h2] at h1
  simpa using h1 e

theorem beL_two_of (a : List UInt8) (h : a.length = 2) : beL (beNat a) 2 = a := by
  apply beNat_inj
  · rw [beL_length, h]
  · have := beNat_lt a
    rw [h] at this
    rw [beNat_beL, Nat.mod_eq_of_lt this]

/-- All ahead of the sum. -/
def aheadL (k : UInt8) (body : List UInt8) : List UInt8 := k :: (beL body.length 2 ++ (body ++ List.replicate (505 - body.length) 0))
def sealL (k : UInt8) (body : List UInt8) : List UInt8 := aheadL k body ++ four (sumN (aheadL k body))

theorem four_length (s : Nat) : (four s).length = 4 := rfl
theorem aheadL_length {k : UInt8} {body : List UInt8} (h : body.length ≤ 505) : (aheadL k body).length = 508 := by
  simp [aheadL, beL_length]; omega
theorem sealL_length {k : UInt8} {body : List UInt8} (h : body.length ≤ 505) : (sealL k body).length = 512 := by
  simp [sealL, aheadL_length h, four_length]
theorem sealL_take {k : UInt8} {body : List UInt8} (h : body.length ≤ 505) : (sealL k body).take 508 = aheadL k body := by
  unfold sealL
  rw [← aheadL_length (k := k) h, List.take_left]
theorem sealL_right (k : UInt8) (body : List UInt8) : rightB (sealL k body) = true := right_sealed _

/-- Bytes that are right are those ahead and their sum. -/
theorem right_form {l : List UInt8} (h : l.length = 512) (hr : rightB l = true) : l = l.take 508 ++ four (sumN (l.take 508)) := by
  have h1 : l.drop 508 = four (sumN (l.take 508)) := by
    apply leN_inj
    · rw [four_length, List.length_drop, h]
    · rw [leN_four_eq _ (sumN_lt _)]
      rw [rightB_long (by omega)] at hr
      unfold rightP at hr
      rw [h] at hr
      exact beq_iff_eq.1 hr
  rw [← h1, List.take_append_drop]

/-- How long the body says that it is. -/
def nOf (l : List UInt8) : Nat := beNat ((l.drop 1).take 2)
def noughtsB (l : List UInt8) : Bool := l.all (· == 0)
def openOk (l : List UInt8) : Bool := decide (nOf l ≤ 505) && (l.getD 0 0 != 0) && noughtsB ((l.take 508).drop (3 + nOf l))
/-- What Open answers: the kind, the body, the error. -/
def openV (l : List UInt8) : UInt8 × List UInt8 × Int :=
  if l.length = 512 ∧ rightB l = true then (if openOk l = true then (l.getD 0 0, (l.drop 3).take (nOf l), 0) else (0, [], 5)) else (0, [], 9)

theorem openV_spoilt {l : List UInt8} (h : ¬ (l.length = 512 ∧ rightB l = true)) : openV l = (0, [], 9) := if_neg h
theorem openV_bad {l : List UInt8} (h : l.length = 512 ∧ rightB l = true) (ho : ¬ openOk l = true) : openV l = (0, [], 5) := by
  unfold openV
  rw [if_pos h, if_neg ho]
theorem openV_good {l : List UInt8} (h : l.length = 512 ∧ rightB l = true) (ho : openOk l = true) : openV l = (l.getD 0 0, (l.drop 3).take (nOf l), 0) := by
  unfold openV
  rw [if_pos h, if_pos ho]

theorem noughtsB_replicate (n : Nat) : noughtsB (List.replicate n 0) = true := by simp [noughtsB]
theorem noughtsB_iff (l : List UInt8) : noughtsB l = true ↔ l = List.replicate l.length 0 := by
  unfold noughtsB
  constructor
  · intro h
    apply List.eq_replicate_iff.2
    refine ⟨rfl, fun b hb => ?_⟩
    simpa using List.all_eq_true.1 h b hb
  · intro h
    rw [h]
    simp

theorem nOf_seal {k : UInt8} {body : List UInt8} (h : body.length ≤ 505) : nOf (sealL k body) = body.length := by
  have e : ((sealL k body).drop 1).take 2 = beL body.length 2 := by
    unfold sealL aheadL
    rw [List.cons_append, List.drop_succ_cons, List.drop_zero, List.append_assoc]
    exact List.take_left' (beL_length _ _)
  unfold nOf
  rw [e, beNat_beL]
  omega

theorem openOk_seal {k : UInt8} {body : List UInt8} (hk : k ≠ 0) (h : body.length ≤ 505) : openOk (sealL k body) = true := by
  unfold openOk
  rw [nOf_seal h, sealL_take h]
  have e : (aheadL k body).drop (3 + body.length) = List.replicate (505 - body.length) 0 := by
    unfold aheadL
    rw [show 3 + body.length = (2 + body.length) + 1 by omega, List.drop_succ_cons, ← List.append_assoc]
    exact List.drop_left' (by simp [beL_length])
  rw [e, noughtsB_replicate]
  have : (sealL k body).getD 0 0 = k := rfl
  rw [this]
  simp [h, hk]

theorem open_seal {k : UInt8} {body : List UInt8} (hk : k ≠ 0) (h : body.length ≤ 505) : openV (sealL k body) = (k, body, 0) := by
  rw [openV_good ⟨sealL_length h, sealL_right _ _⟩ (openOk_seal hk h), nOf_seal h]
  have e : ((sealL k body).drop 3).take body.length = body := by
    unfold sealL aheadL
    rw [List.cons_append, List.drop_succ_cons, List.append_assoc, List.drop_left' (beL_length _ _), List.append_assoc]
    exact List.take_left
  rw [e]
  rfl

theorem seal_of_ok {l : List UInt8} (h : l.length = 512 ∧ rightB l = true) (ho : openOk l = true) : l = sealL (l.getD 0 0) ((l.drop 3).take (nOf l)) ∧ l.getD 0 0 ≠ 0 ∧ ((l.drop 3).take (nOf l)).length = nOf l ∧ nOf l ≤ 505 := by
  obtain ⟨h1, h2⟩ := h
  unfold openOk at ho
  simp only [Bool.and_eq_true, decide_eq_true_eq, bne_iff_ne] at ho
  obtain ⟨⟨hn, hk⟩, hz⟩ := ho
  have hlen : ((l.drop 3).take (nOf l)).length = nOf l := by simp; omega
  refine ⟨?_, hk, hlen, hn⟩
  have hf := right_form h1 h2
  have ha : aheadL (l.getD 0 0) ((l.drop 3).take (nOf l)) = l.take 508 := by
    rw [noughtsB_iff] at hz
    have hzl : ((l.take 508).drop (3 + nOf l)).length = 505 - nOf l := by simp; omega
    rw [hzl] at hz
    unfold aheadL
    rw [hlen, ← hz]
    match l, h1 with
    | x :: m, h1 =>
      have e1 : nOf (x :: m) = beNat (m.take 2) := rfl
      rw [List.getD_cons_zero]
      have e2 : beL (nOf (x :: m)) 2 = m.take 2 := by rw [e1]; exact beL_two_of _ (by simp at h1 ⊢; omega)
      rw [e2]
      generalize nOf (x :: m) = n at *
      rw [show (508 : Nat) = 507 + 1 from rfl, List.take_succ_cons, show 3 + n = (2 + n) + 1 by omega, List.drop_succ_cons]
      congr 1
      rw [show List.drop (2 + n + 1) (x :: List.take 507 m) = (List.take 507 m).drop (2 + n) from rfl]
      have e3 : (m.drop 2).take n = (m.take (2 + n)).drop 2 := by rw [List.take_drop]
      have e4 : m.take 2 = (m.take (2 + n)).take 2 := by rw [List.take_take]; congr 1; omega
      have e5 : m.take (2 + n) = (m.take 507).take (2 + n) := by rw [List.take_take]; congr 1; omega
      rw [e3, e4, ← List.append_assoc, List.take_append_drop, e5, List.take_append_drop]
  unfold sealL
  rw [ha]
  exact hf

theorem seal_open {l : List UInt8} (h : (openV l).2.2 = 0) : l = sealL (openV l).1 (openV l).2.1 ∧ (openV l).1 ≠ 0 ∧ (openV l).2.1.length ≤ 505 := by
  by_cases h1 : l.length = 512 ∧ rightB l = true
  · by_cases h2 : openOk l = true
    · rw [openV_good h1 h2]
      obtain ⟨a, b, c, d⟩ := seal_of_ok h1 h2
      exact ⟨a, b, by show (List.take _ _).length ≤ _; omega⟩
    · rw [openV_bad h1 h2] at h
      cases h
  · rw [openV_spoilt h1] at h
    cases h

theorem openV_zero {l : List UInt8} (h : (openV l).2.2 ≠ 0) : (openV l).1 = 0 ∧ (openV l).2.1 = [] ∧ ((openV l).2.2 = 9 ∨ (openV l).2.2 = 5) := by
  by_cases h1 : l.length = 512 ∧ rightB l = true
  · by_cases h2 : openOk l = true
    · rw [openV_good h1 h2] at h
      exact absurd rfl h
    · rw [openV_bad h1 h2]
      exact ⟨rfl, rfl, .inr rfl⟩
  · rw [openV_spoilt h1]
    exact ⟨rfl, rfl, .inl rfl⟩

/-- The document's way: sealed again, it is the same. -/
theorem openOk_iff {l : List UInt8} (h : l.length = 512 ∧ rightB l = true) (hn : nOf l ≤ 505) : openOk l = true ↔ l.getD 0 0 ≠ 0 ∧ sealL (l.getD 0 0) ((l.drop 3).take (nOf l)) = l := by
  constructor
  · intro ho
    obtain ⟨a, b, _, _⟩ := seal_of_ok h ho
    exact ⟨b, a.symm⟩
  · rintro ⟨hk, he⟩
    have hlen : ((l.drop 3).take (nOf l)).length ≤ 505 := by have := List.length_take_le (nOf l) (l.drop 3); omega
    have := openOk_seal hk hlen
    rwa [he] at this
end Go.Proofs.Ytcpapdpnnlnemaa
