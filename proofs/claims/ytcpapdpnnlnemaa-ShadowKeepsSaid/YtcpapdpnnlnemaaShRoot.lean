/- Roots in one of two blocks, in plain words: a root's bytes, the root of a block; no condition. -/
import Derived.Test.YtcpapdpnnlnemaaBlkPlain
import Derived.Test.YtcpapdpnnlnemaaDevPlain
namespace Go.Proofs.Ytcpapdpnnlnemaa
open Go.RowKit

/-- A root's bytes. -/
def rootL (g : Nat) (l : Bytes) : Bytes := beL g 8 ++ l
theorem rootL_length (g : Nat) (l : Bytes) : (rootL g l).length = 8 + l.length := by simp [rootL, beL_length]
/-- May it be a generation? -/
def genB (g : Nat) : Bool := decide (1 ≤ g) && decide (g ≤ 4611686018427387904)
theorem genB_iff {g : Nat} : genB g = true ↔ 1 ≤ g ∧ g ≤ 4611686018427387904 := by simp [genB]

/-- The generation that a block's body says. -/
def genOf (b : Bytes) : Nat := beNat ((openV b).2.1.take 8)
def isRoot (k : Nat) (b : Bytes) : Prop := (openV b).2.2 = 0 ∧ (openV b).1 = 1 ∧ 8 ≤ (openV b).2.1.length ∧ genB (genOf b) = true ∧ genOf b % 2 = k ∧ (openV b).2.1.length ≤ 488
instance (k : Nat) (b : Bytes) : Decidable (isRoot k b) := by unfold isRoot; exact inferInstance
/-- The root of the block k, where b stands; 0: none. -/
def rootOf (k : Nat) (b : Bytes) : Nat × Bytes := if isRoot k b then (genOf b, (openV b).2.1.drop 8) else (0, [])

theorem rootOf_yes {k : Nat} {b : Bytes} (h : isRoot k b) : rootOf k b = (genOf b, (openV b).2.1.drop 8) := if_pos h
theorem rootOf_no {k : Nat} {b : Bytes} (h : ¬ isRoot k b) : rootOf k b = (0, []) := if_neg h
theorem rootOf_back {g : Nat} {l : Bytes} (hg : genB g = true) (hl : l.length ≤ 480) : rootOf (g % 2) (sealL 1 (rootL g l)) = (g, l) := by
  have ho : openV (sealL 1 (rootL g l)) = (1, rootL g l, 0) := open_seal (by decide) (by rw [rootL_length]; omega)
  have h8 : (rootL g l).take 8 = beL g 8 := by unfold rootL; exact List.take_left' (beL_length _ _)
  have hgo : genOf (sealL 1 (rootL g l)) = g := by
    unfold genOf
    rw [ho]
    simp only
    rw [h8, beNat_beL]
    have := (genB_iff.1 hg).2
    omega
  have hr : isRoot (g % 2) (sealL 1 (rootL g l)) := by
    unfold isRoot
    rw [hgo, ho]
    simp only
    rw [rootL_length]
    exact ⟨trivial, trivial, by omega, hg, trivial, by omega⟩
  rw [rootOf_yes hr, hgo, ho]
  simp only
  have h8' : (rootL g l).drop 8 = l := by unfold rootL; exact List.drop_left' (beL_length _ _)
  rw [h8']
theorem rootOf_kind {k : Nat} {b : Bytes} (h : b.getD 0 0 = 0) : rootOf k b = (0, []) := by
  refine rootOf_no fun hr => ?_
  have h1 := hr.2.1
  unfold openV at h1
  split at h1
  · split at h1
    · rw [h] at h1
      cases h1
    · cases h1
  · cases h1
theorem rootOf_noughts (k : Nat) : rootOf k noughts = (0, []) := rootOf_kind (by unfold noughts; rfl)
theorem rootOf_spoilt {k : Nat} {b : Bytes} (h : openV b = (0, [], 9)) : rootOf k b = (0, []) := by
  refine rootOf_no fun hr => ?_
  have h1 := hr.1
  rw [h] at h1
  cases h1
theorem rootOf_own (k : Nat) (b : Bytes) : rootOf k b = (0, []) ∨ 1 ≤ (rootOf k b).1 ∧ (rootOf k b).1 ≤ 4611686018427387904 ∧ (rootOf k b).1 % 2 = k ∧ (rootOf k b).2.length ≤ 480 := by
  by_cases h : isRoot k b
  · right
    rw [rootOf_yes h]
    obtain ⟨_, _, h3, h4, h5, h6⟩ := h
    have := genB_iff.1 h4
    exact ⟨this.1, this.2, h5, by simp only [List.length_drop]; omega⟩
  · exact .inl (rootOf_no h)
theorem rootOf_gen (k : Nat) (b : Bytes) : (rootOf k b).1 ≤ 4611686018427387904 := by
  rcases rootOf_own k b with h | h
  · rw [h]; decide
  · exact h.2.1
theorem rootOf_len (k : Nat) (b : Bytes) : (rootOf k b).2.length ≤ 480 := by
  rcases rootOf_own k b with h | h
  · rw [h]; decide
  · exact h.2.2.2
end Go.Proofs.Ytcpapdpnnlnemaa
