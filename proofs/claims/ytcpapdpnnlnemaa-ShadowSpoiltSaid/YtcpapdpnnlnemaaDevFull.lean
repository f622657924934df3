/- The statements' own blocks that are full of a letter; no condition. -/
import Derived.Test.YtcpapdpnnlnemaaDevMake
namespace Go.Proofs.Ytcpapdpnnlnemaa
open Go.RowKit

/-- A block that is full of a letter, with another one at its end. -/
def filled (c d : UInt8) : Bytes := List.replicate 511 c ++ [d]
theorem filled_length (c d : UInt8) : (filled c d).length = 512 := by
  unfold filled; rw [List.length_append, List.length_replicate]; rfl

def fillTo (c : UInt8) (r : Nat) : Bytes := List.replicate r c ++ List.replicate (512 - r) 0
theorem fillTo_length (c : UInt8) (r : Nat) (h : r ≤ 512) : (fillTo c r).length = 512 := by
  unfold fillTo; rw [List.length_append, List.length_replicate, List.length_replicate]; omega
theorem fillTo_zero (c : UInt8) : fillTo c 0 = noughts := rfl
theorem fill_set (n r : Nat) (c : UInt8) (h : r < n) : (List.replicate r c ++ List.replicate (n - r) 0).set r c = List.replicate (r + 1) c ++ List.replicate (n - (r + 1)) 0 := by
  obtain ⟨m, rfl⟩ : ∃ m, n = r + 1 + m := ⟨n - (r + 1), by omega⟩
  have e1 : r + 1 + m - r = m + 1 := by omega
  have e2 : r + 1 + m - (r + 1) = m := by omega
  rw [e1, e2, List.set_append_right _ _ (by simp)]
  simp only [List.length_replicate, Nat.sub_self, List.replicate_succ (n := m), List.set_cons_zero]
  rw [List.replicate_succ', List.append_assoc]
  rfl
theorem fillTo_set (c : UInt8) (r : Nat) (h : r < 512) : (fillTo c r).set r c = fillTo c (r + 1) := fill_set 512 r c h
theorem fillTo_last (c d : UInt8) : (fillTo c 512).set 511 d = filled c d := by
  have h : ∀ n : Nat, (List.replicate (n + 1) c ++ List.replicate 0 (0 : UInt8)).set n d = List.replicate n c ++ [d] := fun n => by
    rw [List.replicate_zero, List.append_nil, List.replicate_succ', List.set_append_right _ _ (by simp)]
    simp
  exact h 511

/-- A block that is full of a letter. -/
def fullOf (c : UInt8) : Bytes := filled c c

end Go.Proofs.Ytcpapdpnnlnemaa
