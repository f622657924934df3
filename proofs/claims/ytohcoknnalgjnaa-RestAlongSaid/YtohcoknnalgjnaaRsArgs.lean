/- How slices of ints that are handed in read; no condition. -/
import Derived.Test.YtohcoknnalgjnaaNtArgs
namespace Go.Proofs.Ytohcoknnalgjnaa
open Go.RowKit Go.Maps Go.ChangeShapes Go.WideShapes
theorem is_of_trod {H : Type} {enc : TypeId × Value → H} {W : World} {n : Nat} {v : Value} {x : DataW H × List MemPlace} (h : DataW.trod enc Try.prog W 0 (fun _ => true) true n 39 [v] = some x) : ∃ l, Fs W v l := by
  rcases open_ints Try.underlying39 Try.underlying3 (by kernel_rfl) h with ⟨hcs, _⟩ | ⟨a, l, c, zs, hcs, _, hl, hm, hz, _, hcell, hwz⟩
  · simp at hcs
    subst hcs
    exact ⟨[], Rd.nil _ _ _⟩
  · simp at hcs
    subst hcs
    exact fs_of_row (zs := zs) (.inr ⟨_, rfl, hl, hm, by simpa using hz, hcell, hwz⟩)
end Go.Proofs.Ytohcoknnalgjnaa
