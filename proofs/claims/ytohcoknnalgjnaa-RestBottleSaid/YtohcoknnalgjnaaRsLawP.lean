/- What Bottle and Along answer to each other; no condition. -/
import Derived.Test.YtohcoknnalgjnaaRsBackP
import Derived.Test.YtohcoknnalgjnaaRsWayP
namespace Go.Proofs.Ytohcoknnalgjnaa
section
variable {n : Int} {es : List Ed} {fl arcs : List Int} {a b : Int}
theorem along_none_code (h : ¬ (WithinP n es fl ∧ WayP es arcs)) : alongP n es fl arcs b = ([], 1) := by
  unfold alongP
  rw [if_neg (fun k => h ⟨k.1, k.2.2⟩)]
theorem bottle_none (h : ¬ (WithinP n es fl ∧ WayP es arcs)) : bottleP n es fl arcs = 0 := by unfold bottleP; rw [if_neg h]
theorem bottle_code (hw : WithinP n es fl) (hj : WayP es arcs) : (alongP n es fl arcs 0).2 = 0 ∧ (alongP n es fl arcs (bottleP n es fl arcs)).2 = 0 ∧ (alongP n es fl arcs (bottleP n es fl arcs + 1)).2 = 7 := by
  have h1 := bottle_le (n := n) (es := es) (fl := fl) (arcs := arcs)
  refine ⟨along_code.2 ⟨hw, hj, by omega, h1.1⟩, along_code.2 ⟨hw, hj, h1.1, Int.le_refl _⟩, ?_⟩
  have h2 := bottle_iff (b := bottleP n es fl arcs + 1) hw hj (by omega)
  unfold alongP
  rw [if_pos ⟨hw, by omega, hj⟩]
  rcases hr : alongL es (bottleP n es fl arcs + 1) arcs fl with _ | l
  · rfl
  · rw [hr] at h2
    have := h2.1 rfl
    omega
theorem bottle_first (hw : WithinP n es fl) (hj : WayP es arcs) (ha : arcs[0]? = some a) : bottleP n es fl arcs ≤ roomL es fl a := by
  have h1 := bottle_le (n := n) (es := es) (fl := fl) (arcs := arcs)
  have h2 := (bottle_iff (b := bottleP n es fl arcs) hw hj h1.1).2 (Int.le_refl _)
  rcases arcs with _ | ⟨c, r⟩
  · simp at ha
  · simp only [List.getElem?_cons_zero, Option.some.injEq] at ha
    subst ha
    unfold alongL at h2
    split at h2
    · assumption
    · simp at h2
end
end Go.Proofs.Ytohcoknnalgjnaa
