/- An edge's two arcs; what may be pushed on one arc alone; no condition. -/
import Derived.Test.YtohcoknnalgjnaaRsLawP
import Derived.Test.YtohcoknnalgjnaaNtRel
namespace Go.Proofs.Ytohcoknnalgjnaa
section
variable {n : Int} {es : List Ed} {fl : List Int} {a : Int}
theorem ed_at {i : Nat} {e : Ed} (h : es[i]? = some e) : edI es (2 * (i : Int)) = e ∧ edI es (2 * (i : Int) + 1) = e := by
  have h1 : (2 * (i : Int) / 2).toNat = i := by omega
  have h2 : ((2 * (i : Int) + 1) / 2).toNat = i := by omega
  unfold edI
  rw [h1, h2, List.getD_eq_getElem?_getD, h]
  exact ⟨rfl, rfl⟩
theorem two_has {i : Nat} (h : i < es.length) {k : Nat} (hk : k < 2) : HasP es (2 * (i : Int) + (k : Int)) := by
  unfold HasP
  omega
theorem two_oth {i k : Nat} (hk : k < 2) : othA (2 * (i : Int) + (k : Int)) = 2 * (i : Int) + 1 - (k : Int) := by
  unfold othA
  split <;> omega
theorem two_ed {i : Nat} {e : Ed} (h : es[i]? = some e) {k : Nat} (hk : k < 2) : edI es (2 * (i : Int) + (k : Int)) = e := by
  obtain rfl | rfl : k = 0 ∨ k = 1 := by omega
  · rw [Int.natCast_zero, Int.add_zero]
    exact (ed_at h).1
  · exact (ed_at h).2
theorem ends_two {i : Nat} {e : Ed} (hr : RightP n es) (h : es[i]? = some e) : endsP n es (2 * (i : Int)) = (e.fr, e.to, e.cost) ∧ endsP n es (2 * (i : Int) + 1) = (e.to, e.fr, -e.cost) := by
  have hi := (List.getElem?_eq_some_iff.1 h).1
  have h1 : HasP es (2 * (i : Int)) := by unfold HasP; omega
  have h2 : HasP es (2 * (i : Int) + 1) := by unfold HasP; omega
  rw [endsP_pos hr h1, endsP_pos hr h2]
  unfold frA toA coA
  rw [if_pos (by omega), if_pos (by omega), if_pos (by omega), if_neg (by omega), if_neg (by omega), if_neg (by omega), (ed_at h).1, (ed_at h).2]
  exact ⟨rfl, rfl⟩
theorem bottle_one (hw : WithinP n es fl) (h : HasP es a) : bottleP n es fl [a] = roomL es fl a := by
  have hj : WayP es [a] := by
    unfold WayP
    simp [wayTo, wayT, List.range_succ, h]
  have h1 := bottle_le (n := n) (es := es) (fl := fl) (arcs := [a])
  have h2 := (h.room hw).1
  have h3 : ∀ b : Int, (alongL es b [a] fl).isSome = true ↔ b ≤ roomL es fl a := by
    intro b
    unfold alongL
    by_cases hb : b ≤ roomL es fl a
    · rw [if_pos hb]; simp [alongL, hb]
    · rw [if_neg hb]; simp [hb]
  have h4 := (h3 _).1 ((bottle_iff (b := bottleP n es fl [a]) hw hj h1.1).2 (Int.le_refl _))
  have h5 := (bottle_iff (b := roomL es fl a) hw hj h2).1 ((h3 _).2 (Int.le_refl _))
  omega
end
end Go.Proofs.Ytohcoknnalgjnaa
