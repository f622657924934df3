/- What is pushed on an arc and back on the other one of its edge; no condition. -/
import Derived.Test.YtohcoknnalgjnaaRsBotP
import Derived.Test.YtohcoknnalgjnaaRsBits
namespace Go.Proofs.Ytohcoknnalgjnaa

section
variable {n : Int} {es : List Ed} {fl : List Int} {a b : Int}
theorem oth_idx (h : 0 ≤ a) : (othA a / 2).toNat = (a / 2).toNat ∧ 0 ≤ othA a := by
  unfold othA
  split <;> omega
theorem oth_par (a : Int) : othA a % 2 = 0 ↔ ¬ a % 2 = 0 := by
  unfold othA
  split <;> omega
theorem HasP.oth (h : HasP es a) : HasP es (othA a) := by
  have := oth_idx h.1
  unfold HasP at *
  omega
theorem oth_ends (h : 0 ≤ a) : frA es (othA a) = toA es a ∧ toA es (othA a) = frA es a ∧ coA es (othA a) = -coA es a := by
  have h1 := (oth_idx h).1
  have h2 := oth_par a
  unfold frA toA coA
  rw [edI_eq h1]
  by_cases e : a % 2 = 0
  · rw [if_neg (fun h => h2.1 h e), if_neg (fun h => h2.1 h e), if_neg (fun h => h2.1 h e), if_pos e, if_pos e, if_pos e]
    exact ⟨rfl, rfl, rfl⟩
  · rw [if_pos (h2.2 e), if_pos (h2.2 e), if_pos (h2.2 e), if_neg e, if_neg e, if_neg e]
    exact ⟨rfl, rfl, by omega⟩
theorem oth_room (h : 0 ≤ a) : roomL es fl a + roomL es fl (othA a) = (edI es a).cap := by
  have h1 := (oth_idx h).1
  have h2 := oth_par a
  unfold roomL
  rw [edI_eq h1, flI_eq h1]
  by_cases e : a % 2 = 0
  · rw [if_pos e, if_neg (fun h => h2.1 h e)]; omega
  · rw [if_neg e, if_pos (h2.2 e)]; omega
theorem push_flI (h : HasP es a) (hl : fl.length = es.length) : flI (pushL fl a b) a = if a % 2 = 0 then flI fl a + b else flI fl a - b := by
  unfold flI
  rw [push_get (by rw [hl]; exact h.lt), if_pos rfl]
  rfl
theorem push_room (h : HasP es a) (hl : fl.length = es.length) : roomL es (pushL fl a b) a = roomL es fl a - b ∧ roomL es (pushL fl a b) (othA a) = roomL es fl (othA a) + b := by
  have h1 := (oth_idx h.1).1
  have h2 := oth_par a
  have h3 := push_flI (b := b) h hl
  unfold roomL
  rw [edI_eq h1, flI_eq (fl := pushL fl a b) h1, flI_eq (fl := fl) h1, h3]
  by_cases e : a % 2 = 0
  · rw [if_pos e, if_pos e, if_pos e, if_neg (fun h => h2.1 h e), if_neg (fun h => h2.1 h e)]; omega
  · rw [if_neg e, if_neg e, if_neg e, if_pos (h2.2 e), if_pos (h2.2 e)]; omega
theorem push_back (h : HasP es a) (hl : fl.length = es.length) : pushL (pushL fl a b) (othA a) b = fl := by
  have h1 := (oth_idx h.1).1
  have h2 := oth_par a
  have h3 := push_flI (b := b) h hl
  have hlt : (a / 2).toNat < fl.length := by rw [hl]; exact h.lt
  unfold pushL
  rw [h1, List.set_set]
  have h4 : flI (fl.set (a / 2).toNat (if a % 2 = 0 then flI fl a + b else flI fl a - b)) (othA a) = if a % 2 = 0 then flI fl a + b else flI fl a - b := by
    rw [flI_eq h1]
    exact h3
  rw [h4]
  have h5 : (if othA a % 2 = 0 then (if a % 2 = 0 then flI fl a + b else flI fl a - b) + b else (if a % 2 = 0 then flI fl a + b else flI fl a - b) - b) = flI fl a := by
    by_cases e : a % 2 = 0
    · rw [if_neg (fun h => h2.1 h e), if_pos e]; omega
    · rw [if_pos (h2.2 e), if_neg e]; omega
  rw [h5]
  apply List.ext_getElem?
  intro i
  rw [List.getElem?_set]
  by_cases e : (a / 2).toNat = i
  · subst e
    rw [if_pos rfl, if_pos hlt]
    exact (h.flw hl).symm
  · rw [if_neg e]
/-- What a push on one arc answers. -/
theorem push_eq (hw : WithinP n es fl) (h : HasP es a) : alongP n es fl [a] b = if 0 ≤ b then (if b ≤ roomL es fl a then (pushL fl a b, 0) else ([], 7)) else ([], 1) := by
  have hway : WayP es [a] := by
    unfold WayP
    simp [wayTo, wayT, List.range_succ, h]
  unfold alongP
  by_cases h0 : 0 ≤ b
  · rw [if_pos ⟨hw, h0, hway⟩, if_pos h0]
    by_cases hb : b ≤ roomL es fl a
    · rw [if_pos hb]
      simp [alongL, hb]
    · rw [if_neg hb]
      simp [alongL, hb]
  · rw [if_neg (fun h => h0 h.2.1), if_neg h0]
theorem endsP_pos (hr : RightP n es) (h : HasP es a) : endsP n es a = (frA es a, toA es a, coA es a) := by unfold endsP; rw [if_pos ⟨hr, h⟩]
theorem roomP_pos (hr : WithinP n es fl) (h : HasP es a) : roomP n es fl a = roomL es fl a := by unfold roomP; rw [if_pos ⟨hr, h⟩]
end
end Go.Proofs.Ytohcoknnalgjnaa
