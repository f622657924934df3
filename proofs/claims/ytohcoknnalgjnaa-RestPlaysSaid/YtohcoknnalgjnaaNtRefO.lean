/- The document's Over and Flows; no condition. -/
import Derived.Test.YtohcoknnalgjnaaNtRefW
namespace Go.Proofs.Ytohcoknnalgjnaa
open Go.RowKit

/-- The row while node v is summed, behind i edges. -/
def rowF (ls : Load) (v i m : Nat) : List Int := (List.range m).map fun u => if u < v then ovr ls (u : Int) else if u = v then ovr (ls.take i) (v : Int) else 0
theorem rowF_length (ls : Load) (v i m : Nat) : (rowF ls v i m).length = m := by simp [rowF]
theorem rowF_get {ls : Load} {v i m u : Nat} (h : u < m) : (rowF ls v i m)[u]? = some (if u < v then ovr ls (u : Int) else if u = v then ovr (ls.take i) (v : Int) else 0) := by
  unfold rowF
  rw [List.getElem?_map, List.getElem?_range h]
  rfl
theorem rowF_at {ls : Load} {v i m : Nat} (h : v < m) : (rowF ls v i m)[v]? = some (ovr (ls.take i) (v : Int)) := by
  rw [rowF_get h, if_neg (Nat.lt_irrefl v), if_pos rfl]
theorem rowF_ext {ls ls' : Load} {v i v' i' m : Nat} (h : ∀ u, u < m → (if u < v then ovr ls (u : Int) else if u = v then ovr (ls.take i) (v : Int) else 0) = (if u < v' then ovr ls' (u : Int) else if u = v' then ovr (ls'.take i') (v' : Int) else 0)) : rowF ls v i m = rowF ls' v' i' m := by
  unfold rowF
  exact List.map_congr_left fun u hu => h u (List.mem_range.1 hu)
theorem rowF_start (ls : Load) (m : Nat) : rowF ls 0 0 m = List.replicate m 0 := by
  apply List.ext_getElem?
  intro u
  rcases Nat.lt_or_ge u m with h | h
  · rw [rowF_get h, List.getElem?_replicate, if_pos h, if_neg (by omega)]
    split
    · simp [ovr]
    · rfl
  · rw [List.getElem?_eq_none (by rw [rowF_length]; exact h), List.getElem?_eq_none (by simpa using h)]
theorem rowF_next {ls : Load} {v i m : Nat} (hi : ls.length ≤ i) : rowF ls v i m = rowF ls (v + 1) 0 m := by
  refine rowF_ext fun u _ => ?_
  rw [List.take_of_length_le hi]
  by_cases h1 : u < v
  · rw [if_pos h1, if_pos (by omega)]
  · rw [if_neg h1]
    by_cases h2 : u = v
    · subst h2
      rw [if_pos rfl, if_pos (by omega)]
    · rw [if_neg h2, if_neg (by omega)]
      split
      · simp [ovr]
      · rfl
theorem rowF_end {ls : Load} {m : Nat} : rowF ls m 0 m = overL (m : Int) ls := by
  unfold rowF overL
  rw [Int.toNat_natCast]
  exact List.map_congr_left fun u hu => by rw [if_pos (List.mem_range.1 hu)]
theorem rowF_set {ls : Load} {v i m : Nat} : (rowF ls v i m).set v (ovr (ls.take (i + 1)) (v : Int)) = rowF ls v (i + 1) m := by
  apply List.ext_getElem?
  intro u
  rcases Nat.lt_or_ge u m with h | h
  · rw [List.getElem?_set, rowF_length, rowF_get h, rowF_get h]
    by_cases h1 : v = u
    · subst h1
      simp [h]
    · have h2 : ¬ u = v := fun e => h1 e.symm
      simp [h1, h2]
  · rw [List.getElem?_eq_none (by simp [rowF_length, h]), List.getElem?_eq_none (by rw [rowF_length]; exact h)]
theorem rowF_same {ls : Load} {v i m : Nat} (h : ovr (ls.take (i + 1)) (v : Int) = ovr (ls.take i) (v : Int)) : rowF ls v i m = rowF ls v (i + 1) m := by
  refine rowF_ext fun u _ => ?_
  rw [h]

end Go.Proofs.Ytohcoknnalgjnaa
