/- What comes to each node, less what goes, as a row: one edge more; its bounds; no condition. -/
import Derived.Test.YtmdjgkclbjbdiaaNtPlain
namespace Go.Proofs.Ytmdjgkclbjbdiaa

theorem ovr_take {ls : Load} {k : Nat} {p : Ed × Int} (h : ls[k]? = some p) (v : Int) : ovr (ls.take (k + 1)) v = ovr (ls.take k) v + ovT v p := isum_take _ _ h
theorem ovT_le {p : Ed × Int} (h : 0 ≤ p.2) (h2 : p.2 ≤ 4503599627370496) (v : Int) : -4503599627370496 ≤ ovT v p ∧ ovT v p ≤ 4503599627370496 := by
  unfold ovT
  constructor <;> split <;> split <;> omega
theorem ovr_le : ∀ {ls : Load} (_ : ∀ p ∈ ls, SmallT p) (v : Int), -(ls.length * 4503599627370496 : Int) ≤ ovr ls v ∧ ovr ls v ≤ (ls.length * 4503599627370496 : Int)
  | [], _, v => by simp [ovr]
  | p :: r, h, v => by
    have h1 := h p (by simp)
    have h2 := ovT_le h1.1 h1.2.1 v
    have h3 := ovr_le (ls := r) (fun q hq => h q (List.mem_cons_of_mem _ hq)) v
    unfold ovr at *
    simp only [List.map_cons, List.sum_cons, List.length_cons]
    have : ((r.length + 1 : Nat) : Int) * 4503599627370496 = (r.length : Int) * 4503599627370496 + 4503599627370496 := by omega
    omega
theorem ovr_take_le {ls : Load} (h : ∀ p ∈ ls, SmallT p) (hn : ls.length ≤ 200) (k : Nat) (v : Int) : -900719925474099200 ≤ ovr (ls.take k) v ∧ ovr (ls.take k) v ≤ 900719925474099200 := by
  have h1 := ovr_le (ls := ls.take k) (fun p hp => h p (List.mem_of_mem_take hp)) v
  have h2 : (ls.take k).length ≤ 200 := by rw [List.length_take]; omega
  omega
theorem overL_length (n : Int) (ls : Load) : (overL n ls).length = n.toNat := by simp [overL]
theorem overL_at {n : Int} {ls : Load} {v : Nat} (h : v < n.toNat) : (overL n ls)[v]? = some (ovr ls v) := by
  unfold overL
  rw [List.getElem?_map, List.getElem?_range h]
  rfl
theorem overL_zero (m : Nat) : overL (m : Int) [] = List.replicate m 0 := by
  unfold overL
  apply List.ext_getElem?
  intro i
  rcases Nat.lt_or_ge i m with h | h
  · rw [List.getElem?_map, List.getElem?_range (by omega), List.getElem?_replicate, if_pos h]
    rfl
  · rw [List.getElem?_eq_none (by simpa using h), List.getElem?_eq_none (by simpa using h)]
/-- One edge more. -/
theorem over_step {m : Nat} {ls : Load} {k : Nat} {e : Ed} {f : Int} (h : ls[k]? = some (e, f)) {i j : Nat} (hi : e.fr = (i : Int)) (hj : e.to = (j : Int)) {x y : Int} (hx : x = ovr (ls.take k) i) (hy : y = if i = j then x - f else ovr (ls.take k) j) :
    overL (m : Int) (ls.take (k + 1)) = ((overL (m : Int) (ls.take k)).set i (x - f)).set j (y + f) := by
  apply List.ext_getElem?
  intro v
  rcases Nat.lt_or_ge v m with hv | hv
  · rw [overL_at (by omega), List.getElem?_set, List.getElem?_set, overL_at (by omega), ovr_take h]
    simp only [List.length_set, overL_length, Int.toNat_natCast]
    unfold ovT
    simp only [hi, hj, Int.natCast_inj]
    subst hx
    subst hy
    by_cases h1 : j = v
    · subst h1
      simp only [if_true, hv]
      by_cases h2 : i = j
      · subst h2; simp
      · simp [h2]
    · by_cases h2 : i = v
      · subst h2
        simp only [h1, if_true, if_false, hv]
        congr 1; omega
      · simp [h1, h2]
  · rw [List.getElem?_eq_none (by rw [overL_length]; omega), List.getElem?_eq_none (by simp [overL_length]; omega)]
end Go.Proofs.Ytmdjgkclbjbdiaa
