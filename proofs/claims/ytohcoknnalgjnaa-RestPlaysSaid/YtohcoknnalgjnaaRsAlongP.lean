/- What is over behind a way, node by node, as the statement reckons it; the cost, with numbers that wrap; no condition. -/
import Derived.Test.YtohcoknnalgjnaaRsLawP
import Derived.Test.YtohcoknnalgjnaaNtRel
namespace Go.Proofs.Ytohcoknnalgjnaa
open Go.RowKit
theorem wrap_add (x y : Int) : wrap64 (wrap64 x + y) = wrap64 (x + y) := by unfold wrap64; omega
theorem wrap_add2 (x y : Int) : wrap64 (y + wrap64 x) = wrap64 (y + x) := by unfold wrap64; omega
section
variable {es : List Ed} {fl l arcs : List Int} {a b : Int} {m : Nat}
theorem along_ok {n : Int} (h : (alongP n es fl arcs b).2 = 0) : ∃ l, AlongOk n es fl arcs b ∧ alongL es b arcs fl = some l ∧ alongP n es fl arcs b = (l, 0) := by
  unfold alongP at h
  by_cases hok : AlongOk n es fl arcs b
  · rw [if_pos hok] at h
    rcases hr : alongL es b arcs fl with _ | l
    · rw [hr] at h
      simp at h
    · refine ⟨l, hok, rfl, ?_⟩
      unfold alongP
      rw [if_pos hok, hr]
  · rw [if_neg hok] at h
    simp at h
theorem along_bad {n : Int} (h : ¬ (alongP n es fl arcs b).2 = 0) : (alongP n es fl arcs b).1 = [] := by
  unfold alongP at *
  by_cases hok : AlongOk n es fl arcs b
  · rw [if_pos hok] at *
    rcases hr : alongL es b arcs fl with _ | l
    · rfl
    · rw [hr] at h
      simp at h
  · rw [if_neg hok]
theorem coS_take {k : Nat} (h : arcs[k]? = some a) : coS es (arcs.take (k + 1)) = coS es (arcs.take k) + coA es a := isum_take _ _ h
theorem coS_wrap {k : Nat} (h : arcs[k]? = some a) (hc : wrap64 (coA es a * b) = coA es a * b) : wrap64 (wrap64 (coS es (arcs.take k) * b) + wrap64 (coA es a * b)) = wrap64 (coS es (arcs.take (k + 1)) * b) := by
  rw [hc, wrap_add, coS_take h, Int.add_mul]
/-- The rows of what is over. -/
theorem over_moved (hw : WithinP (m : Int) es fl) (hj : WayP es arcs) (hl : alongL es b arcs fl = some l) {s e : Int} (hs : arcs.head? = some s) (he : arcs.getLast? = some e) {i j : Nat} (hi : frA es s = (i : Int)) (hjj : toA es e = (j : Int)) (him : i < m) (hjm : j < m) (h0 : 0 ≤ b) :
    (((overL m (es.zip fl)).set i (ovr (es.zip fl) i - b)).set j ((if i = j then ovr (es.zip fl) i - b else ovr (es.zip fl) j) + b)) = overL m (es.zip l) := by
  apply List.ext_getElem?
  intro v
  by_cases hv : v < m
  · rw [overL_at (v := v) (by simpa using hv), way_over hw hj h0 hl hs he (v : Int), hi, hjj]
    simp only [List.getElem?_set, List.length_set, overL_length, Int.toNat_natCast]
    by_cases e1 : j = v
    · subst e1
      rw [if_pos rfl, if_pos hjm, if_pos rfl]
      by_cases e2 : i = j
      · subst e2
        rw [if_pos rfl, if_pos rfl]
        congr 1
        omega
      · rw [if_neg e2, if_neg (by omega)]
        congr 1
        omega
    · rw [if_neg e1, if_neg (show ¬ (j : Int) = (v : Int) by omega)]
      by_cases e2 : i = v
      · subst e2
        rw [if_pos rfl, if_pos him, if_pos rfl]
        congr 1
        omega
      · rw [if_neg e2, if_neg (show ¬ (i : Int) = (v : Int) by omega), overL_at (by simpa using hv)]
        congr 1
        omega
  · rw [List.getElem?_eq_none (by simp [overL_length]; omega), List.getElem?_eq_none (by simp [overL_length]; omega)]
theorem over_same (hw : WithinP (m : Int) es fl) (hj : WayP es arcs) (hl : alongL es b arcs fl = some l) {s e : Int} (hs : arcs.head? = some s) (he : arcs.getLast? = some e) (h : frA es s = toA es e) (h0 : 0 ≤ b) :
    overL m (es.zip l) = overL m (es.zip fl) := by
  unfold overL
  apply List.map_congr_left
  intro v _
  rw [way_over hw hj h0 hl hs he (v : Int), h]
  split <;> omega
theorem flows_same {n : Int} (h1 : WithinP n es fl) (h2 : WithinP n es l) (h : overL n (es.zip l) = overL n (es.zip fl)) : decide (FlowsP n es l) = decide (FlowsP n es fl) := by
  apply decide_eq_decide.2
  unfold FlowsP
  rw [h]
  exact ⟨fun k => ⟨h1, k.2⟩, fun k => ⟨h2, k.2⟩⟩
theorem cost_moved {n : Int} (hw : WithinP n es fl) (hw2 : WithinP n es l) (hj : WayP es arcs) (hl : alongL es b arcs fl = some l) : wrap64 (costP n es fl + wrap64 (coS es arcs * b)) = costP n es l := by
  rw [wrap_add2]
  have h1 := along_cost hw.2.1 hj.all hl
  have h2 := hw2.cost
  have h3 : costP n es fl = costL (es.zip fl) := by unfold costP; rw [if_pos hw]
  have h4 : costP n es l = costL (es.zip l) := by unfold costP; rw [if_pos hw2]
  rw [h3, h4, ← h1]
  obtain ⟨k1, k2, k3⟩ := h2
  rw [k3]
  unfold wrap64
  omega
end
end Go.Proofs.Ytohcoknnalgjnaa
