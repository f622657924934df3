/- Two flows added, as plain rows: what is over and the cost are the sums; no condition. -/
import Derived.Test.YtmdjgkclbjbdiaaNtOvPlain
namespace Go.Proofs.Ytmdjgkclbjbdiaa

/-- The first k are added. -/
def addTo (a b : List Int) : Nat → List Int
  | 0 => a
  | k + 1 => (addTo a b k).set k (a.getD k 0 + b.getD k 0)
theorem addTo_length (a b : List Int) : ∀ k, (addTo a b k).length = a.length
  | 0 => rfl
  | k + 1 => by simp [addTo, addTo_length a b k]
theorem addTo_at (a b : List Int) : ∀ (k i : Nat), (addTo a b k)[i]? = if i < k ∧ i < a.length then some (a.getD i 0 + b.getD i 0) else a[i]?
  | 0, i => by simp [addTo]
  | k + 1, i => by
    unfold addTo
    rw [List.getElem?_set, addTo_length, addTo_at a b k i]
    by_cases h : k = i
    · subst h
      by_cases h2 : k < a.length
      · simp [h2]
      · simp [h2]
    · simp only [h, if_false]
      by_cases h3 : i < k ∧ i < a.length
      · rw [if_pos h3, if_pos ⟨by omega, h3.2⟩]
      · rw [if_neg h3, if_neg (by omega)]
theorem addTo_all {a b : List Int} (h : b.length = a.length) : addTo a b a.length = List.zipWith (· + ·) a b := by
  apply List.ext_getElem?
  intro i
  rw [addTo_at, List.getElem?_zipWith]
  by_cases hi : i < a.length
  · rw [if_pos ⟨hi, hi⟩, List.getElem?_eq_getElem hi, List.getElem?_eq_getElem (by omega)]
    simp [List.getD_eq_getElem?_getD, hi, h]
  · rw [if_neg (by omega), List.getElem?_eq_none (by omega)]
theorem ovr_add (v : Int) : ∀ (es : List Ed) (a b : List Int), a.length = es.length → b.length = es.length → ovr (es.zip (List.zipWith (· + ·) a b)) v = ovr (es.zip a) v + ovr (es.zip b) v
  | [], _, _, _, _ => by simp [ovr]
  | e :: r, [], _, h, _ => by simp at h
  | e :: r, _ :: _, [], _, h => by simp at h
  | e :: r, x :: a, y :: b, h1, h2 => by
    have ih := ovr_add v r a b (by simpa using h1) (by simpa using h2)
    unfold ovr at *
    simp only [List.zipWith_cons_cons, List.zip_cons_cons, List.map_cons, List.sum_cons, ih]
    have : ovT v (e, x + y) = ovT v (e, x) + ovT v (e, y) := by
      unfold ovT
      simp only
      split <;> split <;> omega
    omega
theorem cost_add : ∀ (es : List Ed) (a b : List Int), a.length = es.length → b.length = es.length → costL (es.zip (List.zipWith (· + ·) a b)) = costL (es.zip a) + costL (es.zip b)
  | [], _, _, _, _ => by simp [costL]
  | e :: r, [], _, h, _ => by simp at h
  | e :: r, _ :: _, [], _, h => by simp at h
  | e :: r, x :: a, y :: b, h1, h2 => by
    have ih := cost_add r a b (by simpa using h1) (by simpa using h2)
    unfold costL at *
    simp only [List.zipWith_cons_cons, List.zip_cons_cons, List.map_cons, List.sum_cons, ih, Int.add_mul]
    omega
/-- Two that flow make one that flows; one that flows, less one, leaves one. -/
theorem flows_add {n : Int} {es : List Ed} {a b : List Int} (ha : WithinP n es a) (hb : WithinP n es b) (hc : WithinP n es (List.zipWith (· + ·) a b)) :
    (FlowsP n es a → (FlowsP n es b ↔ FlowsP n es (List.zipWith (· + ·) a b))) ∧ (FlowsP n es b → (FlowsP n es a ↔ FlowsP n es (List.zipWith (· + ·) a b))) := by
  have key : ∀ l, WithinP n es l → (FlowsP n es l ↔ ∀ v, v < n.toNat → ovr (es.zip l) (v : Int) = 0) := fun l hl => by
    unfold FlowsP overL
    constructor
    · rintro ⟨_, h⟩ v hv
      exact h _ (List.mem_map.2 ⟨v, List.mem_range.2 hv, rfl⟩)
    · intro h
      refine ⟨hl, fun x hx => ?_⟩
      obtain ⟨v, hv, rfl⟩ := List.mem_map.1 hx
      exact h v (List.mem_range.1 hv)
  rw [key a ha, key b hb, key _ hc]
  have hs := fun v => ovr_add v es a b ha.2.1 hb.2.1
  refine ⟨fun h1 => ⟨fun h2 v hv => by rw [hs, h1 v hv, h2 v hv]; rfl, fun h3 v hv => by have := h3 v hv; rw [hs, h1 v hv] at this; omega⟩, fun h2 => ⟨fun h1 v hv => by rw [hs, h1 v hv, h2 v hv]; rfl, fun h3 v hv => by have := h3 v hv; rw [hs, h2 v hv] at this; omega⟩⟩
end Go.Proofs.Ytmdjgkclbjbdiaa
