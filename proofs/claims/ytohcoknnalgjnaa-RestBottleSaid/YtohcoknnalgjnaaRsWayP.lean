/- What is over at each node, and the cost, behind pushes along a way; no condition. -/
import Derived.Test.YtohcoknnalgjnaaRsBotP
namespace Go.Proofs.Ytohcoknnalgjnaa

section
variable {n : Int} {es : List Ed} {fl arcs : List Int} {a b : Int}
theorem isum_set {α β : Type} (f : α × β → Int) : ∀ (es : List α) (l : List β) (i : Nat) (e : α) (x y : β), es[i]? = some e → l[i]? = some x → ((es.zip (l.set i y)).map f).sum = ((es.zip l).map f).sum - f (e, x) + f (e, y)
  | [], _, _, _, _, _, h, _ => by simp at h
  | _ :: _, [], _, _, _, _, _, h => by simp at h
  | c :: es, z :: l, 0, e, x, y, h1, h2 => by
    simp only [List.getElem?_cons_zero, Option.some.injEq] at h1 h2
    subst h1; subst h2
    simp only [List.set_cons_zero, List.zip_cons_cons, List.map_cons, List.sum_cons]
    omega
  | c :: es, z :: l, i + 1, e, x, y, h1, h2 => by
    simp only [List.getElem?_cons_succ] at h1 h2
    have := isum_set f es l i e x y h1 h2
    simp only [List.set_cons_succ, List.zip_cons_cons, List.map_cons, List.sum_cons, this]
    omega
theorem push_over (h : HasP es a) (hl : fl.length = es.length) (b v : Int) : ovr (es.zip (pushL fl a b)) v = ovr (es.zip fl) v + (if toA es a = v then b else 0) - (if frA es a = v then b else 0) := by
  unfold ovr pushL
  rw [isum_set _ _ _ _ _ _ _ h.ed (h.flw hl)]
  unfold ovT toA frA
  simp only
  split <;> split <;> split <;> omega
theorem push_cost (h : HasP es a) (hl : fl.length = es.length) (b : Int) : costL (es.zip (pushL fl a b)) = costL (es.zip fl) + coA es a * b := by
  unfold costL pushL
  rw [isum_set _ _ _ _ _ _ _ h.ed (h.flw hl)]
  unfold coA
  simp only
  split
  · rw [Int.add_mul, Int.mul_comm b]
    omega
  · rw [Int.sub_mul, Int.neg_mul, Int.mul_comm b]
    omega
/-- What arcs cost. -/
def coS (es : List Ed) (arcs : List Int) : Int := (arcs.map (coA es)).sum
theorem along_cost : ∀ {arcs fl : List Int}, fl.length = es.length → (∀ a ∈ arcs, HasP es a) → ∀ {l}, alongL es b arcs fl = some l → costL (es.zip l) = costL (es.zip fl) + coS es arcs * b
  | [], fl, _, _, l, h => by cases h; simp [coS]
  | a :: r, fl, hl, hh, l, h => by
    unfold alongL at h
    split at h
    · have h1 := along_cost (fl := pushL fl a b) (by rw [pushL_length, hl]) (fun c hc => hh c (List.mem_cons_of_mem _ hc)) h
      rw [h1, push_cost (hh a (by simp)) hl]
      simp only [coS, List.map_cons, List.sum_cons, Int.add_mul]
      omega
    · cases h
/-- Arcs each of which begins where the one ahead ends. -/
def Linked (es : List Ed) : List Int → Prop
  | [] => True
  | [_] => True
  | a :: c :: r => frA es c = toA es a ∧ Linked es (c :: r)
theorem linked_of : ∀ {arcs : List Int}, (∀ i a c, arcs[i]? = some a → arcs[i + 1]? = some c → frA es c = toA es a) → Linked es arcs
  | [], _ => trivial
  | [_], _ => trivial
  | a :: c :: r, h => ⟨h 0 a c rfl rfl, linked_of fun i x y hx hy => h (i + 1) x y (by simpa using hx) (by simpa using hy)⟩
theorem along_over (v : Int) : ∀ {arcs fl : List Int} {s e : Int}, fl.length = es.length → (∀ a ∈ arcs, HasP es a) → Linked es arcs → arcs.head? = some s → arcs.getLast? = some e → ∀ {l}, alongL es b arcs fl = some l →
    ovr (es.zip l) v = ovr (es.zip fl) v + (if toA es e = v then b else 0) - (if frA es s = v then b else 0)
  | [], _, _, _, _, _, _, hs, _, _, _ => by simp at hs
  | [a], fl, s, e, hl, hh, _, hs, he, l, h => by
    simp only [List.head?_cons, Option.some.injEq] at hs
    simp only [List.getLast?_singleton, Option.some.injEq] at he
    subst hs; subst he
    unfold alongL at h
    split at h
    · cases h
      exact push_over (hh a (by simp)) hl b v
    · cases h
  | a :: c :: r, fl, s, e, hl, hh, hk, hs, he, l, h => by
    simp only [List.head?_cons, Option.some.injEq] at hs
    subst hs
    unfold alongL at h
    split at h
    · have h1 := along_over v (arcs := c :: r) (fl := pushL fl a b) (s := c) (e := e) (by rw [pushL_length, hl]) (fun x hx => hh x (List.mem_cons_of_mem _ hx)) hk.2 rfl (by rwa [List.getLast?_cons_cons] at he) h
      rw [h1, push_over (hh a (by simp)) hl, hk.1]
      omega
    · cases h
theorem HasP.ends (h : HasP es a) {n : Int} (hr : RightP n es) : 0 ≤ frA es a ∧ frA es a < n ∧ 0 ≤ toA es a ∧ toA es a < n ∧ -1000 ≤ coA es a ∧ coA es a ≤ 1000 := by
  have := hr.2.2.2.1 _ h.mem
  unfold Perm at this
  unfold frA toA coA
  split <;> omega
/-- All that RestAlong says. -/
theorem way_over (hw : WithinP n es fl) (hh : WayP es arcs) (h0 : 0 ≤ b) {l : List Int} (hl : alongL es b arcs fl = some l) {s e : Int} (hs : arcs.head? = some s) (he : arcs.getLast? = some e) (v : Int) :
    ovr (es.zip l) v = ovr (es.zip fl) v + (if toA es e = v then b else 0) - (if frA es s = v then b else 0) :=
  along_over v hw.2.1 hh.all (linked_of fun _ _ _ h1 h2 => hh.link h1 h2) hs he hl
end
end Go.Proofs.Ytohcoknnalgjnaa
