/- Nodes filled with entries one behind the other, as lists: what they hold, how many they are; no condition. -/
import Derived.Test.YtgekeemhbnhelaaGreatM23
namespace Go.Proofs.YtgekeemhbnhelaaGreat
open Go.RowKit

/-- One entry more: into the last node, or a new one. -/
def fillStep (lvl : Nat) : List (List En) → En → List (List En)
  | [], e => [[e]]
  | [a], e => if 503 < nsize lvl a + esize lvl e then [a, [e]] else [a ++ [e]]
  | a :: b :: r, e => a :: fillStep lvl (b :: r) e
def fillL (lvl : Nat) (es : List En) : List (List En) := es.foldl (fillStep lvl) []
/-- One that is alone gets the last one of the node ahead. -/
def shareL (lvl : Nat) : List (List En) → List (List En)
  | [] => []
  | [a] => [a]
  | [a, b] => if loneB lvl b.length = true then [a.take (a.length - 1), a.drop (a.length - 1) ++ b] else [a, b]
  | a :: b :: c :: r => a :: shareL lvl (b :: c :: r)

theorem fill_snoc (lvl : Nat) (e : En) : ∀ (i : List (List En)) (a : List En), fillStep lvl (i ++ [a]) e = if 503 < nsize lvl a + esize lvl e then i ++ [a, [e]] else i ++ [a ++ [e]]
  | [], a => by
    show (if 503 < nsize lvl a + esize lvl e then [a, [e]] else [a ++ [e]]) = _
    split <;> rfl
  | [b], a => by
    show b :: (if 503 < nsize lvl a + esize lvl e then [a, [e]] else [a ++ [e]]) = _
    split <;> rfl
  | b :: c :: r, a => by
    have ih := fill_snoc lvl e (c :: r) a
    show b :: fillStep lvl (c :: r ++ [a]) e = _
    rw [ih]
    split <;> rfl
theorem share_snoc (lvl : Nat) : ∀ (i : List (List En)) (a b : List En), shareL lvl (i ++ [a, b]) = if loneB lvl b.length = true then i ++ [a.take (a.length - 1), a.drop (a.length - 1) ++ b] else i ++ [a, b]
  | [], a, b => by
    show (if loneB lvl b.length = true then [a.take (a.length - 1), a.drop (a.length - 1) ++ b] else [a, b]) = _
    split <;> rfl
  | [c], a, b => by
    show c :: (if loneB lvl b.length = true then [a.take (a.length - 1), a.drop (a.length - 1) ++ b] else [a, b]) = _
    split <;> rfl
  | c :: d :: r, a, b => by
    have ih := share_snoc lvl (d :: r) a b
    have e : shareL lvl (c :: d :: r ++ [a, b]) = c :: shareL lvl (d :: r ++ [a, b]) := by
      cases r <;> rfl
    rw [e, ih]
    split <;> rfl

/-- What holds of nodes as they are filled. -/
structure FillOk (lvl : Nat) (es : List En) (Ls : List (List En)) : Prop where
  flat : Ls.flatten = es
  ne : ∀ L ∈ Ls, L ≠ []
  fit : ∀ L ∈ Ls, nsize lvl L ≤ 503
  full : ∀ (i : List (List En)) (a b : List En) (r : List (List En)), Ls = i ++ a :: b :: r → ∃ e, b.head? = some e ∧ 503 < nsize lvl a + esize lvl e
theorem snoc_cases {α : Type} (l : List α) : l = [] ∨ ∃ i a, l = i ++ [a] := by
  rcases List.eq_nil_or_concat l with h | ⟨i, a, h⟩
  · exact .inl h
  · exact .inr ⟨i, a, by rw [h, List.concat_eq_append]⟩
theorem snoc_cases3 {α : Type} (l : List α) : l = [] ∨ (∃ a, l = [a]) ∨ ∃ i a b, l = i ++ [a, b] := by
  rcases snoc_cases l with h | ⟨i, b, rfl⟩
  · exact .inl h
  · rcases snoc_cases i with rfl | ⟨i, a, rfl⟩
    · exact .inr (.inl ⟨b, rfl⟩)
    · exact .inr (.inr ⟨i, a, b, by simp⟩)
theorem last_split {α : Type} {l : List α} (h : l ≠ []) : ∃ i a, l = i ++ [a] := (snoc_cases l).resolve_left h
theorem mid_snoc {α : Type} {i : List α} {c a b : α} {i' r : List α} (h : i ++ [c] = i' ++ a :: b :: r) : (∃ r', r = r' ++ [c] ∧ i = i' ++ a :: b :: r') ∨ (r = [] ∧ b = c ∧ i = i' ++ [a]) := by
  rcases snoc_cases r with rfl | ⟨r', x, rfl⟩
  · have h2 : i ++ [c] = (i' ++ [a]) ++ [b] := by rw [h]; simp
    obtain ⟨e1, e2⟩ := List.append_inj' h2 rfl
    exact .inr ⟨rfl, by simpa using e2.symm, e1⟩
  · have h2 : i ++ [c] = (i' ++ a :: b :: r') ++ [x] := by rw [h]; simp
    obtain ⟨e1, e2⟩ := List.append_inj' h2 rfl
    exact .inl ⟨r', by have : c = x := by simpa using e2
                       rw [this], e1⟩
theorem FillOk.step {lvl : Nat} {es : List En} {Ls : List (List En)} (h : FillOk lvl es Ls) {e : En} (he : esize lvl e ≤ 503) : FillOk lvl (es ++ [e]) (fillStep lvl Ls e) := by
  by_cases hn : Ls = []
  · subst hn
    have h1 := h.flat
    simp only [List.flatten_nil] at h1
    subst h1
    refine ⟨rfl, fun L hL => ?_, fun L hL => ?_, fun i a b r hh => ?_⟩
    · rw [List.mem_singleton.1 hL]; simp
    · rw [List.mem_singleton.1 hL, nsize_cons, nsize_nil]; omega
    · have := congrArg List.length hh
      simp [fillStep] at this
      omega
  · obtain ⟨i, a, rfl⟩ := last_split hn
    rw [fill_snoc]
    have hf := h.flat
    rw [List.flatten_append, List.flatten_singleton] at hf
    split
    · rename_i hgt
      refine ⟨?_, fun L hL => ?_, fun L hL => ?_, fun i' a' b' r hh => ?_⟩
      · rw [← hf]; simp
      · simp only [List.mem_append, List.mem_cons, List.not_mem_nil, or_false] at hL
        rcases hL with hL | rfl | rfl
        · exact h.ne L (by simp [hL])
        · exact h.ne L (by simp)
        · simp
      · simp only [List.mem_append, List.mem_cons, List.not_mem_nil, or_false] at hL
        rcases hL with hL | rfl | rfl
        · exact h.fit L (by simp [hL])
        · exact h.fit L (by simp)
        · rw [nsize_cons, nsize_nil]; omega
      · have h2 : (i ++ [a]) ++ [[e]] = i' ++ a' :: b' :: r := by rw [← hh]; simp
        rcases mid_snoc h2 with ⟨r', rfl, h3⟩ | ⟨rfl, rfl, h3⟩
        · exact h.full i' a' b' r' h3
        · obtain ⟨_, e2⟩ := List.append_inj' h3 rfl
          have e3 : a = a' := by simpa using e2
          subst e3
          exact ⟨e, rfl, hgt⟩
    · rename_i hle
      refine ⟨?_, fun L hL => ?_, fun L hL => ?_, fun i' a' b' r hh => ?_⟩
      · rw [← hf]; simp
      · simp only [List.mem_append, List.mem_cons, List.not_mem_nil, or_false] at hL
        rcases hL with hL | rfl
        · exact h.ne L (by simp [hL])
        · simp
      · simp only [List.mem_append, List.mem_cons, List.not_mem_nil, or_false] at hL
        rcases hL with hL | rfl
        · exact h.fit L (by simp [hL])
        · rw [nsize_append, nsize_cons, nsize_nil]; omega
      · rcases mid_snoc hh with ⟨r', rfl, h3⟩ | ⟨rfl, rfl, h3⟩
        · exact h.full i' a' b' (r' ++ [a]) (by rw [h3]; simp)
        · obtain ⟨x, hx1, hx2⟩ := h.full i' a' a [] (by rw [h3]; simp)
          refine ⟨x, ?_, hx2⟩
          rcases a with _ | ⟨y, t⟩
          · cases hx1
          · exact hx1
theorem fill_take (lvl : Nat) (es : List En) {j : Nat} {e : En} (h : es[j]? = some e) : fillL lvl (es.take (j + 1)) = fillStep lvl (fillL lvl (es.take j)) e := by
  unfold fillL
  rw [List.take_add_one, h, Option.toList_some, List.foldl_append]
  rfl
theorem fill_ok {lvl : Nat} {es : List En} (he : ∀ e ∈ es, esize lvl e ≤ 503) : ∀ j, j ≤ es.length → FillOk lvl (es.take j) (fillL lvl (es.take j))
  | 0, _ => ⟨rfl, (fun _ h => by cases h), (fun _ h => by cases h), fun i a b r hh => by simp [fillL] at hh⟩
  | j + 1, h => by
    obtain ⟨e, hj⟩ : ∃ e, es[j]? = some e := ⟨_, List.getElem?_eq_getElem (by omega)⟩
    have ih := (fill_ok he j (by omega)).step (he e (List.mem_of_getElem? hj))
    rw [fill_take lvl es hj]
    have e2 : es.take (j + 1) = es.take j ++ [e] := by rw [List.take_add_one, hj]; rfl
    rw [e2]
    exact ih
/-- What holds of them in the end. -/
structure Filled (N lvl : Nat) (es : List En) (Ls : List (List En)) : Prop where
  flat : Ls.flatten = es
  ok : ∀ L ∈ Ls, EsOk N lvl L
  two : 2 ≤ Ls.length → ∀ L ∈ Ls, NdOk N lvl L
  few : ∀ (i : List (List En)) (a b : List En) (r : List (List En)), Ls = i ++ a :: b :: r → 503 < nsize lvl a + nsize lvl b
theorem head_size {lvl : Nat} {b : List En} {e : En} (h : b.head? = some e) : esize lvl e ≤ nsize lvl b := by
  rcases b with _ | ⟨x, r⟩
  · cases h
  · cases h
    rw [nsize_cons]
    omega
theorem Filled.of {N lvl : Nat} {es : List En} (he : ∀ e ∈ es, EOk N lvl e) (hr : RiseE es) : Filled N lvl es (shareL lvl (fillL lvl es)) := by
  have hM : ∀ e ∈ es, esize lvl e ≤ maxE lvl := fun e h => (he e h).size
  have hM2 : maxE lvl ≤ 164 ∧ (0 < lvl → maxE lvl = 38) := by
    unfold maxE
    split <;> omega
  have hF := fill_ok (lvl := lvl) (es := es) (fun e h => by have := hM e h; omega) es.length (Nat.le_refl _)
  rw [List.take_length] at hF
  have hmem : ∀ L ∈ fillL lvl es, ∀ e ∈ L, e ∈ es := fun L hL e h => by rw [← hF.flat]; exact List.mem_flatten.2 ⟨L, hL, h⟩
  have hrise : ∀ (i r : List (List En)) (L : List En), fillL lvl es = i ++ L :: r → RiseE L := fun i r L h => by
    have h1 := hr
    rw [← hF.flat, h, List.flatten_append, List.flatten_cons] at h1
    exact (List.pairwise_append.1 (List.pairwise_append.1 h1).2.1).1
  have hok : ∀ L ∈ fillL lvl es, EsOk N lvl L := fun L hL => by
    obtain ⟨i, r, h⟩ := List.append_of_mem hL
    exact ⟨hF.ne L hL, hF.fit L hL, hrise i r L h, fun e h => he e (hmem L hL e h)⟩
  -- all but the last one are full
  have hbig : ∀ (i : List (List En)) (a b : List En) (r : List (List En)), fillL lvl es = i ++ a :: b :: r → 503 < nsize lvl a + maxE lvl := fun i a b r h => by
    obtain ⟨e, h1, h2⟩ := hF.full i a b r h
    have h3 : e ∈ b := by
      rcases b with _ | ⟨x, t⟩
      · cases h1
      · cases h1; simp
    have := hM e (hmem b (by rw [h]; simp) e h3)
    omega
  have hcnt : ∀ (i : List (List En)) (a b : List En) (r : List (List En)), fillL lvl es = i ++ a :: b :: r → 0 < lvl → 12 ≤ a.length := fun i a b r h h0 => by
    have h1 := hbig i a b r h
    have h2 := nsize_max (N := N) (lvl := lvl) (es := a) (fun e hh => he e (hmem a (by rw [h]; simp) e hh))
    rw [hM2.2 h0] at h1 h2
    omega
  generalize hG : fillL lvl es = G at *
  rcases snoc_cases3 G with rfl | ⟨b, rfl⟩ | ⟨i, a, b, rfl⟩
  · exact ⟨hF.flat, (fun _ h => by cases h), (fun h => absurd h (by simp [shareL])), fun i a b r h => by simp [shareL] at h⟩
  · exact ⟨hF.flat, hok, (fun h => absurd h (by simp [shareL])), fun i a b r h => by
      have := congrArg List.length h
      simp [shareL] at this
      omega⟩
  rw [share_snoc]
  split
  · rename_i hl
    unfold loneB at hl
    have h0 : 0 < lvl := of_decide_eq_true (Bool.and_eq_true_iff.1 hl).1
    have hb2 : b.length < 2 := of_decide_eq_true (Bool.and_eq_true_iff.1 hl).2
    have hb1 : b ≠ [] := hF.ne b (by simp)
    have hbl : b.length = 1 := by have := List.length_pos_iff.2 hb1; omega
    have ha12 := hcnt i a b [] rfl h0
    have hM0 := hM2.2 h0
    have hsa := nsize_append lvl (a.take (a.length - 1)) (a.drop (a.length - 1))
    rw [List.take_append_drop] at hsa
    have hdl : (a.drop (a.length - 1)).length = 1 := by rw [List.length_drop]; omega
    have hea : ∀ e ∈ a, EOk N lvl e := fun e h => he e (hmem a (by simp) e h)
    have heb : ∀ e ∈ b, EOk N lvl e := fun e h => he e (hmem b (by simp) e h)
    have hsd := nsize_max (N := N) (lvl := lvl) (es := a.drop (a.length - 1)) (fun e h => hea e (List.mem_of_mem_drop h))
    have hsb := nsize_max (N := N) (lvl := lvl) (es := b) heb
    rw [hdl, hM0] at hsd
    rw [hbl, hM0] at hsb
    have hfull := hbig i a b [] rfl
    rw [hM0] at hfull
    have hrab : RiseE (a ++ b) := by
      have h1 := hr
      rw [← hF.flat, List.flatten_append] at h1
      have := (List.pairwise_append.1 h1).2.1
      show List.Pairwise _ (a ++ b)
      simpa using this
    have hrs : RiseE (a.take (a.length - 1) ++ (a.drop (a.length - 1) ++ b)) := by rw [← List.append_assoc, List.take_append_drop]; exact hrab
    have hfa := hF.fit a (by simp)
    have hA : NdOk N lvl (a.take (a.length - 1)) := ⟨⟨fun e => by have := congrArg List.length e; rw [List.length_take, List.length_nil] at this; omega, by omega, (List.pairwise_append.1 hrs).1, fun e h => hea e (List.mem_of_mem_take h)⟩, fun _ => by rw [List.length_take]; omega⟩
    have hB : NdOk N lvl (a.drop (a.length - 1) ++ b) := ⟨⟨by simp [hb1], by rw [nsize_append]; omega, (List.pairwise_append.1 hrs).2.1, fun e h => (List.mem_append.1 h).elim (fun h => hea e (List.mem_of_mem_drop h)) (heb e)⟩, fun _ => by rw [List.length_append]; omega⟩
    have hI : ∀ L ∈ i, NdOk N lvl L := fun L hL => by
      obtain ⟨p, q, h⟩ := List.append_of_mem hL
      refine ⟨hok L (by simp [hL]), fun _ => ?_⟩
      rcases q with _ | ⟨y, q⟩
      · have := hcnt p L a [b] (by rw [h]; simp) h0
        omega
      · have := hcnt p L y (q ++ [a, b]) (by rw [h]; simp) h0
        omega
    have hall : ∀ L ∈ i ++ [a.take (a.length - 1), a.drop (a.length - 1) ++ b], NdOk N lvl L := fun L hL => by
      simp only [List.mem_append, List.mem_cons, List.not_mem_nil, or_false] at hL
      rcases hL with hL | rfl | rfl
      · exact hI L hL
      · exact hA
      · exact hB
    refine ⟨?_, fun L hL => (hall L hL).1, fun _ => hall, fun i' x y r h => ?_⟩
    · rw [← hF.flat]
      simp only [List.flatten_append, List.flatten_cons, List.flatten_nil, List.append_nil]
      rw [← List.append_assoc (a.take (a.length - 1)), List.take_append_drop]
    · have h2 : (i ++ [a.take (a.length - 1)]) ++ [a.drop (a.length - 1) ++ b] = i' ++ x :: y :: r := by rw [← h]; simp
      rcases mid_snoc h2 with ⟨r', rfl, h3⟩ | ⟨rfl, rfl, h3⟩
      · rcases mid_snoc h3 with ⟨r'', rfl, h4⟩ | ⟨rfl, rfl, h4⟩
        · obtain ⟨e, g1, g2⟩ := hF.full i' x y (r'' ++ [a, b]) (by rw [h4]; simp)
          have := head_size (lvl := lvl) g1
          omega
        · have hx := hbig i' x a [b] (by rw [h4]; simp)
          rw [hM0] at hx
          omega
      · obtain ⟨_, e2⟩ := List.append_inj' h3 rfl
        have e3 : a.take (a.length - 1) = x := by simpa using e2
        subst e3
        obtain ⟨e, g1, g2⟩ := hF.full i a b [] rfl
        have := head_size (lvl := lvl) g1
        rw [nsize_append]
        omega
  · rename_i hl
    have hall : ∀ L ∈ i ++ [a, b], NdOk N lvl L := fun L hL => by
      refine ⟨hok L hL, fun h0 => ?_⟩
      simp only [List.mem_append, List.mem_cons, List.not_mem_nil, or_false] at hL
      rcases hL with hL | rfl | rfl
      · obtain ⟨p, q, h⟩ := List.append_of_mem hL
        rcases q with _ | ⟨y, q⟩
        · have := hcnt p L a [b] (by rw [h]; simp) h0
          omega
        · have := hcnt p L y (q ++ [a, b]) (by rw [h]; simp) h0
          omega
      · have := hcnt i L b [] rfl h0
        omega
      · unfold loneB at hl
        rw [decide_eq_true h0, Bool.true_and, decide_eq_true_eq] at hl
        omega
    refine ⟨hF.flat, hok, fun _ => hall, fun i' x y r h => ?_⟩
    obtain ⟨e, g1, g2⟩ := hF.full i' x y r h
    have := head_size (lvl := lvl) g1
    omega

/-! ### how many -/
/-- Lists of which two neighbours never go into one. -/
theorem pairs_sum (s : List Nat) (hs : ∀ (i : List Nat) (a b : Nat) (r : List Nat), s = i ++ a :: b :: r → 503 < a + b) : s.length ≤ 2 * s.sum / 503 + 1 := by
  have key : ∀ (s : List Nat), (∀ (i : List Nat) (a b : Nat) (r : List Nat), s = i ++ a :: b :: r → 503 < a + b) → 503 * (s.length - 1) + (s.head?.getD 0) ≤ 2 * s.sum := by
    intro s
    induction s with
    | nil => intro _; simp
    | cons a r ih =>
      intro h
      rcases r with _ | ⟨b, r⟩
      · simp; omega
      · have h1 := h [] a b r rfl
        have h2 := ih fun i x y t ht => h (a :: i) x y t (by rw [ht]; rfl)
        simp only [List.length_cons, List.head?_cons, Option.getD_some, List.sum_cons] at h2 ⊢
        omega
  have h1 := key s hs
  omega
theorem Filled.count {N lvl : Nat} {es : List En} {Ls : List (List En)} (h : Filled N lvl es Ls) : Ls.length ≤ 2 * nsize lvl es / 503 + 1 := by
  have e : (Ls.map (nsize lvl)).sum = nsize lvl es := by
    rw [← h.flat]
    clear h
    induction Ls with
    | nil => rfl
    | cons a r ih => rw [List.map_cons, List.sum_cons, List.flatten_cons, nsize_append, ih]
  have := pairs_sum (Ls.map (nsize lvl)) (fun i a b r hh => by
    obtain ⟨i', t, e1, rfl, e2⟩ := List.map_eq_append_iff.1 hh
    obtain ⟨x, t', rfl, rfl, e3⟩ := List.map_eq_cons_iff.1 e2
    obtain ⟨y, t'', rfl, rfl, e4⟩ := List.map_eq_cons_iff.1 e3
    exact h.few i' x y t'' e1)
  rw [List.length_map, e] at this
  exact this
/-- How many nodes a root has at most whose leaves are so many. -/
def mostN (n : Nat) : Nat := if _h : n ≤ 1 then n else n + mostN (2 * (n * 38) / 503 + 1)
termination_by n
decreasing_by omega
theorem mostN_small {n : Nat} (h : n ≤ 1) : mostN n = n := by rw [mostN, dif_pos h]
theorem mostN_big {n : Nat} (h : 1 < n) : mostN n = n + mostN (2 * (n * 38) / 503 + 1) := by rw [mostN, dif_neg (by omega)]
theorem mostN_mono : ∀ (k n m : Nat), m ≤ k → n ≤ m → mostN n ≤ mostN m
  | 0, n, m, h1, h2 => by
    have : n = 0 := by omega
    have : m = 0 := by omega
    subst_vars
    exact Nat.le_refl _
  | k + 1, n, m, h1, h2 => by
    by_cases hn : n ≤ 1
    · rw [mostN_small hn]
      by_cases hm : m ≤ 1
      · rw [mostN_small hm]; exact h2
      · rw [mostN_big (by omega)]; omega
    · rw [mostN_big (by omega), mostN_big (show 1 < m by omega)]
      have := mostN_mono k (2 * (n * 38) / 503 + 1) (2 * (m * 38) / 503 + 1) (by omega) (by omega)
      omega
theorem mostN_two : mostN 2 = 3 := by rw [mostN_big (by omega), mostN_small (by omega)]
theorem mostN_le (n : Nat) : n ≤ mostN n := by
  by_cases h : n ≤ 1
  · rw [mostN_small h]; exact Nat.le_refl _
  · rw [mostN_big (by omega)]; omega
end Go.Proofs.YtgekeemhbnhelaaGreat
