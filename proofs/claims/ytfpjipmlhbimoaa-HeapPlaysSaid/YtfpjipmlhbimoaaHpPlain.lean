/- Heaps, in plain words: things in a list, each ahead of two others; what moving up and down makes of it; no condition. -/
import Derived.Test.YtfpjipmlhbimoaaFoot
namespace Go.Proofs.Ytfpjipmlhbimoaa

/-- A thing: its key and its item. -/
abbrev Th := Int × Int
/-- a comes ahead of b. -/
def Ah (a b : Th) : Prop := a.1 < b.1 ∨ (a.1 = b.1 ∧ a.2 < b.2)
instance (a b : Th) : Decidable (Ah a b) := by unfold Ah; exact inferInstance
/-- a does not come behind b. -/
def Le (a b : Th) : Prop := ¬ Ah b a
theorem Le.refl (a : Th) : Le a a := by unfold Le Ah; omega
theorem Le.trans {a b c : Th} (h : Le a b) (k : Le b c) : Le a c := by unfold Le Ah at *; omega
theorem Le.of_ah {a b : Th} (h : Ah a b) : Le a b := by unfold Le Ah at *; omega
theorem Le.total (a b : Th) : Le a b ∨ Le b a := by unfold Le Ah; omega
theorem Le.antisymm {a b : Th} (h : Le a b) (k : Le b a) : a = b := by
  obtain ⟨a1, a2⟩ := a
  obtain ⟨b1, b2⟩ := b
  unfold Le Ah at *
  simp only at *
  simp only [Prod.mk.injEq]
  omega

/-- Each one but the first is not ahead of the one above it. -/
def HeapAt (l : List Th) (P : Nat → Prop) : Prop := ∀ j x y, 0 < j → P j → l[(j - 1) / 2]? = some x → l[j]? = some y → Le x y
def HeapOk (l : List Th) : Prop := HeapAt l fun _ => True

theorem HeapOk.nil : HeapOk [] := fun _ _ _ _ _ h => by simp at h
theorem HeapOk.top {l : List Th} (h : HeapOk l) {a : Th} (ha : l[0]? = some a) (j : Nat) : ∀ x, l[j]? = some x → Le a x := by
  induction j using Nat.strongRecOn with
  | ind j ih =>
    intro x hx
    rcases Nat.eq_zero_or_pos j with e | e
    · subst e
      rw [ha] at hx
      cases hx
      exact Le.refl _
    · have hl := (List.getElem?_eq_some_iff.1 hx).1
      have hp : (j - 1) / 2 < l.length := by omega
      exact (ih _ (by omega) _ (List.getElem?_eq_getElem hp)).trans (h j _ _ e trivial (List.getElem?_eq_getElem hp) hx)
theorem HeapOk.top_mem {l : List Th} (h : HeapOk l) {a : Th} (ha : l[0]? = some a) : ∀ x ∈ l, Le a x := by
  intro x hx
  obtain ⟨j, hj⟩ := List.mem_iff_getElem?.1 hx
  exact h.top ha j x hj

/-- Two of them in each other's place. -/
def swp (l : List Th) (i j : Nat) : List Th := match l[i]?, l[j]? with
  | some x, some y => (l.set i y).set j x
  | _, _ => l
theorem swp_of {l : List Th} {i j : Nat} {x y : Th} (hi : l[i]? = some x) (hj : l[j]? = some y) : swp l i j = (l.set i y).set j x := by unfold swp; rw [hi, hj]
theorem swp_length (l : List Th) (i j : Nat) : (swp l i j).length = l.length := by
  unfold swp
  split <;> simp
theorem set_count {α : Type} [BEq α] [LawfulBEq α] {l : List α} {i : Nat} {x : α} (hi : l[i]? = some x) (y z : α) : (l.set i y).count z + (if x == z then 1 else 0) = l.count z + (if y == z then 1 else 0) := by
  induction l generalizing i with
  | nil => simp at hi
  | cons a r ih =>
    rcases i with _ | i
    · simp only [List.getElem?_cons_zero, Option.some.injEq] at hi
      subst hi
      simp only [List.set_cons_zero, List.count_cons]
      omega
    · simp only [List.getElem?_cons_succ] at hi
      simp only [List.set_cons_succ, List.count_cons]
      have := ih hi
      omega
theorem swp_perm (l : List Th) (i j : Nat) : (swp l i j).Perm l := by
  unfold swp
  split
  · rename_i x y hi hj
    rw [List.perm_iff_count]
    intro z
    have h1 := set_count hi y z
    by_cases e : i = j
    · subst e
      rw [hi] at hj
      cases hj
      have hil := (List.getElem?_eq_some_iff.1 hi)
      have : l.set i x = l := by
        obtain ⟨h, e⟩ := hil
        subst e
        exact List.set_getElem_self h
      rw [this, this]
    · have hj' : (l.set i y)[j]? = some y := by rw [List.getElem?_set_ne e]; exact hj
      have h2 := set_count hj' x z
      omega
  · exact List.Perm.refl _
theorem swp_at {l : List Th} {i j k : Nat} {x y z : Th} (hi : l[i]? = some x) (hj : l[j]? = some y) (h : (swp l i j)[k]? = some z) : (k = j ∧ z = x) ∨ (k ≠ j ∧ k = i ∧ z = y) ∨ (k ≠ j ∧ k ≠ i ∧ l[k]? = some z) := by
  rw [swp_of hi hj] at h
  have h1 := (List.getElem?_eq_some_iff.1 hi).1
  have h2 := (List.getElem?_eq_some_iff.1 hj).1
  by_cases e : k = j
  · subst e
    rw [List.getElem?_set_self (by simpa using h2)] at h
    exact .inl ⟨rfl, by simpa using h.symm⟩
  · rw [List.getElem?_set_ne (fun e' => e e'.symm)] at h
    by_cases e' : k = i
    · subst e'
      rw [List.getElem?_set_self h1] at h
      exact .inr (.inl ⟨e, rfl, by simpa using h.symm⟩)
    · rw [List.getElem?_set_ne (fun e'' => e' e''.symm)] at h
      exact .inr (.inr ⟨e, e', h⟩)

/-- All is in order but, perhaps, the one at k and the one above it; and what is below k is not ahead of what is above it. -/
def UpAt (l : List Th) (k : Nat) : Prop := HeapAt l (· ≠ k) ∧ ∀ j x y, 0 < k → 0 < j → (j - 1) / 2 = k → l[(k - 1) / 2]? = some x → l[j]? = some y → Le x y
theorem UpAt.start {l : List Th} (h : HeapOk l) (a : Th) : UpAt (l ++ [a]) l.length := by
  refine ⟨fun j x y hj hne hx hy => ?_, fun j x y _ hj hjk hx hy => ?_⟩
  · have hl := (List.getElem?_eq_some_iff.1 hy).1
    simp only [List.length_append, List.length_singleton] at hl
    rw [List.getElem?_append_left (by omega)] at hx hy
    exact h j x y hj trivial hx hy
  · have hl := (List.getElem?_eq_some_iff.1 hy).1
    simp only [List.length_append, List.length_singleton] at hl
    omega
theorem UpAt.done {l : List Th} {k : Nat} {x y : Th} (h : UpAt l k) (hx : l[(k - 1) / 2]? = some x) (hy : l[k]? = some y) (hle : ¬ Ah y x) : HeapOk l := by
  intro j x' y' hj _ hx' hy'
  by_cases e : j = k
  · subst e
    rw [hx] at hx'
    rw [hy] at hy'
    cases hx'
    cases hy'
    exact hle
  · exact h.1 j x' y' hj e hx' hy'
theorem UpAt.top {l : List Th} (h : UpAt l 0) : HeapOk l := fun j x y hj _ hx hy => h.1 j x y hj (by omega) hx hy
theorem UpAt.step {l : List Th} {k : Nat} {x y : Th} (h : UpAt l k) (hk : 0 < k) (hx : l[(k - 1) / 2]? = some x) (hy : l[k]? = some y) (hah : Ah y x) : UpAt (swp l k ((k - 1) / 2)) ((k - 1) / 2) := by
  have hyx := Le.of_ah hah
  refine ⟨fun j a b hj hne ha hb => ?_, fun j a b hk' hj hjk ha hb => ?_⟩
  · rcases swp_at hy hx ha with ⟨e1, rfl⟩ | ⟨e1, e2, rfl⟩ | ⟨e1, e2, ha'⟩
    · -- the one above is the new place of y
      rcases swp_at hy hx hb with ⟨e3, rfl⟩ | ⟨e3, e4, rfl⟩ | ⟨e3, e4, hb'⟩
      · exact absurd e3 hne
      · exact hyx
      · have := h.1 j x b hj (fun e => e4 e) (by rw [e1]; exact hx) hb'
        exact hyx.trans this
    · -- the one above is k: x is there now
      rcases swp_at hy hx hb with ⟨e3, rfl⟩ | ⟨e3, e4, rfl⟩ | ⟨e3, e4, hb'⟩
      · exact absurd e3 hne
      · omega
      · exact h.2 j _ b hk hj e2 hx hb'
    · rcases swp_at hy hx hb with ⟨e3, rfl⟩ | ⟨e3, e4, rfl⟩ | ⟨e3, e4, hb'⟩
      · exact absurd e3 hne
      · exact absurd (by rw [e4]) e1
      · exact h.1 j a b hj (fun e => e4 e) ha' hb'
  · have hpp : l[((k - 1) / 2 - 1) / 2]? = some a := by
      rcases swp_at hy hx ha with ⟨e1, rfl⟩ | ⟨e1, e2, rfl⟩ | ⟨e1, e2, ha'⟩
      · omega
      · omega
      · exact ha'
    have hax := h.1 ((k - 1) / 2) a x hk' (by omega) hpp hx
    rcases swp_at hy hx hb with ⟨e3, rfl⟩ | ⟨e3, e4, rfl⟩ | ⟨e3, e4, hb'⟩
    · omega
    · exact hax
    · have := h.1 j x b hj e4 (by rw [hjk]; exact hx) hb'
      exact hax.trans this

/-- All is in order but, perhaps, the one at k and those below it; and those are not ahead of what is above k. -/
def DownAt (l : List Th) (k : Nat) : Prop := HeapAt l (fun j => (j - 1) / 2 ≠ k) ∧ ∀ j x y, 0 < k → 0 < j → (j - 1) / 2 = k → l[(k - 1) / 2]? = some x → l[j]? = some y → Le x y
/-- The last one in the place of the first one. -/
def dropTop (l : List Th) : List Th := match l.getLast? with
  | some z => (l.set 0 z).take (l.length - 1)
  | none => l
theorem DownAt.start {l : List Th} (h : HeapOk l) (z : Th) : DownAt ((l.set 0 z).take (l.length - 1)) 0 := by
  refine ⟨fun j x y hj hne hx hy => ?_, fun j x y hk => by omega⟩
  have hl := (List.getElem?_eq_some_iff.1 hy).1
  simp only [List.length_take, List.length_set] at hl
  rw [List.getElem?_take, if_pos (by omega), List.getElem?_set_ne (by omega)] at hx hy
  exact h j x y hj trivial hx hy
theorem DownAt.done {l : List Th} {k : Nat} (h : DownAt l k) (hk : ∀ j x y, 0 < j → (j - 1) / 2 = k → l[k]? = some x → l[j]? = some y → Le x y) : HeapOk l := by
  intro j x y hj _ hx hy
  by_cases e : (j - 1) / 2 = k
  · exact hk j x y hj e (by rw [← e]; exact hx) hy
  · exact h.1 j x y hj e hx hy
/-- The lesser one of those below, at c, goes ahead. -/
theorem DownAt.step {l : List Th} {k c : Nat} {x y : Th} (h : DownAt l k) (hc : 0 < c) (hck : (c - 1) / 2 = k) (hx : l[k]? = some x) (hy : l[c]? = some y) (hah : Ah y x) (hless : ∀ j z, 0 < j → (j - 1) / 2 = k → l[j]? = some z → Le y z) : DownAt (swp l k c) c := by
  have hyx := Le.of_ah hah
  have hne' : k ≠ c := by omega
  refine ⟨fun j a b hj hne ha hb => ?_, fun j a b hk' hj hjk ha hb => ?_⟩
  · rcases swp_at hx hy ha with ⟨e1, rfl⟩ | ⟨e1, e2, rfl⟩ | ⟨e1, e2, ha'⟩
    · exact absurd e1 hne
    · -- above stands y, at k
      rcases swp_at hx hy hb with ⟨e3, rfl⟩ | ⟨e3, e4, rfl⟩ | ⟨e3, e4, hb'⟩
      · exact hyx
      · omega
      · exact hless j b hj e2 hb'
    · rcases swp_at hx hy hb with ⟨e3, rfl⟩ | ⟨e3, e4, rfl⟩ | ⟨e3, e4, hb'⟩
      · exact absurd (by rw [e3, hck]) e2
      · -- y at k now, above it a
        have := h.2 c a _ (by omega) hc hck (by rw [← e4]; exact ha') hy
        exact this
      · exact h.1 j a b hj e2 ha' hb'
  · have hay : a = y := by
      rcases swp_at hx hy ha with ⟨e1, rfl⟩ | ⟨e1, e2, rfl⟩ | ⟨e1, e2, ha'⟩
      · omega
      · rfl
      · exact absurd hck e2
    subst hay
    rcases swp_at hx hy hb with ⟨e3, rfl⟩ | ⟨e3, e4, rfl⟩ | ⟨e3, e4, hb'⟩
    · omega
    · omega
    · exact h.1 j a b hj (by omega) (by rw [hjk]; exact hy) hb'

theorem dropTop_perm {l : List Th} {a z : Th} (ha : l[0]? = some a) (hz : l[l.length - 1]? = some z) : (a :: (l.set 0 z).take (l.length - 1)).Perm l := by
  rcases l with _ | ⟨b, r⟩
  · simp at ha
  · simp only [List.getElem?_cons_zero, Option.some.injEq] at ha
    subst ha
    rcases r with _ | ⟨c, r⟩
    · simp
    · have hr : (c :: r).getLast? = some z := by
        rw [List.getLast?_eq_getElem?]
        simpa using hz
      obtain ⟨q, hq⟩ : ∃ q, c :: r = q ++ [z] := by
        have hne : c :: r ≠ [] := by simp
        have h1 := List.dropLast_concat_getLast hne
        rw [List.getLast?_eq_some_getLast hne] at hr
        cases hr
        exact ⟨_, h1.symm⟩
      have hlen : (b :: c :: r).length - 1 = q.length + 1 := by
        have := congrArg List.length hq
        simp at this
        simp; omega
      rw [hlen, hq]
      simp only [List.set_cons_zero, List.take_succ_cons]
      rw [List.take_left]
      refine List.Perm.cons _ ?_
      exact (List.perm_append_comm (l₁ := q) (l₂ := [z])).symm
end Go.Proofs.Ytfpjipmlhbimoaa
