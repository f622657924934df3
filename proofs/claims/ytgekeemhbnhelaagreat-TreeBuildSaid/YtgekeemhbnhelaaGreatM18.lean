/- Pairs put, cut and looked up; where a key belongs among a node's children; no condition. -/
import Derived.Test.YtgekeemhbnhelaaGreatM15
namespace Go.Proofs.YtgekeemhbnhelaaGreat
open Go.RowKit

def lookP (l : List Pr) (key : Bytes) : Option Bytes := (l.find? fun p => p.1 == key).map Prod.snd
def putP : List Pr → Bytes → Bytes → List Pr
  | [], k, v => [(k, v)]
  | p :: r, k, v => if cmp p.1 k < 0 then p :: putP r k v else if p.1 = k then (k, v) :: r else (k, v) :: p :: r
def cutP (l : List Pr) (key : Bytes) : List Pr := l.filter fun p => p.1 != key

theorem cmp_ne {a b : Bytes} (h : cmp a b < 0) : a ≠ b := fun e => by
  subst e
  rw [cmp_refl] at h
  omega
theorem lookP_append (a b : List Pr) (key : Bytes) : lookP (a ++ b) key = (lookP a key).or (lookP b key) := by
  unfold lookP
  rw [List.find?_append]
  cases List.find? (fun p => p.1 == key) a <;> simp
theorem lookP_none {a : List Pr} {key : Bytes} (h : ∀ p ∈ a, p.1 ≠ key) : lookP a key = none := by
  unfold lookP
  rw [List.find?_eq_none.2 (fun p hp => by simpa using h p hp)]
  rfl
theorem lookP_mid {a x c : List Pr} {key : Bytes} (ha : ∀ p ∈ a, cmp p.1 key < 0) (hc : ∀ p ∈ c, cmp key p.1 < 0) : lookP (a ++ x ++ c) key = lookP x key := by
  rw [lookP_append, lookP_append, lookP_none (fun p hp => cmp_ne (ha p hp)), lookP_none (fun p hp => (cmp_ne (hc p hp)).symm)]
  simp
theorem putP_ahead {a x : List Pr} {k v : Bytes} (ha : ∀ p ∈ a, cmp p.1 k < 0) : putP (a ++ x) k v = a ++ putP x k v := by
  induction a with
  | nil => rfl
  | cons p r ih =>
    rw [List.cons_append]
    show (if cmp p.1 k < 0 then p :: putP (r ++ x) k v else if p.1 = k then (k, v) :: (r ++ x) else (k, v) :: p :: (r ++ x)) = _
    rw [if_pos (ha p (by simp)), ih fun q hq => ha q (by simp [hq])]
    rfl
theorem putP_behind {x c : List Pr} {k v : Bytes} (hc : ∀ p ∈ c, cmp k p.1 < 0) : putP (x ++ c) k v = putP x k v ++ c := by
  induction x with
  | nil =>
    cases c with
    | nil => rfl
    | cons p r =>
      have h1 := hc p (by simp)
      have h2 := cmp_turn k p.1
      show putP (p :: r) k v = [(k, v)] ++ (p :: r)
      unfold putP
      rw [if_neg (by omega), if_neg (cmp_ne h1).symm]
      rfl
  | cons p r ih =>
    rw [List.cons_append]
    unfold putP
    split
    · rw [ih]; rfl
    · split <;> rfl
theorem putP_mid {a x c : List Pr} {k v : Bytes} (ha : ∀ p ∈ a, cmp p.1 k < 0) (hc : ∀ p ∈ c, cmp k p.1 < 0) : putP (a ++ x ++ c) k v = a ++ putP x k v ++ c := by
  rw [List.append_assoc, putP_ahead ha, putP_behind hc, List.append_assoc]
theorem cutP_mid {a x c : List Pr} {k : Bytes} (ha : ∀ p ∈ a, cmp p.1 k < 0) (hc : ∀ p ∈ c, cmp k p.1 < 0) : cutP (a ++ x ++ c) k = a ++ cutP x k ++ c := by
  unfold cutP
  rw [List.filter_append, List.filter_append]
  congr 1
  · congr 1
    exact List.filter_eq_self.2 fun p hp => by simpa using cmp_ne (ha p hp)
  · exact List.filter_eq_self.2 fun p hp => by simpa using (cmp_ne (hc p hp)).symm
theorem mem_putP {l : List Pr} {k v : Bytes} {p : Pr} (h : p ∈ putP l k v) : p = (k, v) ∨ p ∈ l := by
  induction l with
  | nil => exact .inl (by simpa [putP] using h)
  | cons q r ih =>
    unfold putP at h
    split at h
    · rcases List.mem_cons.1 h with rfl | h
      · exact .inr (by simp)
      · rcases ih h with h | h
        · exact .inl h
        · exact .inr (by simp [h])
    · split at h
      · rcases List.mem_cons.1 h with rfl | h
        · exact .inl rfl
        · exact .inr (by simp [h])
      · rcases List.mem_cons.1 h with rfl | h
        · exact .inl rfl
        · exact .inr h
theorem rise_putP {l : List Pr} {k v : Bytes} (h : RiseP l) : RiseP (putP l k v) := by
  induction l with
  | nil => exact List.pairwise_singleton _ _
  | cons p r ih =>
    obtain ⟨h1, h2⟩ := List.pairwise_cons.1 h
    unfold putP
    split
    · rename_i hp
      refine List.pairwise_cons.2 ⟨fun q hq => ?_, ih h2⟩
      rcases mem_putP hq with rfl | hq
      · exact hp
      · exact h1 q hq
    · split
      · rename_i hk
        refine List.pairwise_cons.2 ⟨fun q hq => ?_, h2⟩
        have := h1 q hq
        rw [hk] at this
        exact this
      · rename_i hp hk
        have hkp : cmp k p.1 < 0 := by
          have h3 := cmp_turn k p.1
          have h4 : cmp p.1 k ≠ 0 := fun e => hk ((cmp_eq_zero _ _).1 e)
          omega
        refine List.pairwise_cons.2 ⟨fun q hq => ?_, h⟩
        rcases List.mem_cons.1 hq with rfl | hq
        · exact hkp
        · exact cmp_ltt hkp (h1 q hq)
theorem rise_cutP {l : List Pr} {k : Bytes} (h : RiseP l) : RiseP (cutP l k) := h.filter _
theorem cutP_none {l : List Pr} {k : Bytes} (h : lookP l k = none) : cutP l k = l := by
  unfold lookP at h
  have h2 := List.find?_eq_none.1 (Option.map_eq_none_iff.1 h)
  exact List.filter_eq_self.2 fun p hp => by simpa using h2 p hp

theorem pr_turn {a b : Bytes} (h : ¬ cmp a b < 0) (hne : a ≠ b) : cmp b a < 0 := by
  have h3 := cmp_turn a b
  have h4 : cmp a b ≠ 0 := fun e => hne ((cmp_eq_zero _ _).1 e)
  omega

section
variable {B : Nat → Bytes} {N l : Nat} {kids : List Sb} {key : Bytes}
/-- Where a key belongs: what stands ahead of that child is less, what stands behind it greater. -/
theorem split_way (hs : ∀ k ∈ kids, Sub B N l k) (hr : RiseP (kids.flatMap Sb.prs)) (he : RiseE (kids.map kidE)) (hne : kids ≠ []) :
    ∃ kd, kids[way (kids.map kidE) key]? = some kd ∧ kids = kids.take (way (kids.map kidE) key) ++ kd :: kids.drop (way (kids.map kidE) key + 1) ∧
      (∀ p ∈ (kids.take (way (kids.map kidE) key)).flatMap Sb.prs, cmp p.1 key < 0) ∧ ∀ p ∈ (kids.drop (way (kids.map kidE) key + 1)).flatMap Sb.prs, cmp key p.1 < 0 := by
  have hlt := way_lt (es := kids.map kidE) (by simpa using hne) key
  rw [List.length_map] at hlt
  obtain ⟨i, hi⟩ : ∃ i, i = way (kids.map kidE) key := ⟨_, rfl⟩
  have hat : ∀ (j : Nat) (k : Sb), kids[j]? = some k → (kids.map kidE)[j]? = some (kidE k) := fun j k hk => by simp [hk]
  rw [← hi] at hlt ⊢
  have hkd : kids[i]? = some kids[i] := List.getElem?_eq_getElem hlt
  have hd : kids = kids.take i ++ kids[i] :: kids.drop (i + 1) := by rw [← List.drop_eq_getElem_cons hlt, List.take_append_drop]
  -- the child's own key
  have hown : 0 < i → cmp kids[i].key key ≤ 0 := fun h0 => by
    by_cases hf : fndIs (kids.map kidE) key = true
    · have e : i = fnd (kids.map kidE) key := by rw [hi]; unfold way; rw [if_pos hf]
      unfold fndIs at hf
      rw [← e, hat i _ hkd] at hf
      have := of_decide_eq_true hf
      show cmp (kidE kids[i]).key key ≤ 0
      omega
    · have e : i = fnd (kids.map kidE) key - 1 := by rw [hi]; unfold way; rw [if_neg hf]
      exact Int.le_of_lt (fnd_below (es := kids.map kidE) (i := i) (e := kidE kids[i]) (by omega) (hat i _ hkd))
  have hnext : ∀ k', kids[i + 1]? = some k' → cmp key k'.key < 0 := fun k' hk' => by
    by_cases hf : fndIs (kids.map kidE) key = true
    · have e : i = fnd (kids.map kidE) key := by rw [hi]; unfold way; rw [if_pos hf]
      unfold fndIs at hf
      rw [← e, hat i _ hkd] at hf
      have h0 : cmp (kidE kids[i]).key key = 0 := of_decide_eq_true hf
      have h1 := he.lt (hat i _ hkd) (hat _ _ hk') (Nat.lt_succ_self _)
      rw [(cmp_eq_zero _ _).1 h0] at h1
      exact h1
    · have e : i = fnd (kids.map kidE) key - 1 := by rw [hi]; unfold way; rw [if_neg hf]
      have hgt : ∀ (j : Nat) (k : Sb), kids[j]? = some k → j = fnd (kids.map kidE) key → cmp key k.key < 0 := fun j k hk hj => by
        have h1 := hat j k hk
        rw [hj] at h1
        have h2 := fnd_at h1
        refine pr_turn (fun h => by have : cmp (kidE k).key key < 0 := h; omega) (fun e2 => hf ?_)
        unfold fndIs
        rw [h1]
        have : (kidE k).key = key := e2
        simp only
        rw [this, cmp_refl]
        rfl
      rcases Nat.eq_zero_or_pos (fnd (kids.map kidE) key) with h0 | h0
      · have h1 := hgt i _ hkd (by omega)
        exact cmp_ltt h1 (he.lt (hat i _ hkd) (hat _ _ hk') (Nat.lt_succ_self _))
      · exact hgt (i + 1) k' hk' (by omega)
  refine ⟨kids[i], hkd, hd, fun p hp => ?_, fun p hp => ?_⟩
  · obtain ⟨v, r, hf⟩ := (hs kids[i] (List.mem_of_getElem? hkd)).first
    have h0 : 0 < i := by
      rcases Nat.eq_zero_or_pos i with h | h
      · rw [h] at hp; simp at hp
      · exact h
    rw [hd, List.flatMap_append, List.flatMap_cons] at hr
    have := (RiseP.append.1 hr).2.2 p hp (kids[i].key, v) (List.mem_append_left _ (by rw [hf]; exact List.mem_cons_self))
    exact cmp_lt_le this (hown h0)
  · rcases hdr : kids.drop (i + 1) with _ | ⟨k', r⟩
    · rw [hdr] at hp; simp at hp
    · have hk' : kids[i + 1]? = some k' := by
        have : (kids.drop (i + 1))[0]? = some k' := by rw [hdr]; rfl
        simpa using this
      have h1 := hnext k' hk'
      obtain ⟨v, r', hf⟩ := (hs k' (List.mem_of_getElem? hk')).first
      rw [hdr, List.flatMap_cons] at hp
      have hr2 : RiseP ((k' :: r).flatMap Sb.prs) := by
        rw [hd, hdr, List.flatMap_append, List.flatMap_cons] at hr
        exact (RiseP.append.1 (RiseP.append.1 hr).2.1).2.1
      rw [List.flatMap_cons, hf, List.cons_append] at hr2
      rw [hf, List.cons_append] at hp
      rcases List.mem_cons.1 hp with rfl | hp
      · exact h1
      · exact cmp_ltt h1 ((List.pairwise_cons.1 hr2).1 p hp)
end

/-- A leaf's pair of a key. -/
theorem leaf_find {prs : List Pr} {key : Bytes} (h : RiseP prs) : (fndIs (prs.map prE) key = true → ∃ v, prs[fnd (prs.map prE) key]? = some (key, v) ∧ lookP prs key = some v) ∧ (fndIs (prs.map prE) key = false → lookP prs key = none) := by
  have hre : RiseE (prs.map prE) := List.pairwise_map.2 h
  refine ⟨fun hf => ?_, fun hf => ?_⟩
  · unfold fndIs at hf
    rcases he : (prs.map prE)[fnd (prs.map prE) key]? with _ | e
    · rw [he] at hf; cases hf
    · rw [he] at hf
      have h0 := (cmp_eq_zero _ _).1 (of_decide_eq_true hf)
      rw [List.getElem?_map] at he
      obtain ⟨p, hp, rfl⟩ := Option.map_eq_some_iff.1 he
      have hk : p.1 = key := h0
      obtain ⟨k, v⟩ := p
      simp only at hk
      subst hk
      refine ⟨v, hp, ?_⟩
      obtain ⟨hl, e1⟩ := List.getElem?_eq_some_iff.1 hp
      have hd : prs = prs.take (fnd (prs.map prE) k) ++ [(k, v)] ++ prs.drop (fnd (prs.map prE) k + 1) := by
        rw [List.append_assoc, List.singleton_append, ← e1, ← List.drop_eq_getElem_cons hl, List.take_append_drop]
      rw [hd, lookP_append, lookP_append, lookP_none (a := prs.take (fnd (prs.map prE) k))]
      · simp [lookP]
      · intro q hq
        obtain ⟨j, hj⟩ := List.getElem?_of_mem hq
        rw [List.getElem?_take] at hj
        split at hj
        · rename_i hjl
          exact cmp_ne (fnd_below (es := prs.map prE) (key := k) (i := j) (e := prE q) hjl (by simp [hj]))
        · cases hj
  · refine lookP_none fun p hp => ?_
    intro e
    obtain ⟨j, hj⟩ := List.getElem?_of_mem hp
    have hje : (prs.map prE)[j]? = some (prE p) := by simp [hj]
    rcases Nat.lt_trichotomy j (fnd (prs.map prE) key) with hlt | heq | hgt
    · exact cmp_ne (fnd_below hlt hje) e
    · subst heq
      unfold fndIs at hf
      rw [hje] at hf
      have := of_decide_eq_false hf
      exact this (by show cmp p.1 key = 0; rw [e]; exact cmp_refl key)
    · have hle := fnd_le (prs.map prE) key
      have hjl := (List.getElem?_eq_some_iff.1 hje).1
      obtain ⟨a, ha⟩ : ∃ a, (prs.map prE)[fnd (prs.map prE) key]? = some a := ⟨_, List.getElem?_eq_getElem (by omega)⟩
      have h1 := fnd_at ha
      have h2 := hre.lt ha hje hgt
      have h3 : cmp a.key key < 0 := by
        have : (prE p).key = key := e
        rw [this] at h2
        exact h2
      omega
end Go.Proofs.YtgekeemhbnhelaaGreat
