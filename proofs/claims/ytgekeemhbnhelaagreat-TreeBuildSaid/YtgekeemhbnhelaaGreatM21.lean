/- What a change makes of a tree, as lists: what stands in the blocks behind some writes, nodes that are placed, halved, put in the place of others; no condition. -/
import Derived.Test.YtgekeemhbnhelaaGreatM17
import Derived.Test.YtgekeemhbnhelaaGreatM18
import Derived.Test.YtgekeemhbnhelaaGreatM20
namespace Go.Proofs.YtgekeemhbnhelaaGreat
open Go.RowKit

/-! ### blocks behind writes -/
/-- What stands in the blocks, with these written there, one behind the other. -/
def ovr (B : Nat → Bytes) : List (Nat × Bytes) → Nat → Bytes
  | [], k => B k
  | (t, b) :: r, k => ovr (fun q => if q = t then b else B q) r k
theorem ovr_append (l m : List (Nat × Bytes)) : ∀ B : Nat → Bytes, ovr B (l ++ m) = ovr (ovr B l) m := by
  induction l with
  | nil => intro B; rfl
  | cons a r ih =>
    intro B
    obtain ⟨t, b⟩ := a
    funext k
    show ovr (fun q => if q = t then b else B q) (r ++ m) k = _
    rw [ih]
    rfl
theorem ovr_out {l : List (Nat × Bytes)} {k : Nat} : ∀ {B : Nat → Bytes}, k ∉ l.map Prod.fst → ovr B l k = B k := by
  induction l with
  | nil => intro B _; rfl
  | cons a r ih =>
    intro B h
    obtain ⟨t, b⟩ := a
    simp only [List.map_cons, List.mem_cons, not_or] at h
    show ovr (fun q => if q = t then b else B q) r k = _
    rw [ih h.2, if_neg h.1]
theorem ovr_in {l : List (Nat × Bytes)} {k : Nat} {b : Bytes} : ∀ {B : Nat → Bytes}, (l.map Prod.fst).Nodup → (k, b) ∈ l → ovr B l k = b := by
  induction l with
  | nil => intro B _ h; cases h
  | cons a r ih =>
    intro B hn h
    obtain ⟨t, c⟩ := a
    simp only [List.map_cons, List.nodup_cons] at hn
    show ovr (fun q => if q = t then c else B q) r k = _
    rcases List.mem_cons.1 h with e | h
    · cases e
      rw [ovr_out hn.1, if_pos rfl]
    · exact ih hn.2 h
theorem zip_fst {T : List Nat} {BL : List Bytes} (h : BL.length = T.length) : (T.zip BL).map Prod.fst = T := List.map_fst_zip (by omega)
theorem ovr_out' {T : List Nat} {BL : List Bytes} {B : Nat → Bytes} {k : Nat} (h : BL.length = T.length) (hk : k ∉ T) : ovr B (T.zip BL) k = B k := ovr_out (by rw [zip_fst h]; exact hk)
theorem ovr_at {T : List Nat} {BL : List Bytes} {B : Nat → Bytes} (h : BL.length = T.length) (hn : T.Nodup) {i t : Nat} {b : Bytes} (ht : T[i]? = some t) (hb : BL[i]? = some b) : ovr B (T.zip BL) t = b := by
  refine ovr_in (by rw [zip_fst h]; exact hn) ?_
  have : (T.zip BL)[i]? = some (t, b) := by rw [List.getElem?_zip_eq_some]; exact ⟨ht, hb⟩
  exact List.mem_of_getElem? this

/-! ### pages that are taken -/
theorem tdones_add (l : List Pg) (i : Nat) : ∀ j : Nat, tdones j (tdones i l) = tdones (i + j) l
  | 0 => rfl
  | j + 1 => by
    show tdone (tdones j (tdones i l)) = tdone (tdones (i + j) l)
    rw [tdones_add l i j]
theorem tooks_add (l : List Pg) (i j : Nat) : tooks (tdones i l) j = tooks l (i + j) := by
  unfold tooks
  rw [tdones_add]
theorem placeT_add (l : List Pg) (i j : Nat) : placeT l (i + j) = placeT l i ++ placeT (tdones i l) j := by
  unfold placeT
  rw [List.range_add, List.map_append, List.map_map]
  congr 1
  refine List.map_congr_left fun x _ => ?_
  show tooks l (i + x) = _
  rw [tooks_add]
/-- Which state each page has behind j takings. -/
theorem tdone_get (l : List Pg) (k : Nat) : (tdone l)[k]? = if leastFree l ≠ none ∧ tpage l = (k : Int) then some (false, true) else l[k]? := by
  unfold tdone tpage
  cases h : leastFree l with
  | none => simp
  | some n =>
    obtain ⟨x, hx, _, _⟩ := least_some h
    have hn := (List.getElem?_eq_some_iff.1 hx).1
    simp only [ne_eq, not_false_eq_true, true_and, reduceCtorEq]
    by_cases e : n = k
    · subst e
      rw [if_pos rfl, List.getElem?_set_self hn]
    · rw [List.getElem?_set_ne e, if_neg (by omega)]
theorem tdones_get (l : List Pg) : ∀ (j : Nat), (∀ m, m < j → leastFree (tdones m l) ≠ none) → ∀ k : Nat, (tdones j l)[k]? = if k ∈ placeT l j then some (false, true) else l[k]?
  | 0, _, k => by simp [placeT, tdones]
  | j + 1, h, k => by
    have h1 := h j (Nat.lt_succ_self _)
    have ih := tdones_get l j (fun m hm => h m (by omega)) k
    show (tdone (tdones j l))[k]? = _
    rw [tdone_get, placeT_succ, ih]
    have e : tpage (tdones j l) = (k : Int) ↔ k = tooks l j := by
      unfold tooks
      have : 0 ≤ tpage (tdones j l) := by unfold tpage; split <;> omega
      omega
    by_cases hk : k = tooks l j
    · rw [if_pos ⟨h1, e.2 hk⟩, if_pos (by simp [hk])]
    · rw [if_neg (fun hh => hk (e.1 hh.2))]
      by_cases hm : k ∈ placeT l j
      · rw [if_pos hm, if_pos (by simp [hm])]
      · rw [if_neg hm, if_neg (by simp [hm, hk])]
theorem tooks_free {l : List Pg} {j : Nat} (h : ∀ m, m ≤ j → leastFree (tdones m l) ≠ none) : l[tooks l j]? = some (false, false) ∧ tooks l j ∉ placeT l j := by
  obtain ⟨n, hn⟩ := Option.ne_none_iff_exists'.1 (h j (Nat.le_refl _))
  obtain ⟨x, hx, h0, _⟩ := least_some hn
  have e : tooks l j = n := by unfold tooks tpage; rw [hn]; exact Int.toNat_natCast n
  rw [tdones_get l j (fun m hm => h m (by omega))] at hx
  rw [e]
  by_cases hm : n ∈ placeT l j
  · rw [if_pos hm] at hx
    cases hx
    simp [pnum] at h0
  · rw [if_neg hm] at hx
    rw [hx, pnum_free.1 h0]
    exact ⟨rfl, hm⟩
theorem placeT_free {l : List Pg} : ∀ {j : Nat}, (∀ m, m < j → leastFree (tdones m l) ≠ none) → (placeT l j).Nodup ∧ ∀ t ∈ placeT l j, l[t]? = some (false, false)
  | 0, _ => by simp [placeT]
  | j + 1, h => by
    have ih := placeT_free (j := j) (fun m hm => h m (by omega))
    have h1 := tooks_free (j := j) (fun m hm => h m (by omega))
    rw [placeT_succ]
    refine ⟨List.nodup_append.2 ⟨ih.1, by simp, fun a ha b hb => ?_⟩, fun t ht => ?_⟩
    · rw [List.mem_singleton] at hb
      subst hb
      exact fun e => h1.2 (e ▸ ha)
    · rcases List.mem_append.1 ht with h2 | h2
      · exact ih.2 t h2
      · rw [List.mem_singleton] at h2
        rw [h2]
        exact h1.1
theorem placeT_lt {l : List Pg} {j : Nat} (h : ∀ m, m < j → leastFree (tdones m l) ≠ none) {t : Nat} (ht : t ∈ placeT l j) : t < l.length := (List.getElem?_eq_some_iff.1 ((placeT_free h).2 t ht)).1
/-- How many are free behind j takings. -/
theorem free_tdone {l : List Pg} (h : leastFree l ≠ none) : freeP (tdone l) + 1 = freeP l := by
  obtain ⟨n, hn⟩ := Option.ne_none_iff_exists'.1 h
  obtain ⟨x, hx, h0, _⟩ := least_some hn
  obtain ⟨hl, e⟩ := List.getElem?_eq_some_iff.1 hx
  unfold tdone freeP
  rw [hn]
  have h1 : l.set n (false, true) = l.take n ++ (false, true) :: l.drop (n + 1) := List.set_eq_take_append_cons_drop.trans (if_pos hl)
  have h2 : l = l.take n ++ x :: l.drop (n + 1) := by rw [← e, ← List.drop_eq_getElem_cons hl, List.take_append_drop]
  simp only
  rw [h1]
  conv => rhs; rw [h2]
  have hf : (pnum (false, true) == 0) = false := rfl
  simp only [List.countP_append, List.countP_cons, h0, hf, beq_self_eq_true, if_true]
  simp
  omega
theorem free_tdones {l : List Pg} : ∀ {j : Nat}, (∀ m, m < j → leastFree (tdones m l) ≠ none) → freeP (tdones j l) + j = freeP l
  | 0, _ => rfl
  | j + 1, h => by
    have h1 := free_tdones (j := j) (fun m hm => h m (by omega))
    have h2 := free_tdone (h j (Nat.lt_succ_self _))
    show freeP (tdone (tdones j l)) + (j + 1) = _
    omega
theorem free_none {l : List Pg} (h : leastFree l = none) : freeP l = 0 := by
  unfold freeP
  rw [List.countP_eq_zero]
  intro x hx
  obtain ⟨j, hj⟩ := List.getElem?_of_mem hx
  simpa using least_none h j x hj

/-! ### what lies below nodes -/
section
variable {B B' : Nat → Bytes} {N l lvl : Nat} {es a b : List En} {prs : List Pr} {pgs : List Nat}
theorem Nb.nil (B : Nat → Bytes) (N : Nat) : ∀ l : Nat, Nb B N l [] [] []
  | 0 => Nb.zero.2 ⟨rfl, rfl⟩
  | l + 1 => Nb.succ.2 ⟨[], rfl, rfl, rfl, fun _ h => by cases h⟩
theorem Nb.split : ∀ {l : Nat} {a b : List En} {prs : List Pr} {pgs : List Nat}, Nb B N l (a ++ b) prs pgs → ∃ p1 p2 g1 g2, prs = p1 ++ p2 ∧ pgs = g1 ++ g2 ∧ Nb B N l a p1 g1 ∧ Nb B N l b p2 g2
  | 0, a, b, prs, pgs, h => by
    obtain ⟨h1, rfl⟩ := Nb.zero.1 h
    obtain ⟨p1, p2, rfl, rfl, rfl⟩ := List.map_eq_append_iff.1 h1.symm
    exact ⟨p1, p2, [], [], rfl, rfl, Nb.zero.2 ⟨rfl, rfl⟩, Nb.zero.2 ⟨rfl, rfl⟩⟩
  | l + 1, a, b, prs, pgs, h => by
    obtain ⟨kids, h1, rfl, rfl, h4⟩ := Nb.succ.1 h
    obtain ⟨k1, k2, rfl, rfl, rfl⟩ := List.map_eq_append_iff.1 h1.symm
    exact ⟨_, _, _, _, List.flatMap_append, List.flatMap_append, Nb.succ.2 ⟨k1, rfl, rfl, rfl, fun k hk => h4 k (List.mem_append_left _ hk)⟩, Nb.succ.2 ⟨k2, rfl, rfl, rfl, fun k hk => h4 k (List.mem_append_right _ hk)⟩⟩
theorem Nb.append : ∀ {l : Nat} {a b : List En} {p1 p2 : List Pr} {g1 g2 : List Nat}, Nb B N l a p1 g1 → Nb B N l b p2 g2 → Nb B N l (a ++ b) (p1 ++ p2) (g1 ++ g2)
  | 0, a, b, p1, p2, g1, g2, h, k => by
    obtain ⟨rfl, rfl⟩ := Nb.zero.1 h
    obtain ⟨rfl, rfl⟩ := Nb.zero.1 k
    exact Nb.zero.2 ⟨by simp, rfl⟩
  | l + 1, a, b, p1, p2, g1, g2, h, k => by
    obtain ⟨k1, rfl, rfl, rfl, h4⟩ := Nb.succ.1 h
    obtain ⟨k2, rfl, rfl, rfl, h5⟩ := Nb.succ.1 k
    refine Nb.succ.2 ⟨k1 ++ k2, by simp, by simp, by simp, fun k hk => ?_⟩
    exact (List.mem_append.1 hk).elim (h4 k) (h5 k)
/-- Where pairs rise, so do entries. -/
theorem Nb.rise : ∀ {l : Nat} {es : List En} {prs : List Pr} {pgs : List Nat}, Nb B N l es prs pgs → RiseP prs → RiseE es
  | 0, es, prs, pgs, h, hr => by
    obtain ⟨rfl, _⟩ := Nb.zero.1 h
    exact List.pairwise_map.2 hr
  | l + 1, es, prs, pgs, h, hr => by
    obtain ⟨kids, rfl, rfl, h3, h4⟩ := Nb.succ.1 h
    clear h h3
    induction kids with
    | nil => exact List.Pairwise.nil
    | cons k r ih =>
      rw [List.flatMap_cons] at hr
      obtain ⟨h5, h6, h7⟩ := RiseP.append.1 hr
      refine List.pairwise_cons.2 ⟨fun e he => ?_, ih h6 (fun q hq => h4 q (List.mem_cons_of_mem _ hq))⟩
      obtain ⟨q, hq, rfl⟩ := List.mem_map.1 he
      obtain ⟨v1, r1, e1⟩ := (h4 k List.mem_cons_self).first
      obtain ⟨v2, r2, e2⟩ := (h4 q (List.mem_cons_of_mem _ hq)).first
      exact h7 (k.key, v1) (by rw [e1]; exact List.mem_cons_self) (q.key, v2) (List.mem_flatMap.2 ⟨q, hq, by rw [e2]; exact List.mem_cons_self⟩)
/-- Pairs such as may be. -/
def PrOk (p : Pr) : Prop := (1 ≤ p.1.length ∧ p.1.length ≤ 32) ∧ p.2.length ≤ 128
/-- An entry such as may be. -/
def EOk (N lvl : Nat) (e : En) : Prop := (1 ≤ e.key.length ∧ e.key.length ≤ 32) ∧ e.val.length ≤ 128 ∧ e.page < N ∧ EnOk lvl e
/-- How many bytes an entry takes at most. -/
def maxE (lvl : Nat) : Nat := if lvl = 0 then 164 else 38
theorem EOk.size {e : En} (h : EOk N lvl e) : esize lvl e ≤ maxE lvl := by
  obtain ⟨h1, h2, _⟩ := h
  unfold esize maxE
  split <;> omega
theorem EOk.few {es : List En} (h : ∀ e ∈ es, EOk N lvl e) : Few es := fun e he => ⟨(h e he).2.2.2.1, (h e he).2.2.2.2.1⟩
theorem nsize_max {es : List En} (h : ∀ e ∈ es, EOk N lvl e) : nsize lvl es ≤ es.length * maxE lvl := by
  induction es with
  | nil => simp [nsize]
  | cons e r ih =>
    rw [nsize_cons, List.length_cons, Nat.succ_mul]
    have h1 := (h e List.mem_cons_self).size
    have h2 := ih fun x hx => h x (List.mem_cons_of_mem _ hx)
    omega
theorem Nb.eok (hN : N ≤ 4096) (hN0 : 0 < N) (h : Nb B N l es prs pgs) (hp : ∀ p ∈ prs, PrOk p) : ∀ e ∈ es, EOk N l e := by
  cases l with
  | zero =>
    obtain ⟨rfl, _⟩ := Nb.zero.1 h
    intro e he
    obtain ⟨p, hpp, rfl⟩ := List.mem_map.1 he
    obtain ⟨h1, h2⟩ := hp p hpp
    refine ⟨h1, h2, hN0, ?_⟩
    unfold EnOk prE
    refine ⟨?_, ?_, ?_, fun _ => rfl, fun h => absurd rfl h⟩
    · show p.1.length ≤ _
      omega
    · show p.2.length ≤ _
      omega
    · exact Nat.zero_le _
  | succ l =>
    obtain ⟨kids, rfl, rfl, _, h4⟩ := Nb.succ.1 h
    intro e he
    obtain ⟨k, hk, rfl⟩ := List.mem_map.1 he
    obtain ⟨v, r, e1⟩ := (h4 k hk).first
    obtain ⟨ces, cpg, g1, g2, g3, g4, g5, g6⟩ := h4 k hk
    obtain ⟨h1, h2⟩ := hp (k.key, v) (List.mem_flatMap.2 ⟨k, hk, by rw [e1]; exact List.mem_cons_self⟩)
    refine ⟨h1, by simp [kidE], g6, ?_⟩
    unfold EnOk kidE
    simp only at h1 ⊢
    exact ⟨by omega, by simp, by omega, fun h => by omega, by simp⟩
theorem Nb.esOk (hN : N ≤ 4096) (hN0 : 0 < N) (h : Nb B N l es prs pgs) (hp : ∀ p ∈ prs, PrOk p) (hr : RiseP prs) (hne : es ≠ []) (hs : nsize l es ≤ 503) : EsOk N l es :=
  ⟨hne, hs, h.rise hr, fun e he => h.eok hN hN0 hp e he⟩
/-- All pairs below a node may be. -/
theorem Nb.prs_ok : ∀ {l : Nat} {es : List En} {prs : List Pr} {pgs : List Nat}, Nb B N l es prs pgs → (∀ e ∈ es, EOk N l e) → ∀ p ∈ prs, PrOk p
  | 0, es, prs, pgs, h, he => by
    obtain ⟨rfl, _⟩ := Nb.zero.1 h
    intro p hp
    have := he (prE p) (List.mem_map.2 ⟨p, hp, rfl⟩)
    exact ⟨this.1, this.2.1⟩
  | l + 1, es, prs, pgs, h, he => by
    obtain ⟨kids, rfl, rfl, _, h4⟩ := Nb.succ.1 h
    intro p hp
    obtain ⟨k, hk, hpk⟩ := List.mem_flatMap.1 hp
    obtain ⟨ces, cpg, g1, g2, g3, g4, g5, g6⟩ := h4 k hk
    exact Nb.prs_ok g3 g1.1.2.2.2 p hpk
theorem Nb.pages_lt : ∀ {l : Nat} {es : List En} {prs : List Pr} {pgs : List Nat}, Nb B N l es prs pgs → ∀ q ∈ pgs, q < N
  | 0, es, prs, pgs, h => by
    obtain ⟨_, rfl⟩ := Nb.zero.1 h
    intro q hq
    cases hq
  | l + 1, es, prs, pgs, h => by
    obtain ⟨kids, _, _, rfl, h4⟩ := Nb.succ.1 h
    intro q hq
    obtain ⟨k, hk, hqk⟩ := List.mem_flatMap.1 hq
    obtain ⟨ces, cpg, g1, g2, g3, g4, g5, g6⟩ := h4 k hk
    rw [g4] at hqk
    rcases List.mem_cons.1 hqk with rfl | h5
    · exact g6
    · exact Nb.pages_lt g3 q h5
end

/-! ### halves -/
theorem Halved.flat {lvl : Nat} {es : List En} {L : List (List En)} (h : Halved lvl es L) : L.flatten = es ∧ L.length ≤ 2 ∧ (es ≠ [] → L ≠ []) := by
  rcases h with ⟨rfl, rfl⟩ | ⟨h1, _, rfl⟩ | ⟨h1, k, _, _, rfl, _⟩
  · exact ⟨rfl, by simp, fun h => absurd rfl h⟩
  · exact ⟨by simp, by simp, fun _ h => by cases h⟩
  · exact ⟨by simp, by simp, fun _ h => by cases h⟩
theorem Halved.ok {N lvl : Nat} {es : List En} {L : List (List En)} (h : Halved lvl es L) (hr : RiseE es) (he : ∀ e ∈ es, EOk N lvl e) (hs : nsize lvl es ≤ 681) :
    (∀ x ∈ L, EsOk N lvl x) ∧ (L.length = 2 → ∀ x ∈ L, NdOk N lvl x) := by
  rcases h with ⟨rfl, rfl⟩ | ⟨h1, h2, rfl⟩ | ⟨h1, k, hk0, hkl, rfl, hk2, hk3⟩
  · exact ⟨fun x hx => (by cases hx), fun h => absurd h (by simp)⟩
  · refine ⟨fun x hx => ?_, fun h => absurd h (by simp)⟩
    rw [List.mem_singleton] at hx
    subst hx
    exact ⟨h1, h2, hr, he⟩
  · have hM : maxE lvl ≤ 164 ∧ (0 < lvl → maxE lvl = 38) := by
      unfold maxE
      split <;> omega
    obtain ⟨e0, he0⟩ : ∃ e0, es[k - 1]? = some e0 := ⟨_, List.getElem?_eq_getElem (by omega)⟩
    have ht := nsize_take_succ lvl es (k - 1) e0 he0
    rw [show k - 1 + 1 = k by omega] at ht
    have hE := (he e0 (List.mem_of_getElem? he0)).size
    have hsum := nsize_append lvl (es.take k) (es.drop k)
    rw [List.take_append_drop] at hsum
    have hd0 : es.drop k ≠ [] := fun e => by
      rw [e, nsize_nil] at hsum
      omega
    have ht0 : es.take k ≠ [] := fun e => by
      rw [e, nsize_nil] at hk2
      omega
    have hp := List.pairwise_append.1 (show RiseE (es.take k ++ es.drop k) by rw [List.take_append_drop]; exact hr)
    have heT : ∀ e ∈ es.take k, EOk N lvl e := fun e h => he e (List.mem_of_mem_take h)
    have heD : ∀ e ∈ es.drop k, EOk N lvl e := fun e h => he e (List.mem_of_mem_drop h)
    have hT : EsOk N lvl (es.take k) := ⟨ht0, by omega, hp.1, heT⟩
    have hD : EsOk N lvl (es.drop k) := ⟨hd0, by omega, hp.2.1, heD⟩
    have m1 := nsize_max heT
    have m2 := nsize_max heD
    have hT2 : 0 < lvl → 2 ≤ (es.take k).length := fun h0 => by
      rw [hM.2 h0] at m1 hE
      omega
    have hD2 : 0 < lvl → 2 ≤ (es.drop k).length := fun h0 => by
      rw [hM.2 h0] at m2 hE
      omega
    refine ⟨fun x hx => ?_, fun _ x hx => ?_⟩
    · simp only [List.mem_cons, List.not_mem_nil, or_false] at hx
      rcases hx with rfl | rfl
      · exact hT
      · exact hD
    · simp only [List.mem_cons, List.not_mem_nil, or_false] at hx
      rcases hx with rfl | rfl
      · exact ⟨hT, hT2⟩
      · exact ⟨hD, hD2⟩

/-! ### nodes that are placed -/
def kidOf (t : Nat) (L : List En) : En := ⟨(L.head?.map En.key).getD [], [], t⟩
theorem place_kids {B : Nat → Bytes} {N l : Nat} : ∀ {Ls : List (List En)} {ts : List Nat} {prs : List Pr} {pgs : List Nat}, ts.length = Ls.length → Nb B N l Ls.flatten prs pgs → (∀ L ∈ Ls, NdOk N l L) → (∀ t ∈ ts, t < N) →
    (∀ (i t : Nat) (L : List En), ts[i]? = some t → Ls[i]? = some L → B t = sealL 3 (bodyL l L)) → ∃ kids : List Sb, kids.map kidE = (ts.zip Ls).map (fun p => kidOf p.1 p.2) ∧ kids.flatMap Sb.prs = prs ∧ (kids.flatMap Sb.pgs).Perm (ts ++ pgs) ∧ ∀ k ∈ kids, Sub B N l k
  | [], ts, prs, pgs, hl, hn, _, _, _ => by
    have : ts = [] := List.eq_nil_of_length_eq_zero hl
    subst this
    refine ⟨[], rfl, ?_, ?_, fun _ h => by cases h⟩
    · cases l with
      | zero =>
        obtain ⟨h1, _⟩ := Nb.zero.1 hn
        exact (List.map_eq_nil_iff.1 h1.symm).symm
      | succ l =>
        obtain ⟨kids, h1, rfl, _⟩ := Nb.succ.1 hn
        rw [List.map_eq_nil_iff.1 h1.symm]
    · cases l with
      | zero =>
        obtain ⟨_, rfl⟩ := Nb.zero.1 hn
        exact List.Perm.refl _
      | succ l =>
        obtain ⟨kids, h1, _, rfl, _⟩ := Nb.succ.1 hn
        rw [List.map_eq_nil_iff.1 h1.symm]
        exact List.Perm.refl _
  | L :: Ls, [], prs, pgs, hl, _, _, _, _ => by cases hl
  | L :: Ls, t :: ts, prs, pgs, hl, hn, ho, ht, hB => by
    rw [List.flatten_cons] at hn
    obtain ⟨p1, p2, g1, g2, rfl, rfl, n1, n2⟩ := hn.split
    obtain ⟨kids, i1, i2, i3, i4⟩ := place_kids (Ls := Ls) (ts := ts) (by simpa using hl) n2 (fun x hx => ho x (List.mem_cons_of_mem _ hx)) (fun x hx => ht x (List.mem_cons_of_mem _ hx)) (fun i t L h1 h2 => hB (i + 1) t L (by simpa using h1) (by simpa using h2))
    have hL := ho L List.mem_cons_self
    have hhd : L.head?.map En.key = some ((L.head?.map En.key).getD []) := by
      rcases L with _ | ⟨e, r⟩
      · exact absurd rfl hL.1.1
      · rfl
    refine ⟨⟨(L.head?.map En.key).getD [], t, p1, t :: g1⟩ :: kids, ?_, ?_, ?_, fun k hk => ?_⟩
    · rw [List.map_cons, i1]
      rfl
    · rw [List.flatMap_cons, i2]
    · rw [List.flatMap_cons]
      show (t :: (g1 ++ kids.flatMap Sb.pgs)).Perm (t :: (ts ++ (g1 ++ g2)))
      refine List.Perm.cons t ?_
      refine ((List.Perm.refl g1).append i3).trans ?_
      rw [← List.append_assoc, ← List.append_assoc]
      exact List.perm_append_comm.append_right g2
    · rcases List.mem_cons.1 hk with rfl | h
      · exact ⟨L, g1, hL, hB 0 t L rfl rfl, n1, rfl, hhd, ht t List.mem_cons_self⟩
      · exact i4 k h
theorem placeE_kids (l : List Pg) (lvl : Nat) (Ls : List (List En)) : placeE l (Ls.map (mkN lvl)) Ls.length = ((placeT l Ls.length).zip Ls).map (fun p => kidOf p.1 p.2) := by
  apply List.ext_getElem?
  intro i
  unfold placeE placeT
  rcases Nat.lt_or_ge i Ls.length with h | h
  · rw [List.getElem?_map, List.getElem?_map, List.getElem?_range h]
    have e : ((List.map (tooks l) (List.range Ls.length)).zip Ls)[i]? = some (tooks l i, Ls[i]) := by
      rw [List.getElem?_zip_eq_some, List.getElem?_map, List.getElem?_range h]
      exact ⟨rfl, List.getElem?_eq_getElem h⟩
    rw [e]
    simp only [Option.map_some, List.getElem?_map, List.getElem?_eq_getElem h, Option.getD_some]
    unfold hkey kidOf mkN
    simp only
    congr 2
    cases Ls[i] <;> rfl
  · rw [List.getElem?_eq_none (by simpa using h), List.getElem?_eq_none (by simp; omega)]
theorem placeB_kids (lvl : Nat) (Ls : List (List En)) : placeB (Ls.map (mkN lvl)) Ls.length = Ls.map fun L => sealL 3 (bodyL lvl L) := by
  unfold placeB
  rw [List.take_of_length_le (by simp), List.map_map]
  rfl

/-! ### what stands for a node -/
structure Redone (B : Nat → Bytes) (N lvl : Nat) (Ls : List (List En)) (prs : List Pr) (pgs : List Nat) : Prop where
  few : Ls.length ≤ 2
  ok : ∀ L ∈ Ls, EsOk N lvl L
  two : Ls.length = 2 → ∀ L ∈ Ls, NdOk N lvl L
  nb : Nb B N lvl Ls.flatten prs pgs
  some_ : 0 < lvl → Ls ≠ []
/-- A leaf with other pairs. -/
theorem redone_leaf {B : Nat → Bytes} {N : Nat} {prs : List Pr} {Ls : List (List En)} (hN : N ≤ 4096) (hN0 : 0 < N) (hp : ∀ p ∈ prs, PrOk p) (hr : RiseP prs) (hs : nsize 0 (prs.map prE) ≤ 681) (hh : Halved 0 (prs.map prE) Ls) : Redone B N 0 Ls prs [] := by
  have hnb : Nb B N 0 (prs.map prE) prs [] := Nb.zero.2 ⟨rfl, rfl⟩
  obtain ⟨h1, h2, _⟩ := hh.flat
  obtain ⟨h4, h5⟩ := hh.ok (hnb.rise hr) (hnb.eok hN hN0 hp) hs
  exact ⟨h2, h4, h5, by rw [h1]; exact hnb, fun h => absurd h (by omega)⟩
/-- An inner node, some of whose children were put in the place of others. -/
theorem redone_inner {B2 : Nat → Bytes} {N l : Nat} {K1 K2 mid : List Sb} {Gs Ls : List (List En)} {ts T1 X own : List Nat} {pM : List Pr} {gM : List Nat} (hN : N ≤ 4096) (hN0 : 0 < N)
    (hs1 : ∀ k ∈ K1 ++ K2, Sub B2 N l k) (hG : ∀ L ∈ Gs, NdOk N l L) (hnb : Nb B2 N l Gs.flatten pM gM) (ht : ts.length = Gs.length) (htN : ∀ t ∈ ts, t < N)
    (hB : ∀ (i t : Nat) (L : List En), ts[i]? = some t → Gs[i]? = some L → B2 t = sealL 3 (bodyL l L)) (hr : RiseP (K1.flatMap Sb.prs ++ pM ++ K2.flatMap Sb.prs)) (hp : ∀ p ∈ K1.flatMap Sb.prs ++ pM ++ K2.flatMap Sb.prs, PrOk p)
    (hg : Gs.length ≤ 2) (hsz : nsize (l + 1) ((K1 ++ mid ++ K2).map kidE) ≤ 503) (hne : K1 ++ K2 ≠ [] ∨ Gs ≠ []) (hperm : (mid.flatMap Sb.pgs ++ T1).Perm (X ++ gM))
    (hh : Halved (l + 1) (K1.map kidE ++ (ts.zip Gs).map (fun p => kidOf p.1 p.2) ++ K2.map kidE) Ls) :
    ∃ pgs', Redone B2 N (l + 1) Ls (K1.flatMap Sb.prs ++ pM ++ K2.flatMap Sb.prs) pgs' ∧ (own ++ (K1 ++ mid ++ K2).flatMap Sb.pgs ++ (T1 ++ ts)).Perm (own ++ X ++ pgs') := by
  obtain ⟨kids, k1, k2, k3, k4⟩ := place_kids ht hnb hG htN hB
  rw [← k1] at hh
  have hkl : kids.length ≤ 2 := by
    have := congrArg List.length k1
    simp only [List.length_map, List.length_zip] at this
    omega
  have hn : Nb B2 N (l + 1) (K1.map kidE ++ kids.map kidE ++ K2.map kidE) (K1.flatMap Sb.prs ++ pM ++ K2.flatMap Sb.prs) (K1.flatMap Sb.pgs ++ kids.flatMap Sb.pgs ++ K2.flatMap Sb.pgs) := by
    refine Nb.succ.2 ⟨K1 ++ kids ++ K2, by simp, by simp [k2], by simp, fun k hk => ?_⟩
    simp only [List.mem_append] at hk
    rcases hk with (hk | hk) | hk
    · exact hs1 k (by simp [hk])
    · exact k4 k hk
    · exact hs1 k (by simp [hk])
  have he := hn.eok hN hN0 hp
  obtain ⟨h1, h2, h3⟩ := hh.flat
  have hsk : nsize (l + 1) (kids.map kidE) ≤ 76 := by
    have := nsize_max (N := N) (lvl := l + 1) (es := kids.map kidE) fun e he' => he e (by simp only [List.mem_append]; exact .inl (.inr he'))
    rw [List.length_map] at this
    unfold maxE at this
    rw [if_neg (by omega)] at this
    omega
  have hsize : nsize (l + 1) (K1.map kidE ++ kids.map kidE ++ K2.map kidE) ≤ 681 := by
    rw [List.map_append, List.map_append, nsize_append, nsize_append] at hsz
    rw [nsize_append, nsize_append]
    omega
  obtain ⟨h4, h5⟩ := hh.ok (hn.rise hr) he hsize
  refine ⟨_, ⟨h2, h4, h5, by rw [h1]; exact hn, fun _ => h3 ?_⟩, ?_⟩
  · intro e
    have e2 := congrArg List.length e
    have e3 := congrArg List.length k1
    simp only [List.length_append, List.length_map, List.length_zip, List.length_nil] at e2 e3
    rcases hne with h | h
    · have := List.length_pos_iff.2 h
      simp only [List.length_append] at this
      omega
    · have := List.length_pos_iff.2 h
      omega
  · simp only [List.flatMap_append]
    refine List.perm_iff_count.2 fun a => ?_
    have c1 := List.perm_iff_count.1 hperm a
    have c2 := List.perm_iff_count.1 k3 a
    simp only [List.count_append] at c1 c2 ⊢
    omega
end Go.Proofs.YtgekeemhbnhelaaGreat
