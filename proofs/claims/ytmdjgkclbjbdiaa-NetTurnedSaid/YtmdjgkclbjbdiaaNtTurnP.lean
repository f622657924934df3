/- A net with all edges turned round, with the edges in another order, with other numbers for the nodes, as plain values; no condition. -/
import Derived.Test.YtmdjgkclbjbdiaaNtFlows
namespace Go.Proofs.Ytmdjgkclbjbdiaa
open Go.RowKit

/-- An edge changed by T keeps its Cap and its Cost. -/
def Keeps (T : Ed → Ed) : Prop := ∀ e, (T e).cap = e.cap ∧ (T e).cost = e.cost
def mapL (T : Ed → Ed) (ls : Load) : Load := ls.map fun p => (T p.1, p.2)
theorem zip_mapL (T : Ed → Ed) : ∀ (es : List Ed) (l : List Int), (es.map T).zip l = mapL T (es.zip l)
  | [], _ => rfl
  | _ :: _, [] => rfl
  | e :: r, x :: m => by
    have := zip_mapL T r m
    unfold mapL at *
    simp only [List.map_cons, List.zip_cons_cons, this]
theorem full_mapL {T : Ed → Ed} (h : Keeps T) (es : List Ed) : full (es.map T) = mapL T (full es) := by
  unfold full mapL
  rw [List.map_map, List.map_map]
  exact List.map_congr_left fun e _ => by simp only [Function.comp_def, (h e).1]
theorem upN_mapL {T : Ed → Ed} (h : Keeps T) (ls : Load) : upN (mapL T ls) = upN ls ∧ dnN (mapL T ls) = dnN ls ∧ costL (mapL T ls) = costL ls := by
  unfold upN dnN costL mapL
  rw [List.map_map, List.map_map, List.map_map]
  refine ⟨congrArg _ (List.map_congr_left fun p _ => ?_), congrArg _ (List.map_congr_left fun p _ => ?_), congrArg _ (List.map_congr_left fun p _ => ?_)⟩
  · unfold upT; simp only [Function.comp_def, (h p.1).2]
  · unfold dnT; simp only [Function.comp_def, (h p.1).2]
  · simp only [Function.comp_def, (h p.1).2]
theorem right_map {T : Ed → Ed} (h : Keeps T) {n : Int} (hp : 1 ≤ n → n ≤ 40 → ∀ e, Perm n (T e) ↔ Perm n e) (es : List Ed) : RightP n (es.map T) ↔ RightP n es := by
  have h1 := upN_mapL h (full es)
  unfold RightP
  rw [full_mapL h, h1.1, h1.2.1, List.length_map]
  constructor
  · rintro ⟨a, b, c, d, e⟩
    exact ⟨a, b, c, fun x hx => (hp a b x).1 (d _ (List.mem_map_of_mem hx)), e⟩
  · rintro ⟨a, b, c, d, e⟩
    refine ⟨a, b, c, fun x hx => ?_, e⟩
    obtain ⟨y, hy, rfl⟩ := List.mem_map.1 hx
    exact (hp a b y).2 (d y hy)
theorem within_map {T : Ed → Ed} (h : Keeps T) {n : Int} (hp : 1 ≤ n → n ≤ 40 → ∀ e, Perm n (T e) ↔ Perm n e) (es : List Ed) (l : List Int) : WithinP n (es.map T) l ↔ WithinP n es l := by
  unfold WithinP
  rw [right_map h hp, List.length_map, zip_mapL]
  refine and_congr_right fun _ => and_congr_right fun _ => ⟨fun hh p hq => ?_, fun hh p hq => ?_⟩
  · have := hh (T p.1, p.2) (List.mem_map.2 ⟨p, hq, rfl⟩)
    unfold Fits at *
    simp only [(h p.1).1] at this
    exact this
  · obtain ⟨q, hq2, rfl⟩ := List.mem_map.1 hq
    have := hh q hq2
    unfold Fits at *
    simp only [(h q.1).1]
    exact this
theorem cost_map {T : Ed → Ed} (h : Keeps T) {n : Int} (hp : 1 ≤ n → n ≤ 40 → ∀ e, Perm n (T e) ↔ Perm n e) (es : List Ed) (l : List Int) : costP n (es.map T) l = costP n es l := by
  unfold costP
  simp only [within_map h hp es l, zip_mapL, (upN_mapL h _).2.2]

/-- Turned round. -/
def bkE (e : Ed) : Ed := ⟨e.to, e.fr, e.cap, e.cost⟩
theorem bk_keeps : Keeps bkE := fun _ => ⟨rfl, rfl⟩
theorem bk_perm (n : Int) (e : Ed) : Perm n (bkE e) ↔ Perm n e := by
  unfold Perm bkE
  simp only
  omega
theorem bk_over (ls : Load) (v : Int) : ovr (mapL bkE ls) v = -ovr ls v := by
  unfold ovr mapL
  rw [List.map_map]
  induction ls with
  | nil => rfl
  | cons p r ih =>
    simp only [List.map_cons, List.sum_cons, ih]
    have : (ovT v ∘ fun p => (bkE p.1, p.2)) p = -ovT v p := by
      unfold ovT bkE
      simp only [Function.comp_def]
      omega
    omega

/-- With k more for each node. -/
def mvN (n : Int) (k : Nat) (x : Int) : Int := if 0 ≤ x ∧ x < n then Int.tmod (wrap64 (x + (k : Int))) n else x
def mvE (n : Int) (k : Nat) (e : Ed) : Ed := ⟨mvN n k e.fr, mvN n k e.to, e.cap, e.cost⟩
theorem mv_keeps (n : Int) (k : Nat) : Keeps (mvE n k) := fun _ => ⟨rfl, rfl⟩
theorem mvN_eq {n : Int} (h2 : n ≤ 40) {k : Nat} (hk : k < 256) {x : Int} (h : 0 ≤ x ∧ x < n) : mvN n k x = (x + (k : Int)) % n := by
  unfold mvN
  rw [if_pos h, show wrap64 (x + (k : Int)) = x + (k : Int) by unfold wrap64; omega, Int.tmod_eq_emod_of_nonneg (by omega)]
theorem mvN_in {n : Int} (h1 : 1 ≤ n) (h2 : n ≤ 40) {k : Nat} (hk : k < 256) (x : Int) : (0 ≤ mvN n k x ∧ mvN n k x < n) ↔ (0 ≤ x ∧ x < n) := by
  by_cases h : 0 ≤ x ∧ x < n
  · rw [mvN_eq h2 hk h]
    exact ⟨fun _ => h, fun _ => ⟨Int.emod_nonneg _ (by omega), Int.emod_lt_of_pos _ (by omega)⟩⟩
  · unfold mvN
    rw [if_neg h]
theorem mv_perm {n : Int} {k : Nat} (hk : k < 256) (h1 : 1 ≤ n) (h2 : n ≤ 40) (e : Ed) : Perm n (mvE n k e) ↔ Perm n e := by
  have ha := mvN_in h1 h2 hk e.fr
  have hb := mvN_in h1 h2 hk e.to
  unfold Perm mvE
  simp only
  constructor
  · rintro ⟨a, b, c, d, r⟩
    have x := ha.1 ⟨a, b⟩
    have y := hb.1 ⟨c, d⟩
    exact ⟨x.1, x.2, y.1, y.2, r⟩
  · rintro ⟨a, b, c, d, r⟩
    have x := ha.2 ⟨a, b⟩
    have y := hb.2 ⟨c, d⟩
    exact ⟨x.1, x.2, y.1, y.2, r⟩
theorem mv_inj {n : Int} (h1 : 1 ≤ n) {k : Nat} {x y : Int} (hx : 0 ≤ x ∧ x < n) (hy : 0 ≤ y ∧ y < n) (h : (x + (k : Int)) % n = (y + (k : Int)) % n) : x = y := by
  have h2 : (x - y) % n = 0 := by
    have := Int.emod_emod_of_dvd (x - y) (Int.dvd_refl n)
    have e : x - y = (x + (k : Int)) - (y + (k : Int)) := by omega
    rw [e, Int.sub_emod, h, Int.sub_self, Int.zero_emod]
  obtain ⟨c, hc⟩ := Int.dvd_of_emod_eq_zero h2
  rcases Int.lt_trichotomy c 0 with h3 | h3 | h3
  · have := Int.mul_le_mul_of_nonneg_left (show c ≤ -1 by omega) (show 0 ≤ n by omega)
    omega
  · subst h3
    omega
  · have := Int.mul_le_mul_of_nonneg_left (show 1 ≤ c by omega) (show 0 ≤ n by omega)
    omega
theorem mv_over {n : Int} (h1 : 1 ≤ n) (h2 : n ≤ 40) {k : Nat} (hk : k < 256) {v : Int} (hv : 0 ≤ v ∧ v < n) : ∀ {ls : Load}, (∀ p ∈ ls, Perm n p.1) → ovr (mapL (mvE n k) ls) ((v + (k : Int)) % n) = ovr ls v
  | [], _ => rfl
  | p :: r, h => by
    have ih := mv_over h1 h2 hk hv (ls := r) (fun q hq => h q (List.mem_cons_of_mem _ hq))
    have hp := h p (by simp)
    unfold ovr mapL at *
    simp only [List.map_cons, List.sum_cons, ih]
    have key : ∀ x, 0 ≤ x ∧ x < n → (mvN n k x = (v + (k : Int)) % n ↔ x = v) := fun x hx => by
      rw [mvN_eq h2 hk hx]
      exact ⟨fun e => mv_inj h1 hx hv e, fun e => by rw [e]⟩
    have hs : ovT ((v + (k : Int)) % n) (mvE n k p.1, p.2) = ovT v p := by
      unfold ovT mvE
      simp only [key _ ⟨hp.1, hp.2.1⟩, key _ ⟨hp.2.2.1, hp.2.2.2.1⟩]
    omega

/-- In the other order. -/
theorem zip_rev : ∀ {es : List Ed} {l : List Int}, es.length = l.length → es.reverse.zip l.reverse = (es.zip l).reverse
  | [], [], _ => rfl
  | [], _ :: _, h => by simp at h
  | _ :: _, [], h => by simp at h
  | e :: r, x :: m, h => by
    have hl : r.length = m.length := by simpa using h
    rw [List.reverse_cons, List.reverse_cons, List.zip_append (by simpa using hl), zip_rev hl]
    simp
theorem full_rev (es : List Ed) : full es.reverse = (full es).reverse := by unfold full; rw [List.map_reverse]
theorem sums_rev (ls : Load) : upN ls.reverse = upN ls ∧ dnN ls.reverse = dnN ls ∧ costL ls.reverse = costL ls ∧ ∀ v, ovr ls.reverse v = ovr ls v := by
  unfold upN dnN costL ovr
  simp only [List.map_reverse, List.sum_reverse, and_self, implies_true]
theorem right_rev (n : Int) (es : List Ed) : RightP n es.reverse ↔ RightP n es := by
  have h := sums_rev (full es)
  unfold RightP
  rw [full_rev, h.1, h.2.1, List.length_reverse]
  simp only [List.mem_reverse]
theorem within_rev (n : Int) (es : List Ed) (l : List Int) : WithinP n es.reverse l.reverse ↔ WithinP n es l := by
  unfold WithinP
  rw [right_rev, List.length_reverse, List.length_reverse]
  refine and_congr_right fun _ => and_congr_right fun hl => ?_
  rw [zip_rev hl.symm]
  simp only [List.mem_reverse]
theorem cost_rev (n : Int) (es : List Ed) (l : List Int) : costP n es.reverse l.reverse = costP n es l := by
  unfold costP
  by_cases h : WithinP n es l
  · rw [if_pos h, if_pos ((within_rev n es l).2 h), zip_rev h.2.1.symm, (sums_rev _).2.2.1]
  · rw [if_neg h, if_neg (fun hh => h ((within_rev n es l).1 hh))]
theorem over_rev (n : Int) (es : List Ed) (l : List Int) : overP n es.reverse l.reverse = overP n es l := by
  unfold overP
  by_cases h : WithinP n es l
  · rw [if_pos h, if_pos ((within_rev n es l).2 h), zip_rev h.2.1.symm]
    unfold overL
    exact List.map_congr_left fun v _ => (sums_rev _).2.2.2 _
  · rw [if_neg h, if_neg (fun hh => h ((within_rev n es l).1 hh))]
theorem flows_iff {n : Int} {es : List Ed} {l : List Int} (hl : WithinP n es l) : FlowsP n es l ↔ ∀ v : Nat, v < n.toNat → ovr (es.zip l) (v : Int) = 0 := by
  unfold FlowsP overL
  constructor
  · rintro ⟨_, h⟩ v hv
    exact h _ (List.mem_map.2 ⟨v, List.mem_range.2 hv, rfl⟩)
  · intro h
    refine ⟨hl, fun x hx => ?_⟩
    obtain ⟨v, hv, rfl⟩ := List.mem_map.1 hx
    exact h v (List.mem_range.1 hv)
theorem flows_bk (n : Int) (es : List Ed) (l : List Int) : FlowsP n (es.map bkE) l ↔ FlowsP n es l := by
  by_cases h : WithinP n es l
  · rw [flows_iff h, flows_iff ((within_map bk_keeps (fun _ _ => bk_perm n) es l).2 h), zip_mapL]
    refine ⟨fun hh v hv => ?_, fun hh v hv => ?_⟩
    · have := hh v hv
      rw [bk_over] at this
      omega
    · rw [bk_over, hh v hv]
      rfl
  · exact ⟨fun hh => absurd ((within_map bk_keeps (fun _ _ => bk_perm n) es l).1 hh.1) h, fun hh => absurd hh.1 h⟩
theorem flows_mv {n : Int} {k : Nat} (hk : k < 256) (es : List Ed) (l : List Int) : FlowsP n (es.map (mvE n k)) l ↔ FlowsP n es l := by
  have hwm := within_map (mv_keeps n k) (fun a b => mv_perm hk a b) es l
  by_cases h : WithinP n es l
  · have h1 := h.1.1
    have h2 := h.1.2.1
    have hp : ∀ p ∈ es.zip l, Perm n p.1 := fun p hp => h.1.2.2.2.1 _ (List.of_mem_zip hp).1
    rw [flows_iff h, flows_iff (hwm.2 h), zip_mapL]
    refine ⟨fun hh v hv => ?_, fun hh v hv => ?_⟩
    · rw [← mv_over h1 h2 hk (v := (v : Int)) ⟨by omega, by omega⟩ hp]
      have hb := Int.emod_nonneg ((v : Int) + (k : Int)) (show n ≠ 0 by omega)
      have hb2 := Int.emod_lt_of_pos ((v : Int) + (k : Int)) (show 0 < n by omega)
      have := hh (((v : Int) + (k : Int)) % n).toNat (by omega)
      rwa [Int.toNat_of_nonneg hb] at this
    · -- the node that comes to v
      have hu : ∃ u : Int, 0 ≤ u ∧ u < n ∧ (u + (k : Int)) % n = (v : Int) := by
        refine ⟨((v : Int) - (k : Int)) % n, Int.emod_nonneg _ (by omega), Int.emod_lt_of_pos _ (by omega), ?_⟩
        rw [Int.emod_add_emod, Int.sub_add_cancel]
        exact Int.emod_eq_of_lt (by omega) (by omega)
      obtain ⟨u, u1, u2, u3⟩ := hu
      rw [← u3, mv_over h1 h2 hk ⟨u1, u2⟩ hp]
      have := hh u.toNat (by omega)
      rwa [Int.toNat_of_nonneg u1] at this
  · exact ⟨fun hh => absurd (hwm.1 hh.1) h, fun hh => absurd hh.1 h⟩
end Go.Proofs.Ytmdjgkclbjbdiaa
