/- Rows of things in the model's memory, of one kind each: what they read as, what stays, one more, a part of them; no condition. -/
import Derived.Test.YtmdjgkclbjbdiaaFoot
import Derived.Maps.AppendAt
namespace Go.Proofs.Ytmdjgkclbjbdiaa
open Go.RowKit

/-- From w to w' only blocks of S have turned; what is in S' now was in S, or is new. -/
structure Step (S : Nat → Prop) (w w' : World) (S' : Nat → Prop) : Prop where
  only : Only S w w'
  more : ∀ q, S' q → S q ∨ w.heap.size ≤ q

section
variable {S S' S'' : Nat → Prop} {w w' w'' : World}
theorem Step.refl (S : Nat → Prop) (w : World) : Step S w w S := ⟨Only.refl _ _, fun _ h => .inl h⟩
theorem Step.trans (h : Step S w w' S') (k : Step S' w' w'' S'') : Step S w w'' S'' :=
  ⟨h.only.then k.only h.more, fun q hq => by
    rcases k.more q hq with h1 | h1
    · exact h.more q h1
    · exact .inr (Nat.le_trans h.only.size h1)⟩
theorem Step.of_below (h : Below w.heap.size w w') (S : Nat → Prop) : Step S w w' S := ⟨Only.of_below h S, fun _ h => .inl h⟩
theorem Step.size (h : Step S w w' S') : w.heap.size ≤ w'.heap.size := h.only.size
theorem Step.bel (h : Step S w w' S') (k : Below w'.heap.size w' w'') : Step S w w'' S' := h.trans (Step.of_below k S')
theorem Step.drewN (h : Step S w w' S') (n : Nat) : Step S w (w'.drewN n) S' := ⟨h.only.drewN n, h.more⟩
theorem Step.drew (h : Step S w w' S') : Step S w w'.drew S' := ⟨h.only.drew, h.more⟩
theorem Step.alloc (h : Step S w w' S') (o : Obj) : Step S w (w'.alloc o) S' := ⟨h.only.alloc o, h.more⟩
theorem Step.set (h : Step S w w' S') {p : Addr} (hp : S' p.block) (u : Value) : Step S w (w'.setCell p u) S' := h.trans ⟨(Only.refl _ _).setCell (.inl hp) u, fun _ h => .inl h⟩
theorem Step.weak (h : Step S w w' S') (hs : ∀ q, S'' q → S' q) : Step S w w' S'' := ⟨h.only, fun q hq => h.more q (hs q hq)⟩
theorem Step.grow {F : Nat → Prop} (h : Only F w w') (hF : ∀ q, F q → S q) (hS : ∀ q, S' q → S q ∨ w.heap.size ≤ q) : Step S w w' S' := ⟨h.mono fun q _ hq => hF q hq, hS⟩
end

theorem below_drewN {n : Nat} {w w' : World} (h : Below n w w') (k : Nat) : Below n w (w'.drewN k) := ⟨h.os, h.tape, h.output, h.size, h.block⟩
theorem addr_add_block (a : Addr) (n : Nat) : (a.add n).block = a.block := by
  unfold Addr.add
  split <;> rfl

/-- A slice of bytes that lies outside of S. -/
def Bsf (w : World) (S : Nat → Prop) (v : Value) (l : List UInt8) : Prop := Bs w v l ∧ (l ≠ [] → ∀ q, v.ownBlock = some q → ¬ S q)
theorem Bsf.bs {w : World} {S : Nat → Prop} {v : Value} {l : List UInt8} (h : Bsf w S v l) : Bs w v l := h.1
theorem Bs.empty {w w' : World} {v : Value} (h : Bs w v []) : Bs w' v [] := by
  obtain ⟨a, cap, h1, h2, h3, h4, h5⟩ := h
  exact ⟨a, cap, h1, h2, h3, h4, fun ad had i u hu => by simp [bvs] at hu⟩
theorem Bs.in_heap {w : World} {v : Value} {l : List UInt8} (h : Bs w v l) (hne : l ≠ []) {q : Nat} (hq : v.ownBlock = some q) : q < w.heap.size := by
  obtain ⟨b, o, cap, rfl, _, hb, _⟩ := h.open (List.length_pos_iff.2 hne)
  cases hq
  exact hb
theorem Bsf.step {w w' : World} {S S' : Nat → Prop} {v : Value} {l : List UInt8} (h : Bsf w S v l) (hs : Step S w w' S') : Bsf w' S' v l := by
  by_cases hl : l = []
  · subst hl
    exact ⟨h.1.empty, fun h => absurd rfl h⟩
  · refine ⟨h.1.only hs.only (h.2 hl), fun _ q hq hq' => ?_⟩
    rcases hs.more q hq' with h1 | h1
    · exact h.2 hl q hq h1
    · have := h.1.in_heap hl hq
      omega
theorem Bsf.nil (w : World) (S : Nat → Prop) : Bsf w S (.slice none 0 0) [] := ⟨Bs.nil w, fun h => absurd rfl h⟩
theorem Bsf.new {w w' : World} {S : Nat → Prop} {e : TypeId} {v : Value} {l : List UInt8} (h : Ow w' w.heap.size e v l) (hS : ∀ q, S q → q < w.heap.size) : Bsf w' S v l :=
  ⟨h.bs, fun _ q hq hs => by
    have := (World.ownsRow.lt h q hq).1
    have := hS q hs
    omega⟩

/-- A slice of n things of sz cells each, whose cells read so. -/
def Rw (w : World) (v : Value) (n sz : Nat) (cs : List Value) : Prop :=
  ∃ a cap, v = .slice a n cap ∧ n ≤ cap ∧ cap ≤ maxLen ∧ (a = none → cap = 0) ∧ cs.length = n * sz ∧ ∀ ad, a = some ad → ∀ j u, cs[j]? = some u → w.cell? (ad.add j) = some u

section
variable {w w' : World} {v : Value} {n sz : Nat} {cs : List Value} {S S' : Nat → Prop}

theorem Rw.nil (w : World) (sz : Nat) : Rw w (.slice none 0 0) 0 sz [] := ⟨none, 0, rfl, Nat.le_refl _, Nat.zero_le _, fun _ => rfl, by simp, fun _ h => by cases h⟩
theorem Rw.shape (h : Rw w v n sz cs) : ∃ a cap, v = .slice a n cap ∧ n ≤ cap ∧ cap ≤ maxLen := let ⟨a, cap, h1, h2, h3, _⟩ := h; ⟨a, cap, h1, h2, h3⟩
theorem Rw.open (h : Rw w v n sz cs) (hn : 0 < n) (hs : 0 < sz) : ∃ b o cap, v = .slice (some ⟨b, o, none⟩) n cap ∧ n ≤ cap ∧ cap ≤ maxLen ∧ b < w.heap.size ∧ ∀ j u, cs[j]? = some u → w.cell? ⟨b, o + j, none⟩ = some u := by
  obtain ⟨a, cap, rfl, h1, h2, h3, h4, h5⟩ := h
  rcases a with _ | ⟨b, o, s⟩
  · have := h3 rfl; omega
  · have hp : 0 < cs.length := by rw [h4]; exact Nat.mul_pos hn hs
    have h0 := h5 _ rfl 0 cs[0] (List.getElem?_eq_getElem hp)
    have hs : s = none := by simpa [Addr.add] using World.cell?_spot h0
    subst hs
    refine ⟨b, o, cap, rfl, h1, h2, ?_, fun j u hu => ?_⟩
    · simpa [Addr.add] using World.block_lt_of_cell? w _ h0
    · have := h5 _ rfl j u hu
      rw [Addr.add_lit] at this
      exact this
theorem Rw.in_heap (h : Rw w v n sz cs) (hn : 0 < n) (hs : 0 < sz) {q : Nat} (hq : v.ownBlock = some q) : q < w.heap.size := by
  obtain ⟨b, o, cap, rfl, _, _, hb, _⟩ := h.open hn hs
  cases hq
  exact hb
theorem Rw.only (h : Rw w v n sz cs) (ho : Only S w w') (hd : 0 < n → ∀ q, v.ownBlock = some q → ¬ S q) : Rw w' v n sz cs := by
  obtain ⟨a, cap, rfl, h1, h2, h3, h4, h5⟩ := h
  refine ⟨a, cap, rfl, h1, h2, h3, h4, fun ad had j u hu => ?_⟩
  subst had
  have hc := h5 _ rfl j u hu
  have hj := (List.getElem?_eq_some_iff.1 hu).1
  have hn : 0 < n := by
    rcases Nat.eq_zero_or_pos n with e | e
    · subst e; omega
    · exact e
  have := ho.block (ad.add j).block (World.block_lt_of_cell? w _ hc) (by rw [addr_add_block]; exact hd hn _ rfl)
  exact (World.cell?_of_block this).trans hc
/-- A part of it. -/
theorem Rw.part (h : Rw w v n sz cs) (lo hi : Nat) (hlh : lo ≤ hi) (hhi : hi ≤ n) : ∃ a cap, v = .slice a n cap ∧ Rw w (sliced a lo hi cap sz) (hi - lo) sz ((cs.take (hi * sz)).drop (lo * sz)) := by
  obtain ⟨a, cap, rfl, h1, h2, h3, h4, h5⟩ := h
  refine ⟨a, cap, rfl, if cap = lo then a else a.map (·.add (lo * sz)), cap - lo, rfl, by omega, by omega, ?_, ?_, ?_⟩
  · split
    · intro _; omega
    · intro h
      have : a = none := by simpa using h
      have := h3 this
      omega
  · have hm := Nat.mul_le_mul_right sz hhi
    simp only [List.length_drop, List.length_take, h4]
    rw [Nat.min_eq_left hm, Nat.sub_mul]
  · intro ad had j u hu
    have hj := (List.getElem?_eq_some_iff.1 hu).1
    have hm := Nat.mul_le_mul_right sz hhi
    simp only [List.length_drop, List.length_take, h4] at hj
    rw [Nat.min_eq_left hm] at hj
    have hne : ¬ cap = lo := fun e => by
      have e2 : lo = hi := by omega
      subst e2
      omega
    rw [if_neg hne] at had
    obtain ⟨a0, rfl, rfl⟩ := Option.map_eq_some_iff.1 had
    rw [Addr.add_add]
    apply h5 a0 rfl
    rw [← hu]
    simp only [List.getElem?_drop, List.getElem?_take]
    rw [if_pos (by omega)]
theorem Rw.of_own {base : Nat} {e : TypeId} (h : w.ownsRow base e sz v n cs) : Rw w v n sz cs := by
  have hc := fun g (hg : v.ownBlock = some g) => World.ownsRow.cells h hg
  have h1 := h.1
  rcases h.2 with ⟨rfl, h2⟩ | ⟨g, cap, cur, rfl, hb, hg, hn, hm, hcs, ht⟩
  · subst h2
    have : cs = [] := List.eq_nil_of_length_eq_zero (by simpa using h1)
    subst this
    exact Rw.nil w sz
  · refine ⟨_, cap, rfl, hn, hm, (fun h => by cases h), h1, fun ad had j u hu => ?_⟩
    cases had
    exact hc g rfl j u hu
end

/-- A kind of thing that rows are of: its cells, what it reads as, what else must hold of it (and does in each world behind a step). -/
structure Kd (τ α : Type) where
  sz : Nat
  pos : 0 < sz
  cs : τ → List Value
  len : ∀ t, (cs t).length = sz
  one : ∀ t, ∀ u ∈ cs t, u.oneCell' = true
  con : τ → α
  ok : World → (Nat → Prop) → τ → Prop
  step : ∀ {w w' : World} {S S' : Nat → Prop} {t : τ}, ok w S t → Step S w w' S' → ok w' S' t

def Kd.cells {τ α : Type} (K : Kd τ α) (ts : List τ) : List Value := ts.flatMap K.cs
/-- A slice that reads as these, outside of S. -/
def Rd {τ α : Type} (K : Kd τ α) (w : World) (S : Nat → Prop) (v : Value) (l : List α) : Prop :=
  ∃ ts : List τ, ts.map K.con = l ∧ Rw w v l.length K.sz (K.cells ts) ∧ (∀ t ∈ ts, K.ok w S t) ∧ (l ≠ [] → ∀ q, v.ownBlock = some q → ¬ S q)
/-- A row of the call's own that reads as these; its block is one of S, what it holds lies outside. -/
def Ro {τ α : Type} (K : Kd τ α) (e : TypeId) (w : World) (S : Nat → Prop) (v : Value) (l : List α) : Prop :=
  ∃ ts : List τ, ts.map K.con = l ∧ w.ownsRow 0 e K.sz v l.length (K.cells ts) ∧ (∀ t ∈ ts, K.ok w S t) ∧ ∀ q, v.ownBlock = some q → S q

section
variable {τ α : Type} {K : Kd τ α} {w w' : World} {S S' : Nat → Prop} {v : Value} {l m : List α}

theorem Kd.cells_length (K : Kd τ α) (ts : List τ) : (K.cells ts).length = ts.length * K.sz := by
  induction ts with
  | nil => simp [Kd.cells]
  | cons t r ih =>
    unfold Kd.cells at *
    rw [List.flatMap_cons, List.length_append, ih, K.len, List.length_cons, Nat.succ_mul, Nat.add_comm]
theorem Kd.cells_append (K : Kd τ α) (ts us : List τ) : K.cells (ts ++ us) = K.cells ts ++ K.cells us := List.flatMap_append
theorem Kd.cells_one (K : Kd τ α) (ts : List τ) : ∀ u ∈ K.cells ts, u.oneCell' = true := by
  intro u hu
  obtain ⟨t, _, ht⟩ := List.mem_flatMap.1 hu
  exact K.one t u ht
theorem Kd.cells_take (K : Kd τ α) (ts : List τ) (i : Nat) : (K.cells ts).take (i * K.sz) = K.cells (ts.take i) := by
  induction ts generalizing i with
  | nil => simp [Kd.cells]
  | cons t r ih =>
    rcases i with _ | i
    · simp [Kd.cells]
    · unfold Kd.cells at *
      rw [List.flatMap_cons, List.take_succ_cons, List.flatMap_cons, ← ih i, Nat.succ_mul, Nat.add_comm (i * K.sz), List.take_append]
      rw [K.len, List.take_of_length_le (by rw [K.len]; omega)]
      congr 2
      omega
theorem Kd.cells_drop (K : Kd τ α) (ts : List τ) (i : Nat) : (K.cells ts).drop (i * K.sz) = K.cells (ts.drop i) := by
  have h1 : K.cells ts = K.cells (ts.take i) ++ K.cells (ts.drop i) := by rw [← K.cells_append, List.take_append_drop]
  have h2 := K.cells_take ts i
  have h3 : K.cells ts = (K.cells ts).take (i * K.sz) ++ (K.cells ts).drop (i * K.sz) := (List.take_append_drop _ _).symm
  rw [h2] at h3
  exact List.append_cancel_left (h3.symm.trans h1)
theorem Kd.cells_at (K : Kd τ α) {ts : List τ} {i : Nat} {t : τ} (h : ts[i]? = some t) {j : Nat} {u : Value} (hu : (K.cs t)[j]? = some u) : (K.cells ts)[i * K.sz + j]? = some u := by
  have h1 := K.cells_drop ts i
  obtain ⟨hi, e⟩ := List.getElem?_eq_some_iff.1 h
  rw [List.drop_eq_getElem_cons hi, e] at h1
  rw [← List.getElem?_drop, h1]
  unfold Kd.cells
  rw [List.flatMap_cons, List.getElem?_append_left (List.getElem?_eq_some_iff.1 hu).1]
  exact hu

theorem Rd.nil (K : Kd τ α) (w : World) (S : Nat → Prop) : Rd K w S (.slice none 0 0) [] := ⟨[], rfl, Rw.nil w _, (fun _ h => by cases h), fun h => absurd rfl h⟩
theorem Rd.shape (h : Rd K w S v l) : ∃ a cap, v = .slice a l.length cap ∧ l.length ≤ cap ∧ cap ≤ maxLen := let ⟨_, _, h2, _⟩ := h; h2.shape
theorem Rd.len (h : Rd K w S v l) : l.length ≤ 9223372036854775807 := by
  obtain ⟨a, cap, _, h1, h2⟩ := h.shape
  unfold maxLen at h2
  omega
theorem Rd.in_heap (h : Rd K w S v l) (hl : l ≠ []) {q : Nat} (hq : v.ownBlock = some q) : q < w.heap.size := let ⟨_, _, h2, _⟩ := h; h2.in_heap (List.length_pos_iff.2 hl) K.pos hq
theorem Rd.step (h : Rd K w S v l) (hs : Step S w w' S') : Rd K w' S' v l := by
  obtain ⟨ts, h1, h2, h3, h4⟩ := h
  refine ⟨ts, h1, h2.only hs.only (fun hl => h4 (List.length_pos_iff.1 hl)), fun t ht => K.step (h3 t ht) hs, fun hl q hq hq' => ?_⟩
  rcases hs.more q hq' with h5 | h5
  · exact h4 hl q hq h5
  · have := h2.in_heap (List.length_pos_iff.2 hl) K.pos hq
    omega
/-- One of them. -/
theorem Rd.at (h : Rd K w S v l) {i : Nat} {a : α} (ha : l[i]? = some a) : ∃ g o cap t, v = .slice (some ⟨g, o, none⟩) l.length cap ∧ K.con t = a ∧ K.ok w S t ∧ g < w.heap.size ∧
    (∀ j u, (K.cs t)[j]? = some u → w.cell? ⟨g, o + i * K.sz + j, none⟩ = some u) ∧ ¬ S g := by
  obtain ⟨ts, h1, h2, h3, h4⟩ := h
  have hi := (List.getElem?_eq_some_iff.1 ha).1
  obtain ⟨b, o, cap, rfl, _, _, hb, hc⟩ := h2.open (by omega) K.pos
  rw [← h1, List.getElem?_map] at ha
  obtain ⟨t, ht, e⟩ := Option.map_eq_some_iff.1 ha
  refine ⟨b, o, cap, t, rfl, e, h3 t (List.mem_of_getElem? ht), hb, fun j u hu => ?_, h4 (by intro e; rw [e] at hi; simp at hi) b rfl⟩
  rw [Nat.add_assoc]
  exact hc _ _ (K.cells_at ht hu)
/-- A part of them. -/
theorem Rd.part (h : Rd K w S v l) (lo hi : Nat) (hlh : lo ≤ hi) (hhi : hi ≤ l.length) : ∃ a cap, v = .slice a l.length cap ∧ Rd K w S (sliced a lo hi cap K.sz) ((l.take hi).drop lo) := by
  obtain ⟨ts, h1, h2, h3, h4⟩ := h
  obtain ⟨a, cap, rfl, hp⟩ := h2.part lo hi hlh hhi
  refine ⟨a, cap, rfl, (ts.take hi).drop lo, ?_, ?_, fun t ht => h3 t (List.mem_of_mem_take (List.mem_of_mem_drop ht)), fun hl q hq => ?_⟩
  · rw [List.map_drop, List.map_take, h1]
  · rw [K.cells_take, K.cells_drop] at hp
    have e : ((l.take hi).drop lo).length = hi - lo := by simp; omega
    rw [e]
    exact hp
  · have hl' : l ≠ [] := by
      rintro rfl
      simp at hl
    refine h4 hl' q ?_
    rw [← hq]
    unfold sliced
    split
    · rcases a with _ | ad <;> rfl
    · rcases a with _ | ad
      · rfl
      · simp [Value.ownBlock, addr_add_block]
theorem Rd.upto {a : Option Addr} {n cap : Nat} (h : Rd K w S (.slice a n cap) l) (hi : Nat) (hhi : hi ≤ l.length) : Rd K w S (.slice a hi cap) (l.take hi) := by
  obtain ⟨a', cap', e, hp⟩ := h.part 0 hi (Nat.zero_le _) hhi
  simp only [Value.slice.injEq] at e
  obtain ⟨rfl, _, rfl⟩ := e
  have e2 : sliced a 0 hi cap K.sz = .slice a hi cap := by
    unfold sliced
    split
    · simp
    · rcases a with _ | ad <;> simp [Addr.add]
  rw [e2] at hp
  simpa using hp
theorem Rd.from {a : Option Addr} {n cap : Nat} (h : Rd K w S (.slice a n cap) l) (lo : Nat) (hlo : lo ≤ l.length) : Rd K w S (.slice (if cap = lo then a else a.map (·.add (lo * K.sz))) (l.length - lo) (cap - lo)) (l.drop lo) := by
  obtain ⟨a', cap', e, hp⟩ := h.part lo l.length hlo (Nat.le_refl _)
  simp only [Value.slice.injEq] at e
  obtain ⟨rfl, _, rfl⟩ := e
  rw [List.take_length] at hp
  exact hp
theorem Kd.less (K : Kd τ α) {t : τ} (h : K.ok w S t) (hs : ∀ q, S' q → S q) : K.ok w S' t := K.step h ⟨Only.refl _ _, fun q hq => .inl (hs q hq)⟩
theorem Rd.less (h : Rd K w S v l) (hs : ∀ q, S' q → S q) : Rd K w S' v l := h.step ⟨Only.refl _ _, fun q hq => .inl (hs q hq)⟩
theorem Ro.rd {e : TypeId} (h : Ro K e w S v l) (hs : ∀ q, S' q → S q) (hv : ∀ q, v.ownBlock = some q → ¬ S' q) : Rd K w S' v l := by
  obtain ⟨ts, h1, h2, h3, h4⟩ := h
  exact ⟨ts, h1, Rw.of_own h2, fun t ht => K.less (h3 t ht) hs, fun _ q hq => hv q hq⟩
theorem Ro.own {e : TypeId} (h : Ro K e w S v l) {q : Nat} (hq : v.ownBlock = some q) : q < w.heap.size := let ⟨_, _, h2, _⟩ := h; (World.ownsRow.lt h2 q hq).2
theorem Ro.inS {e : TypeId} (h : Ro K e w S v l) {q : Nat} (hq : v.ownBlock = some q) : S q := let ⟨_, _, _, _, h4⟩ := h; h4 q hq
theorem Ro.nil (K : Kd τ α) (e : TypeId) (w : World) (S : Nat → Prop) : Ro K e w S (.slice none 0 0) [] := ⟨[], rfl, World.ownsRow_nil _ _ _ _, (fun _ h => by cases h), fun q h => by cases h⟩
theorem Ro.shape {e : TypeId} (h : Ro K e w S v l) : ∃ a cap, v = .slice a l.length cap ∧ l.length ≤ cap ∧ cap ≤ maxLen := let ⟨_, _, h2, _⟩ := h; (Rw.of_own h2).shape
theorem ownsRow_kept {e : TypeId} {base sz n : Nat} {xs : List Value} (h : w.ownsRow base e sz v n xs) (hk : ∀ g, v.ownBlock = some g → w'.heap[g]? = w.heap[g]?) : w'.ownsRow base e sz v n xs := by
  refine ⟨h.1, ?_⟩
  rcases h.2 with h' | ⟨g, cap, cur, hv, hbg, hg, r⟩
  · exact .inl h'
  · exact .inr ⟨g, cap, cur, hv, hbg, (hk g (by rw [hv]; rfl)).trans hg, r⟩
/-- .. stays, where its block is left alone. -/
theorem Ro.keep {e : TypeId} (h : Ro K e w S v l) (hk : ∀ g, v.ownBlock = some g → w'.heap[g]? = w.heap[g]?) (hs : Step S w w' S') (hi : ∀ q, S q → S' q) : Ro K e w' S' v l := by
  obtain ⟨ts, h1, h2, h3, h4⟩ := h
  exact ⟨ts, h1, ownsRow_kept h2 hk, fun t ht => K.step (h3 t ht) hs, fun q hq => hi q (h4 q hq)⟩
theorem Ro.below {e : TypeId} (h : Ro K e w S v l) (hb : Below w.heap.size w w') : Ro K e w' S v l := h.keep (fun g hg => hb.block g (h.own hg)) (Step.of_below hb S) fun _ h => h

/-- What the program says of a slice type and its things. -/
structure RowTy (P : Program) (K : Kd τ α) (t e : TypeId) : Prop where
  slice : P.underlying t = some (.slice e)
  info : ∃ i z, P.info? e = some i ∧ i.zero = some z ∧ i.size = K.sz ∧ z.cells.size = K.sz ∧ i.bytes ≤ 1000

variable {P : Program} {t e : TypeId}
theorem RowTy.of {z : Value} {by' : Nat} (h1 : P.underlying t = some (.slice e)) (h2 : (P.info? e).map (fun i => (i.zero, i.size, i.bytes)) = some (some z, K.sz, by')) (h3 : z.cells.size = K.sz) (h4 : by' ≤ 1000) : RowTy P K t e := by
  obtain ⟨i, hi, h⟩ := Option.map_eq_some_iff.1 h2
  simp only [Prod.mk.injEq] at h
  exact ⟨h1, i, z, hi, h.1, h.2.1, h3, by rw [h.2.2]; exact h4⟩
/-- S, and a slice's own block. -/
def Sv (S : Nat → Prop) (v : Value) (q : Nat) : Prop := S q ∨ v.ownBlock = some q
theorem step_own {v' : Value} (hg : w.grownBy w' v.ownBlock) (hv : ∀ q, v.ownBlock = some q → S q) (hl : v'.ownBlock = v.ownBlock ∨ v'.ownBlock = some w.heap.size) : Step S w w' (Sv S v') :=
  ⟨⟨hg.os, hg.tape, hg.output, hg.size, fun k hk hs => hg.block k hk fun e => hs (hv k e.symm)⟩, fun q hq => by
    rcases hq with h | h
    · exact .inl h
    · rcases hl with h1 | h1
      · exact .inl (hv q (h1 ▸ h))
      · rw [h1] at h
        cases h
        exact .inr (Nat.le_refl _)⟩
/-- append of a slice to a row of the call's own. -/
theorem run_append_ro (T : RowTy P K t e) (ty : TypeId) {x : Value} (hv : Ro K e w S v l) (hx : Rd K w S x m) (hn : l.length + m.length ≤ 4294967296) :
    ∃ v' w', (Builtin.append_ #[t, t] ty #[v, x]).run P w = .ok v' w' ∧ Ro K e w' (Sv S v') v' (l ++ m) ∧ Step S w w' (Sv S v') ∧ w.grownBy w' v.ownBlock ∧ (v'.ownBlock = v.ownBlock ∨ v'.ownBlock = some w.heap.size) := by
  obtain ⟨i, z, hi, hz, hsz, hzs, hby⟩ := T.info
  obtain ⟨ts, h1, h2, h3, h4⟩ := hv
  obtain ⟨us, k1, k2, k3, k4⟩ := hx
  obtain ⟨a, cap, rfl, g1, g2, g3, g4, g5⟩ := k2
  have hb63 : (l.length + m.length) * i.bytes ≤ 140737488355328 := Nat.le_trans (Nat.mul_le_mul hn hby) (by decide)
  have ht : ∀ t' ∈ ts ++ us, K.ok w S t' := fun t' ht' => by
    rcases List.mem_append.1 ht' with h | h
    · exact h3 t' h
    · exact k3 t' h
  rcases a with _ | ad
  · have hc := g3 rfl
    subst hc
    have hm : m = [] := List.eq_nil_of_length_eq_zero (by omega)
    subst hm
    refine ⟨v, w, run_append_owned_none (P := P) w 0 t ty e i K.sz T.slice hi v l.length _ h2, ?_, ?_, ⟨rfl, rfl, rfl, Nat.le_refl _, fun _ _ _ => rfl⟩, .inl rfl⟩
    · rw [List.append_nil]
      exact ⟨ts, h1, h2, fun t' ht' => K.less (h3 t' ht') (fun q hq => hq.elim id (h4 q)), fun q hq => .inr hq⟩
    · exact ⟨Only.refl _ _, fun q hq => .inl (hq.elim id (h4 q))⟩
  · obtain ⟨v', w', hr, ho, hg, _, hloc⟩ := run_append_own_at (P := P) (w := w) 0 t ty e i z K.sz i.bytes T.slice hi hz hsz rfl hzs K.pos v l.length _ h2 ad m.length cap (K.cells us) g4
      (g5 ad rfl) (K.cells_one us) (by unfold maxLen; omega) hb63 (Nat.zero_le _)
    have hst := step_own hg h4 hloc
    refine ⟨v', w', hr, ⟨ts ++ us, by rw [List.map_append, h1, k1], ?_, fun t' ht' => K.step (ht t' ht') hst, fun q hq => .inr hq⟩, hst, hg, hloc⟩
    rw [List.length_append, K.cells_append]
    exact ho

/-- .. in a list of operations. -/
theorem wpList_append_ro (T : RowTy P K t e) {ops : Array Oper} {rest : List Oper} {o : Oper} {a : Act} {Q : Exit → Act → World → Prop} (hgd : o.guard = none) (s x : Operand)
    (ho : o.op = .call { callee := .builtin .append, args := #[s, x], argTypes := #[t, t] }) {xv : Value} (hs : a.eval s = v) (hx : a.eval x = xv)
    (hv : Ro K e w S v l) (hm : Rd K w S xv m) (hn : l.length + m.length ≤ 4294967296)
    (h : ∀ v' w', Ro K e w' (Sv S v') v' (l ++ m) → Step S w w' (Sv S v') → w.grownBy w' v.ownBlock → (v'.ownBlock = v.ownBlock ∨ v'.ownBlock = some w.heap.size) → wpList P ops Q rest (a.put o.dst v') w') : wpList P ops Q (o :: rest) a w := by
  obtain ⟨v', w', hr, h2, h3, h4, h5⟩ := run_append_ro T o.type hv hm hn
  refine wpList_plain hgd fun _ hK => ?_
  unfold Oper.wp execOp
  simp only [ho, resolve, invoke, builtin, Sem.run_bind, Sem.run_pure, Result.andThen_ok, List.map_toArray, List.map_cons, List.map_nil, hs, hx, hr]
  exact hK _ _ (h v' w' h2 h3 h4 h5)

/-- A literal of things, in a new block. -/
theorem rd_lit (K : Kd τ α) (w : World) (e : TypeId) (S : Nat → Prop) (hS : ∀ q, S q → q < w.heap.size) (ts : List τ) (cs : Array Value) (hcs : cs = (K.cells ts).toArray) (hok : ∀ t ∈ ts, K.ok w S t) (hn : ts.length ≤ 1000) {n : Nat} (hn' : n = ts.length) :
    Rd K (w.alloc (.cells cs e)) S (.slice (some ⟨w.heap.size, 0, none⟩) n n) (ts.map K.con) := by
  subst hcs; subst hn'
  refine ⟨ts, rfl, ⟨_, ts.length, by rw [List.length_map], by rw [List.length_map]; exact Nat.le_refl _, by unfold maxLen; omega, (fun h => by cases h), by rw [K.cells_length, List.length_map], fun ad had j u hu => ?_⟩, fun t ht => K.step (hok t ht) ((Step.refl S w).alloc _), fun _ q hq hq' => ?_⟩
  · cases had
    rw [Addr.add_lit, Nat.zero_add, (Cel.new w _ _).cell]
    exact hu
  · cases hq
    have := hS w.heap.size hq'
    omega
end
end Go.Proofs.Ytmdjgkclbjbdiaa
