/- A device that a statement has made, with what must last beside it: each call of the device and of package shadow, as it answers; condition: fewer than a million things are loose in each block. -/
import Derived.Test.YtcpapdpnnlnemaaShSave
import Derived.Test.YtcpapdpnnlnemaaShKeep
import Derived.Test.YtcpapdpnnlnemaaDevMine
namespace Go.Proofs.Ytcpapdpnnlnemaa
open Go.RowKit Go.Maps

/-- What holds in each world that has these blocks as they are. -/
def Lasts (P : Nat → Prop) (w : World) (Q : World → Prop) : Prop := ∀ w', (∀ q, P q → w'.heap[q]? = w.heap[q]?) → Q w'
theorem bs_lasts {w : World} {v : Value} {l : Bytes} (h : Bs w v l) : Lasts (fun q => l ≠ [] ∧ v.ownBlock = some q) w (fun w' => Bs w' v l) := fun w' hk => by
  rcases Nat.eq_zero_or_pos l.length with hl | hl
  · obtain rfl : l = [] := List.eq_nil_of_length_eq_zero hl
    obtain ⟨a, cap, rfl, h1, h2, h3, h4⟩ := h
    exact ⟨a, cap, rfl, h1, h2, h3, fun ad _ i u hu => by simp [bvs] at hu⟩
  · obtain ⟨a, cap, rfl, h2, h3, h4, h5⟩ := h
    refine ⟨a, cap, rfl, h2, h3, h4, fun ad had i u hu => ?_⟩
    subst had
    have hc := h5 _ rfl i u hu
    have hblk : (ad.add i).block = ad.block := by
      unfold Addr.add
      split <;> rfl
    exact (World.cell?_of_block (hk (ad.add i).block ⟨fun e => by simp [e] at hl, by rw [hblk]; rfl⟩)).trans hc

/-- The device has D, in memory that was laid since w0; beside it Q lasts. -/
def Own (w0 w : World) (b : Nat) (D : Dv) (Q : World → Prop) : Prop :=
  ∃ F P, Dev w b D F ∧ (∀ q, F q → w0.heap.size ≤ q) ∧ Below w0.heap.size w0 w ∧ (∀ q, P q → q < w.heap.size ∧ ¬ F q) ∧ Lasts P w Q

section
variable {w0 w w' : World} {b n : Nat} {D D' : Dv} {Q R : World → Prop} {c : Int} {v : Value} {l : Bytes}

theorem Own.now (h : Own w0 w b D Q) : Q w := let ⟨_, _, _, _, _, _, h⟩ := h; h w fun _ _ => rfl
theorem Own.under (h : Own w0 w b D Q) : Below w0.heap.size w0 w := let ⟨_, _, _, _, h, _⟩ := h; h
theorem Own.later (h : Own w0 w b D Q) (hb : Below w.heap.size w w') : Own w0 w' b D Q := by
  obtain ⟨F, P, h1, h2, h3, h4, h5⟩ := h
  exact ⟨F, P, h1.below hb, h2, h3.trans (hb.mono h3.size), fun q hq => ⟨Nat.lt_of_lt_of_le (h4 q hq).1 hb.size, (h4 q hq).2⟩, fun w'' hk => h5 w'' fun q hq => (hk q hq).trans (hb.block q (h4 q hq).1)⟩
theorem Own.base {w1 : World} (h : Own w1 w b D Q) (hb : Below w0.heap.size w0 w1) : Own w0 w b D Q := by
  obtain ⟨F, P, h1, h2, h3, h4, h5⟩ := h
  have hz := hb.size
  exact ⟨F, P, h1, fun q hq => by have := h2 q hq; omega, hb.trans (h3.mono hz), h4, h5⟩
theorem Own.forget (h : Own w0 w b D Q) (hr : ∀ W, Q W → R W) : Own w0 w b D R := by
  obtain ⟨F, P, h1, h2, h3, h4, h5⟩ := h
  exact ⟨F, P, h1, h2, h3, h4, fun w'' hk => hr _ (h5 w'' hk)⟩
theorem Own.from_old (h : Own w0 w b D Q) (hr : ∀ W, Below w0.heap.size w0 W → R W) {S : Nat → Prop} (hs : Lasts S w0 R) (hS : ∀ q, S q → q < w0.heap.size) : Own w0 w b D (fun W => Q W ∧ R W) := by
  obtain ⟨F, P, h1, h2, h3, h4, h5⟩ := h
  refine ⟨F, fun q => P q ∨ S q, h1, h2, h3, fun q hq => hq.elim (h4 q) fun hq => ⟨Nat.lt_of_lt_of_le (hS q hq) h3.size, fun hf => by have := h2 q hf; have := hS q hq; omega⟩, fun w'' hk => ⟨h5 w'' fun q hq => hk q (.inl hq), hs w'' fun q hq => (hk q (.inr hq)).trans (h3.block q (hS q hq))⟩⟩
/-- What is new lasts as well. -/
theorem Own.with (h : Own w0 w b D Q) (hb : Below w.heap.size w w') {S : Nat → Prop} (hs : Lasts S w' R) (hS : ∀ q, S q → w.heap.size ≤ q ∧ q < w'.heap.size) : Own w0 w' b D (fun W => Q W ∧ R W) := by
  obtain ⟨F, P, h1, h2, h3, h4, h5⟩ := h.later hb
  obtain ⟨F0, P0, g1, g2, g3, g4, g5⟩ := h
  refine ⟨F0, fun q => P0 q ∨ S q, g1.below hb, g2, h3, fun q hq => hq.elim (fun hq => ⟨Nat.lt_of_lt_of_le (g4 q hq).1 hb.size, (g4 q hq).2⟩) fun hq => ⟨(hS q hq).2, fun hf => by have := g1.fl q hf; have := (hS q hq).1; omega⟩,
    fun w'' hk => ⟨g5 w'' fun q hq => (hk q (.inl hq)).trans (hb.block q (g4 q hq).1), hs w'' fun q hq => hk q (.inr hq)⟩⟩
theorem Own.bytes (h : Own w0 w b D Q) (hn : New w w' v l) (hb : Below w.heap.size w w') : Own w0 w' b D (fun W => Q W ∧ Bs W v l) :=
  h.with hb (bs_lasts hn.1) fun q hq => ⟨hn.2 q hq.2, hn.1.old (List.length_pos_iff.2 hq.1) hq.2⟩

theorem Own.step {f : FuncId} {args : Array Value} (h : Own w0 w b D Q) (hs : ∀ F, Dev w b D F → (∀ q, F q → w0.heap.size ≤ q) → Calls Try.prog f args w (DSteps w b F c D')) : Calls Try.prog f args w fun e w' => e = .returned (err c) ∧ Own w0 w' b D' Q := by
  obtain ⟨F, P, h1, h2, h3, h4, h5⟩ := h
  refine (hs F h1 h2).mono ?_
  rintro e w' ⟨rfl, hd, ho⟩
  have hz := h3.size
  refine ⟨rfl, _, P, hd, fun q hq => hq.elim (h2 q) fun hq => by omega, h3.trans (ho.below hz h2), fun q hq => ⟨Nat.lt_of_lt_of_le (h4 q hq).1 ho.size, fun hf => hf.elim (h4 q hq).2 fun hf => by have := (h4 q hq).1; omega⟩, fun w'' hk => h5 w'' fun q hq => (hk q hq).trans (ho.block q (h4 q hq).1 (h4 q hq).2)⟩

theorem own_new (k : Nat) (w : World) (h1 : 1 ≤ k) (h2 : k ≤ 4096) : Calls Try.prog 9 #[.int .i64 (k : Int)] w fun e w' => ∃ b, e = .returned (.tuple #[ptr b, err 0]) ∧ Own w w' b (fresh k) (fun _ => True) := by
  refine (m_new k w h1 h2).mono ?_
  rintro e w' ⟨b, rfl, F, hd, hf, hb⟩
  exact ⟨b, rfl, F, fun _ => False, hd, hf, hb, fun q hq => hq.elim, fun _ _ => trivial⟩
theorem own_save {lv : Value} {x : Bytes} (g : Nat) (h : Own w0 w b D Q) (hu : Upto D n) (hn : n < 1000000) (hg : g < 18446744073709551616) (hl : Bs w lv x) :
    Calls Try.prog 11 #[ptr b, .int .u64 (g : Int), lv] w fun e w' => e = .returned (err (sCode D g x)) ∧ Own w0 w' b (sDev D g x) Q := h.step fun _ hd _ => save_any g hd hu hn hg hl
theorem own_load (h : Own w0 w b D Q) : Calls Try.prog 22 #[ptr b] w fun e w' => ∃ v, e = .returned (.tuple #[.int .u64 ((loadV D).1 : Int), v, err (loadV D).2.2]) ∧ Own w0 w' b D (fun W => Q W ∧ Bs W v (loadV D).2.1) := by
  have h0 := h
  obtain ⟨F, P, h1, _⟩ := h
  refine (load_any h1).mono ?_
  rintro e w' ⟨v, rfl, hn, hb⟩
  exact ⟨v, rfl, h0.bytes hn hb⟩
theorem own_arm (h : Own w0 w b D Q) (m : Int) (hm : m ≤ 9223372036854775807) : Calls Try.prog 13 #[ptr b, .int .i64 m] w fun e w' => e = .returned (err (acode D)) ∧ Own w0 w' b (adev D m) Q := h.step fun _ hd _ => darm_any hd m hm
theorem own_off (h : Own w0 w b D Q) : Calls Try.prog 15 #[ptr b] w fun e w' => e = .returned (err (ocode D)) ∧ Own w0 w' b (odev D) Q := h.step fun _ hd _ => doff_any hd
theorem own_on (h : Own w0 w b D Q) (hu : Upto D n) (hn : n < 1000000) {pv : Value} {ps : List Int} (hp : Iv w0 pv ps) : Calls Try.prog 17 #[ptr b, pv] w fun e w' => e = .returned (err (ncode D)) ∧ Own w0 w' b (ndev D ps) Q := by
  have hb := h.under
  refine h.step fun F hd hf => don_any hd (hu.small (by omega)) (hp.kept fun q _ _ hq => hb.block q hq) fun hne q hq hF => ?_
  obtain ⟨u, r, rfl⟩ := List.exists_cons_of_ne_nil hne
  obtain ⟨g, o, cap, rfl, hc⟩ := hp.open (i := 0) rfl
  cases hq
  have := World.block_lt_of_cell? w0 _ hc.1
  simp only at this
  have := hf g hF
  omega
end
end Go.Proofs.Ytcpapdpnnlnemaa
