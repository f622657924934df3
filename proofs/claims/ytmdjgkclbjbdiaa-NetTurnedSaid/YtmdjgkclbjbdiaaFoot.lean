/- What a call may have turned: the blocks of a footprint, and new ones; a box of one variable; blocks of 512 bytes in the model's memory; no condition. -/
import Derived.Test.YtmdjgkclbjbdiaaBy
import Derived.Test.YtmdjgkclbjbdiaaDevPlain
namespace Go.Proofs.Ytmdjgkclbjbdiaa
open Go.RowKit

abbrev ptr (b : Nat) : Value := .pointer (some ⟨b, 0, none⟩)
abbrev err (n : Int) : Value := .int .i64 n

/-- From w to w' nothing has turned but blocks of S, and new ones. -/
structure Only (S : Nat → Prop) (w w' : World) : Prop where
  os : w'.os = w.os
  tape : w'.tape = w.tape
  output : w'.output = w.output
  size : w.heap.size ≤ w'.heap.size
  block : ∀ k, k < w.heap.size → ¬ S k → w'.heap[k]? = w.heap[k]?

variable {S T : Nat → Prop} {w w' w'' : World}

theorem Only.refl (S : Nat → Prop) (w : World) : Only S w w := ⟨rfl, rfl, rfl, Nat.le_refl _, fun _ _ _ => rfl⟩
theorem Only.trans (h : Only S w w') (k : Only S w' w'') : Only S w w'' :=
  ⟨k.os.trans h.os, k.tape.trans h.tape, k.output.trans h.output, Nat.le_trans h.size k.size, fun i hi hs => (k.block i (Nat.lt_of_lt_of_le hi h.size) hs).trans (h.block i hi hs)⟩
theorem Only.mono (h : Only S w w') (hst : ∀ k, k < w.heap.size → S k → T k) : Only T w w' := ⟨h.os, h.tape, h.output, h.size, fun k hk ht => h.block k hk fun hs => ht (hst k hk hs)⟩
/-- Two steps, the second one with a footprint that may have grown by new blocks. -/
theorem Only.then (h : Only S w w') (k : Only T w' w'') (hst : ∀ k, T k → S k ∨ w.heap.size ≤ k) : Only S w w'' :=
  ⟨k.os.trans h.os, k.tape.trans h.tape, k.output.trans h.output, Nat.le_trans h.size k.size, fun i hi hs => (k.block i (Nat.lt_of_lt_of_le hi h.size) (fun ht => by
    rcases hst i ht with h1 | h1
    · exact hs h1
    · omega)).trans (h.block i hi hs)⟩
theorem Only.below (h : Only S w w') {B : Nat} (hB : B ≤ w.heap.size) (hs : ∀ k, S k → B ≤ k) : Below B w w' :=
  ⟨h.os, h.tape, h.output, h.size, fun k hk => h.block k (Nat.lt_of_lt_of_le hk hB) fun hk' => by have := hs k hk'; omega⟩
theorem Only.of_below (h : Below w.heap.size w w') (S : Nat → Prop) : Only S w w' := ⟨h.os, h.tape, h.output, h.size, fun k hk _ => h.block k hk⟩
theorem Only.drew (h : Only S w w') : Only S w w'.drew := ⟨h.os, h.tape, h.output, h.size, h.block⟩
theorem Only.drewN (h : Only S w w') (n : Nat) : Only S w (w'.drewN n) := ⟨h.os, h.tape, h.output, h.size, h.block⟩
theorem Only.grown (h : Only S w w') {row : Option Nat} (hg : w'.grownBy w'' row) (hr : ∀ k, row = some k → S k ∨ w.heap.size ≤ k) : Only S w w'' :=
  ⟨hg.os.trans h.os, hg.tape.trans h.tape, hg.output.trans h.output, Nat.le_trans h.size hg.size, fun k hk hs => (hg.block k (Nat.lt_of_lt_of_le hk h.size) (fun e => by
    rcases hr k e.symm with h1 | h1
    · exact hs h1
    · omega)).trans (h.block k hk hs)⟩
theorem Only.setCell (h : Only S w w') {p : Addr} (hp : S p.block ∨ w.heap.size ≤ p.block) (u : Value) : Only S w (w'.setCell p u) :=
  ⟨h.os, h.tape, h.output, by simpa [World.setCell] using h.size, fun k hk hs => (Below.heap_setCell _ _ _ _ (fun e => by
    subst e
    rcases hp with h1 | h1
    · exact hs h1
    · omega)).trans (h.block k hk hs)⟩
theorem Only.alloc (h : Only S w w') (o : Obj) : Only S w (w'.alloc o) :=
  ⟨h.os, h.tape, h.output, by have := h.size; simp; omega, fun k hk hs => (Below.heap_alloc _ _ _ (Nat.lt_of_lt_of_le hk h.size)).trans (h.block k hk hs)⟩

/-- A footprint that has taken in what is new. -/
def Grow (S : Nat → Prop) (w w' : World) (k : Nat) : Prop := S k ∨ (w.heap.size ≤ k ∧ k < w'.heap.size)

/-- What lies in one block, with no mark. -/
def Cel (w : World) (g : Nat) (cs : List Value) (t : TypeId) : Prop := w.heap[g]? = some (.cells cs.toArray t (0, 0))

theorem Cel.lt {g : Nat} {cs : List Value} {t : TypeId} (h : Cel w g cs t) : g < w.heap.size := (Array.getElem?_eq_some_iff.1 h).1
theorem Cel.cell {g : Nat} {cs : List Value} {t : TypeId} (h : Cel w g cs t) (i : Nat) : w.cell? ⟨g, i, none⟩ = cs[i]? := by
  simp [World.cell?, show w.heap[g]? = _ from h]
theorem Cel.frozen {g : Nat} {cs : List Value} {t : TypeId} (h : Cel w g cs t) (i : Nat) : w.frozen? ⟨g, i, none⟩ = false := by
  simp [World.frozen?, show w.heap[g]? = _ from h]
theorem Cel.new (w : World) (cs : Array Value) (t : TypeId) : Cel (w.alloc (.cells cs t)) w.heap.size cs.toList t := by
  show (w.heap.push _)[w.heap.size]? = _
  simp
theorem Cel.kept {g : Nat} {cs : List Value} {t : TypeId} (h : Cel w g cs t) (hk : w'.heap[g]? = w.heap[g]?) : Cel w' g cs t := hk.trans h
theorem Cel.set {g : Nat} {cs : List Value} {t : TypeId} (h : Cel w g cs t) (i : Nat) (u : Value) : Cel (w.setCell ⟨g, i, none⟩ u) g (cs.set i u) t := by
  unfold Cel at *
  rw [Lib.heap_setCell_same h]
  simp
theorem Cel.below {g : Nat} {cs : List Value} {t : TypeId} (h : Cel w g cs t) {B : Nat} (hb : Below B w w') (hg : g < B) : Cel w' g cs t := h.kept (hb.block g hg)
theorem Cel.only {g : Nat} {cs : List Value} {t : TypeId} (h : Cel w g cs t) (ho : Only S w w') (hg : ¬ S g) : Cel w' g cs t := h.kept (ho.block g h.lt hg)
theorem Cel.alloc {g : Nat} {cs : List Value} {t : TypeId} (h : Cel w g cs t) (o : Obj) : Cel (w.alloc o) g cs t := h.kept (Below.heap_alloc _ _ _ h.lt)
theorem Cel.inj {g : Nat} {cs cs' : List Value} {t t' : TypeId} (h : Cel w g cs t) (h' : Cel w g cs' t') : cs = cs' ∧ t = t' := by
  unfold Cel at *
  rw [h] at h'
  simp only [Option.some.injEq, Obj.cells.injEq] at h'
  exact ⟨by simpa using congrArg Array.toList h'.1, h'.2.1⟩

/-- A block of 512 bytes: a slice over the whole of a block of its own. -/
def Blk (w : World) (v : Value) (l : Bytes) : Prop := ∃ g, v = .slice (some ⟨g, 0, none⟩) 512 512 ∧ Cel w g (bvs l) 5 ∧ l.length = 512

theorem Blk.bs {v : Value} {l : Bytes} (h : Blk w v l) : Bs w v l := by
  obtain ⟨g, rfl, hc, hl⟩ := h
  refine ⟨some ⟨g, 0, none⟩, 512, by rw [hl], by omega, by unfold maxLen; omega, (fun h => by cases h), fun ad had i u hu => ?_⟩
  cases had
  rw [Addr.add_lit, Nat.zero_add, hc.cell]
  exact hu

/-- The block that a slice lies in. -/
theorem Blk.kept {v : Value} {l : Bytes} (h : Blk w v l) (hk : ∀ g, v.ownBlock = some g → w'.heap[g]? = w.heap[g]?) : Blk w' v l := by
  obtain ⟨g, rfl, hc, hl⟩ := h
  exact ⟨g, rfl, hc.kept (hk g rfl), hl⟩

theorem Blk.below {v : Value} {l : Bytes} (h : Blk w v l) (hb : Below w.heap.size w w') : Blk w' v l :=
  h.kept fun g hg => hb.block g (by
    obtain ⟨g', rfl, hc, hl⟩ := h
    cases hg
    exact hc.lt)

theorem Blk.len {v : Value} {l : Bytes} (h : Blk w v l) : l.length = 512 := let ⟨_, _, _, hl⟩ := h; hl
theorem Blk.own {v : Value} {l : Bytes} (h : Blk w v l) : ∃ g, v.ownBlock = some g ∧ g < w.heap.size := by
  obtain ⟨g, rfl, hc, hl⟩ := h
  exact ⟨g, rfl, hc.lt⟩

/-- A slice that lies in no block of the footprint stays. -/
theorem Bs.only {w w' : World} {S : Nat → Prop} {v : Value} {l : List UInt8} (h : Bs w v l) (ho : Only S w w') (hne : ∀ q, v.ownBlock = some q → ¬ S q) : Bs w' v l := by
  obtain ⟨a, cap, rfl, h2, h3, h4, h5⟩ := h
  refine ⟨a, cap, rfl, h2, h3, h4, fun ad had i u hu => ?_⟩
  subst had
  have hc := h5 _ rfl i u hu
  have hblk : (ad.add i).block = ad.block := by
    unfold Addr.add
    split <;> rfl
  have := ho.block (ad.add i).block (World.block_lt_of_cell? w _ hc) (by rw [hblk]; exact hne _ rfl)
  exact (World.cell?_of_block this).trans hc
end Go.Proofs.Ytmdjgkclbjbdiaa
