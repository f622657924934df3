/- What it means that pages, the program's or the document's, lie in memory; no condition. -/
import Derived.Test.YtdmcknankcbjiaaFoot
import Derived.Test.YtdmcknankcbjiaaPgPlain
namespace Go.Proofs.Ytdmcknankcbjiaa
open Go.RowKit

abbrev ptr (b : Nat) : Value := .pointer (some ⟨b, 0, none⟩)
abbrev err (n : Int) : Value := .int .i64 n
abbrev pv (x : Pg) : Value := .int .u8 (pnum x : Nat)
def pvs (l : List Pg) : List Value := l.map pv

/-- Pages lie in memory behind the pointer to block b, their states in block sb, within the footprint. -/
structure PgAt (w : World) (b sb : Nat) (l : List Pg) (F : Nat → Prop) : Prop where
  head : Cel w b [.slice (some ⟨sb, 0, none⟩) l.length l.length] 47
  row : Cel w sb (pvs l) 51
  fb : F b
  fs : F sb
  fl : ∀ q, F q → q < w.heap.size
  pos : 0 < l.length
  few : l.length ≤ 4096
def Pgs (w : World) (b : Nat) (l : List Pg) (F : Nat → Prop) : Prop := ∃ sb, PgAt w b sb l F

section
variable {w w' : World} {b sb : Nat} {l : List Pg} {F F' : Nat → Prop}

theorem PgAt.kept (h : PgAt w b sb l F) (hk : ∀ q, F q → w'.heap[q]? = w.heap[q]?) (hs : w.heap.size ≤ w'.heap.size) : PgAt w' b sb l F :=
  ⟨h.head.kept (hk b h.fb), h.row.kept (hk sb h.fs), h.fb, h.fs, fun q hq => Nat.lt_of_lt_of_le (h.fl q hq) hs, h.pos, h.few⟩
theorem Pgs.kept (h : Pgs w b l F) (hk : ∀ q, F q → w'.heap[q]? = w.heap[q]?) (hs : w.heap.size ≤ w'.heap.size) : Pgs w' b l F := let ⟨sb, h⟩ := h; ⟨sb, h.kept hk hs⟩
theorem Pgs.fl (h : Pgs w b l F) : ∀ q, F q → q < w.heap.size := let ⟨_, h⟩ := h; h.fl
theorem Pgs.fb (h : Pgs w b l F) : F b := let ⟨_, h⟩ := h; h.fb
theorem Pgs.pos (h : Pgs w b l F) : 0 < l.length := let ⟨_, h⟩ := h; h.pos
theorem Pgs.few (h : Pgs w b l F) : l.length ≤ 4096 := let ⟨_, h⟩ := h; h.few
theorem Pgs.below (h : Pgs w b l F) (hb : Below w.heap.size w w') : Pgs w' b l F := h.kept (fun q hq => hb.block q (h.fl q hq)) hb.size
theorem Pgs.other {S : Nat → Prop} (h : Pgs w b l F) (ho : Only S w w') (hd : ∀ q, F q → ¬ S q) : Pgs w' b l F := h.kept (fun q hq => ho.block q (h.fl q hq) (hd q hq)) ho.size
theorem Pgs.widen (h : Pgs w b l F) (hf : ∀ q, F q → F' q) (hs : ∀ q, F' q → q < w.heap.size) : Pgs w b l F' := let ⟨sb, h⟩ := h; ⟨sb, h.head, h.row, hf _ h.fb, hf _ h.fs, hs, h.pos, h.few⟩
theorem PgAt.top (h : PgAt w b sb l F) : w.cell? ⟨b, 0, none⟩ = some (.slice (some ⟨sb, 0, none⟩) l.length l.length) := by rw [h.head.cell]; rfl
theorem PgAt.at (h : PgAt w b sb l F) {k : Nat} {x : Pg} (hx : l[k]? = some x) : w.cell? ⟨sb, k, none⟩ = some (.int .u8 (pnum x : Nat)) ∧ w.frozen? ⟨sb, k, none⟩ = false := by
  refine ⟨?_, h.row.frozen k⟩
  rw [h.row.cell]
  simp [pvs, hx]
theorem PgAt.ne (h : PgAt w b sb l F) : b ≠ sb := fun e => by
  subst e
  have := (h.head.inj h.row).2
  cases this
/-- A page's state is written. -/
theorem PgAt.set (h : PgAt w b sb l F) (k : Nat) (x : Pg) : PgAt (w.setCell ⟨sb, k, none⟩ (pv x)) b sb (l.set k x) F where
  head := by
    rw [List.length_set]
    exact h.head.kept (Below.heap_setCell _ _ _ _ (fun e => h.ne e))
  row := by
    have := h.row.set k (pv x)
    unfold pvs at *
    rw [← List.map_set] at this
    exact this
  fb := h.fb
  fs := h.fs
  fl q hq := by have := h.fl q hq; simpa [World.setCell] using this
  pos := by rw [List.length_set]; exact h.pos
  few := by rw [List.length_set]; exact h.few
theorem PgAt.only (h : PgAt w b sb l F) (k : Nat) (u : Value) : Only F w (w.setCell ⟨sb, k, none⟩ u) := (Only.refl F w).setCell (p := ⟨sb, k, none⟩) (.inl h.fs) u
end

/-! ### the document's -/
def bools (l : List Bool) : List Value := l.map .bool
structure RpAt (w : World) (b tb nb : Nat) (l : List Pg) (F : Nat → Prop) : Prop where
  head : Cel w b [.slice (some ⟨tb, 0, none⟩) l.length l.length, .slice (some ⟨nb, 0, none⟩) l.length l.length] 49
  thens : Cel w tb (bools (l.map (·.1))) 4
  nows : Cel w nb (bools (l.map (·.2))) 4
  ne : tb ≠ nb
  fb : F b
  ft : F tb
  fn : F nb
  fl : ∀ q, F q → q < w.heap.size
  pos : 0 < l.length
  few : l.length ≤ 4096
def Rps (w : World) (b : Nat) (l : List Pg) (F : Nat → Prop) : Prop := ∃ tb nb, RpAt w b tb nb l F

section
variable {w w' : World} {b tb nb : Nat} {l : List Pg} {F F' : Nat → Prop}

theorem RpAt.kept (h : RpAt w b tb nb l F) (hk : ∀ q, F q → w'.heap[q]? = w.heap[q]?) (hs : w.heap.size ≤ w'.heap.size) : RpAt w' b tb nb l F :=
  ⟨h.head.kept (hk b h.fb), h.thens.kept (hk tb h.ft), h.nows.kept (hk nb h.fn), h.ne, h.fb, h.ft, h.fn, fun q hq => Nat.lt_of_lt_of_le (h.fl q hq) hs, h.pos, h.few⟩
theorem Rps.kept (h : Rps w b l F) (hk : ∀ q, F q → w'.heap[q]? = w.heap[q]?) (hs : w.heap.size ≤ w'.heap.size) : Rps w' b l F := let ⟨tb, nb, h⟩ := h; ⟨tb, nb, h.kept hk hs⟩
theorem Rps.fl (h : Rps w b l F) : ∀ q, F q → q < w.heap.size := let ⟨_, _, h⟩ := h; h.fl
theorem Rps.below (h : Rps w b l F) (hb : Below w.heap.size w w') : Rps w' b l F := h.kept (fun q hq => hb.block q (h.fl q hq)) hb.size
theorem Rps.other {S : Nat → Prop} (h : Rps w b l F) (ho : Only S w w') (hd : ∀ q, F q → ¬ S q) : Rps w' b l F := h.kept (fun q hq => ho.block q (h.fl q hq) (hd q hq)) ho.size
theorem RpAt.top (h : RpAt w b tb nb l F) : w.cell? ⟨b, 0, none⟩ = some (.slice (some ⟨tb, 0, none⟩) l.length l.length) ∧ w.cell? ⟨b, 1, none⟩ = some (.slice (some ⟨nb, 0, none⟩) l.length l.length) := by
  refine ⟨?_, ?_⟩ <;> rw [h.head.cell] <;> rfl
theorem RpAt.at (h : RpAt w b tb nb l F) {k : Nat} {x : Pg} (hx : l[k]? = some x) : w.cell? ⟨tb, k, none⟩ = some (.bool x.1) ∧ w.cell? ⟨nb, k, none⟩ = some (.bool x.2) ∧ w.frozen? ⟨tb, k, none⟩ = false ∧ w.frozen? ⟨nb, k, none⟩ = false := by
  refine ⟨?_, ?_, h.thens.frozen k, h.nows.frozen k⟩
  · rw [h.thens.cell]; simp [bools, hx]
  · rw [h.nows.cell]; simp [bools, hx]
theorem RpAt.b_ne (h : RpAt w b tb nb l F) : b ≠ tb ∧ b ≠ nb := by
  refine ⟨fun e => ?_, fun e => ?_⟩
  · subst e
    have := (h.head.inj h.thens).2
    cases this
  · subst e
    have := (h.head.inj h.nows).2
    cases this
theorem RpAt.setNow (h : RpAt w b tb nb l F) {k : Nat} {x : Pg} (hx : l[k]? = some x) (c : Bool) : RpAt (w.setCell ⟨nb, k, none⟩ (.bool c)) b tb nb (l.set k (x.1, c)) F where
  head := by
    rw [List.length_set]
    exact h.head.kept (Below.heap_setCell _ _ _ _ (fun e => h.b_ne.2 e))
  thens := by
    have : (l.set k (x.1, c)).map (·.1) = l.map (·.1) := by
      rw [List.map_set]
      apply List.ext_getElem?
      intro i
      rw [List.getElem?_set]
      split
      · rename_i e; subst e
        split
        · simp [hx]
        · rename_i hh
          rw [List.length_map] at hh
          rw [List.getElem?_eq_none (by simpa using Nat.le_of_not_lt hh)]
      · rfl
    rw [this]
    exact h.thens.kept (Below.heap_setCell _ _ _ _ (fun e => h.ne e))
  nows := by
    have := h.nows.set k (.bool c)
    unfold bools at *
    rw [List.map_set]
    rw [← List.map_set] at this
    exact this
  ne := h.ne
  fb := h.fb
  ft := h.ft
  fn := h.fn
  fl q hq := by have := h.fl q hq; simpa [World.setCell] using this
  pos := by rw [List.length_set]; exact h.pos
  few := by rw [List.length_set]; exact h.few
theorem RpAt.setThen (h : RpAt w b tb nb l F) {k : Nat} {x : Pg} (hx : l[k]? = some x) (c : Bool) : RpAt (w.setCell ⟨tb, k, none⟩ (.bool c)) b tb nb (l.set k (c, x.2)) F where
  head := by
    rw [List.length_set]
    exact h.head.kept (Below.heap_setCell _ _ _ _ (fun e => h.b_ne.1 e))
  nows := by
    have : (l.set k (c, x.2)).map (·.2) = l.map (·.2) := by
      rw [List.map_set]
      apply List.ext_getElem?
      intro i
      rw [List.getElem?_set]
      split
      · rename_i e; subst e
        split
        · simp [hx]
        · rename_i hh
          rw [List.length_map] at hh
          rw [List.getElem?_eq_none (by simpa using Nat.le_of_not_lt hh)]
      · rfl
    rw [this]
    exact h.nows.kept (Below.heap_setCell _ _ _ _ (fun e => h.ne e.symm))
  thens := by
    have := h.thens.set k (.bool c)
    unfold bools at *
    rw [List.map_set]
    rw [← List.map_set] at this
    exact this
  ne := h.ne
  fb := h.fb
  ft := h.ft
  fn := h.fn
  fl q hq := by have := h.fl q hq; simpa [World.setCell] using this
  pos := by rw [List.length_set]; exact h.pos
  few := by rw [List.length_set]; exact h.few
end
end Go.Proofs.Ytdmcknankcbjiaa
