/- A heap in the model's memory, the program's or the document's: a cell with a row of things; what its cells read, what stays, and what it is with one thing in another place; no condition. -/
import Derived.Test.YtfpjipmlhbimoaaHpCmp
namespace Go.Proofs.Ytfpjipmlhbimoaa
open Go.RowKit

def kdTh : Kd Th Th where
  sz := 2
  pos := by decide
  cs t := [.int .i64 t.1, .int .i64 t.2]
  len _ := rfl
  one t u hu := by
    simp only [List.mem_cons, List.not_mem_nil, or_false] at hu
    rcases hu with rfl | rfl <;> rfl
  con t := t
  ok _ _ _ := True
  step _ _ := trivial

abbrev thv (x : Th) : Value := .agg #[.int .i64 x.1, .int .i64 x.2]

/-- A row of things, in an own block. -/
def Row (tT : TypeId) (w : World) (v : Value) (l : List Th) : Prop := w.ownsRow 0 tT 2 v l.length (kdTh.cells l)
/-- A heap at b, in the blocks F: its things lie as l has them. -/
def HM (tH tT : TypeId) (w : World) (b : Nat) (v : Value) (l : List Th) (F : Nat → Prop) : Prop :=
  Cel w b [v] tH ∧ Row tT w v l ∧ (∀ q, F q ↔ q = b ∨ v.ownBlock = some q) ∧ (∀ q, v.ownBlock = some q → q ≠ b)

section
variable {tH tT : TypeId} {w w' : World} {b : Nat} {v : Value} {l : List Th} {F S : Nat → Prop}

theorem kdTh_len (l : List Th) : (kdTh.cells l).length = l.length * 2 := kdTh.cells_length l
theorem kdTh_at {l : List Th} {i : Nat} {x : Th} (h : l[i]? = some x) : (kdTh.cells l)[i * 2]? = some (.int .i64 x.1) ∧ (kdTh.cells l)[i * 2 + 1]? = some (.int .i64 x.2) :=
  ⟨kdTh.cells_at h (j := 0) (u := .int .i64 x.1) rfl, kdTh.cells_at h (j := 1) (u := .int .i64 x.2) rfl⟩
theorem kdTh_set {l : List Th} {i : Nat} (x : Th) (hi : i < l.length) : kdTh.cells (l.set i x) = ((kdTh.cells l).set (i * 2) (.int .i64 x.1)).set (i * 2 + 1) (.int .i64 x.2) := by
  induction l generalizing i with
  | nil => simp at hi
  | cons a r ih =>
    rcases i with _ | i
    · rfl
    · have h := ih (i := i) (by simpa using hi)
      have e : (i + 1) * 2 = i * 2 + 1 + 1 := by omega
      rw [e]
      show _ :: _ :: kdTh.cells (r.set i x) = _
      rw [h]
      rfl
theorem Row.shape (h : Row tT w v l) : (v = .slice none 0 0 ∧ l = []) ∨ ∃ g cap, v = .slice (some ⟨g, 0, none⟩) l.length cap ∧ g < w.heap.size ∧ l.length ≤ cap ∧ cap ≤ maxLen := by
  rcases h.2 with ⟨h1, h2⟩ | ⟨g, cap, cur, h1, h2, h3, h4, h5, h6, h7⟩
  · exact .inl ⟨h1, List.eq_nil_of_length_eq_zero h2⟩
  · exact .inr ⟨g, cap, h1, (Array.getElem?_eq_some_iff.1 h3).1, h4, h5⟩
theorem Row.len (h : Row tT w v l) : l.length ≤ maxLen := by
  rcases h.shape with ⟨_, rfl⟩ | ⟨g, cap, _, _, h1, h2⟩
  · exact Nat.zero_le _
  · omega
theorem Row.kept (h : Row tT w v l) (hk : ∀ g, v.ownBlock = some g → w'.heap[g]? = w.heap[g]?) : Row tT w' v l := ownsRow_kept h hk
theorem Row.in_heap (h : Row tT w v l) {q : Nat} (hq : v.ownBlock = some q) : q < w.heap.size := (World.ownsRow.lt h q hq).2
theorem Row.at (h : Row tT w v l) {i : Nat} {x : Th} (hi : l[i]? = some x) : ∃ g cap, v = .slice (some ⟨g, 0, none⟩) l.length cap ∧ w.cell? ⟨g, i * 2, none⟩ = some (.int .i64 x.1) ∧ w.cell? ⟨g, i * 2 + 1, none⟩ = some (.int .i64 x.2) := by
  have hc := kdTh_at hi
  rcases h.shape with ⟨_, rfl⟩ | ⟨g, cap, rfl, _⟩
  · simp at hi
  · have := fun j u => World.ownsRow.cells h (g := g) rfl j u
    simp only [Addr.add_lit, Nat.zero_add] at this
    exact ⟨g, cap, rfl, this _ _ hc.1, this _ _ hc.2⟩
/-- .. whose cells may be written. -/
theorem Row.free {g cap : Nat} (h : Row tT w (.slice (some ⟨g, 0, none⟩) l.length cap) l) (j : Nat) : w.frozen? ⟨g, j, none⟩ = false := by
  rcases h.2 with ⟨h1, _⟩ | ⟨g', cap', cur, h1, _, h3, _⟩
  · simp at h1
  · simp only [Value.slice.injEq, Option.some.injEq, Addr.mk.injEq, and_true, true_and] at h1
    obtain ⟨rfl, rfl⟩ := h1
    simp [World.frozen?, h3]
theorem Row.set {g cap : Nat} (h : Row tT w (.slice (some ⟨g, 0, none⟩) l.length cap) l) {i : Nat} (hi : i < l.length) (x : Th) :
    Row tT ((w.setCell ⟨g, i * 2, none⟩ (.int .i64 x.1)).setCell ⟨g, i * 2 + 1, none⟩ (.int .i64 x.2)) (.slice (some ⟨g, 0, none⟩) l.length cap) (l.set i x) := by
  have h1 := (World.ownsRow.stored h (i * 2) (.int .i64 x.1)).1
  have h2 := (World.ownsRow.stored h1 (i * 2 + 1) (.int .i64 x.2)).1
  unfold Row
  rw [kdTh_set x hi, List.length_set]
  exact h2
/-- With fewer of them. -/
theorem Row.fewer {g cap : Nat} (h : Row tT w (.slice (some ⟨g, 0, none⟩) l.length cap) l) {n : Nat} (hn : n ≤ l.length) : Row tT w (.slice (some ⟨g, 0, none⟩) n cap) (l.take n) := by
  have e : (l.take n).length = n := by simp; omega
  rcases h.2 with ⟨h1, _⟩ | ⟨g', cap', cur, h1, h2, h3, h4, h5, h6, h7⟩
  · simp at h1
  · simp only [Value.slice.injEq, Option.some.injEq, Addr.mk.injEq, and_true, true_and] at h1
    obtain ⟨rfl, rfl⟩ := h1
    refine ⟨by rw [kdTh_len], .inr ⟨g, cap, cur, by rw [e], h2, h3, by omega, h5, h6, ?_⟩⟩
    rw [e]
    have := kdTh.cells_take l n
    rw [← h7, List.take_take] at this
    rw [← this]
    congr 1
    show n * 2 = min (n * 2) (l.length * 2)
    omega

theorem HM.cel (h : HM tH tT w b v l F) : Cel w b [v] tH := h.1
theorem HM.row (h : HM tH tT w b v l F) : Row tT w v l := h.2.1
theorem HM.lt (h : HM tH tT w b v l F) {q : Nat} (hq : F q) : q < w.heap.size := by
  rcases (h.2.2.1 q).1 hq with rfl | e
  · exact h.1.lt
  · exact h.2.1.in_heap e
theorem HM.kept (h : HM tH tT w b v l F) (hk : ∀ q, F q → w'.heap[q]? = w.heap[q]?) : HM tH tT w' b v l F :=
  ⟨h.1.kept (hk b ((h.2.2.1 b).2 (.inl rfl))), h.2.1.kept (fun g hg => hk g ((h.2.2.1 g).2 (.inr hg))), h.2.2⟩
theorem HM.below (h : HM tH tT w b v l F) (hb : Below w.heap.size w w') : HM tH tT w' b v l F := h.kept fun q hq => hb.block q (h.lt hq)
theorem HM.only (h : HM tH tT w b v l F) (ho : Only S w w') (hd : ∀ q, F q → ¬ S q) : HM tH tT w' b v l F := h.kept fun q hq => ho.block q (h.lt hq) (hd q hq)
end
end Go.Proofs.Ytfpjipmlhbimoaa
