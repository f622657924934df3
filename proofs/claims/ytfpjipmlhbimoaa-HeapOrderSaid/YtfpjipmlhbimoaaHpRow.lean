/- Rows of the walk's own beside other things: one more at the end; condition: fewer than 2^32 in a row. -/
import Derived.Test.YtfpjipmlhbimoaaHpArgs
namespace Go.Proofs.Ytfpjipmlhbimoaa
open Go.RowKit

/-- A part taken out, with the way to put it back. -/
theorem SL.open {w0 w : World} {R T : Res} (h : SL w0 w (Sep R T)) (fr : Fr T) : ∃ F, R w F ∧ ∀ (w' : World) (R' : Res) (F' : Nat → Prop), R' w' F' → (∀ q, F' q → q < w'.heap.size) → Step F w w' F' → SL w0 w' (Sep R' T) := by
  obtain ⟨F, ⟨F1, F2, h1, h2, h3, h4⟩, h5, h6⟩ := h
  refine ⟨F1, h1, fun w' R' F' g1 g2 g3 => ?_⟩
  have hz := g3.size
  have hz6 := h6.size
  refine ⟨fun q => F' q ∨ F2 q, ⟨F', F2, g1, fr.kept h2 fun q hq => g3.only.block q (h5 q ((h4 q).2 (.inr hq))).2 fun a => h3 q a hq, fun q a b => ?_, fun _ => Iff.rfl⟩, fun q hq => ?_, ?_⟩
  · rcases g3.more q a with a | a
    · exact h3 q a b
    · have := (h5 q ((h4 q).2 (.inr b))).2
      omega
  · rcases hq with hq | hq
    · refine ⟨?_, g2 q hq⟩
      rcases g3.more q hq with a | a
      · exact (h5 q ((h4 q).2 (.inl a))).1
      · omega
    · have := h5 q ((h4 q).2 (.inr hq))
      exact ⟨this.1, by omega⟩
  · exact h6.trans (g3.only.below hz6 fun q hq => (h5 q ((h4 q).2 (.inl hq))).1)

/-- A kind that says no more than its cells do. -/
structure Bare {α : Type} (K : Kd α α) : Prop where
  con : ∀ t, K.con t = t
  ok : ∀ w S t, K.ok w S t
theorem kdTh_bare : Bare kdTh := ⟨fun _ => rfl, fun _ _ _ => trivial⟩
/-- Numbers. -/
def kdIn : Kd Int Int where
  sz := 1
  pos := by decide
  cs t := [.int .i64 t]
  len _ := rfl
  one t u hu := by
    simp only [List.mem_cons, List.not_mem_nil, or_false] at hu
    rcases hu with rfl
    rfl
  con t := t
  ok _ _ _ := True
  step _ _ := trivial
theorem kdIn_bare : Bare kdIn := ⟨fun _ => rfl, fun _ _ _ => trivial⟩

/-- An own row that reads so. -/
def RO {α : Type} (K : Kd α α) (e : TypeId) (v : Value) (l : List α) : Res := fun w F => Ro K e w F v l ∧ ∀ q, F q → v.ownBlock = some q
section
variable {α : Type} {K : Kd α α} {e : TypeId} {v v' : Value} {l : List α} {w w' w6 w0 : World} {F : Nat → Prop} {T : Res}
theorem RO.fr (B : Bare K) (e : TypeId) (v : Value) (l : List α) : Fr (RO K e v l) :=
  ⟨fun ⟨h, k⟩ q hq => h.own (k q hq), fun ⟨⟨ts, h1, h2, _, h4⟩, k⟩ hk => ⟨⟨ts, h1, ownsRow_kept h2 fun g hg => hk g (h4 g hg), fun t _ => B.ok _ _ t, h4⟩, k⟩⟩
theorem SL.newRow (h : SL w0 w T) (B : Bare K) (e : TypeId) (fr : Fr T) : SL w0 w (Sep (RO K e (.slice none 0 0) []) T) :=
  h.add (G := fun _ => False) fr (Below.refl _ _) ⟨Ro.nil K e w _, fun _ h => h.elim⟩ fun _ h => h.elim
theorem RO.lit (h : RO K e v l w F) (B : Bare K) (x : α) {cs : Array Value} (hcs : cs = (K.cs x).toArray) : Ro K e (w.alloc (.cells cs e)) F v l ∧ Rd K (w.alloc (.cells cs e)) F (.slice (some ⟨w.heap.size, 0, none⟩) 1 1) [x] := by
  have hb : Below w.heap.size w (w.alloc (.cells cs e)) := (Below.refl _ _).alloc (Nat.le_refl _) _
  refine ⟨h.1.below hb, ?_⟩
  have := rd_lit K w e F (fun q hq => h.1.own (h.2 q hq)) [x] cs (by rw [hcs]; simp [Kd.cells]) (fun t _ => B.ok _ _ t) (by simp) (n := 1) rfl
  rw [List.map_singleton, B.con] at this
  exact this
theorem RO.more (h : RO K e v l w F) (x : α) {cs : Array Value} (h1 : Ro K e w6 (Sv F v') v' (l ++ [x])) (h2 : Step F (w.alloc (.cells cs e)) w6 (Sv F v')) : ∃ F', RO K e v' (l ++ [x]) w6 F' ∧ (∀ q, F' q → q < w6.heap.size) ∧ Step F w w6 F' := by
  have s1 := (Step.refl F w).alloc (.cells cs e)
  have s2 := s1.trans h2
  obtain ⟨ts, e1, e2, e3, e4⟩ := h1
  refine ⟨fun q => v'.ownBlock = some q, ⟨⟨ts, e1, e2, fun t ht => K.less (e3 t ht) fun q hq => .inr hq, fun q hq => hq⟩, fun q hq => hq⟩, fun q hq => (World.ownsRow.lt e2 q hq).2, s2.weak fun q hq => .inr hq⟩
/-- A row of them, read. -/
theorem RO.rd (h : RO K e v l w F) : Rd K w (fun _ => False) v l := h.1.rd (fun _ h => h.elim) fun _ _ h => h
end

/-- A row of things, one of them. -/
theorem Rd.th {w : World} {S : Nat → Prop} {v : Value} {l : List Th} (h : Rd kdTh w S v l) {i : Nat} {x : Th} (hi : l[i]? = some x) :
    ∃ g o cap, v = .slice (some ⟨g, o, none⟩) l.length cap ∧ w.cell? ⟨g, o + i * 2, none⟩ = some (.int .i64 x.1) ∧ w.cell? ⟨g, o + i * 2 + 1, none⟩ = some (.int .i64 x.2) := by
  obtain ⟨g, o, cap, t, e0, rfl, -, -, hc, -⟩ := h.at hi
  exact ⟨g, o, cap, e0, hc 0 _ rfl, hc 1 _ rfl⟩
theorem Rd.inn {w : World} {S : Nat → Prop} {v : Value} {l : List Int} (h : Rd kdIn w S v l) {i : Nat} {x : Int} (hi : l[i]? = some x) :
    ∃ g o cap, v = .slice (some ⟨g, o, none⟩) l.length cap ∧ w.cell? ⟨g, o + i, none⟩ = some (.int .i64 x) := by
  obtain ⟨g, o, cap, t, e0, rfl, -, -, hc, -⟩ := h.at hi
  have := hc 0 _ rfl
  simp only [kdIn, Nat.mul_one, Nat.add_zero] at this
  exact ⟨g, o, cap, e0, this⟩
end Go.Proofs.Ytfpjipmlhbimoaa
