/- Things side by side in memory, each in blocks of its own: what a call does to one of them leaves the others; no condition. -/
import Derived.Test.YtfpjipmlhbimoaaRd
namespace Go.Proofs.Ytfpjipmlhbimoaa
open Go.RowKit

/-- A thing in memory, with the blocks that it lies in. -/
abbrev Res := World → (Nat → Prop) → Prop
/-- It lies in the heap, and stays where its blocks do. -/
structure Fr (R : Res) : Prop where
  lt : ∀ {w : World} {F : Nat → Prop}, R w F → ∀ q, F q → q < w.heap.size
  kept : ∀ {w w' : World} {F : Nat → Prop}, R w F → (∀ q, F q → w'.heap[q]? = w.heap[q]?) → R w' F
/-- Nothing. -/
def Emp : Res := fun _ F => ∀ q, ¬ F q
/-- Both, apart. -/
def Sep (R T : Res) : Res := fun w F => ∃ F1 F2, R w F1 ∧ T w F2 ∧ (∀ q, F1 q → ¬ F2 q) ∧ ∀ q, F q ↔ F1 q ∨ F2 q
theorem Emp.fr : Fr Emp := ⟨fun h q hq => absurd hq (h q), fun h _ => h⟩
theorem Fr.sep {R T : Res} (h : Fr R) (k : Fr T) : Fr (Sep R T) :=
  ⟨fun ⟨F1, F2, h1, h2, _, h4⟩ q hq => ((h4 q).1 hq).elim (h.lt h1 q) (k.lt h2 q),
   fun ⟨F1, F2, h1, h2, h3, h4⟩ hk => ⟨F1, F2, h.kept h1 fun q hq => hk q ((h4 q).2 (.inl hq)), k.kept h2 fun q hq => hk q ((h4 q).2 (.inr hq)), h3, h4⟩⟩
/-- What was made since w0. -/
def SL (w0 w : World) (R : Res) : Prop := ∃ F, R w F ∧ (∀ q, F q → w0.heap.size ≤ q ∧ q < w.heap.size) ∧ Below w0.heap.size w0 w

section
variable {w0 w w' : World} {R R' T U : Res}
theorem SL.start (w : World) : SL w w Emp := ⟨fun _ => False, fun _ h => h, fun _ h => h.elim, Below.refl _ _⟩
theorem SL.under (h : SL w0 w R) : Below w0.heap.size w0 w := let ⟨_, _, _, h⟩ := h; h
theorem SL.later (h : SL w0 w R) (fr : Fr R) (hb : Below w.heap.size w w') : SL w0 w' R := by
  obtain ⟨F, h1, h2, h3⟩ := h
  exact ⟨F, fr.kept h1 fun q hq => hb.block q (h2 q hq).2, fun q hq => ⟨(h2 q hq).1, Nat.lt_of_lt_of_le (h2 q hq).2 hb.size⟩, h3.trans (hb.mono h3.size)⟩
theorem SL.map (h : SL w0 w R) (hm : ∀ F, R w F → R' w F) : SL w0 w R' := let ⟨F, h1, h2, h3⟩ := h; ⟨F, hm F h1, h2, h3⟩
theorem SL.comm (h : SL w0 w (Sep R T)) : SL w0 w (Sep T R) := h.map fun _ ⟨F1, F2, h1, h2, h3, h4⟩ => ⟨F2, F1, h2, h1, fun q a b => h3 q b a, fun q => (h4 q).trans Or.comm⟩
/-- The second one first. -/
theorem SL.rot (h : SL w0 w (Sep R (Sep T U))) : SL w0 w (Sep T (Sep R U)) := h.map fun F ⟨F1, F2, h1, ⟨G1, G2, g1, g2, g3, g4⟩, h3, h4⟩ =>
  ⟨G1, fun q => F1 q ∨ G2 q, g1, ⟨F1, G2, h1, g2, fun q a b => h3 q a ((g4 q).2 (.inr b)), fun _ => Iff.rfl⟩, fun q a b => b.elim (fun b => h3 q b ((g4 q).2 (.inl a))) (g3 q a), fun q => by
    rw [h4, g4]
    exact ⟨fun h => h.elim (fun a => .inr (.inl a)) fun h => h.elim .inl fun b => .inr (.inr b), fun h => h.elim (fun a => .inr (.inl a)) fun h => h.elim .inl fun b => .inr (.inr b)⟩⟩
theorem SL.mono2 (h : SL w0 w (Sep R T)) (hm : ∀ F, T w F → U w F) : SL w0 w (Sep R U) := h.map fun _ ⟨F1, F2, h1, h2, h3, h4⟩ => ⟨F1, F2, h1, hm F2 h2, h3, h4⟩
theorem Sep.rot {F : Nat → Prop} : Sep R (Sep T U) w F → Sep T (Sep R U) w F := fun ⟨F1, F2, h1, ⟨G1, G2, g1, g2, g3, g4⟩, h3, h4⟩ =>
  ⟨G1, fun q => F1 q ∨ G2 q, g1, ⟨F1, G2, h1, g2, fun q a b => h3 q a ((g4 q).2 (.inr b)), fun _ => Iff.rfl⟩, fun q a b => b.elim (fun b => h3 q b ((g4 q).2 (.inl a))) (g3 q a), fun q => by
    rw [h4, g4]
    exact ⟨fun h => h.elim (fun a => .inr (.inl a)) fun h => h.elim .inl fun b => .inr (.inr b), fun h => h.elim (fun a => .inr (.inl a)) fun h => h.elim .inl fun b => .inr (.inr b)⟩⟩
/-- The last one but one ahead of two others. -/
theorem Sep.rot3 {A B C D : Res} {F : Nat → Prop} : Sep A (Sep B (Sep C D)) w F → Sep C (Sep A (Sep B D)) w F := fun ⟨F1, F2, h1, h2, h3, h4⟩ => Sep.rot ⟨F1, F2, h1, Sep.rot h2, h3, h4⟩
/-- The third one first; back again. -/
theorem SL.third {A B C D : Res} (h : SL w0 w (Sep A (Sep B (Sep C D)))) : SL w0 w (Sep C (Sep A (Sep B D))) := (h.mono2 fun _ => Sep.rot).rot
theorem SL.back3 {A B C D : Res} (h : SL w0 w (Sep C (Sep A (Sep B D)))) : SL w0 w (Sep A (Sep B (Sep C D))) := h.rot.mono2 fun _ => Sep.rot
theorem SL.fourth {A B C D E : Res} (h : SL w0 w (Sep A (Sep B (Sep C (Sep D E))))) : SL w0 w (Sep D (Sep A (Sep B (Sep C E)))) := (h.mono2 fun _ ⟨F1, F2, h1, h2, h3, h4⟩ => Sep.rot ⟨F1, F2, h1, Sep.rot h2, h3, h4⟩).rot
theorem SL.back4 {A B C D E : Res} (h : SL w0 w (Sep D (Sep A (Sep B (Sep C E))))) : SL w0 w (Sep A (Sep B (Sep C (Sep D E)))) := h.rot.mono2 fun _ h0 => by
  obtain ⟨F1, F2, h1, h2, h3, h4⟩ := Sep.rot h0
  exact ⟨F1, F2, h1, Sep.rot h2, h3, h4⟩
theorem SL.one (h : SL w0 w (Sep R T)) : ∃ F, R w F ∧ (∀ q, F q → w0.heap.size ≤ q ∧ q < w.heap.size) := by
  obtain ⟨F, ⟨F1, F2, h1, h2, h3, h4⟩, h5, h6⟩ := h
  exact ⟨F1, h1, fun q hq => h5 q ((h4 q).2 (.inl hq))⟩
theorem SL.drop (h : SL w0 w (Sep R T)) : SL w0 w T := by
  obtain ⟨F, ⟨F1, F2, h1, h2, h3, h4⟩, h5, h6⟩ := h
  exact ⟨F2, h2, fun q hq => h5 q ((h4 q).2 (.inr hq)), h6⟩
/-- What is new, beside it. -/
theorem SL.add (h : SL w0 w R) (fr : Fr R) (hb : Below w.heap.size w w') {G : Nat → Prop} (ht : T w' G) (hG : ∀ q, G q → w.heap.size ≤ q ∧ q < w'.heap.size) : SL w0 w' (Sep T R) := by
  have hz := h.under.size
  obtain ⟨F, h1, h2, h3⟩ := h
  refine ⟨fun q => G q ∨ F q, ⟨G, F, ht, fr.kept h1 fun q hq => hb.block q (h2 q hq).2, fun q a b => ?_, fun _ => Iff.rfl⟩, fun q hq => ?_, h3.trans (hb.mono h3.size)⟩
  · have := (hG q a).1
    have := (h2 q b).2
    omega
  · have hs := hb.size
    rcases hq with hq | hq
    · have := hG q hq
      exact ⟨by omega, this.2⟩
    · have := h2 q hq
      exact ⟨this.1, by omega⟩
/-- The last two first, turned round, put behind again. -/
theorem SL.conv {A B C D E : Res} (h : SL w0 w (Sep D (Sep C (Sep A (Sep B E))))) : SL w0 w (Sep A (Sep B (Sep C (Sep D E)))) := (h.third.mono2 fun _ => Sep.rot3).mono2 fun _ ⟨F1, F2, h1, h2, h3, h4⟩ => ⟨F1, F2, h1, Sep.rot h2, h3, h4⟩
/-- A variable of the walk's own. -/
def RC (g : Nat) (cs : List Value) (t : TypeId) : Res := fun w F => Cel w g cs t ∧ ∀ q, F q ↔ q = g
theorem RC.fr (g : Nat) (cs : List Value) (t : TypeId) : Fr (RC g cs t) := ⟨fun ⟨h, k⟩ q hq => by rw [(k q).1 hq]; exact h.lt, fun ⟨h, k⟩ hk => ⟨h.kept (hk g ((k g).2 rfl)), k⟩⟩
theorem SL.addC (h : SL w0 w R) (fr : Fr R) (hb : Below w.heap.size w w') {g : Nat} {cs : List Value} {t : TypeId} (hc : Cel w' g cs t) (hg : w.heap.size ≤ g) : SL w0 w' (Sep (RC g cs t) R) :=
  h.add fr hb (G := fun q => q = g) ⟨hc, fun _ => Iff.rfl⟩ fun q hq => by
    have hq : q = g := hq
    subst hq
    exact ⟨hg, hc.lt⟩
theorem SL.cel {g : Nat} {cs : List Value} {t : TypeId} (h : SL w0 w (Sep (RC g cs t) R)) : Cel w g cs t := by
  obtain ⟨F, ⟨F1, F2, h1, _⟩, _⟩ := h
  exact h1.1
/-- A step of the first one. -/
theorem SL.step (h : SL w0 w (Sep R T)) (fr : Fr T) (hs : ∀ F, R w F → ∃ F', R' w' F' ∧ (∀ q, F' q → q < w'.heap.size) ∧ Step F w w' F') : SL w0 w' (Sep R' T) := by
  obtain ⟨F, ⟨F1, F2, h1, h2, h3, h4⟩, h5, h6⟩ := h
  obtain ⟨F', g1, g2, g3⟩ := hs F1 h1
  have hz := g3.size
  have hz6 := h6.size
  refine ⟨fun q => F' q ∨ F2 q, ⟨F', F2, g1, fr.kept h2 fun q hq => g3.only.block q (h5 q ((h4 q).2 (.inr hq))).2 fun a => h3 q a hq, fun q a b => ?_, fun _ => Iff.rfl⟩, fun q hq => ?_, ?_⟩
  · rcases g3.more q a with a | a
    · exact h3 q a b
    · have := (h5 q ((h4 q).2 (.inr b))).2
      omega
  · rcases hq with hq | hq
    · refine ⟨?_, g2 q hq⟩
      rcases g3.more q hq with a | a
      · exact (h5 q ((h4 q).2 (.inl a))).1
      · omega
    · have := h5 q ((h4 q).2 (.inr hq))
      exact ⟨this.1, by omega⟩
  · exact h6.trans (g3.only.below hz6 fun q hq => (h5 q ((h4 q).2 (.inl hq))).1)
/-- A call that makes a step of the first one. -/
theorem SL.call {prog : Program} {f : FuncId} {args : Array Value} {E : Ending → Prop} (h : SL w0 w (Sep R T)) (fr : Fr T) (fr' : Fr R')
    (hc : ∀ F, R w F → Calls prog f args w fun e w' => E e ∧ ∃ F', R' w' F' ∧ Step F w w' F') : Calls prog f args w fun e w' => E e ∧ SL w0 w' (Sep R' T) := by
  have h0 := h
  obtain ⟨F, ⟨F1, F2, h1, h2, h3, h4⟩, h5, h6⟩ := h
  refine (hc F1 h1).mono ?_
  rintro e w' ⟨he, F', g1, g2⟩
  refine ⟨he, ?_⟩
  have hz := g2.size
  have hz6 := h6.size
  have g3 := g2
  refine ⟨fun q => F' q ∨ F2 q, ⟨F', F2, g1, fr.kept h2 fun q hq => g3.only.block q (h5 q ((h4 q).2 (.inr hq))).2 fun a => h3 q a hq, fun q a b => ?_, fun _ => Iff.rfl⟩, fun q hq => ?_, ?_⟩
  · rcases g3.more q a with a | a
    · exact h3 q a b
    · have := (h5 q ((h4 q).2 (.inr b))).2
      omega
  · rcases hq with hq | hq
    · refine ⟨?_, fr'.lt g1 q hq⟩
      rcases g3.more q hq with a | a
      · exact (h5 q ((h4 q).2 (.inl a))).1
      · omega
    · have := h5 q ((h4 q).2 (.inr hq))
      exact ⟨this.1, by omega⟩
  · exact h6.trans (g3.only.below hz6 fun q hq => (h5 q ((h4 q).2 (.inl hq))).1)
/-- A call that only looks. -/
theorem SL.look {prog : Program} {f : FuncId} {args : Array Value} {E : Ending → Prop} (h : SL w0 w (Sep R T)) (frR : Fr R) (fr : Fr T)
    (hc : ∀ F, R w F → Calls prog f args w fun e w' => E e ∧ Below w.heap.size w w') : Calls prog f args w fun e w' => E e ∧ SL w0 w' (Sep R T) := by
  have h0 := h
  obtain ⟨F, ⟨F1, F2, h1, h2, h3, h4⟩, h5, h6⟩ := h
  refine (hc F1 h1).mono ?_
  rintro e w' ⟨he, hb⟩
  exact ⟨he, h0.later (frR.sep fr) hb⟩
end
end Go.Proofs.Ytfpjipmlhbimoaa
