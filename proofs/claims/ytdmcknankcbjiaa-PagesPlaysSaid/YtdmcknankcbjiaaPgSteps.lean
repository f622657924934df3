/- How a slice of steps that is handed in reads; no condition. -/
import Derived.Test.YtdmcknankcbjiaaPgMine
import Derived.Deep.Slices
import Derived.OpenShut
namespace Go.Proofs.Ytdmcknankcbjiaa
open Go.RowKit Go.Maps Go.ChangeShapes Go.WideShapes

structure Stp where
  o : Int
  k : Int
instance : Inhabited Stp := ⟨⟨0, 0⟩⟩

/-- A slice of steps that reads as these. -/
def Sv (w : World) (v : Value) (ls : List Stp) : Prop :=
  ∃ a cap, v = .slice a ls.length cap ∧ ls.length ≤ 9223372036854775807 ∧ (a = none → ls = []) ∧ ∀ ad, a = some ad → ∀ (i : Nat) (s : Stp), ls[i]? = some s →
    (w.cell? (ad.add (i * 2)) = some (.int .i64 s.o) ∧ w.cell? (ad.add (i * 2 + 1)) = some (.int .i64 s.k))

theorem Sv.shape {w : World} {v : Value} {ls : List Stp} (h : Sv w v ls) : ∃ a cap, v = .slice a ls.length cap := let ⟨a, cap, e, _⟩ := h; ⟨a, cap, e⟩
theorem Sv.len {w : World} {v : Value} {ls : List Stp} (h : Sv w v ls) : ls.length ≤ 9223372036854775807 := let ⟨_, _, _, h, _⟩ := h; h
theorem Sv.open {w : World} {v : Value} {ls : List Stp} (h : Sv w v ls) {i : Nat} {s : Stp} (hs : ls[i]? = some s) : ∃ g o cap, v = .slice (some ⟨g, o, none⟩) ls.length cap ∧ g < w.heap.size ∧
    (w.cell? ⟨g, o + i * 2, none⟩ = some (.int .i64 s.o) ∧ w.cell? ⟨g, o + i * 2 + 1, none⟩ = some (.int .i64 s.k)) := by
  obtain ⟨a, cap, rfl, h1, h2, h3⟩ := h
  rcases a with _ | ⟨g, o, sp⟩
  · rw [h2 rfl] at hs
    simp at hs
  · have hc := h3 _ rfl i s hs
    have hlt := (List.getElem?_eq_some_iff.1 hs).1
    have hsp : sp = none := by simpa [Addr.add] using World.cell?_spot (h3 _ rfl 0 ls[0] (List.getElem?_eq_getElem (by omega))).1
    subst hsp
    simp only [Addr.add_lit] at hc
    exact ⟨g, o, cap, rfl, World.block_lt_of_cell? w _ hc.1, hc⟩
/-- .. in a later world. -/
theorem Sv.open_in {w w' : World} {a : Option Addr} {n cap : Nat} {ls : List Stp} (h : Sv w (.slice a n cap) ls) (hb : Below w.heap.size w w') {i : Nat} {s : Stp} (hs : ls[i]? = some s) : ∃ g o, a = some ⟨g, o, none⟩ ∧
    (w'.cell? ⟨g, o + i * 2, none⟩ = some (.int .i64 s.o) ∧ w'.cell? ⟨g, o + i * 2 + 1, none⟩ = some (.int .i64 s.k)) := by
  obtain ⟨g, o, cap', e, hg, h1, h2⟩ := h.open hs
  simp only [Value.slice.injEq] at e
  obtain ⟨rfl, _⟩ := e
  exact ⟨g, o, rfl, (World.cell?_of_block (w := w) (a := ⟨g, o + i * 2, none⟩) (hb.block g hg)).trans h1, (World.cell?_of_block (w := w) (a := ⟨g, o + i * 2 + 1, none⟩) (hb.block g hg)).trans h2⟩

section
variable {H : Type} {enc : TypeId × Value → H}

theorem sv_of_trod {W : World} {n : Nat} {v : Value} {x : DataW H × List MemPlace} (h : DataW.trod enc Try.prog W 0 (fun _ => true) true n 22 [v] = some x) : ∃ ls, Sv W v ls := by
  rcases Deep.open_slice Try.underlying22 h with ⟨hcs, _⟩ | ⟨a, len, cap, m, k, D, Pl, hcs, _, hl, hm, hmm, _, hx⟩
  · simp at hcs
    subst hcs
    exact ⟨[], none, 0, rfl, by simp, fun _ => rfl, fun _ h => by cases h⟩
  · simp at hcs
    subst hcs
    simp only [if_true] at hmm
    subst hmm
    have c7 : Try.prog.cellsOf 32 = 2 := by kernel_rfl
    have ci : Try.prog.cellsOf 3 = 1 := by kernel_rfl
    rw [c7] at hx
    obtain ⟨f, hf⟩ := Deep.choose_lt (α := Stp) (n := len) (p := fun i s =>
      (W.cell? (a.add (i * 2)) = some (.int .i64 s.o) ∧ W.cell? (a.add (i * 2 + 1)) = some (.int .i64 s.k))) fun i hi => by
      obtain ⟨cs', h1, h2⟩ := hx i (by omega)
      obtain ⟨_, hlen, hcell⟩ := World.cells?_some h1
      obtain ⟨xs, k', _, _, _, hxl, hxs⟩ := DataW.trod_struct Try.underlying32 h2
      have hxl' : xs.length = 2 := hxl
      match cs', hlen with
      | [u0, u1], _ =>
        have g0 : DataW.trod enc Try.prog W 0 (fun _ => true) true k' 3 ((List.drop 0 [u0, u1]).take (Try.prog.cellsOf 3)) = xs[0]? := hxs 0 _ rfl
        have g1 : DataW.trod enc Try.prog W 0 (fun _ => true) true k' 3 ((List.drop 1 [u0, u1]).take (Try.prog.cellsOf 3)) = xs[1]? := hxs 1 _ rfl
        rw [List.getElem?_eq_getElem (by omega)] at g0 g1
        rw [ci] at g0 g1
        obtain ⟨n0, e0, _, w0⟩ := DataW.trod_int Try.underlying3 g0
        obtain ⟨n1, e1, _, w1⟩ := DataW.trod_int Try.underlying3 g1
        simp at e0 e1
        have k0 := hcell 0 (by omega)
        have k1 := hcell 1 (by omega)
        rw [Addr.add_add] at k0 k1
        refine ⟨⟨n0, n1⟩, ?_, ?_⟩
        · simpa [e0] using k0
        · simpa [e1] using k1
    have hmax : len ≤ 9223372036854775807 := by unfold maxLen at hm; omega
    refine ⟨(List.range len).map f, some a, m, by simp, by simpa using hmax, (fun h => by cases h), fun ad had i p hi => ?_⟩
    cases had
    have hlt : i < len := by
      have := (List.getElem?_eq_some_iff.1 hi).1
      simpa using this
    have e : p = f i := by simpa [hlt] using hi.symm
    rw [e]
    exact hf i hlt
end
end Go.Proofs.Ytdmcknankcbjiaa
