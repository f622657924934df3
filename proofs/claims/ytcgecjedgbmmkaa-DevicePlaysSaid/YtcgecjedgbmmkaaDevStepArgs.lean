/- How a slice of steps that is handed in reads; no condition. -/
import Derived.Test.YtcgecjedgbmmkaaDevSteps
namespace Go.Proofs.Ytcgecjedgbmmkaa
open Go.RowKit Go.Maps Go.ChangeShapes Go.WideShapes

instance : Inhabited Stp := ⟨⟨0, 0, 0, 0, 0, false, nilSl, []⟩⟩

section
variable {H : Type} {enc : TypeId × Value → H}

theorem iv_of_trod {W : World} {n : Nat} {cs : List Value} {x : DataW H × List MemPlace} (h : DataW.trod enc Try.prog W 0 (fun _ => true) true n 33 cs = some x) : ∃ v l, cs = [v] ∧ Iv W v l := by
  rcases open_ints Try.underlying33 Try.underlying3 (by kernel_rfl) h with ⟨hcs, _⟩ | ⟨a, l, c, zs, hcs, _, hl, hm, hz, _, hcell, hwz⟩
  · exact ⟨_, _, hcs, Iv.nil W⟩
  · have hr : IsRow .i64 W (some a) l c zs := .inr ⟨_, rfl, hl, hm, by simpa using hz, hcell, hwz⟩
    obtain ⟨ls, hi⟩ := isRow_iv hr
    exact ⟨_, ls, hcs, hi⟩

theorem sv_of_trod {W : World} {n : Nat} {v : Value} {x : DataW H × List MemPlace} (h : DataW.trod enc Try.prog W 0 (fun _ => true) true n 22 [v] = some x) : ∃ ls, Sv W v ls := by
  rcases Deep.open_slice Try.underlying22 h with ⟨hcs, _⟩ | ⟨a, len, cap, m, k, D, Pl, hcs, _, hl, hm, hmm, _, hx⟩
  · simp at hcs
    subst hcs
    exact ⟨[], none, 0, rfl, by simp, fun _ => rfl, fun _ h => by cases h⟩
  · simp at hcs
    subst hcs
    simp only [if_true] at hmm
    subst hmm
    have c7 : Try.prog.cellsOf 35 = 7 := by kernel_rfl
    have ci : Try.prog.cellsOf 3 = 1 := by kernel_rfl
    have cu : Try.prog.cellsOf 5 = 1 := by kernel_rfl
    have cb : Try.prog.cellsOf 4 = 1 := by kernel_rfl
    have cv : Try.prog.cellsOf 33 = 1 := by kernel_rfl
    rw [c7] at hx
    obtain ⟨f, hf⟩ := Deep.choose_lt (α := Stp) (n := len) (p := fun i s =>
      (W.cell? (a.add (i * 7)) = some (.int .i64 s.o) ∧ W.cell? (a.add (i * 7 + 1)) = some (.int .i64 s.k) ∧ W.cell? (a.add (i * 7 + 2)) = some (.int .i64 s.n) ∧ W.cell? (a.add (i * 7 + 3)) = some (.int .u8 (s.c.toNat : Int)) ∧
       W.cell? (a.add (i * 7 + 4)) = some (.int .u8 (s.la.toNat : Int)) ∧ W.cell? (a.add (i * 7 + 5)) = some (.bool s.sh) ∧ W.cell? (a.add (i * 7 + 6)) = some s.pv) ∧ Iv W s.pv s.picks ∧ s.n ≤ 9223372036854775807) fun i hi => by
      obtain ⟨cs', h1, h2⟩ := hx i (by omega)
      obtain ⟨_, hlen, hcell⟩ := World.cells?_some h1
      obtain ⟨xs, k', _, _, _, hxl, hxs⟩ := DataW.trod_struct Try.underlying35 h2
      have hxl' : xs.length = 7 := hxl
      match cs', hlen with
      | [u0, u1, u2, u3, u4, u5, u6], _ =>
        have g0 : DataW.trod enc Try.prog W 0 (fun _ => true) true k' 3 ((List.drop 0 [u0, u1, u2, u3, u4, u5, u6]).take (Try.prog.cellsOf 3)) = xs[0]? := hxs 0 _ rfl
        have g1 : DataW.trod enc Try.prog W 0 (fun _ => true) true k' 3 ((List.drop 1 [u0, u1, u2, u3, u4, u5, u6]).take (Try.prog.cellsOf 3)) = xs[1]? := hxs 1 _ rfl
        have g2 : DataW.trod enc Try.prog W 0 (fun _ => true) true k' 3 ((List.drop 2 [u0, u1, u2, u3, u4, u5, u6]).take (Try.prog.cellsOf 3)) = xs[2]? := hxs 2 _ rfl
        have g3 : DataW.trod enc Try.prog W 0 (fun _ => true) true k' 5 ((List.drop 3 [u0, u1, u2, u3, u4, u5, u6]).take (Try.prog.cellsOf 5)) = xs[3]? := hxs 3 _ rfl
        have g4 : DataW.trod enc Try.prog W 0 (fun _ => true) true k' 5 ((List.drop 4 [u0, u1, u2, u3, u4, u5, u6]).take (Try.prog.cellsOf 5)) = xs[4]? := hxs 4 _ rfl
        have g5 : DataW.trod enc Try.prog W 0 (fun _ => true) true k' 4 ((List.drop 5 [u0, u1, u2, u3, u4, u5, u6]).take (Try.prog.cellsOf 4)) = xs[5]? := hxs 5 _ rfl
        have g6 : DataW.trod enc Try.prog W 0 (fun _ => true) true k' 33 ((List.drop 6 [u0, u1, u2, u3, u4, u5, u6]).take (Try.prog.cellsOf 33)) = xs[6]? := hxs 6 _ rfl
        rw [List.getElem?_eq_getElem (by omega)] at g0 g1 g2 g3 g4 g5 g6
        rw [ci] at g0 g1 g2
        rw [cu] at g3 g4
        rw [cb] at g5
        rw [cv] at g6
        obtain ⟨n0, e0, _, w0⟩ := DataW.trod_int Try.underlying3 g0
        obtain ⟨n1, e1, _, w1⟩ := DataW.trod_int Try.underlying3 g1
        obtain ⟨n2, e2, _, w2⟩ := DataW.trod_int Try.underlying3 g2
        obtain ⟨b3, e3⟩ := byte_of_trod g3
        obtain ⟨b4, e4⟩ := byte_of_trod g4
        obtain ⟨b5, e5, _⟩ := DataW.trod_bool Try.underlying4 g5
        obtain ⟨v6, l6, e6, i6⟩ := iv_of_trod g6
        simp at e0 e1 e2 e3 e4 e5 e6
        have k0 := hcell 0 (by omega)
        have k1 := hcell 1 (by omega)
        have k2 := hcell 2 (by omega)
        have k3 := hcell 3 (by omega)
        have k4 := hcell 4 (by omega)
        have k5 := hcell 5 (by omega)
        have k6 := hcell 6 (by omega)
        rw [Addr.add_add] at k0 k1 k2 k3 k4 k5 k6
        refine ⟨⟨n0, n1, n2, b3, b4, b5, v6, l6⟩, ⟨?_, ?_, ?_, ?_, ?_, ?_, ?_⟩, i6, (bounds_i64 w2).2⟩
        · simpa [e0] using k0
        · simpa [e1] using k1
        · simpa [e2] using k2
        · simpa [e3, bv] using k3
        · simpa [e4, bv] using k4
        · simpa [e5] using k5
        · simpa [e6] using k6
    have hmax : len ≤ 9223372036854775807 := by unfold maxLen at hm; omega
    refine ⟨(List.range len).map f, some a, m, by simp, by simpa using hmax, (fun h => by cases h), fun ad had i p hi => ?_⟩
    cases had
    have hlt : i < len := by
      have := (List.getElem?_eq_some_iff.1 hi).1
      simpa using this
    have e : p = f i := by simpa [hlt] using hi.symm
    rw [e]
    exact hf i hlt
end
end Go.Proofs.Ytcgecjedgbmmkaa
