/- How nets, and slices of numbers, that are handed in read; no condition. -/
import Derived.Test.YtmdjgkclbjbdiaaNtRel
import Derived.Deep.Slices
import Derived.OpenShut
namespace Go.Proofs.Ytmdjgkclbjbdiaa
open Go.RowKit Go.Maps Go.ChangeShapes Go.WideShapes

theorem Rd.of_cells {τ α : Type} {K : Kd τ α} {W : World} {S : Nat → Prop} {a : Addr} {cap : Nat} (f : Nat → τ) (len : Nat) (hl : len ≤ cap) (hm : cap ≤ maxLen) (hcell : ∀ i, i < len → ∀ (j : Nat) (u : Value), (K.cs (f i))[j]? = some u → W.cell? (a.add (i * K.sz + j)) = some u) (hok : ∀ i, i < len → K.ok W S (f i)) (hS : ∀ q, (Value.slice (some a) len cap).ownBlock = some q → ¬ S q) :
    Rd K W S (.slice (some a) len cap) ((List.range len).map fun i => K.con (f i)) := by
  have h1 : ∀ n, n ≤ len → ∀ (j : Nat) (u : Value), (K.cells ((List.range n).map f))[j]? = some u → W.cell? (a.add j) = some u := by
    intro n
    induction n with
    | zero => intro _ j u hu; simp [Kd.cells] at hu
    | succ n ih =>
      intro hn j u hu
      rw [List.range_succ, List.map_append, K.cells_append] at hu
      have hlen : (K.cells ((List.range n).map f)).length = n * K.sz := by rw [K.cells_length]; simp
      rcases Nat.lt_or_ge j (n * K.sz) with h2 | h2
      · rw [List.getElem?_append_left (by omega)] at hu
        exact ih (by omega) j u hu
      · rw [List.getElem?_append_right (by omega), hlen] at hu
        have h3 : (K.cs (f n))[j - n * K.sz]? = some u := by simpa [Kd.cells] using hu
        have := hcell n (by omega) _ u h3
        rwa [show n * K.sz + (j - n * K.sz) = j by omega] at this
  refine ⟨(List.range len).map f, by rw [List.map_map]; rfl, ⟨some a, cap, by simp, by simpa using hl, hm, (fun h => by cases h), by rw [K.cells_length]; simp, fun ad had j u hu => by cases had; exact h1 len (Nat.le_refl _) j u hu⟩, fun t ht => ?_, fun _ => by simpa using hS⟩
  obtain ⟨i, hi, rfl⟩ := List.mem_map.1 ht
  exact hok i (List.mem_range.1 hi)

instance : Inhabited Ed := ⟨⟨0, 0, 0, 0⟩⟩
section
variable {H : Type} {enc : TypeId × Value → H}
theorem fs_of_row {w : World} {a : Option Addr} {len cap : Nat} {zs : List Int} (h : IsRow .i64 w a len cap zs) : ∃ l, Fs w (.slice a len cap) l := by
  rcases h with ⟨rfl, rfl, rfl, rfl⟩ | ⟨x, rfl, hl, hm, hz, hc, hw⟩
  · exact ⟨[], Rd.nil _ _ _⟩
  · refine ⟨(List.range len).map fun i => kdI.con (zs.getD i 0), Rd.of_cells (K := kdI) (fun i => zs.getD i 0) len hl hm (fun i hi j u hu => ?_) (fun _ _ => trivial) (fun _ _ h => h)⟩
    match j, hu with
    | 0, hu =>
      cases hu
      have := hc i (by omega)
      simpa [kdI] using this
theorem fs_of_trod {W : World} {n : Nat} {v : Value} {x : DataW H × List MemPlace} (h : DataW.trod enc Try.prog W 0 (fun _ => true) true n 25 [v] = some x) : ∃ l, Fs W v l := by
  rcases open_ints Try.underlying25 Try.underlying2 (by kernel_rfl) h with ⟨hcs, _⟩ | ⟨a, l, c, zs, hcs, _, hl, hm, hz, _, hcell, hwz⟩
  · simp at hcs
    subst hcs
    exact ⟨[], Rd.nil _ _ _⟩
  · simp at hcs
    subst hcs
    exact fs_of_row (zs := zs) (.inr ⟨_, rfl, hl, hm, by simpa using hz, hcell, hwz⟩)
set_option maxRecDepth 100000 in
theorem es_of_trod {W : World} {n : Nat} {v : Value} {x : DataW H × List MemPlace} (h : DataW.trod enc Try.prog W 0 (fun _ => true) true n 22 [v] = some x) : ∃ ls, Es W v ls := by
  rcases Deep.open_slice Try.underlying22 h with ⟨hcs, _⟩ | ⟨a, len, cap, m, k, D, Pl, hcs, _, hl, hm, hmm, _, hx⟩
  · simp at hcs
    subst hcs
    exact ⟨[], Rd.nil _ _ _⟩
  · simp at hcs
    subst hcs
    simp only [if_true] at hmm
    subst hmm
    have c4 : Try.prog.cellsOf 39 = 4 := by kernel_rfl
    have c1 : Try.prog.cellsOf 2 = 1 := by kernel_rfl
    have c2 : Try.prog.cellsOf 3 = 1 := by kernel_rfl
    rw [c4] at hx
    obtain ⟨f, hf⟩ := Deep.choose_lt (α := Ed) (n := len) (p := fun i s =>
      W.cell? (a.add (i * 4)) = some (.int .i64 s.fr) ∧ W.cell? (a.add (i * 4 + 1)) = some (.int .i64 s.to) ∧ W.cell? (a.add (i * 4 + 2)) = some (.int .i64 s.cap) ∧ W.cell? (a.add (i * 4 + 3)) = some (.int .i64 s.cost)) fun i hi => by
      obtain ⟨cs', h1, h2⟩ := hx i (by omega)
      obtain ⟨_, hlen, hcell⟩ := World.cells?_some h1
      obtain ⟨xs, k', _, _, _, hxl, hxs⟩ := DataW.trod_struct Try.underlying39 h2
      have hxl' : xs.length = 4 := hxl
      match cs', hlen with
      | [u0, u1, u2, u3], _ =>
        have g0 : DataW.trod enc Try.prog W 0 (fun _ => true) true k' 3 ((List.drop 0 [u0, u1, u2, u3]).take (Try.prog.cellsOf 3)) = xs[0]? := hxs 0 _ rfl
        have g1 : DataW.trod enc Try.prog W 0 (fun _ => true) true k' 3 ((List.drop 1 [u0, u1, u2, u3]).take (Try.prog.cellsOf 3)) = xs[1]? := hxs 1 _ rfl
        have g2 : DataW.trod enc Try.prog W 0 (fun _ => true) true k' 2 ((List.drop 2 [u0, u1, u2, u3]).take (Try.prog.cellsOf 2)) = xs[2]? := hxs 2 _ rfl
        have g3 : DataW.trod enc Try.prog W 0 (fun _ => true) true k' 2 ((List.drop 3 [u0, u1, u2, u3]).take (Try.prog.cellsOf 2)) = xs[3]? := hxs 3 _ rfl
        rw [List.getElem?_eq_getElem (by omega)] at g0 g1 g2 g3
        rw [c2] at g0 g1
        rw [c1] at g2 g3
        obtain ⟨m0, e0, _⟩ := DataW.trod_int Try.underlying3 g0
        obtain ⟨m1, e1, _⟩ := DataW.trod_int Try.underlying3 g1
        obtain ⟨m2, e2, _⟩ := DataW.trod_int Try.underlying2 g2
        obtain ⟨m3, e3, _⟩ := DataW.trod_int Try.underlying2 g3
        simp at e0 e1 e2 e3
        have k0 := hcell 0 (by omega)
        have k1 := hcell 1 (by omega)
        have k2 := hcell 2 (by omega)
        have k3 := hcell 3 (by omega)
        rw [Addr.add_add] at k0 k1 k2 k3
        exact ⟨⟨m0, m1, m2, m3⟩, by simpa [e0] using k0, by simpa [e1] using k1, by simpa [e2] using k2, by simpa [e3] using k3⟩
    refine ⟨(List.range len).map fun i => kdEd.con (f i), Rd.of_cells (K := kdEd) f len (by omega) hm (fun i hi j u hu => ?_) (fun i hi => trivial) (fun _ _ h => h)⟩
    obtain ⟨q0, q1, q2, q3⟩ := hf i hi
    match j, hu with
    | 0, hu => cases hu; exact q0
    | 1, hu => cases hu; exact q1
    | 2, hu => cases hu; exact q2
    | 3, hu => cases hu; exact q3
set_option maxRecDepth 100000 in
theorem net_of_trod {W : World} {n : Nat} {cs : Array Value} {x : DataW H × List MemPlace} (h : DataW.trod enc Try.prog W 0 (fun _ => true) true n 24 cs.toList = some x) : ∃ (N : Int) (v : Value) (es : List Ed), cs.toList = [.int .i64 N, v] ∧ (Lit.int .i64 N).wf = true ∧ Es W v es := by
  have c1 : Try.prog.cellsOf 3 = 1 := by kernel_rfl
  have c2 : Try.prog.cellsOf 22 = 1 := by kernel_rfl
  have c5 : Try.prog.cellsOf 24 = 2 := by kernel_rfl
  obtain ⟨xs, k', _, _, hlen, hxl, hxs⟩ := DataW.trod_struct Try.underlying24 h
  rw [c5] at hlen
  have hxl' : xs.length = 2 := hxl
  obtain ⟨l, hl⟩ : ∃ l, cs.toList = l := ⟨_, rfl⟩
  rw [hl] at hlen hxs ⊢
  match l, hlen with
  | [u0, u1], _ =>
    have g0 : DataW.trod enc Try.prog W 0 (fun _ => true) true k' 3 ((List.drop 0 [u0, u1]).take (Try.prog.cellsOf 3)) = xs[0]? := hxs 0 _ rfl
    have g1 : DataW.trod enc Try.prog W 0 (fun _ => true) true k' 22 ((List.drop 1 [u0, u1]).take (Try.prog.cellsOf 22)) = xs[1]? := hxs 1 _ rfl
    rw [List.getElem?_eq_getElem (by omega)] at g0 g1
    rw [c1] at g0
    rw [c2] at g1
    obtain ⟨m0, e0, _, hw⟩ := DataW.trod_int Try.underlying3 g0
    obtain ⟨es, he⟩ := es_of_trod (v := u1) (by simpa using g1)
    simp at e0
    exact ⟨m0, u1, es, by rw [e0], hw, he⟩
end
end Go.Proofs.Ytmdjgkclbjbdiaa
