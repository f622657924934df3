/- How slices of steps, and of pairs, that are handed in read; no condition. -/
import Derived.Test.YtgekeemhbnhelaaGreatM39
import Derived.WalkKit
import Derived.SizedLaws
namespace Go.Proofs.YtgekeemhbnhelaaGreat
open Go.RowKit Go.Maps Go.ChangeShapes Go.WideShapes

theorem Rd.of_cells {τ α : Type} {K : Kd τ α} {W : World} {S : Nat → Prop} {a : Addr} {cap : Nat} (f : Nat → τ) (len : Nat) (hl : len ≤ cap) (hm : cap ≤ maxLen) (hcell : ∀ i, i < len → ∀ (j : Nat) (u : Value), (K.cs (f i))[j]? = some u → W.cell? (a.add (i * K.sz + j)) = some u) (hok : ∀ i, i < len → K.ok W S (f i)) (hS : ∀ q, (Value.slice (some a) len cap).ownBlock = some q → ¬ S q) :
    Rd K W S (.slice (some a) len cap) ((List.range len).map fun i => K.con (f i)) := by
  have h1 : ∀ n, n ≤ len → ∀ (j : Nat) (u : Value), (K.cells ((List.range n).map f))[j]? = some u → W.cell? (a.add j) = some u := by
    intro n
    induction n with
    | zero => intro _ j u hu; simp [Kd.cells] at hu
    | succ n ih =>
      intro hn j u hu
      rw [List.range_succ, List.map_append, K.cells_append] at hu
      have hlen : (K.cells ((List.range n).map f)).length = n * K.sz := by rw [K.cells_length]; simp
      rcases Nat.lt_or_ge j (n * K.sz) with h2 | h2
      · rw [List.getElem?_append_left (by omega)] at hu
        exact ih (by omega) j u hu
      · rw [List.getElem?_append_right (by omega), hlen] at hu
        have h3 : (K.cs (f n))[j - n * K.sz]? = some u := by simpa [Kd.cells] using hu
        have := hcell n (by omega) _ u h3
        rwa [show n * K.sz + (j - n * K.sz) = j by omega] at this
  refine ⟨(List.range len).map f, by rw [List.map_map]; rfl, ⟨some a, cap, by simp, by simpa using hl, hm, (fun h => by cases h), by rw [K.cells_length]; simp, fun ad had j u hu => by cases had; exact h1 len (Nat.le_refl _) j u hu⟩, fun t ht => ?_, fun _ => by simpa using hS⟩
  obtain ⟨i, hi, rfl⟩ := List.mem_map.1 ht
  exact hok i (List.mem_range.1 hi)

section
variable {H : Type} {enc : TypeId × Value → H}
theorem bs_of_trod {W : World} {n : Nat} {v : Value} {x : DataW H × List MemPlace} (h : DataW.trod enc Tryz.prog W 0 (fun _ => true) true n 23 [v] = some x) : ∃ l, Bs W v l := by
  rcases open_ints Tryz.underlying23 Tryz.underlying5 (by kernel_rfl) h with ⟨hcs, _⟩ | ⟨a, l, c, zs, hcs, _, hl, hm, hz, _, hcell, hwz⟩
  · simp at hcs
    subst hcs
    exact ⟨[], Bs.nil W⟩
  · simp at hcs
    subst hcs
    exact isRow_bs (zs := zs) (.inr ⟨_, rfl, hl, hm, by simpa using hz, hcell, hwz⟩)
theorem sl_of_bs {W : World} {v : Value} {l : Bytes} (h : Bs W v l) : ∃ s : Sl, v = s.v ∧ Bsf W (fun _ => False) s.v l := by
  obtain ⟨a, c, rfl, _⟩ := h.shape
  exact ⟨⟨a, l.length, c⟩, rfl, h, fun _ _ _ h => h⟩

def Stw (w : World) (v : Value) (ls : List Sp) : Prop := Rd kdSp w (fun _ => False) v ls
def Pw (w : World) (v : Value) (ls : List Pr) : Prop := Rd kdPr w (fun _ => False) v ls
instance : Inhabited SpT := ⟨⟨⟨none, 0, 0⟩, ⟨none, 0, 0⟩, ⟨false, [], [], false⟩⟩⟩
instance : Inhabited PT := ⟨⟨⟨none, 0, 0⟩, ⟨none, 0, 0⟩, ([], [])⟩⟩
set_option maxRecDepth 100000 in
theorem stw_of_trod {W : World} {n : Nat} {v : Value} {x : DataW H × List MemPlace} (h : DataW.trod enc Tryz.prog W 0 (fun _ => true) true n 22 [v] = some x) : ∃ ls, Stw W v ls := by
  rcases Deep.open_slice Tryz.underlying22 h with ⟨hcs, _⟩ | ⟨a, len, cap, m, k, D, Pl, hcs, _, hl, hm, hmm, _, hx⟩
  · simp at hcs
    subst hcs
    exact ⟨[], Rd.nil _ _ _⟩
  · simp at hcs
    subst hcs
    simp only [if_true] at hmm
    subst hmm
    have c4 : Tryz.prog.cellsOf 30 = 4 := by kernel_rfl
    have cb : Tryz.prog.cellsOf 4 = 1 := by kernel_rfl
    have cv : Tryz.prog.cellsOf 23 = 1 := by kernel_rfl
    rw [c4] at hx
    obtain ⟨f, hf⟩ := Deep.choose_lt (α := SpT) (n := len) (p := fun i s =>
      (W.cell? (a.add (i * 4)) = some (.bool s.s.cut) ∧ W.cell? (a.add (i * 4 + 1)) = some s.k.v ∧ W.cell? (a.add (i * 4 + 2)) = some s.v.v ∧ W.cell? (a.add (i * 4 + 3)) = some (.bool s.s.settle)) ∧ Bsf W (fun _ => False) s.k.v s.s.key ∧ Bsf W (fun _ => False) s.v.v s.s.val) fun i hi => by
      obtain ⟨cs', h1, h2⟩ := hx i (by omega)
      obtain ⟨_, hlen, hcell⟩ := World.cells?_some h1
      obtain ⟨xs, k', _, _, _, hxl, hxs⟩ := DataW.trod_struct Tryz.underlying30 h2
      have hxl' : xs.length = 4 := hxl
      match cs', hlen with
      | [u0, u1, u2, u3], _ =>
        have g0 : DataW.trod enc Tryz.prog W 0 (fun _ => true) true k' 4 ((List.drop 0 [u0, u1, u2, u3]).take (Tryz.prog.cellsOf 4)) = xs[0]? := hxs 0 _ rfl
        have g1 : DataW.trod enc Tryz.prog W 0 (fun _ => true) true k' 23 ((List.drop 1 [u0, u1, u2, u3]).take (Tryz.prog.cellsOf 23)) = xs[1]? := hxs 1 _ rfl
        have g2 : DataW.trod enc Tryz.prog W 0 (fun _ => true) true k' 23 ((List.drop 2 [u0, u1, u2, u3]).take (Tryz.prog.cellsOf 23)) = xs[2]? := hxs 2 _ rfl
        have g3 : DataW.trod enc Tryz.prog W 0 (fun _ => true) true k' 4 ((List.drop 3 [u0, u1, u2, u3]).take (Tryz.prog.cellsOf 4)) = xs[3]? := hxs 3 _ rfl
        rw [List.getElem?_eq_getElem (by omega)] at g0 g1 g2 g3
        rw [cb] at g0 g3
        rw [cv] at g1 g2
        obtain ⟨b0, e0, _⟩ := DataW.trod_bool Tryz.underlying4 g0
        obtain ⟨l1, i1⟩ := bs_of_trod (v := u1) (by simpa using g1)
        obtain ⟨l2, i2⟩ := bs_of_trod (v := u2) (by simpa using g2)
        obtain ⟨b3, e3, _⟩ := DataW.trod_bool Tryz.underlying4 g3
        simp at e0 e3
        obtain ⟨s1, rfl, j1⟩ := sl_of_bs i1
        obtain ⟨s2, rfl, j2⟩ := sl_of_bs i2
        have k0 := hcell 0 (by omega)
        have k1 := hcell 1 (by omega)
        have k2 := hcell 2 (by omega)
        have k3 := hcell 3 (by omega)
        rw [Addr.add_add] at k0 k1 k2 k3
        refine ⟨⟨s1, s2, ⟨b0, l1, l2, b3⟩⟩, ⟨?_, ?_, ?_, ?_⟩, j1, j2⟩
        · simpa [e0] using k0
        · simpa using k1
        · simpa using k2
        · simpa [e3] using k3
    refine ⟨(List.range len).map fun i => kdSp.con (f i), Rd.of_cells (K := kdSp) f len (by omega) hm (fun i hi j u hu => ?_) (fun i hi => (hf i hi).2) (fun _ _ h => h)⟩
    obtain ⟨⟨q0, q1, q2, q3⟩, _⟩ := hf i hi
    match j, hu with
    | 0, hu => cases hu; exact q0
    | 1, hu => cases hu; exact q1
    | 2, hu => cases hu; exact q2
    | 3, hu => cases hu; exact q3
set_option maxRecDepth 100000 in
theorem pw_of_trod {W : World} {n : Nat} {v : Value} {x : DataW H × List MemPlace} (h : DataW.trod enc Tryz.prog W 0 (fun _ => true) true n 28 [v] = some x) : ∃ ls, Pw W v ls := by
  rcases Deep.open_slice Tryz.underlying28 h with ⟨hcs, _⟩ | ⟨a, len, cap, m, k, D, Pl, hcs, _, hl, hm, hmm, _, hx⟩
  · simp at hcs
    subst hcs
    exact ⟨[], Rd.nil _ _ _⟩
  · simp at hcs
    subst hcs
    simp only [if_true] at hmm
    subst hmm
    have c4 : Tryz.prog.cellsOf 57 = 2 := by kernel_rfl
    have cv : Tryz.prog.cellsOf 23 = 1 := by kernel_rfl
    rw [c4] at hx
    obtain ⟨f, hf⟩ := Deep.choose_lt (α := PT) (n := len) (p := fun i s =>
      (W.cell? (a.add (i * 2)) = some s.k.v ∧ W.cell? (a.add (i * 2 + 1)) = some s.v.v) ∧ Bsf W (fun _ => False) s.k.v s.p.1 ∧ Bsf W (fun _ => False) s.v.v s.p.2) fun i hi => by
      obtain ⟨cs', h1, h2⟩ := hx i (by omega)
      obtain ⟨_, hlen, hcell⟩ := World.cells?_some h1
      obtain ⟨xs, k', _, _, _, hxl, hxs⟩ := DataW.trod_struct Tryz.underlying57 h2
      have hxl' : xs.length = 2 := hxl
      match cs', hlen with
      | [u1, u2], _ =>
        have g1 : DataW.trod enc Tryz.prog W 0 (fun _ => true) true k' 23 ((List.drop 0 [u1, u2]).take (Tryz.prog.cellsOf 23)) = xs[0]? := hxs 0 _ rfl
        have g2 : DataW.trod enc Tryz.prog W 0 (fun _ => true) true k' 23 ((List.drop 1 [u1, u2]).take (Tryz.prog.cellsOf 23)) = xs[1]? := hxs 1 _ rfl
        rw [List.getElem?_eq_getElem (by omega)] at g1 g2
        rw [cv] at g1 g2
        obtain ⟨l1, i1⟩ := bs_of_trod (v := u1) (by simpa using g1)
        obtain ⟨l2, i2⟩ := bs_of_trod (v := u2) (by simpa using g2)
        obtain ⟨s1, rfl, j1⟩ := sl_of_bs i1
        obtain ⟨s2, rfl, j2⟩ := sl_of_bs i2
        have k1 := hcell 0 (by omega)
        have k2 := hcell 1 (by omega)
        rw [Addr.add_add] at k1 k2
        refine ⟨⟨s1, s2, (l1, l2)⟩, ⟨?_, ?_⟩, j1, j2⟩
        · simpa using k1
        · simpa using k2
    refine ⟨(List.range len).map fun i => kdPr.con (f i), Rd.of_cells (K := kdPr) f len (by omega) hm (fun i hi j u hu => ?_) (fun i hi => (hf i hi).2) (fun _ _ h => h)⟩
    obtain ⟨⟨q0, q1⟩, _⟩ := hf i hi
    match j, hu with
    | 0, hu => cases hu; exact q0
    | 1, hu => cases hu; exact q1
end
end Go.Proofs.YtgekeemhbnhelaaGreat
