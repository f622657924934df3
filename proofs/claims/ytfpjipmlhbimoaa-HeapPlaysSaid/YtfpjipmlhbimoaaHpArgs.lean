/- How slices of numbers, and of steps of a heap, that are handed in read; no condition. -/
import Derived.Test.YtfpjipmlhbimoaaHpWorks
import Derived.Deep.Slices
import Derived.OpenShut
import Derived.SizedLaws
namespace Go.Proofs.Ytfpjipmlhbimoaa
open Go.RowKit Go.Maps Go.ChangeShapes Go.WideShapes

/-- The value is a slice that reads as these numbers. -/
def Iv (w : World) (v : Value) (l : List Int) : Prop :=
  ∃ a cap, v = .slice a l.length cap ∧ l.length ≤ 9223372036854775807 ∧ (a = none → l = []) ∧ (∀ ad, a = some ad → ∀ (i : Nat) (u : Int), l[i]? = some u → w.cell? (ad.add i) = some (.int .i64 u)) ∧ ∀ u ∈ l, -9223372036854775808 ≤ u ∧ u ≤ 9223372036854775807

theorem Iv.nil (w : World) : Iv w (.slice none 0 0) [] := ⟨none, 0, rfl, by simp, fun _ => rfl, (fun _ h => by cases h), (fun u h => by cases h)⟩
theorem Iv.shape {w : World} {v : Value} {l : List Int} (h : Iv w v l) : ∃ a cap, v = .slice a l.length cap := let ⟨a, cap, e, _⟩ := h; ⟨a, cap, e⟩
theorem Iv.kept {w w' : World} {v : Value} {l : List Int} (h : Iv w v l) (hk : ∀ q, v.ownBlock = some q → l ≠ [] → q < w.heap.size → w'.heap[q]? = w.heap[q]?) : Iv w' v l := by
  obtain ⟨a, cap, rfl, h1, h2, h3, h4⟩ := h
  refine ⟨a, cap, rfl, h1, h2, fun ad had i u hu => ?_, h4⟩
  subst had
  have hc := h3 _ rfl i u hu
  have hblk : (ad.add i).block = ad.block := by
    unfold Addr.add
    split <;> rfl
  have hlt := World.block_lt_of_cell? w _ hc
  exact (World.cell?_of_block (w := w) (a := ad.add i) (by rw [hblk] at hlt ⊢; exact hk _ rfl (fun e => by rw [e] at hu; simp at hu) hlt)).trans hc
theorem Iv.open {w : World} {v : Value} {l : List Int} (h : Iv w v l) {i : Nat} {u : Int} (hu : l[i]? = some u) : ∃ g o cap, v = .slice (some ⟨g, o, none⟩) l.length cap ∧ w.cell? ⟨g, o + i, none⟩ = some (.int .i64 u) ∧ -9223372036854775808 ≤ u ∧ u ≤ 9223372036854775807 := by
  obtain ⟨a, cap, rfl, h1, h2, h3, h4⟩ := h
  rcases a with _ | ⟨g, o, s⟩
  · rw [h2 rfl] at hu
    simp at hu
  · have hc := h3 _ rfl i u hu
    have hlt := (List.getElem?_eq_some_iff.1 hu).1
    have hs : s = none := by simpa [Addr.add] using World.cell?_spot (h3 _ rfl 0 l[0] (List.getElem?_eq_getElem (by omega)))
    subst hs
    rw [Addr.add_lit] at hc
    exact ⟨g, o, cap, rfl, hc, h4 u (List.mem_of_getElem? hu)⟩
theorem isRow_iv {w : World} {a : Option Addr} {len cap : Nat} {zs : List Int} (h : IsRow .i64 w a len cap zs) : ∃ l, Iv w (.slice a len cap) l := by
  rcases h with ⟨rfl, rfl, rfl, rfl⟩ | ⟨x, rfl, hl, hm, hz, hc, hw⟩
  · exact ⟨[], Iv.nil w⟩
  · have hlen : (zs.take len).length = len := by rw [List.length_take]; omega
    refine ⟨zs.take len, some x, cap, by rw [hlen], by rw [hlen]; unfold maxLen at hm; omega, (fun h => by cases h), fun ad had i u hu => ?_, fun u hu => ?_⟩
    · cases had
      have hi := (List.getElem?_eq_some_iff.1 hu).1
      rw [hlen] at hi
      rw [List.getElem?_take_of_lt hi] at hu
      rw [hc i (by omega), List.getD_eq_getElem?_getD, hu]
      rfl
    · exact bounds_i64 (hw u (List.mem_of_mem_take hu))


theorem Iv.below {w w' : World} {v : Value} {l : List Int} (h : Iv w v l) (hb : Below w.heap.size w w') : Iv w' v l := h.kept fun q _ _ hq => hb.block q hq

/-- A step: key, item, how many are popped. -/
structure Sp where
  key : Int
  item : Int
  pop : UInt8
def kdSp : Kd Sp Sp where
  sz := 3
  pos := by decide
  cs t := [.int .i64 t.key, .int .i64 t.item, bv t.pop]
  len _ := rfl
  one t u hu := by
    simp only [List.mem_cons, List.not_mem_nil, or_false] at hu
    rcases hu with rfl | rfl | rfl <;> rfl
  con t := t
  ok _ _ _ := True
  step _ _ := trivial
theorem Rd.of_cells {τ α : Type} {K : Kd τ α} {W : World} {S : Nat → Prop} {a : Addr} {cap : Nat} (f : Nat → τ) (len : Nat) (hl : len ≤ cap) (hm : cap ≤ maxLen) (hcell : ∀ i, i < len → ∀ (j : Nat) (u : Value), (K.cs (f i))[j]? = some u → W.cell? (a.add (i * K.sz + j)) = some u) (hok : ∀ i, i < len → K.ok W S (f i)) (hS : ∀ q, (Value.slice (some a) len cap).ownBlock = some q → ¬ S q) :
    Rd K W S (.slice (some a) len cap) ((List.range len).map fun i => K.con (f i)) := by
  have h1 : ∀ n, n ≤ len → ∀ (j : Nat) (u : Value), (K.cells ((List.range n).map f))[j]? = some u → W.cell? (a.add j) = some u := by
    intro n
    induction n with
    | zero => intro _ j u hu; simp [Kd.cells] at hu
    | succ n ih =>
      intro hn j u hu
      rw [List.range_succ, List.map_append, K.cells_append] at hu
      have hlen : (K.cells ((List.range n).map f)).length = n * K.sz := by rw [K.cells_length]; simp
      rcases Nat.lt_or_ge j (n * K.sz) with h2 | h2
      · rw [List.getElem?_append_left (by omega)] at hu
        exact ih (by omega) j u hu
      · rw [List.getElem?_append_right (by omega), hlen] at hu
        have h3 : (K.cs (f n))[j - n * K.sz]? = some u := by simpa [Kd.cells] using hu
        have := hcell n (by omega) _ u h3
        rwa [show n * K.sz + (j - n * K.sz) = j by omega] at this
  refine ⟨(List.range len).map f, by rw [List.map_map]; rfl, ⟨some a, cap, by simp, by simpa using hl, hm, (fun h => by cases h), by rw [K.cells_length]; simp, fun ad had j u hu => by cases had; exact h1 len (Nat.le_refl _) j u hu⟩, fun t ht => ?_, fun _ => by simpa using hS⟩
  obtain ⟨i, hi, rfl⟩ := List.mem_map.1 ht
  exact hok i (List.mem_range.1 hi)

def Stw (w : World) (v : Value) (ls : List Sp) : Prop := Rd kdSp w (fun _ => False) v ls
instance : Inhabited Sp := ⟨⟨0, 0, 0⟩⟩
section
variable {H : Type} {enc : TypeId × Value → H}
set_option maxRecDepth 100000 in
theorem stw_of_trod {W : World} {n : Nat} {v : Value} {x : DataW H × List MemPlace} (h : DataW.trod enc Try.prog W 0 (fun _ => true) true n 22 [v] = some x) : ∃ ls, Stw W v ls := by
  rcases Deep.open_slice Try.underlying22 h with ⟨hcs, _⟩ | ⟨a, len, cap, m, k, D, Pl, hcs, _, hl, hm, hmm, _, hx⟩
  · simp at hcs
    subst hcs
    exact ⟨[], Rd.nil _ _ _⟩
  · simp at hcs
    subst hcs
    simp only [if_true] at hmm
    subst hmm
    have c3 : Try.prog.cellsOf 31 = 3 := by kernel_rfl
    have c1 : Try.prog.cellsOf 2 = 1 := by kernel_rfl
    have c2 : Try.prog.cellsOf 3 = 1 := by kernel_rfl
    have c8 : Try.prog.cellsOf 5 = 1 := by kernel_rfl
    rw [c3] at hx
    obtain ⟨f, hf⟩ := Deep.choose_lt (α := Sp) (n := len) (p := fun i s =>
      W.cell? (a.add (i * 3)) = some (.int .i64 s.key) ∧ W.cell? (a.add (i * 3 + 1)) = some (.int .i64 s.item) ∧ W.cell? (a.add (i * 3 + 2)) = some (bv s.pop)) fun i hi => by
      obtain ⟨cs', h1, h2⟩ := hx i (by omega)
      obtain ⟨_, hlen, hcell⟩ := World.cells?_some h1
      obtain ⟨xs, k', _, _, _, hxl, hxs⟩ := DataW.trod_struct Try.underlying31 h2
      have hxl' : xs.length = 3 := hxl
      match cs', hlen with
      | [u0, u1, u2], _ =>
        have g0 : DataW.trod enc Try.prog W 0 (fun _ => true) true k' 2 ((List.drop 0 [u0, u1, u2]).take (Try.prog.cellsOf 2)) = xs[0]? := hxs 0 _ rfl
        have g1 : DataW.trod enc Try.prog W 0 (fun _ => true) true k' 3 ((List.drop 1 [u0, u1, u2]).take (Try.prog.cellsOf 3)) = xs[1]? := hxs 1 _ rfl
        have g2 : DataW.trod enc Try.prog W 0 (fun _ => true) true k' 5 ((List.drop 2 [u0, u1, u2]).take (Try.prog.cellsOf 5)) = xs[2]? := hxs 2 _ rfl
        rw [List.getElem?_eq_getElem (by omega)] at g0 g1 g2
        rw [c1] at g0
        rw [c2] at g1
        rw [c8] at g2
        obtain ⟨m0, e0, _⟩ := DataW.trod_int Try.underlying2 g0
        obtain ⟨m1, e1, _⟩ := DataW.trod_int Try.underlying3 g1
        obtain ⟨m2, e2, _, hw2⟩ := DataW.trod_int Try.underlying5 g2
        obtain ⟨q2, rfl, hq2⟩ := wf_u8 hw2
        simp at e0 e1 e2
        have k0 := hcell 0 (by omega)
        have k1 := hcell 1 (by omega)
        have k2 := hcell 2 (by omega)
        rw [Addr.add_add] at k0 k1 k2
        refine ⟨⟨m0, m1, UInt8.ofNat q2⟩, ?_, ?_, ?_⟩
        · simpa [e0] using k0
        · simpa [e1] using k1
        · have : bv (UInt8.ofNat q2) = u2 := by
            rw [e2]
            simp [bv]
            omega
          rw [this]
          simpa using k2
    refine ⟨(List.range len).map fun i => kdSp.con (f i), Rd.of_cells (K := kdSp) f len (by omega) hm (fun i hi j u hu => ?_) (fun i hi => trivial) (fun _ _ h => h)⟩
    obtain ⟨q0, q1, q2⟩ := hf i hi
    match j, hu with
    | 0, hu => cases hu; exact q0
    | 1, hu => cases hu; exact q1
    | 2, hu => cases hu; exact q2
end
end Go.Proofs.Ytfpjipmlhbimoaa
