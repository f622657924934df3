/- How a list of byte strings that came in reads: a slice of slices of bytes; no condition. -/
import Derived.Test.YtgedaoodldohkaaBy
import Derived.Deep.Slices
import Derived.SizedLaws
namespace Go.Proofs.Ytgedaoodldohkaa
open Go.RowKit Go.ChangeShapes Go.WideShapes

/-- A slice of byte slices that reads as these byte strings. -/
def Bss (w : World) (v : Value) (ls : List (List UInt8)) : Prop :=
  ∃ a cap, v = .slice a ls.length cap ∧ ls.length ≤ cap ∧ cap ≤ maxLen ∧ (a = none → cap = 0) ∧
    ∀ ad, a = some ad → ∀ i l, ls[i]? = some l → ∃ u, w.cell? (ad.add i) = some u ∧ Bs w u l

theorem Bss.shape {w : World} {v : Value} {ls : List (List UInt8)} (h : Bss w v ls) : ∃ a cap, v = .slice a ls.length cap ∧ Bss w (.slice a ls.length cap) ls := by
  obtain ⟨a, cap, rfl, r⟩ := h
  exact ⟨a, cap, rfl, a, cap, rfl, r⟩

theorem Bss.open {w : World} {v : Value} {ls : List (List UInt8)} (h : Bss w v ls) (hne : 0 < ls.length) : ∃ b o cap, v = .slice (some ⟨b, o, none⟩) ls.length cap ∧ ls.length ≤ cap ∧ b < w.heap.size ∧
    ∀ i l, ls[i]? = some l → ∃ a c, w.cell? ⟨b, o + i, none⟩ = some (.slice a l.length c) ∧ Bs w (.slice a l.length c) l := by
  obtain ⟨a, cap, rfl, h1, h2, h3, h4⟩ := h
  rcases a with _ | ⟨b, o, s⟩
  · have := h3 rfl; omega
  · obtain ⟨u, h0, _⟩ := h4 _ rfl 0 ls[0] (List.getElem?_eq_getElem hne)
    have hs : s = none := by simpa [Addr.add] using World.cell?_spot h0
    subst hs
    refine ⟨b, o, cap, rfl, h1, ?_, fun i l hl => ?_⟩
    · simpa [Addr.add] using World.block_lt_of_cell? w _ h0
    · obtain ⟨u, hu, hb⟩ := h4 _ rfl i l hl
      rw [Addr.add_lit] at hu
      obtain ⟨a, c, rfl, hb⟩ := hb.shape
      exact ⟨a, c, hu, hb⟩

section
variable {H : Type} {enc : TypeId × Value → H}
theorem bs_of_trod {W : World} {n : Nat} {v : Value} {x : DataW H × List MemPlace} (h : DataW.trod enc Try.prog W 0 (fun _ => true) true n 22 [v] = some x) : ∃ l, Bs W v l := by
  rcases open_ints Try.underlying22 Try.underlying5 (by kernel_rfl) h with ⟨hcs, _⟩ | ⟨a, l, c, zs, hcs, _, hl, hm, hz, _, hcell, hwz⟩
  · simp at hcs
    subst hcs
    exact ⟨[], Bs.nil W⟩
  · simp at hcs
    subst hcs
    exact isRow_bs (zs := zs) (.inr ⟨_, rfl, hl, hm, by simpa using hz, hcell, hwz⟩)

theorem bss_of_trod {W : World} {n : Nat} {v : Value} {x : DataW H × List MemPlace} (h : DataW.trod enc Try.prog W 0 (fun _ => true) true n 30 [v] = some x) : ∃ ls, Bss W v ls := by
  rcases Deep.open_slice1 Try.underlying30 (by kernel_rfl) h with ⟨hcs, _⟩ | ⟨a, len, cap, m, k, V, D, Pl, hcs, _, hl, hm, hmm, _, hx⟩
  · simp at hcs
    subst hcs
    exact ⟨[], none, 0, rfl, Nat.le_refl _, Nat.zero_le _, fun _ => rfl, fun _ h => by cases h⟩
  · simp at hcs
    subst hcs
    simp only [if_true] at hmm
    subst hmm
    obtain ⟨f, hf⟩ := Deep.choose_lt (α := List UInt8) (p := fun i l => Bs W (V i) l) fun i hi => bs_of_trod (hx i hi).2
    refine ⟨(List.range len).map f, some a, m, by simp, by simpa using hl, hm, (fun h => by cases h), fun ad had i l hi => ?_⟩
    cases had
    have hlt : i < len := by
      have := (List.getElem?_eq_some_iff.1 hi).1
      simpa using this
    refine ⟨V i, (hx i (by omega)).1, ?_⟩
    have e : l = f i := by simpa [hlt] using hi.symm
    rw [e]
    exact hf i (by omega)

theorem weightsAll_mem {P : Program} {e : TypeId} {d : DataW H} : ∀ {ds : List (DataW H)}, d ∈ ds → ∀ n ∈ d.weights P e, n ∈ DataW.weightsAll P e ds
  | d0 :: ds, hd, n, hn => by
    simp only [DataW.weightsAll, List.mem_append]
    rcases List.mem_cons.1 hd with rfl | hd
    · exact Or.inl hn
    · exact Or.inr (weightsAll_mem hd n hn)

theorem bytes_one : Try.prog.bytesOf 5 = 1 := by kernel_rfl

theorem bsB_of_trod {W : World} {n : Nat} {v : Value} {x : DataW H × List MemPlace} (h : DataW.trod enc Try.prog W 0 (fun _ => true) true n 22 [v] = some x)
    (hw : ∀ n ∈ x.1.weights Try.prog 22, n ≤ reachBytes) : ∃ l, Bs W v l ∧ l.length ≤ 140737488351232 := by
  rcases open_ints Try.underlying22 Try.underlying5 (by kernel_rfl) h with ⟨hcs, _⟩ | ⟨a, l, c, zs, hcs, _, hl, hm, hz, hx, hcell, hwz⟩
  · simp at hcs
    subst hcs
    exact ⟨[], Bs.nil W, Nat.zero_le _⟩
  · simp at hcs
    subst hcs
    subst hx
    simp only [if_true] at hz
    obtain ⟨m, hm'⟩ := isRow_bs (zs := zs) (.inr ⟨_, rfl, hl, hm, by simpa using hz, hcell, hwz⟩)
    refine ⟨m, hm', ?_⟩
    have hlm : m.length = l := by
      obtain ⟨a', cap', he, _⟩ := hm'
      simp only [Value.slice.injEq] at he
      exact he.2.1.symm
    have := hw ((lits .u8 (zs.take l)).length * 1 + (lits .u8 (zs.drop l)).length * 1) (by
      simp only [DataW.weights, Try.underlying22, bytes_one]
      rw [← Nat.add_mul]
      exact List.mem_cons_self)
    simp only [lits, List.length_map, List.length_take, List.length_drop, reachBytes] at this
    omega

/-- A slice of byte slices, each as long as memory allows. -/
def BssB (w : World) (v : Value) (ls : List (List UInt8)) : Prop := Bss w v ls ∧ ∀ l ∈ ls, l.length ≤ 140737488351232

theorem bssB_of_trod {W : World} {n : Nat} {v : Value} {x : DataW H × List MemPlace} (h : DataW.trod enc Try.prog W 0 (fun _ => true) true n 30 [v] = some x)
    (hw : ∀ n ∈ x.1.weights Try.prog 30, n ≤ reachBytes) : ∃ ls, BssB W v ls := by
  rcases Deep.open_slice1 Try.underlying30 (by kernel_rfl) h with ⟨hcs, _⟩ | ⟨a, len, cap, m, k, V, D, Pl, hcs, _, hl, hm, hmm, hd, hx⟩
  · simp at hcs
    subst hcs
    exact ⟨[], ⟨none, 0, rfl, Nat.le_refl _, Nat.zero_le _, fun _ => rfl, fun _ h => by cases h⟩, fun _ h => by cases h⟩
  · simp at hcs
    subst hcs
    subst hd
    simp only [if_true] at hmm
    subst hmm
    obtain ⟨f, hf⟩ := Deep.choose_lt (α := List UInt8) (n := len) (p := fun i l => Bs W (V i) l ∧ l.length ≤ 140737488351232) fun i hi => bsB_of_trod (hx i (by omega)).2 (fun n hn => hw n (by
      simp only [DataW.weights, Try.underlying30]
      refine List.mem_cons_of_mem _ (List.mem_append_left _ (weightsAll_mem (d := D i) ?_ n hn))
      exact List.mem_map.2 ⟨i, List.mem_range.2 hi, rfl⟩))
    refine ⟨(List.range len).map f, ⟨some a, m, by simp, by simpa using hl, hm, (fun h => by cases h), fun ad had i l hi => ?_⟩, fun l hl' => ?_⟩
    · cases had
      have hlt : i < len := by
        have := (List.getElem?_eq_some_iff.1 hi).1
        simpa using this
      refine ⟨V i, (hx i (by omega)).1, ?_⟩
      have e : l = f i := by simpa [hlt] using hi.symm
      rw [e]
      exact (hf i hlt).1
    · obtain ⟨i, hi, rfl⟩ := List.mem_map.1 hl'
      exact (hf i (List.mem_range.1 hi)).2
end
end Go.Proofs.Ytgedaoodldohkaa
