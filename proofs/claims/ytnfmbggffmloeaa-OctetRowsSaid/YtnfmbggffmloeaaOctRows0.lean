/- Plain facts and readings for OctetRows: byte strings one behind the other, what is taken of them where they are cut, and how a list of byte strings that came in reads; no condition. -/
import Derived.Test.YtnfmbggffmloeaaOctBack
import Derived.Test.YtnfmbggffmloeaaOctRowb
import Derived.Deep.Slices
namespace Go.Proofs.Ytnfmbggffmloeaa
open Go.RowKit Go.ChangeShapes Go.WideShapes

/-- Byte strings, one behind the other. -/
def encL (ls : List (List UInt8)) : List UInt8 := ls.flatMap fun s => beL s.length 2 ++ s
/-- Where the first r of them end. -/
def encE (ls : List (List UInt8)) (r : Nat) : Nat := (encL (ls.take r)).length

theorem encL_succ {ls : List (List UInt8)} {r : Nat} {s : List UInt8} (h : ls[r]? = some s) : encL (ls.take (r + 1)) = putsL (encL (ls.take r)) s := by
  rw [List.take_add_one, h]
  simp [encL, putsL]

theorem encE_succ {ls : List (List UInt8)} {r : Nat} {s : List UInt8} (h : ls[r]? = some s) : encE ls (r + 1) = encE ls r + 2 + s.length := by
  unfold encE
  rw [encL_succ h]
  simp [putsL, beL_length]
  omega

theorem encL_split {ls : List (List UInt8)} {r : Nat} {s : List UInt8} (h : ls[r]? = some s) (x : List UInt8) : ∃ t, encL ls ++ x = putsL (encL (ls.take r)) s ++ t := by
  refine ⟨encL (ls.drop (r + 1)) ++ x, ?_⟩
  rw [← encL_succ h, ← List.append_assoc]
  congr 1
  unfold encL
  rw [← List.flatMap_append, List.take_append_drop]

theorem encE_all (ls : List (List UInt8)) : encE ls ls.length = (encL ls).length := by
  unfold encE; rw [List.take_length]

theorem encE_bound (ls : List (List UInt8)) : ∀ r, (∀ i s, ls[i]? = some s → i < r → s.length ≤ 300) → encE ls r ≤ 302 * r
  | 0, _ => by simp [encE, encL]
  | r + 1, h => by
    have ih := encE_bound ls r fun i s hi hr => h i s hi (by omega)
    cases hs : ls[r]? with
    | none =>
      have : ls.take (r + 1) = ls.take r := by rw [List.take_add_one, hs]; simp
      unfold encE at *
      rw [this]; omega
    | some s =>
      have := h r s hs (by omega)
      rw [encE_succ hs]; omega

/-- What is taken at a byte string that stands whole. -/
theorem tb_whole {ls : List (List UInt8)} {r K : Nat} {s : List UInt8} (x : List UInt8) (h : ls[r]? = some s) (hs : s.length ≤ 300) (hK : encE ls (r + 1) ≤ K) :
    tbL ((encL ls ++ x).take K) (encE ls r) = s ∧ tbX ((encL ls ++ x).take K) (encE ls r) = encE ls (r + 1) ∧ tbE ((encL ls ++ x).take K) (encE ls r) = 0 := by
  obtain ⟨t, ht⟩ := encL_split h x
  have he := encE_succ h
  have hl : (putsL (encL (ls.take r)) s).length = encE ls (r + 1) := by rw [← encL_succ h]; rfl
  have hT : (encL ls ++ x).take K = putsL (encL (ls.take r)) s ++ t.take (K - encE ls (r + 1)) := by
    rw [ht, List.take_append, hl, List.take_of_length_le (by rw [hl]; exact hK)]
  rw [hT]
  have := tb_put (encL (ls.take r)) s (t.take (K - encE ls (r + 1))) (by omega)
  unfold encE at *
  refine ⟨this.1, ?_, this.2.2⟩
  rw [this.2.1]
  omega

/-- What is taken at a byte string that does not stand whole. -/
theorem tb_cut {ls : List (List UInt8)} {r K : Nat} {s : List UInt8} (x : List UInt8) (h : ls[r]? = some s) (hs : s.length ≤ 300) (hr : encE ls r ≤ K) (hK : K < encE ls (r + 1)) (hx : K ≤ (encL ls ++ x).length) :
    tbL ((encL ls ++ x).take K) (encE ls r) = [] ∧ tbX ((encL ls ++ x).take K) (encE ls r) = 0 ∧ tbE ((encL ls ++ x).take K) (encE ls r) = 5 := by
  obtain ⟨t, ht⟩ := encL_split h x
  have he := encE_succ h
  have hlen : ((encL ls ++ x).take K).length = K := by rw [List.length_take]; omega
  have hm : takeMay ((encL ls ++ x).take K) (encE ls r) 2 := ⟨rfl, by omega, by rw [hlen]; omega⟩
  have hok : ¬ tbOk ((encL ls ++ x).take K) (encE ls r) := by
    rintro ⟨_, h2⟩
    rw [hlen] at h2
    have h3 : encE ls r + 2 ≤ K := by omega
    have hn : tbN ((encL ls ++ x).take K) (encE ls r) = s.length := by
      unfold tbN
      rw [Int.toNat_natCast, List.drop_take, ht]
      have e0 : (putsL (encL (ls.take r)) s ++ t).drop (encE ls r) = beL s.length 2 ++ (s ++ t) := by
        unfold putsL encE
        rw [List.append_assoc, List.append_assoc, List.drop_left]
      rw [e0, List.take_take, Nat.min_eq_left (by omega), List.take_left' (beL_length _ _), beNat_beL]
      exact Nat.mod_eq_of_lt (by omega)
    rw [hn] at h2
    omega
  refine ⟨?_, ?_, ?_⟩
  · unfold tbL; rw [if_neg hok]
  · unfold tbX; rw [if_neg hok]
  · unfold tbE; rw [if_pos hm, if_neg hok]

theorem takeL_all (ls : List (List UInt8)) (n : Nat) (hn : n < 18446744073709551616) :
    takeN ((encL ls ++ beL n 8).take (encE ls ls.length + 8)) (encE ls ls.length) 8 = n ∧ takeX ((encL ls ++ beL n 8).take (encE ls ls.length + 8)) (encE ls ls.length) 8 = encE ls ls.length + 8 ∧
      takeE ((encL ls ++ beL n 8).take (encE ls ls.length + 8)) (encE ls ls.length) 8 = 0 := by
  have e : (encL ls ++ beL n 8).take (encE ls ls.length + 8) = encL ls ++ beL n 8 ++ [] := by
    rw [List.take_of_length_le (by rw [List.length_append, beL_length, encE_all]; omega), List.append_nil]
  have := take_put (encL ls) [] n 8 rfl
  rw [e, encE_all]
  refine ⟨?_, this.2.1, this.2.2⟩
  rw [show ((8 : Int)) = ((8 : Nat) : Int) from rfl, this.1]
  exact Nat.mod_eq_of_lt (by simpa using hn)

theorem takeL_cut (ls : List (List UInt8)) (n K : Nat) (h1 : encE ls ls.length ≤ K) (h2 : K < encE ls ls.length + 8) :
    takeN ((encL ls ++ beL n 8).take K) (encE ls ls.length) 8 = 0 ∧ takeX ((encL ls ++ beL n 8).take K) (encE ls ls.length) 8 = 0 ∧ takeE ((encL ls ++ beL n 8).take K) (encE ls ls.length) 8 = 5 := by
  have hlen : ((encL ls ++ beL n 8).take K).length = K := by rw [List.length_take, List.length_append, beL_length, ← encE_all]; omega
  have hm : takeMay ((encL ls ++ beL n 8).take K) (encE ls ls.length) 8 := ⟨rfl, by omega, by rw [hlen]; omega⟩
  have h3 : ¬ ((8 : Int) ≤ (((encL ls ++ beL n 8).take K).length : Int) - (encE ls ls.length : Int)) := by rw [hlen]; omega
  refine ⟨?_, ?_, ?_⟩
  · unfold takeN; rw [if_neg fun q => h3 q.2]
  · unfold takeX; rw [if_neg fun q => h3 q.2]
  · unfold takeE; rw [if_pos hm, if_neg h3]

/-- A slice of byte slices that reads as these byte strings. -/
def Bss (w : World) (v : Value) (ls : List (List UInt8)) : Prop :=
  ∃ a cap, v = .slice a ls.length cap ∧ ls.length ≤ cap ∧ cap ≤ maxLen ∧ (a = none → cap = 0) ∧
    ∀ ad, a = some ad → ∀ i l, ls[i]? = some l → ∃ u, w.cell? (ad.add i) = some u ∧ Bs w u l

theorem Bss.shape {w : World} {v : Value} {ls : List (List UInt8)} (h : Bss w v ls) : ∃ a cap, v = .slice a ls.length cap ∧ Bss w (.slice a ls.length cap) ls := by
  obtain ⟨a, cap, rfl, r⟩ := h
  exact ⟨a, cap, rfl, a, cap, rfl, r⟩

theorem Bss.open {w : World} {v : Value} {ls : List (List UInt8)} (h : Bss w v ls) (hne : 0 < ls.length) : ∃ b o cap, v = .slice (some ⟨b, o, none⟩) ls.length cap ∧ ls.length ≤ cap ∧ b < w.heap.size ∧
    ∀ i l, ls[i]? = some l → ∃ a c, w.cell? ⟨b, o + i, none⟩ = some (.slice a l.length c) ∧ Bs w (.slice a l.length c) l := by
  obtain ⟨a, cap, rfl, h1, h2, h3, h4⟩ := h
  rcases a with _ | ⟨b, o, s⟩
  · have := h3 rfl; omega
  · obtain ⟨u, h0, _⟩ := h4 _ rfl 0 ls[0] (List.getElem?_eq_getElem hne)
    have hs : s = none := by simpa [Addr.add] using World.cell?_spot h0
    subst hs
    refine ⟨b, o, cap, rfl, h1, ?_, fun i l hl => ?_⟩
    · simpa [Addr.add] using World.block_lt_of_cell? w _ h0
    · obtain ⟨u, hu, hb⟩ := h4 _ rfl i l hl
      rw [Addr.add_lit] at hu
      obtain ⟨a, c, rfl, hb⟩ := hb.shape
      exact ⟨a, c, hu, hb⟩

section
variable {H : Type} {enc : TypeId × Value → H}
theorem bs_of_trod {W : World} {n : Nat} {v : Value} {x : DataW H × List MemPlace} (h : DataW.trod enc Try.prog W 0 (fun _ => true) true n 22 [v] = some x) : ∃ l, Bs W v l := by
  rcases open_ints Try.underlying22 Try.underlying5 (by kernel_rfl) h with ⟨hcs, _⟩ | ⟨a, l, c, zs, hcs, _, hl, hm, hz, _, hcell, hwz⟩
  · simp at hcs
    subst hcs
    exact ⟨[], Bs.nil W⟩
  · simp at hcs
    subst hcs
    exact isRow_bs (zs := zs) (.inr ⟨_, rfl, hl, hm, by simpa using hz, hcell, hwz⟩)

theorem bss_of_trod {W : World} {n : Nat} {v : Value} {x : DataW H × List MemPlace} (h : DataW.trod enc Try.prog W 0 (fun _ => true) true n 42 [v] = some x) : ∃ ls, Bss W v ls := by
  rcases Deep.open_slice1 Try.underlying42 (by kernel_rfl) h with ⟨hcs, _⟩ | ⟨a, len, cap, m, k, V, D, Pl, hcs, _, hl, hm, hmm, _, hx⟩
  · simp at hcs
    subst hcs
    exact ⟨[], none, 0, rfl, Nat.le_refl _, Nat.zero_le _, fun _ => rfl, fun _ h => by cases h⟩
  · simp at hcs
    subst hcs
    simp only [if_true] at hmm
    subst hmm
    obtain ⟨f, hf⟩ := Deep.choose_lt (α := List UInt8) (p := fun i l => Bs W (V i) l) fun i hi => bs_of_trod (hx i hi).2
    refine ⟨(List.range len).map f, some a, m, by simp, by simpa using hl, hm, (fun h => by cases h), fun ad had i l hi => ?_⟩
    cases had
    have hlt : i < len := by
      have := (List.getElem?_eq_some_iff.1 hi).1
      simpa using this
    refine ⟨V i, (hx i (by omega)).1, ?_⟩
    have e : l = f i := by simpa [hlt] using hi.symm
    rw [e]
    exact hf i (by omega)
end
end Go.Proofs.Ytnfmbggffmloeaa
