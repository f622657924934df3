/- Stands of the document's block; condition: its row of strings lies in memory. -/
import Derived.Test.YtcgecjedgbmmkaaRefRel
namespace Go.Proofs.Ytcgecjedgbmmkaa
open Go.RowKit Go.Maps

set_option maxRecDepth 100000 in
theorem rstands_any {w : World} {F : Nat → Prop} {v : Value} {s : Bytes} {ls : List Bytes} (h : RowS w F v ls) :
    Calls Try.prog 38 #[.agg #[str s, v]] w fun e w' => e = .returned (str (Bk.stands ⟨s, ls⟩)) ∧ Below w.heap.size w w' := by
  obtain ⟨a, cap, rfl⟩ := h.shape
  have hbel : ∀ o, Below w.heap.size w (w.alloc o) := fun o => (Below.refl _ _).alloc (Nat.le_refl _) o
  cases hl : ls with
  | nil =>
    have e : Bk.stands ⟨s, []⟩ = s := rfl
    rw [e]
    subst hl
    have HB := Lib.hid hbel
    clear hbel e h
    generalize hs : str s = S
    clear hs
    go_enter Try.func38, Try.ntmps38
    go_wp2
    go_ret
    exact ⟨rfl, HB.out _⟩
  | cons y t =>
    have hpos : ls.length = t.length + 1 := by rw [hl]; rfl
    have hst := stands_slice (s := s) hpos
    rw [hl] at hst
    have hmax := h.len
    obtain ⟨g, cap', hv, hc⟩ := h.some (by omega)
    rw [hl] at hc
    have hcell := hc _ _ hst
    rw [hpos] at hmax hv
    rw [List.length_cons]
    rw [hv]
    have hlt := World.block_lt_of_cell? w _ hcell
    have HB := Lib.hid hbel
    generalize Bk.stands ⟨s, y :: t⟩ = S at *
    generalize t.length = m at *
    generalize hs : str s = S0
    generalize hs1 : str S = S1 at *
    clear hbel hst hc hpos hl hs hv h hs1
    have hcell2 : ∀ o, (w.alloc o).cell? ⟨g, m, none⟩ = some S1 := fun o => by
      have := (Below.refl w.heap.size w).alloc (Nat.le_refl _) o
      exact (World.cell?_of_block (this.block g hlt)).trans hcell
    go_enter Try.func38, Try.ntmps38
    go_wp2
    go_ret
    exact ⟨rfl, HB.out _⟩
end Go.Proofs.Ytcgecjedgbmmkaa
