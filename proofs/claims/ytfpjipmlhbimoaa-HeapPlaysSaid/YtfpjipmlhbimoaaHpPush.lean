/- What pushing and popping make of a heap's memory, the program's or the document's; condition: fewer than 2^32 things. -/
import Derived.Test.YtfpjipmlhbimoaaHpMem
namespace Go.Proofs.Ytfpjipmlhbimoaa
open Go.RowKit

section
variable {P : Program} {t tH tT : TypeId} {w w' : World} {b : Nat} {v : Value} {l : List Th} {F : Nat → Prop}
theorem HM.ro (h : HM tH tT w b v l F) : Ro kdTh tT w F v l := ⟨l, by simp [kdTh], h.row, fun _ _ => trivial, fun q hq => (h.2.2.1 q).2 (.inr hq)⟩
theorem HM.lit (h : HM tH tT w b v l F) (x : Th) : Ro kdTh tT (w.alloc (.cells #[.int .i64 x.1, .int .i64 x.2] tT)) F v l ∧ Rd kdTh (w.alloc (.cells #[.int .i64 x.1, .int .i64 x.2] tT)) F (.slice (some ⟨w.heap.size, 0, none⟩) 1 1) [x] := by
  have hb : Below w.heap.size w (w.alloc (.cells #[.int .i64 x.1, .int .i64 x.2] tT)) := (Below.refl _ _).alloc (Nat.le_refl _) _
  refine ⟨h.ro.below hb, ?_⟩
  have := rd_lit kdTh w tT F (fun q hq => h.lt hq) [x] #[.int .i64 x.1, .int .i64 x.2] rfl (fun _ _ => trivial) (by simp) (n := 1) rfl
  exact this
theorem HM.cel6 (h : HM tH tT w b v l F) {x : Th} {w6 : World} (h3 : (w.alloc (.cells #[.int .i64 x.1, .int .i64 x.2] tT)).grownBy w6 v.ownBlock) : w6.cell? ⟨b, 0, none⟩ = some v ∧ w6.frozen? ⟨b, 0, none⟩ = false := by
  have hc1 := h.cel.alloc (.cells #[.int .i64 x.1, .int .i64 x.2] tT)
  have hc := hc1.kept (h3.block b hc1.lt (fun e => h.2.2.2 b e.symm rfl))
  exact ⟨hc.cell 0, hc.frozen 0⟩
theorem HM.pushed (h : HM tH tT w b v l F) (x : Th) {v' : Value} {w6 : World} (h1 : Ro kdTh tT w6 (Sv F v') v' (l ++ [x])) (h2 : Step F (w.alloc (.cells #[.int .i64 x.1, .int .i64 x.2] tT)) w6 (Sv F v'))
    (h3 : (w.alloc (.cells #[.int .i64 x.1, .int .i64 x.2] tT)).grownBy w6 v.ownBlock) (h4 : v'.ownBlock = v.ownBlock ∨ v'.ownBlock = some (w.alloc (.cells #[.int .i64 x.1, .int .i64 x.2] tT)).heap.size) :
    ∃ F', HM tH tT (w6.setCell ⟨b, 0, none⟩ v') b v' (l ++ [x]) F' ∧ Step F w (w6.setCell ⟨b, 0, none⟩ v') F' := by
  have hz : (w.alloc (.cells #[.int .i64 x.1, .int .i64 x.2] tT)).heap.size = w.heap.size + 1 := by simp
  have hbl := h.cel.lt
  have hnb : ∀ q, v'.ownBlock = some q → q ≠ b := by
    intro q hq
    rcases h4 with e | e
    · exact h.2.2.2 q (by rw [← e]; exact hq)
    · rw [e] at hq
      cases hq
      omega
  have hcb : Cel w6 b [v] tH := by
    have hc1 := h.cel.alloc (.cells #[.int .i64 x.1, .int .i64 x.2] tT)
    exact hc1.kept (h3.block b hc1.lt (fun e => h.2.2.2 b e.symm rfl))
  obtain ⟨ts, e1, e2, _, _⟩ := h1
  have ets : ts = l ++ [x] := by
    rw [← e1]
    simp [kdTh]
  subst ets
  have hF : F b := (h.2.2.1 b).2 (.inl rfl)
  refine ⟨fun q => q = b ∨ v'.ownBlock = some q, ⟨by have := hcb.set 0 v'; exact this, Row.kept e2 (fun g hg => Below.heap_setCell _ _ _ _ (fun e => hnb g hg e)), fun q => Iff.rfl, hnb⟩, ?_⟩
  have s1 := (Step.refl F w).alloc (.cells #[.int .i64 x.1, .int .i64 x.2] tT)
  have s2 := s1.trans h2
  refine (s2.set (p := ⟨b, 0, none⟩) (.inl hF) v').weak fun q hq => ?_
  rcases hq with rfl | hq
  · exact .inl hF
  · exact .inr hq
/-- With fewer things. -/
theorem HM.fewer {g cap : Nat} (h : HM tH tT w b (.slice (some ⟨g, 0, none⟩) l.length cap) l F) {n : Nat} (hn : n ≤ l.length) :
    HM tH tT (w.setCell ⟨b, 0, none⟩ (.slice (some ⟨g, 0, none⟩) n cap)) b (.slice (some ⟨g, 0, none⟩) n cap) (l.take n) F := by
  have hnb := h.2.2.2 g rfl
  refine ⟨h.cel.set 0 _, Row.kept (h.row.fewer hn) (fun g' hg => Below.heap_setCell _ _ _ _ (fun e => ?_)), h.2.2.1, h.2.2.2⟩
  cases hg
  exact hnb e
/-- With another thing at a place. -/
theorem HM.set {g cap : Nat} (h : HM tH tT w b (.slice (some ⟨g, 0, none⟩) l.length cap) l F) {i : Nat} (hi : i < l.length) (x : Th) :
    HM tH tT ((w.setCell ⟨g, i * 2, none⟩ (.int .i64 x.1)).setCell ⟨g, i * 2 + 1, none⟩ (.int .i64 x.2)) b (.slice (some ⟨g, 0, none⟩) l.length cap) (l.set i x) F := by
  have hnb := h.2.2.2 g rfl
  exact ⟨(h.cel.kept (Below.heap_setCell _ _ _ _ (fun e => hnb e.symm))).kept (Below.heap_setCell _ _ _ _ (fun e => hnb e.symm)), h.row.set hi x, h.2.2⟩
theorem HM.only_set {g cap : Nat} (h : HM tH tT w b (.slice (some ⟨g, 0, none⟩) l.length cap) l F) {w0 W : World} (ho : Only F w0 W) (j : Nat) (u : Value) : Only F w0 (W.setCell ⟨g, j, none⟩ u) := ho.setCell (p := ⟨g, j, none⟩) (.inl ((h.2.2.1 g).2 (.inr rfl))) u
theorem HM.only_b (h : HM tH tT w b v l F) {w0 W : World} (ho : Only F w0 W) (u : Value) : Only F w0 (W.setCell ⟨b, 0, none⟩ u) := ho.setCell (p := ⟨b, 0, none⟩) (.inl ((h.2.2.1 b).2 (.inl rfl))) u
end
end Go.Proofs.Ytfpjipmlhbimoaa
