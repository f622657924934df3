/- Pages side by side with two rows of bools that a statement keeps of them; condition: all was made by the statement itself. -/
import Derived.Test.YtdmcknankcbjiaaPgSteps
namespace Go.Proofs.Ytdmcknankcbjiaa
open Go.RowKit

/-- Was it taken since all settled? -/
def tkn (x : Pg) : Bool := !x.1 && x.2

/-- Pages behind b, a row of bools each in blocks tb and nb. -/
def Kp (w0 w : World) (b tb nb : Nat) (l : List Pg) (th tk : List Bool) : Prop :=
  ∃ F, Pgs w b l F ∧ Cel w tb (bools th) 4 ∧ Cel w nb (bools tk) 4 ∧ tb ≠ nb ∧ ¬ F tb ∧ ¬ F nb ∧ (∀ q, F q → w0.heap.size ≤ q) ∧ w0.heap.size ≤ tb ∧ w0.heap.size ≤ nb ∧ Below w0.heap.size w0 w
/-- .. and they tell what was old and what was taken. -/
def Kq (w0 w : World) (b tb nb : Nat) (l : List Pg) : Prop := Kp w0 w b tb nb l (l.map (·.1)) (l.map tkn) ∧ l.length = 40

section
variable {w0 w w' : World} {b tb nb : Nat} {l : List Pg} {th tk : List Bool}

theorem Kp.bel (h : Kp w0 w b tb nb l th tk) : Below w0.heap.size w0 w := let ⟨_, _, _, _, _, _, _, _, _, _, h⟩ := h; h
theorem Kp.drew (h : Kp w0 w b tb nb l th tk) : Kp w0 w.drew b tb nb l th tk :=
  let ⟨F, h1, h2, h3, h4, h5, h6, h7, h8, h9, h10⟩ := h
  ⟨F, h1.kept (fun _ _ => rfl) (Nat.le_refl _), h2, h3, h4, h5, h6, h7, h8, h9, h10.drew⟩
theorem Kp.step (h : Kp w0 w b tb nb l th tk) : ∃ F, Pgs w b l F ∧ ∀ w' l', Pgs w' b l' F → Only F w w' → Kp w0 w' b tb nb l' th tk :=
  let ⟨F, h1, h2, h3, h4, h5, h6, h7, h8, h9, h10⟩ := h
  ⟨F, h1, fun _ _ hp ho => ⟨F, hp, h2.only ho h5, h3.only ho h6, h4, h5, h6, h7, h8, h9, h10.trans (ho.below h10.size h7)⟩⟩
theorem Kp.atT (h : Kp w0 w b tb nb l th tk) {k : Nat} {c : Bool} (hc : th[k]? = some c) : w.cell? ⟨tb, k, none⟩ = some (.bool c) ∧ w.frozen? ⟨tb, k, none⟩ = false := by
  obtain ⟨F, h1, h2, h3, h4, h5, h6, h7, h8, h9, h10⟩ := h
  refine ⟨?_, h2.frozen k⟩
  rw [h2.cell]
  simp [bools, hc]
theorem Kp.atK (h : Kp w0 w b tb nb l th tk) {k : Nat} {c : Bool} (hc : tk[k]? = some c) : w.cell? ⟨nb, k, none⟩ = some (.bool c) ∧ w.frozen? ⟨nb, k, none⟩ = false := by
  obtain ⟨F, h1, h2, h3, h4, h5, h6, h7, h8, h9, h10⟩ := h
  refine ⟨?_, h3.frozen k⟩
  rw [h3.cell]
  simp [bools, hc]
theorem Kp.setT (h : Kp w0 w b tb nb l th tk) (k : Nat) (c : Bool) : Kp w0 (w.setCell ⟨tb, k, none⟩ (.bool c)) b tb nb l (th.set k c) tk := by
  obtain ⟨F, h1, h2, h3, h4, h5, h6, h7, h8, h9, h10⟩ := h
  have hk : ∀ q, q ≠ tb → (w.setCell ⟨tb, k, none⟩ (.bool c)).heap[q]? = w.heap[q]? := fun q hq => Below.heap_setCell w ⟨tb, k, none⟩ (.bool c) q hq
  refine ⟨F, h1.kept (fun q hq => hk q (fun e => h5 (e ▸ hq))) (by simp [World.setCell]), ?_, h3.kept (hk nb (fun e => h4 e.symm)), h4, h5, h6, h7, h8, h9, h10.setCell (p := ⟨tb, k, none⟩) h8 _⟩
  have := h2.set k (.bool c)
  unfold bools at *
  rw [List.map_set]
  exact this
theorem Kp.setK (h : Kp w0 w b tb nb l th tk) (k : Nat) (c : Bool) : Kp w0 (w.setCell ⟨nb, k, none⟩ (.bool c)) b tb nb l th (tk.set k c) := by
  obtain ⟨F, h1, h2, h3, h4, h5, h6, h7, h8, h9, h10⟩ := h
  have hk : ∀ q, q ≠ nb → (w.setCell ⟨nb, k, none⟩ (.bool c)).heap[q]? = w.heap[q]? := fun q hq => Below.heap_setCell w ⟨nb, k, none⟩ (.bool c) q hq
  refine ⟨F, h1.kept (fun q hq => hk q (fun e => h6 (e ▸ hq))) (by simp [World.setCell]), h2.kept (hk tb h4), ?_, h4, h5, h6, h7, h8, h9, h10.setCell (p := ⟨nb, k, none⟩) h9 _⟩
  have := h3.set k (.bool c)
  unfold bools at *
  rw [List.map_set]
  exact this

theorem k_take (h : Kp w0 w b tb nb l th tk) : Calls Try.prog 10 #[ptr b] w fun e w' => e = .returned (.tuple #[.int .i64 (tpage l), err (tcode l)]) ∧ Kp w0 w' b tb nb (tdone l) th tk := by
  obtain ⟨F, h1, h2⟩ := h.step
  refine (take_any h1).mono ?_
  rintro e w' ⟨rfl, hp, ho⟩
  exact ⟨rfl, h2 _ _ hp ho⟩
theorem k_use (h : Kp w0 w b tb nb l th tk) (k : Int) : Calls Try.prog 12 #[ptr b, .int .i64 k] w fun e w' => e = .returned (err (ucode l k)) ∧ Kp w0 w' b tb nb (udone l k) th tk := by
  obtain ⟨F, h1, h2⟩ := h.step
  refine (use_any h1 k).mono ?_
  rintro e w' ⟨rfl, hp, ho⟩
  exact ⟨rfl, h2 _ _ hp ho⟩
theorem k_drop (h : Kp w0 w b tb nb l th tk) (k : Int) : Calls Try.prog 14 #[ptr b, .int .i64 k] w fun e w' => e = .returned (err (rcode l k)) ∧ Kp w0 w' b tb nb (rdone l k) th tk := by
  obtain ⟨F, h1, h2⟩ := h.step
  refine (drop_any h1 k).mono ?_
  rintro e w' ⟨rfl, hp, ho⟩
  exact ⟨rfl, h2 _ _ hp ho⟩
theorem k_back (h : Kp w0 w b tb nb l th tk) : Calls Try.prog 19 #[ptr b] w fun e w' => e = .returned (err 0) ∧ Kp w0 w' b tb nb (backP l) th tk := by
  obtain ⟨F, h1, h2⟩ := h.step
  refine (back_any h1).mono ?_
  rintro e w' ⟨rfl, hp, ho⟩
  exact ⟨rfl, h2 _ _ hp ho⟩
theorem k_state (h : Kp w0 w b tb nb l th tk) (k : Int) : Calls Try.prog 23 #[ptr b, .int .i64 k] w fun e w' => e = .returned (.int .u8 (stateP l k : Nat)) ∧ w = w' := let ⟨_, h1, _⟩ := h.step; state_any h1 k

end
end Go.Proofs.Ytdmcknankcbjiaa
