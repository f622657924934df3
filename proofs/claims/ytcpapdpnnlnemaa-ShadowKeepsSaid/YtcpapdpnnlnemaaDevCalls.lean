/- Contracts of the device's calls that do not turn what is loose: ready, has, spend, Size, Power, Read, Arm, Off; each answers as the chapter says; condition: a device lies in memory, or the pointer is nil. -/
import Derived.Test.YtcpapdpnnlnemaaDevRel
namespace Go.Proofs.Ytcpapdpnnlnemaa
open Go.RowKit Go.Maps


section
variable {w : World} {b : Nat} {D : Dv} {F : Nat → Prop}

theorem ready_nil (w : World) : Calls Try.prog 34 #[.pointer none] w fun e w' => e = .returned (err 2) ∧ w = w' := by
  go_enter Try.func34, Try.ntmps34
  go_wp2
  go_ret
  exact ⟨rfl, rfl⟩

theorem ready_on (h : Dev w b D F) (ho : D.on = true) : Calls Try.prog 34 #[ptr b] w fun e w' => e = .returned (err 0) ∧ w = w' := by
  obtain ⟨sb, mb, sv, lv, Dm, h⟩ := h
  have c2 := h.cells.2.2.1
  rw [ho] at c2
  clear h ho
  go_enter Try.func34, Try.ntmps34
  go_wp2
  go_ret
  exact ⟨rfl, rfl⟩

theorem ready_off (h : Dev w b D F) (ho : D.on = false) : Calls Try.prog 34 #[ptr b] w fun e w' => e = .returned (err 8) ∧ w = w' := by
  obtain ⟨sb, mb, sv, lv, Dm, h⟩ := h
  have c2 := h.cells.2.2.1
  rw [ho] at c2
  clear h ho
  go_enter Try.func34, Try.ntmps34
  go_wp2
  go_ret
  exact ⟨rfl, rfl⟩

theorem has_yes (h : Dev w b D F) (k : Nat) (hk : k < D.bk.length) : Calls Try.prog 37 #[ptr b, .int .i64 (k : Int)] w fun e w' => e = .returned (.bool true) ∧ w = w' := by
  obtain ⟨sb, mb, sv, lv, Dm, h⟩ := h
  have c0 := h.cells.1
  have hf := h.few
  have ht : ((k : Int) < (D.bk.length : Int)) := by omega
  clear h
  go_enter Try.func37, Try.ntmps37
  go_wp2
  go_ret
  exact ⟨rfl, rfl⟩

theorem has_no (h : Dev w b D F) (k : Int) (hk : k < 0 ∨ (D.bk.length : Int) ≤ k) : Calls Try.prog 37 #[ptr b, .int .i64 k] w fun e w' => e = .returned (.bool false) ∧ w = w' := by
  obtain ⟨sb, mb, sv, lv, Dm, h⟩ := h
  have c0 := h.cells.1
  have hf := h.few
  by_cases h0 : k < 0
  · have ht : decide (0 ≤ k) = false := by simp; omega
    clear h hk
    go_enter Try.func37, Try.ntmps37
    go_wp2
    go_ret
    exact ⟨rfl, rfl⟩
  · have h1 : 0 ≤ k := by omega
    have ht : decide (k < (D.bk.length : Int)) = false := by simp; omega
    clear h hk h0
    go_enter Try.func37, Try.ntmps37
    go_wp2
    go_ret
    exact ⟨rfl, rfl⟩

theorem size_any (h : Dev w b D F) : Calls Try.prog 26 #[ptr b] w fun e w' => e = .returned (.int .i64 (D.bk.length : Nat)) ∧ w = w' := by
  obtain ⟨sb, mb, sv, lv, Dm, h⟩ := h
  have c0 := h.cells.1
  clear h
  go_enter Try.func26, Try.ntmps26
  go_wp2
  go_ret
  exact ⟨rfl, rfl⟩

theorem size_nil (w : World) : Calls Try.prog 26 #[.pointer none] w fun e w' => e = .returned (.int .i64 0) ∧ w = w' := by
  go_enter Try.func26, Try.ntmps26
  go_wp2
  go_ret
  exact ⟨rfl, rfl⟩

/-! ### what turns the head alone -/
/-- The head says now whether it is on, and how many are left; nothing else has turned. -/
def Headed (w : World) (b : Nat) (D : Dv) (F : Nat → Prop) (w' : World) : Prop :=
  ∀ sb mb sv lv Dm D0, D0.bk = D.bk → DevAt w b sb mb sv lv Dm D0 F → DevAt w' b sb mb sv lv Dm D F ∧ Only (· = b) w w'

theorem Headed.dev {D0 : Dv} {w' : World} (h : Headed w b D F w') (hd : Dev w b D0 F) (he : D0.bk = D.bk) : Dev w' b D F ∧ Only (· = b) w w' := by
  obtain ⟨sb, mb, sv, lv, Dm, hd⟩ := hd
  obtain ⟨h1, h2⟩ := h _ _ _ _ _ _ he hd
  exact ⟨⟨_, _, _, _, _, h1⟩, h2⟩

theorem headed_cell2 (h : Dev w b D F) (on : Bool) : Headed w b ⟨D.bk, on, D.left⟩ F (w.setCell ⟨b, 2, none⟩ (.bool on)) := by
  obtain ⟨sb1, mb1, sv1, lv1, Dm1, h⟩ := h
  intro sb mb sv lv Dm D0 he hd
  have ho : Only (· = b) w (w.setCell ⟨b, 2, none⟩ (.bool on)) := (Only.refl (· = b) w).setCell (p := ⟨b, 2, none⟩) (.inl rfl) _
  have e := (hd.head.inj h.head).1
  simp only [List.cons.injEq, Value.int.injEq, and_true, true_and] at e
  refine ⟨?_, ho⟩
  have := hd.rehead (on := on) (left := D0.left) (hd.head.set 2 (.bool on)) ho hd.low hd.high
  rw [he, e.2.2.2] at this
  exact this

theorem headed_cell3 (h : Dev w b D F) (left : Int) (h1 : -1 ≤ left) (h2 : left ≤ 9223372036854775807) : Headed w b ⟨D.bk, D.on, left⟩ F (w.setCell ⟨b, 3, none⟩ (.int .i64 left)) := by
  obtain ⟨sb1, mb1, sv1, lv1, Dm1, h⟩ := h
  intro sb mb sv lv Dm D0 he hd
  have ho : Only (· = b) w (w.setCell ⟨b, 3, none⟩ (.int .i64 left)) := (Only.refl (· = b) w).setCell (p := ⟨b, 3, none⟩) (.inl rfl) _
  have e := (hd.head.inj h.head).1
  simp only [List.cons.injEq, Value.bool.injEq, and_true] at e
  refine ⟨?_, ho⟩
  have := hd.rehead (on := D0.on) (left := left) (hd.head.set 3 (.int .i64 left)) ho h1 h2
  rw [he, e.2.2.1] at this
  exact this

theorem headed_refl (h : Dev w b D F) : Headed w b D F w := by
  obtain ⟨sb1, mb1, sv1, lv1, Dm1, h⟩ := h
  intro sb mb sv lv Dm D0 he hd
  have e := (hd.head.inj h.head).1
  simp only [List.cons.injEq, Value.bool.injEq, Value.int.injEq, and_true, true_and] at e
  obtain ⟨bk0, on0, left0⟩ := D0
  obtain ⟨bk, on, left⟩ := D
  simp only at he e
  obtain ⟨_, _, rfl, rfl⟩ := e
  subst he
  exact ⟨hd, Only.refl _ _⟩

theorem spend_dies (h : Dev w b D F) (hl : D.left = 0) : Calls Try.prog 38 #[ptr b] w fun e w' => e = .returned (err 8) ∧ Headed w b ⟨D.bk, false, D.left⟩ F w' := by
  have hh := headed_cell2 h false
  obtain ⟨sb, mb, sv, lv, Dm, h⟩ := h
  obtain ⟨_, _, c2, c3, _, f2, _⟩ := h.cells
  rw [hl] at c3
  have HH := Lib.hid hh
  clear h hl hh
  go_enter Try.func38, Try.ntmps38
  go_wp2
  go_ret
  exact ⟨rfl, HH.out⟩

theorem spent_pos {n : Int} (h : 0 < n) : spent n = n - 1 := if_pos h
theorem spent_neg {n : Int} (h : n < 0) : spent n = n := if_neg (by omega)

theorem spend_goes (h : Dev w b D F) (hl : D.left ≠ 0) : Calls Try.prog 38 #[ptr b] w fun e w' => e = .returned (err 0) ∧ Headed w b ⟨D.bk, D.on, spent D.left⟩ F w' := by
  have h0 := h
  obtain ⟨sb, mb, sv, lv, Dm, h⟩ := h
  obtain ⟨_, _, c2, c3, _, f2, f3⟩ := h.cells
  have hlow := h.low
  have hhigh := h.high
  rcases Int.lt_or_gt_of_ne hl with hlt | hgt
  · have he : (D.left == 0) = false := by simpa using hl
    have hs : Headed w b ⟨D.bk, D.on, D.left⟩ F w := headed_refl h0
    rw [spent_neg hlt]
    have HH := Lib.hid hs
    have hd : decide (0 < D.left) = false := by simp; omega
    clear h h0 hl hs
    generalize D.left = left at *
    go_enter Try.func38, Try.ntmps38
    go_wp2
    go_ret
    exact ⟨rfl, HH.out⟩
  · have he : (D.left == 0) = false := by simpa using hl
    have hs := headed_cell3 h0 (D.left - 1) (by omega) (by omega)
    rw [spent_pos hgt]
    have HH := Lib.hid hs
    clear h h0 hl hs
    generalize D.left = left at *
    go_enter Try.func38, Try.ntmps38
    go_wp2
    go_ret
    exact ⟨rfl, HH.out⟩

theorem off_nil (w : World) : Calls Try.prog 15 #[.pointer none] w fun e w' => e = .returned (err 2) ∧ w = w' := by
  go_enter Try.func15, Try.ntmps15
  go_wp2_with fail
  refine (ready_nil _).mono ?_
  rintro e w1 ⟨rfl, rfl⟩
  go_wp2
  go_ret
  exact ⟨rfl, rfl⟩

theorem off_off (h : Dev w b D F) (ho : D.on = false) : Calls Try.prog 15 #[ptr b] w fun e w' => e = .returned (err 8) ∧ w = w' := by
  go_enter Try.func15, Try.ntmps15
  go_wp2_with fail
  refine (ready_off h ho).mono ?_
  rintro e w1 ⟨rfl, rfl⟩
  go_wp2
  go_ret
  exact ⟨rfl, rfl⟩

theorem off_on (h : Dev w b D F) (ho : D.on = true) : Calls Try.prog 15 #[ptr b] w fun e w' => e = .returned (err 0) ∧ Dev w' b ⟨D.bk, false, D.left⟩ F ∧ Only (· = b) w w' := by
  have hh := (headed_cell2 h false).dev h rfl
  have c := h
  obtain ⟨sb, mb, sv, lv, Dm, c⟩ := c
  obtain ⟨_, _, c2, _, _, f2, _⟩ := c.cells
  have HH := Lib.hid hh
  have HO := Lib.hid ho
  clear c hh ho
  go_enter Try.func15, Try.ntmps15
  go_wp2_with fail
  refine (ready_on h HO.out).mono ?_
  rintro e w1 ⟨rfl, rfl⟩
  go_wp2
  go_ret
  exact ⟨rfl, HH.out⟩

theorem arm_nil (n : Int) (w : World) : Calls Try.prog 13 #[.pointer none, .int .i64 n] w fun e w' => e = .returned (err 2) ∧ w = w' := by
  go_enter Try.func13, Try.ntmps13
  go_wp2_with fail
  refine (ready_nil _).mono ?_
  rintro e w1 ⟨rfl, rfl⟩
  go_wp2
  go_ret
  exact ⟨rfl, rfl⟩

theorem arm_off (h : Dev w b D F) (ho : D.on = false) (n : Int) : Calls Try.prog 13 #[ptr b, .int .i64 n] w fun e w' => e = .returned (err 8) ∧ w = w' := by
  go_enter Try.func13, Try.ntmps13
  go_wp2_with fail
  refine (ready_off h ho).mono ?_
  rintro e w1 ⟨rfl, rfl⟩
  go_wp2
  go_ret
  exact ⟨rfl, rfl⟩

theorem arm_on (h : Dev w b D F) (ho : D.on = true) (n : Int) (hn : n ≤ 9223372036854775807) :
    Calls Try.prog 13 #[ptr b, .int .i64 n] w fun e w' => e = .returned (err 0) ∧ Dev w' b ⟨D.bk, D.on, max n (-1)⟩ F ∧ Only (· = b) w w' := by
  have hh := (headed_cell3 h (max n (-1)) (by omega) (by omega)).dev h rfl
  have c := h
  obtain ⟨sb, mb, sv, lv, Dm, c⟩ := c
  obtain ⟨_, _, _, c3, _, _, f3⟩ := c.cells
  have HO := Lib.hid ho
  clear c ho
  by_cases hm : -1 ≤ n
  · rw [Int.max_eq_left hm] at hh ⊢
    have HH := Lib.hid hh
    clear hh
    go_enter Try.func13, Try.ntmps13
    go_wp2_with fail
    refine (ready_on h HO.out).mono ?_
    rintro e w1 ⟨rfl, rfl⟩
    go_wp2
    go_ret
    exact ⟨rfl, HH.out⟩
  · rw [Int.max_eq_right (by omega)] at hh ⊢
    have HH := Lib.hid hh
    clear hh
    go_enter Try.func13, Try.ntmps13
    go_wp2_with fail
    refine (ready_on h HO.out).mono ?_
    rintro e w1 ⟨rfl, rfl⟩
    go_wp2
    go_ret
    exact ⟨rfl, HH.out⟩
end
end Go.Proofs.Ytcpapdpnnlnemaa
