/- Contracts of package pages: each call answers as the chapter says, and writes nothing but the pages' states; condition: pages lie in memory, or the pointer is nil. -/
import Derived.Test.YtdmcknankcbjiaaPgRel
namespace Go.Proofs.Ytdmcknankcbjiaa
open Go.RowKit

section
variable {w : World} {b : Nat} {l : List Pg} {F : Nat → Prop}

/-- An error's number is answered, and the pages stand so. -/
def PSteps (w : World) (b : Nat) (F : Nat → Prop) (c : Int) (l : List Pg) (e : Ending) (w' : World) : Prop := e = .returned (err c) ∧ Pgs w' b l F ∧ Only F w w'

theorem known_nil (k : Int) (w : World) : Calls Try.prog 26 #[.pointer none, .int .i64 k] w fun e w' => e = .returned (err 2) ∧ w = w' := by
  go_enter Try.func26, Try.ntmps26
  go_wp2
  go_ret
  exact ⟨rfl, rfl⟩

theorem known_no (h : Pgs w b l F) {k : Int} (hk : pgAt l k = none) : Calls Try.prog 26 #[ptr b, .int .i64 k] w fun e w' => e = .returned (err 1) ∧ w = w' := by
  obtain ⟨sb, h⟩ := h
  have c0 := h.top
  have hf := h.few
  have hk := pgAt_none hk
  by_cases h0 : k < 0
  · clear h hk
    go_enter Try.func26, Try.ntmps26
    go_wp2
    go_ret
    exact ⟨rfl, rfl⟩
  · have h1 : decide (k < 0) = false := by simp; omega
    have h2 : (l.length : Int) ≤ k := by omega
    clear h hk h0
    go_enter Try.func26, Try.ntmps26
    go_wp2
    go_ret
    exact ⟨rfl, rfl⟩

theorem known_yes (h : Pgs w b l F) (k : Nat) (hk : k < l.length) : Calls Try.prog 26 #[ptr b, .int .i64 (k : Int)] w fun e w' => e = .returned (err 0) ∧ w = w' := by
  obtain ⟨sb, h⟩ := h
  have c0 := h.top
  have hf := h.few
  have h1 : decide ((k : Int) < 0) = false := by simp
  have h2 : decide ((l.length : Int) ≤ k) = false := by simp; omega
  clear h
  go_enter Try.func26, Try.ntmps26
  go_wp2
  go_ret
  exact ⟨rfl, rfl⟩

/-! ### nil -/
theorem take_nil (w : World) : Calls Try.prog 10 #[.pointer none] w fun e w' => e = .returned (.tuple #[.int .i64 0, err 2]) ∧ w = w' := by
  go_enter Try.func10, Try.ntmps10
  go_wp2
  go_ret2
  exact ⟨rfl, rfl⟩
theorem use_nil (k : Int) (w : World) : Calls Try.prog 12 #[.pointer none, .int .i64 k] w fun e w' => e = .returned (err 2) ∧ w = w' := by
  go_enter Try.func12, Try.ntmps12
  go_wp2_with fail
  refine (known_nil k _).mono ?_
  rintro e w1 ⟨rfl, rfl⟩
  go_wp2
  go_ret
  exact ⟨rfl, rfl⟩
theorem drop_nil (k : Int) (w : World) : Calls Try.prog 14 #[.pointer none, .int .i64 k] w fun e w' => e = .returned (err 2) ∧ w = w' := by
  go_enter Try.func14, Try.ntmps14
  go_wp2_with fail
  refine (known_nil k _).mono ?_
  rintro e w1 ⟨rfl, rfl⟩
  go_wp2
  go_ret
  exact ⟨rfl, rfl⟩
theorem end_nil (p q : Int) (w : World) : Calls Try.prog 27 #[.pointer none, .int .u8 p, .int .u8 q] w fun e w' => e = .returned (err 2) ∧ w = w' := by
  go_enter Try.func27, Try.ntmps27
  go_wp2
  go_ret
  exact ⟨rfl, rfl⟩
theorem settle_nil (w : World) : Calls Try.prog 17 #[.pointer none] w fun e w' => e = .returned (err 2) ∧ w = w' := by
  go_enter Try.func17, Try.ntmps17
  go_wp2_with fail
  refine (end_nil _ _ _).mono ?_
  rintro e w1 ⟨rfl, rfl⟩
  go_wp2
  go_ret
  exact ⟨rfl, rfl⟩
theorem back_nil (w : World) : Calls Try.prog 19 #[.pointer none] w fun e w' => e = .returned (err 2) ∧ w = w' := by
  go_enter Try.func19, Try.ntmps19
  go_wp2_with fail
  refine (end_nil _ _ _).mono ?_
  rintro e w1 ⟨rfl, rfl⟩
  go_wp2
  go_ret
  exact ⟨rfl, rfl⟩
theorem pgsize_nil (w : World) : Calls Try.prog 20 #[.pointer none] w fun e w' => e = .returned (.int .i64 0) ∧ w = w' := by
  go_enter Try.func20, Try.ntmps20
  go_wp2
  go_ret
  exact ⟨rfl, rfl⟩
theorem state_nil (k : Int) (w : World) : Calls Try.prog 23 #[.pointer none, .int .i64 k] w fun e w' => e = .returned (.int .u8 0) ∧ w = w' := by
  go_enter Try.func23, Try.ntmps23
  go_wp2_with fail
  refine (known_nil k _).mono ?_
  rintro e w1 ⟨rfl, rfl⟩
  go_wp2
  go_ret
  exact ⟨rfl, rfl⟩
theorem pgfree_nil (w : World) : Calls Try.prog 21 #[.pointer none] w fun e w' => e = .returned (.int .i64 0) ∧ w = w' := by
  go_enter Try.func21, Try.ntmps21
  go_wp2
  go_ret
  exact ⟨rfl, rfl⟩

/-! ### what only reads -/
theorem pgsize_any (h : Pgs w b l F) : Calls Try.prog 20 #[ptr b] w fun e w' => e = .returned (.int .i64 (l.length : Nat)) ∧ w = w' := by
  obtain ⟨sb, h⟩ := h
  have c0 := h.top
  clear h
  go_enter Try.func20, Try.ntmps20
  go_wp2
  go_ret
  exact ⟨rfl, rfl⟩

theorem state_any (h : Pgs w b l F) (k : Int) : Calls Try.prog 23 #[ptr b, .int .i64 k] w fun e w' => e = .returned (.int .u8 (stateP l k : Nat)) ∧ w = w' := by
  unfold stateP
  rcases hk : pgAt l k with _ | x
  · go_enter Try.func23, Try.ntmps23
    go_wp2_with fail
    refine (known_no h hk).mono ?_
    rintro e w1 ⟨rfl, rfl⟩
    go_wp2
    go_ret
    exact ⟨rfl, rfl⟩
  · obtain ⟨n, rfl, hn, hx⟩ := pgAt_some hk
    have h0 := h
    obtain ⟨sb, h⟩ := h
    have c0 := h.top
    obtain ⟨c1, _⟩ := h.at hx
    have hf := h.few
    have hlt : (n : Int) < (l.length : Int) := by omega
    simp only
    clear h hk hx
    generalize pnum x = p at *
    go_enter Try.func23, Try.ntmps23
    go_wp2_with fail
    refine (known_yes h0 n hn).mono ?_
    rintro e w1 ⟨rfl, rfl⟩
    go_wp2
    go_ret
    exact ⟨rfl, rfl⟩

set_option maxHeartbeats 400000 in
theorem pgfree_any (h : Pgs w b l F) : Calls Try.prog 21 #[ptr b] w fun e w' => e = .returned (.int .i64 (freeP l : Nat)) ∧ w = w' := by
  obtain ⟨sb, h⟩ := h
  have c0 := h.top
  have hf := h.few
  have HH := Lib.hid h
  clear h
  go_enter Try.func21, Try.ntmps21
  go_wp2
  go_loopw [3, 5, 13] (fun n _ i wr => ∃ j : Nat, j ≤ l.length ∧ i = .int .i64 j ∧ n = .int .i64 (freeP (l.take j) : Nat) ∧ wr = w) (fun _ _ i _ => l.length - (intOf i).toNat)
  case atStart => exact ⟨0, Nat.zero_le _, rfl, rfl, rfl⟩
  case round =>
    obtain ⟨j, hj, rfl, rfl, rfl⟩ := hrel
    by_cases hlt : j < l.length
    · obtain ⟨x, hx⟩ : ∃ x, l[j]? = some x := ⟨_, List.getElem?_eq_getElem hlt⟩
      obtain ⟨c1, _⟩ := HH.out.at hx
      have hil : (j : Int) < (l.length : Int) := by omega
      have hle : freeP (l.take j) ≤ 4096 := by
        have := freeP_le (l.take j)
        rw [List.length_take] at this
        omega
      have hs : freeP (l.take (j + 1)) = freeP (l.take j) + if pnum x = 0 then 1 else 0 := by
        unfold freeP
        rw [List.take_add_one, hx, List.countP_append]
        simp
      by_cases hp : pnum x = 0
      · rw [if_pos hp] at hs
        rw [hp] at c1
        have HS := Lib.hid hs
        clear hs hx hp
        generalize freeP (l.take j) = m at *
        go_wp2
        go_roundw
        case rel => exact ⟨j + 1, by omega, by go_num, by rw [HS.out]; go_num, by trivial⟩
        case measure => simp [intOf]; omega
      · rw [if_neg hp] at hs
        have HS := Lib.hid hs
        have hp' : ((pnum x : Nat) : Int) ≠ 0 := by omega
        have hpb : (((pnum x : Nat) : Int) == 0) = false := by simpa using hp
        clear hs hx hp
        generalize freeP (l.take j) = m at *
        generalize pnum x = p at *
        go_wp2
        go_roundw
        case rel => exact ⟨j + 1, by omega, by go_num, by rw [HS.out]; go_num, by trivial⟩
        case measure => simp [intOf]; omega
    · obtain rfl : j = l.length := by omega
      rw [List.take_length]
      go_wp2
      go_ret
      exact ⟨rfl, rfl⟩
end
end Go.Proofs.Ytdmcknankcbjiaa
