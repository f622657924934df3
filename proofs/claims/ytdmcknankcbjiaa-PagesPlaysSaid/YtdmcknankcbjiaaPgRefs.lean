/- Contracts of the document's pages: each call answers and leaves what the chapter says; condition: pages lie in memory. -/
import Derived.Test.YtdmcknankcbjiaaPgNew
namespace Go.Proofs.Ytdmcknankcbjiaa
open Go.RowKit

section
variable {w : World} {b : Nat} {l : List Pg} {G : Nat → Prop}

def RSteps (w : World) (b : Nat) (F : Nat → Prop) (c : Int) (l : List Pg) (e : Ending) (w' : World) : Prop := e = .returned (err c) ∧ Rps w' b l F ∧ Only F w w'
def RDone (w : World) (b : Nat) (F : Nat → Prop) (l : List Pg) (e : Ending) (w' : World) : Prop := e = .returned (.tuple #[]) ∧ Rps w' b l F ∧ Only F w w'

def RTakes (w : World) (b : Nat) (F : Nat → Prop) (l : List Pg) (e : Ending) (w' : World) : Prop := e = .returned (.tuple #[.int .i64 (tpage l), err (tcode l)]) ∧ Rps w' b (tdone l) F ∧ Only F w w'
theorem rtakes_some {w' : World} {k : Nat} (hl : leastFree l = some k) (h : Rps w' b (l.set k (false, true)) G) (ho : Only G w w') : RTakes w b G l (.returned (.tuple #[.int .i64 k, err 0])) w' := by
  unfold RTakes tpage tcode tdone
  rw [hl]
  exact ⟨rfl, h, ho⟩
theorem rtakes_none (hl : leastFree l = none) (h : Rps w b l G) : RTakes w b G l (.returned (.tuple #[.int .i64 0, err 7])) w := by
  unfold RTakes tpage tcode tdone
  rw [hl]
  exact ⟨rfl, h, Only.refl _ _⟩

theorem Rps.pos (h : Rps w b l G) : 0 < l.length := let ⟨_, _, h⟩ := h; h.pos
theorem Rps.few (h : Rps w b l G) : l.length ≤ 4096 := let ⟨_, _, h⟩ := h; h.few
theorem Rps.fb (h : Rps w b l G) : G b := let ⟨_, _, h⟩ := h; h.fb

set_option maxHeartbeats 400000 in
theorem rstate_any (h : Rps w b l G) (k : Int) : Calls Try.prog 24 #[ptr b, .int .i64 k] w fun e w' => e = .returned (.int .u8 (stateP l k : Nat)) ∧ w = w' := by
  unfold stateP
  obtain ⟨tb, nb, h⟩ := h
  have c0 := h.top
  have hf := h.few
  rcases hk : pgAt l k with _ | x
  · have hk := pgAt_none hk
    by_cases h0 : k < 0
    · clear h hk
      go_enter Try.func24, Try.ntmps24
      go_wp2
      go_ret
      exact ⟨rfl, rfl⟩
    · have h1 : decide (k < 0) = false := by simp; omega
      have h2 : (l.length : Int) ≤ k := by omega
      clear h hk h0
      go_enter Try.func24, Try.ntmps24
      go_wp2
      go_ret
      exact ⟨rfl, rfl⟩
  · obtain ⟨n, rfl, hn, hx⟩ := pgAt_some hk
    obtain ⟨c1, c2, _, _⟩ := h.at hx
    have h1 : decide ((n : Int) < 0) = false := by simp
    have h2 : decide ((l.length : Int) ≤ n) = false := by simp; omega
    have hlt : (n : Int) < (l.length : Int) := by omega
    clear h hk hx
    rcases x with ⟨_ | _, _ | _⟩ <;> simp only at c1 c2 <;> simp only [pnum]
    all_goals
      go_enter Try.func24, Try.ntmps24
      go_wp2
      go_ret
      exact ⟨rfl, rfl⟩

set_option maxHeartbeats 400000 in
theorem rtake_any (h : Rps w b l G) : Calls Try.prog 11 #[ptr b] w (RTakes w b G l) := by
  have h0 := h
  obtain ⟨tb, nb, h⟩ := h
  have c0 := h.top
  have hf := h.few
  have HH := Lib.hid (And.intro h h0)
  clear h h0
  go_enter Try.func11, Try.ntmps11
  go_wp2
  go_loopw [4] (fun i wr => ∃ j : Nat, j ≤ l.length ∧ i = .int .i64 j ∧ (∀ (q : Nat) (y : Pg), q < j → l[q]? = some y → pnum y ≠ 0) ∧ wr = w) (fun i _ => l.length - (intOf i).toNat)
  case atStart => exact ⟨0, Nat.zero_le _, rfl, fun q y hq => absurd hq (Nat.not_lt_zero _), rfl⟩
  case round =>
    obtain ⟨j, hj, rfl, hall, rfl⟩ := hrel
    by_cases hlt : j < l.length
    · obtain ⟨x, hx⟩ : ∃ x, l[j]? = some x := ⟨_, List.getElem?_eq_getElem hlt⟩
      obtain ⟨c1, c2, f1, f2⟩ := HH.out.1.at hx
      have hil : (j : Int) < (l.length : Int) := by omega
      have hst := rstate_any HH.out.2 (j : Int)
      have hsp : stateP l (j : Int) = pnum x := by simp [stateP, pgAt_nat, hx]
      rw [hsp] at hst
      by_cases hp : pnum x = 0
      · have hl := least_of hx hp hall
        have hx0 := pnum_free.1 hp
        have hs := HH.out.1.setNow hx true
        rw [hx0] at hs
        have ho : Only G wr (wr.setCell ⟨nb, j, none⟩ (.bool true)) := (Only.refl G wr).setCell (p := ⟨nb, j, none⟩) (.inl HH.out.1.fn) _
        have HR := Lib.hid (And.intro hl (And.intro hs ho))
        rw [hp] at hst
        clear hl hs ho hx hp hall hsp hx0
        go_wp2_with fail
        refine hst.mono ?_
        rintro e w1 ⟨rfl, rfl⟩
        clear hst
        go_wp2
        go_ret2
        exact rtakes_some HR.out.1 ⟨tb, nb, HR.out.2.1⟩ HR.out.2.2
      · have HS := Lib.hid (show ∀ (q : Nat) (y : Pg), q < j + 1 → l[q]? = some y → pnum y ≠ 0 from fun q y hq hy => by
          by_cases e : q = j
          · subst e
            rw [hx] at hy
            cases hy
            exact hp
          · exact hall q y (by omega) hy)
        have hpb : (((pnum x : Nat) : Int) == 0) = false := by simpa using hp
        have hpn : ¬ ((pnum x : Nat) : Int) = 0 := by omega
        clear hx hp hall hsp
        generalize pnum x = p at *
        go_wp2_with fail
        refine hst.mono ?_
        rintro e w1 ⟨rfl, rfl⟩
        clear hst
        go_wp2
        go_roundw
        case rel => exact ⟨j + 1, by omega, by go_num, HS.out, by trivial⟩
        case measure => simp [intOf]; omega
    · obtain rfl : j = l.length := by omega
      have HR := Lib.hid (least_of_none (l := l) (fun q y hy => hall q y (List.getElem?_eq_some_iff.1 hy).1 hy))
      clear hall
      go_wp2
      go_ret2
      exact rtakes_none HR.out HH.out.2

set_option maxHeartbeats 400000 in
theorem ruse_any (h : Rps w b l G) (k : Int) : Calls Try.prog 13 #[ptr b, .int .i64 k] w (RSteps w b G (ucode l k) (udone l k)) := by
  unfold ucode udone
  have h0 := h
  obtain ⟨tb, nb, h⟩ := h
  have c0 := h.top
  have hf := h.few
  have hst := rstate_any h0 k
  rcases hk : pgAt l k with _ | x
  · have hk := pgAt_none hk
    have HH := Lib.hid (show RSteps w b G 1 l (.returned (err 1)) w from ⟨rfl, h0, Only.refl _ _⟩)
    by_cases hn : k < 0
    · clear h hk h0 hst
      simp only
      go_enter Try.func13, Try.ntmps13
      go_wp2
      go_ret
      exact HH.out
    · have h1 : decide (k < 0) = false := by simp; omega
      have h2 : (l.length : Int) ≤ k := by omega
      clear h hk h0 hn hst
      simp only
      go_enter Try.func13, Try.ntmps13
      go_wp2
      go_ret
      exact HH.out
  · obtain ⟨n, rfl, hn, hx⟩ := pgAt_some hk
    obtain ⟨c1, c2, f1, f2⟩ := h.at hx
    have h1 : decide ((n : Int) < 0) = false := by simp
    have h2 : decide ((l.length : Int) ≤ n) = false := by simp; omega
    have hlt : (n : Int) < (l.length : Int) := by omega
    have hsp : stateP l (n : Int) = pnum x := by simp [stateP, pgAt_nat, hx]
    rw [hsp] at hst
    simp only [Int.toNat_natCast]
    by_cases hp : pnum x = 0
    · obtain rfl := pnum_free.1 hp
      have s1 := h.setThen hx true
      have hx1 : (l.set n (true, false))[n]? = some (true, false) := List.getElem?_set_self hn
      have s2 := s1.setNow hx1 true
      rw [List.set_set] at s2
      have g0 := s1.top
      rw [List.length_set] at g0
      obtain ⟨_, g1, _, g2⟩ := s1.at hx1
      have o2 := ((Only.refl G w).setCell (p := ⟨tb, n, none⟩) (.inl h.ft) (.bool true)).setCell (p := ⟨nb, n, none⟩) (.inl h.fn) (.bool true)
      rw [if_pos hp, if_pos hp]
      have HH := Lib.hid (And.intro s2 o2)
      simp only [hp] at hst
      clear h hk h0 hp hsp hx hx1 s1 s2 o2
      go_enter Try.func13, Try.ntmps13
      go_wp2_with fail
      refine hst.mono ?_
      rintro e w1 ⟨rfl, rfl⟩
      clear hst
      go_wp2
      go_ret
      exact ⟨rfl, ⟨tb, nb, HH.out.1⟩, HH.out.2⟩
    · rw [if_neg hp, if_neg hp]
      have hpb : (((pnum x : Nat) : Int) == 0) = false := by simpa using hp
      have hpn : ¬ ((pnum x : Nat) : Int) = 0 := by omega
      have HH := Lib.hid h0
      clear h hk h0 hp hsp hx
      generalize pnum x = p at *
      go_enter Try.func13, Try.ntmps13
      go_wp2_with fail
      refine hst.mono ?_
      rintro e w1 ⟨rfl, rfl⟩
      clear hst
      go_wp2
      go_ret
      exact ⟨rfl, HH.out, Only.refl _ _⟩

set_option maxHeartbeats 400000 in
theorem rdrop_any (h : Rps w b l G) (k : Int) : Calls Try.prog 15 #[ptr b, .int .i64 k] w (RSteps w b G (rcode l k) (rdone l k)) := by
  unfold rcode rdone
  have h0 := h
  obtain ⟨tb, nb, h⟩ := h
  have c0 := h.top
  have hf := h.few
  rcases hk : pgAt l k with _ | x
  · have hk := pgAt_none hk
    have HH := Lib.hid (show RSteps w b G 1 l (.returned (err 1)) w from ⟨rfl, h0, Only.refl _ _⟩)
    by_cases hn : k < 0
    · clear h hk h0
      simp only
      go_enter Try.func15, Try.ntmps15
      go_wp2
      go_ret
      exact HH.out
    · have h1 : decide (k < 0) = false := by simp; omega
      have h2 : (l.length : Int) ≤ k := by omega
      clear h hk h0 hn
      simp only
      go_enter Try.func15, Try.ntmps15
      go_wp2
      go_ret
      exact HH.out
  · obtain ⟨n, rfl, hn, hx⟩ := pgAt_some hk
    obtain ⟨c1, c2, f1, f2⟩ := h.at hx
    have h1 : decide ((n : Int) < 0) = false := by simp
    have h2 : decide ((l.length : Int) ≤ n) = false := by simp; omega
    have hlt : (n : Int) < (l.length : Int) := by omega
    have s1 := h.setNow hx false
    have o1 := (Only.refl G w).setCell (p := ⟨nb, n, none⟩) (.inl h.fn) (.bool false)
    have HH := Lib.hid (And.intro h0 (And.intro s1 o1))
    clear h hk h0 hx s1 o1
    rcases x with ⟨t, _ | _⟩ <;> simp only at c1 c2 <;> simp only [Int.toNat_natCast, if_true, Bool.false_eq_true, if_false]
    · go_enter Try.func15, Try.ntmps15
      go_wp2
      go_ret
      exact ⟨rfl, HH.out.1, Only.refl _ _⟩
    · go_enter Try.func15, Try.ntmps15
      go_wp2
      go_ret
      exact ⟨rfl, ⟨tb, nb, HH.out.2.1⟩, HH.out.2.2⟩

set_option maxHeartbeats 400000 in
theorem rfree_any (h : Rps w b l G) : Calls Try.prog 22 #[ptr b] w fun e w' => e = .returned (.int .i64 (freeP l : Nat)) ∧ w = w' := by
  have h0 := h
  obtain ⟨tb, nb, h⟩ := h
  have c0 := h.top
  have hf := h.few
  have HH := Lib.hid h0
  clear h h0
  go_enter Try.func22, Try.ntmps22
  go_wp2
  go_loopw [3, 4] (fun n i wr => ∃ j : Nat, j ≤ l.length ∧ i = .int .i64 j ∧ n = .int .i64 (freeP (l.take j) : Nat) ∧ wr = w) (fun _ i _ => l.length - (intOf i).toNat)
  case atStart => exact ⟨0, Nat.zero_le _, rfl, rfl, rfl⟩
  case round =>
    obtain ⟨j, hj, rfl, rfl, rfl⟩ := hrel
    by_cases hlt : j < l.length
    · obtain ⟨x, hx⟩ : ∃ x, l[j]? = some x := ⟨_, List.getElem?_eq_getElem hlt⟩
      have hil : (j : Int) < (l.length : Int) := by omega
      have hst := rstate_any HH.out (j : Int)
      have hsp : stateP l (j : Int) = pnum x := by simp [stateP, pgAt_nat, hx]
      rw [hsp] at hst
      have hle : freeP (l.take j) ≤ 4096 := by
        have := freeP_le (l.take j)
        rw [List.length_take] at this
        omega
      have hs : freeP (l.take (j + 1)) = freeP (l.take j) + if pnum x = 0 then 1 else 0 := by
        unfold freeP
        rw [List.take_add_one, hx, List.countP_append]
        simp
      by_cases hp : pnum x = 0
      · rw [if_pos hp] at hs
        rw [hp] at hst
        have HS := Lib.hid hs
        clear hs hx hp hsp
        generalize freeP (l.take j) = m at *
        go_wp2_with fail
        refine hst.mono ?_
        rintro e w1 ⟨rfl, rfl⟩
        clear hst
        go_wp2
        go_roundw
        case rel => exact ⟨j + 1, by omega, by go_num, by rw [HS.out]; go_num, by trivial⟩
        case measure => simp [intOf]; omega
      · rw [if_neg hp] at hs
        have HS := Lib.hid hs
        have hp' : ((pnum x : Nat) : Int) ≠ 0 := by omega
        have hpb : (((pnum x : Nat) : Int) == 0) = false := by simpa using hp
        clear hs hx hp hsp
        generalize freeP (l.take j) = m at *
        generalize pnum x = p at *
        go_wp2_with fail
        refine hst.mono ?_
        rintro e w1 ⟨rfl, rfl⟩
        clear hst
        go_wp2
        go_roundw
        case rel => exact ⟨j + 1, by omega, by go_num, by rw [HS.out]; go_num, by trivial⟩
        case measure => simp [intOf]; omega
    · obtain rfl : j = l.length := by omega
      rw [List.take_length]
      go_wp2
      go_ret
      exact ⟨rfl, rfl⟩

set_option maxHeartbeats 400000 in
theorem rsettle_any (h : Rps w b l G) : Calls Try.prog 16 #[ptr b] w (RDone w b G (settledP l)) := by
  obtain ⟨tb, nb, h⟩ := h
  have c0 := h.top
  have hf := h.few
  have HH := Lib.hid h
  clear h
  go_enter Try.func16, Try.ntmps16
  go_wp2
  clear c0
  go_loopw [2] (fun i wr => ∃ j : Nat, j ≤ l.length ∧ i = .int .i64 j ∧ RpAt wr b tb nb (endsTo (fun x => (x.2, x.2)) l j) G ∧ Only G w wr) (fun i _ => l.length - (intOf i).toNat)
  case atStart => exact ⟨0, Nat.zero_le _, rfl, by rw [endsTo_zero]; exact HH.out, Only.refl _ _⟩
  case round =>
    obtain ⟨j, hj, rfl, hpg, hon⟩ := hrel
    by_cases hlt : j < l.length
    · obtain ⟨x, hx⟩ : ∃ x, l[j]? = some x := ⟨_, List.getElem?_eq_getElem hlt⟩
      have c0 := hpg.top
      rw [endsTo_length] at c0
      obtain ⟨c1, c2, f1, f2⟩ := hpg.at (endsTo_at _ hx)
      have hil : (j : Int) < (l.length : Int) := by omega
      have hi0 : (0 : Int) ≤ (j : Int) := by omega
      have hs := hpg.setThen (endsTo_at _ hx) x.2
      rw [endsTo_set (fun x => (x.2, x.2)) hx] at hs
      have ho := hon.trans ((Only.refl G wr).setCell (p := ⟨tb, j, none⟩) (.inl hpg.ft) (.bool x.2))
      have H2 := Lib.hid (And.intro hs ho)
      clear hpg hon hs ho hx
      generalize x.2 = y at *
      go_wp2
      go_region
      all_goals go_wp2
      all_goals go_roundw
      case rel => exact ⟨j + 1, by omega, by go_num, H2.out.1.kept (fun _ _ => rfl) (Nat.le_refl _), H2.out.2.drew⟩
      case measure => simp [intOf]; omega
    · obtain rfl : j = l.length := by omega
      rw [endsTo_all] at hpg
      have c0 := hpg.top
      rw [List.length_map] at c0
      have H2 := Lib.hid (And.intro hpg hon)
      clear hpg hon
      go_wp2
      exact ⟨rfl, .tuple #[], by kernel_rfl, rfl, ⟨tb, nb, H2.out.1⟩, H2.out.2⟩
set_option maxHeartbeats 400000 in
theorem rback_any (h : Rps w b l G) : Calls Try.prog 18 #[ptr b] w (RDone w b G (backP l)) := by
  obtain ⟨tb, nb, h⟩ := h
  have c0 := h.top
  have hf := h.few
  have HH := Lib.hid h
  clear h
  go_enter Try.func18, Try.ntmps18
  go_wp2
  clear c0
  go_loopw [2] (fun i wr => ∃ j : Nat, j ≤ l.length ∧ i = .int .i64 j ∧ RpAt wr b tb nb (endsTo (fun x => (x.1, x.1)) l j) G ∧ Only G w wr) (fun i _ => l.length - (intOf i).toNat)
  case atStart => exact ⟨0, Nat.zero_le _, rfl, by rw [endsTo_zero]; exact HH.out, Only.refl _ _⟩
  case round =>
    obtain ⟨j, hj, rfl, hpg, hon⟩ := hrel
    by_cases hlt : j < l.length
    · obtain ⟨x, hx⟩ : ∃ x, l[j]? = some x := ⟨_, List.getElem?_eq_getElem hlt⟩
      have c0 := hpg.top
      rw [endsTo_length] at c0
      obtain ⟨c1, c2, f1, f2⟩ := hpg.at (endsTo_at _ hx)
      have hil : (j : Int) < (l.length : Int) := by omega
      have hi0 : (0 : Int) ≤ (j : Int) := by omega
      have hs := hpg.setNow (endsTo_at _ hx) x.1
      rw [endsTo_set (fun x => (x.1, x.1)) hx] at hs
      have ho := hon.trans ((Only.refl G wr).setCell (p := ⟨nb, j, none⟩) (.inl hpg.fn) (.bool x.1))
      have H2 := Lib.hid (And.intro hs ho)
      clear hpg hon hs ho hx
      generalize x.1 = y at *
      go_wp2
      go_region
      all_goals go_wp2
      all_goals go_roundw
      case rel => exact ⟨j + 1, by omega, by go_num, H2.out.1.kept (fun _ _ => rfl) (Nat.le_refl _), H2.out.2.drew⟩
      case measure => simp [intOf]; omega
    · obtain rfl : j = l.length := by omega
      rw [endsTo_all] at hpg
      have c0 := hpg.top
      rw [List.length_map] at c0
      have H2 := Lib.hid (And.intro hpg hon)
      clear hpg hon
      go_wp2
      exact ⟨rfl, .tuple #[], by kernel_rfl, rfl, ⟨tb, nb, H2.out.1⟩, H2.out.2⟩
end
end Go.Proofs.Ytdmcknankcbjiaa
