/- Take, Use, Drop, Settle, Back and New of package pages: each answers and leaves what the chapter says; condition: pages lie in memory. -/
import Derived.Test.YtdmcknankcbjiaaPgCalls
namespace Go.Proofs.Ytdmcknankcbjiaa
open Go.RowKit

section
variable {w : World} {b sb : Nat} {l : List Pg} {F : Nat → Prop}

set_option maxHeartbeats 400000 in
theorem index_any (h : PgAt w b sb l F) : Calls Try.prog 25 #[.slice (some ⟨sb, 0, none⟩) l.length l.length, .int .u8 0] w
    fun e w' => e = .returned (.int .i64 (ixP l)) ∧ w = w' := by
  have hf := h.few
  have HH := Lib.hid h
  clear h
  go_enter Try.func25, Try.ntmps25
  go_wp2
  go_loopw [5, 8] (fun _ i wr => ∃ j : Nat, j ≤ l.length ∧ i = .int .i64 j ∧ (∀ (q : Nat) (y : Pg), q < j → l[q]? = some y → pnum y ≠ 0) ∧ wr = w) (fun _ i _ => l.length - (intOf i).toNat)
  case atStart => exact ⟨0, Nat.zero_le _, rfl, fun q y hq => absurd hq (Nat.not_lt_zero _), rfl⟩
  case round =>
    obtain ⟨j, hj, rfl, hall, rfl⟩ := hrel
    by_cases hlt : j < l.length
    · obtain ⟨x, hx⟩ : ∃ x, l[j]? = some x := ⟨_, List.getElem?_eq_getElem hlt⟩
      obtain ⟨c1, _⟩ := HH.out.at hx
      have hil : (j : Int) < (l.length : Int) := by omega
      by_cases hp : pnum x = 0
      · have hr := ixP_some (least_of hx hp hall)
        rw [hp] at c1
        have HR := Lib.hid hr
        clear hr hx hp hall
        go_wp2
        go_ret
        exact ⟨by rw [HR.out]; rfl, rfl⟩
      · have HS := Lib.hid (show ∀ (q : Nat) (y : Pg), q < j + 1 → l[q]? = some y → pnum y ≠ 0 from fun q y hq hy => by
          by_cases e : q = j
          · subst e
            rw [hx] at hy
            cases hy
            exact hp
          · exact hall q y (by omega) hy)
        have hpb : ((0 : Int) == ((pnum x : Nat) : Int)) = false := by rw [beq_eq_false_iff_ne]; omega
        have hpn : ¬ (0 : Int) = ((pnum x : Nat) : Int) := by omega
        clear hx hp hall
        generalize pnum x = p at *
        go_wp2
        go_roundw
        case rel => exact ⟨j + 1, by omega, by go_num, HS.out, by trivial⟩
        case measure => simp [intOf]; omega
    · obtain rfl : j = l.length := by omega
      have hr := ixP_none (least_of_none (l := l) (fun q y hy => hall q y (List.getElem?_eq_some_iff.1 hy).1 hy))
      have HR := Lib.hid hr
      clear hr hall
      go_wp2
      go_ret
      exact ⟨by rw [HR.out]; rfl, rfl⟩

set_option maxHeartbeats 400000 in
theorem take_any (h : Pgs w b l F) : Calls Try.prog 10 #[ptr b] w fun e w' => e = .returned (.tuple #[.int .i64 (tpage l), err (tcode l)]) ∧ Pgs w' b (tdone l) F ∧ Only F w w' := by
  obtain ⟨sb, h⟩ := h
  have hix := index_any h
  have c0 := h.top
  have hf := h.few
  unfold tpage tcode tdone
  rcases hl : leastFree l with _ | k
  · rw [ixP_none hl] at hix
    have HH := Lib.hid (show Pgs w b l F ∧ Only F w w from ⟨⟨sb, h⟩, Only.refl _ _⟩)
    clear h hl
    go_enter Try.func10, Try.ntmps10
    go_wp2_with fail
    refine hix.mono ?_
    rintro e w1 ⟨rfl, rfl⟩
    go_wp2
    go_ret2
    exact ⟨rfl, HH.out⟩
  · rw [ixP_some hl] at hix
    obtain ⟨x, hx, _⟩ := least_some hl
    obtain ⟨c1, f1⟩ := h.at hx
    have hk := (List.getElem?_eq_some_iff.1 hx).1
    have hs := h.set k (false, true)
    have HH := Lib.hid (show Pgs (w.setCell ⟨sb, k, none⟩ (.int .u8 2)) b (l.set k (false, true)) F ∧ Only F w (w.setCell ⟨sb, k, none⟩ (.int .u8 2)) from ⟨⟨sb, hs⟩, h.only k _⟩)
    have h0 : ¬ (k : Int) < 0 := by omega
    have hd0 : decide ((k : Int) < 0) = false := by simp
    have hlt : (k : Int) < (l.length : Int) := by omega
    clear h hl hx hs
    simp only at hix ⊢
    go_enter Try.func10, Try.ntmps10
    go_wp2_with fail
    refine hix.mono ?_
    rintro e w1 ⟨rfl, rfl⟩
    go_wp2
    go_ret2
    exact ⟨rfl, HH.out⟩

set_option maxHeartbeats 400000 in
theorem use_any (h : Pgs w b l F) (k : Int) : Calls Try.prog 12 #[ptr b, .int .i64 k] w (PSteps w b F (ucode l k) (udone l k)) := by
  unfold ucode udone PSteps
  have h0 := h
  rcases hk : pgAt l k with _ | x
  · have HH := Lib.hid h
    go_enter Try.func12, Try.ntmps12
    go_wp2_with fail
    refine (known_no h hk).mono ?_
    rintro e w1 ⟨rfl, rfl⟩
    go_wp2
    go_ret
    exact ⟨rfl, HH.out, Only.refl _ _⟩
  · obtain ⟨n, rfl, hn, hx⟩ := pgAt_some hk
    obtain ⟨sb, h⟩ := h
    have c0 := h.top
    obtain ⟨c1, f1⟩ := h.at hx
    have hf := h.few
    have hlt : (n : Int) < (l.length : Int) := by omega
    have hs := h.set n (true, true)
    have HH := Lib.hid (And.intro h0 (show Pgs (w.setCell ⟨sb, n, none⟩ (.int .u8 1)) b (l.set n (true, true)) F ∧ Only F w (w.setCell ⟨sb, n, none⟩ (.int .u8 1)) from ⟨⟨sb, hs⟩, h.only n _⟩))
    simp only [Int.toNat_natCast]
    by_cases hp : pnum x = 0
    · rw [hp] at c1
      rw [if_pos hp, if_pos hp]
      clear h hk hx hs hp
      go_enter Try.func12, Try.ntmps12
      go_wp2_with fail
      refine (known_yes h0 n hn).mono ?_
      rintro e w1 ⟨rfl, rfl⟩
      go_wp2
      go_ret
      exact ⟨rfl, HH.out.2⟩
    · rw [if_neg hp, if_neg hp]
      have hpb : (((pnum x : Nat) : Int) == 0) = false := by simpa using hp
      have hpn : ¬ ((pnum x : Nat) : Int) = 0 := by omega
      clear h hk hx hs hp
      generalize pnum x = p at *
      go_enter Try.func12, Try.ntmps12
      go_wp2_with fail
      refine (known_yes h0 n hn).mono ?_
      rintro e w1 ⟨rfl, rfl⟩
      go_wp2
      go_ret
      exact ⟨rfl, HH.out.1, Only.refl _ _⟩

set_option maxHeartbeats 400000 in
theorem drop_any (h : Pgs w b l F) (k : Int) : Calls Try.prog 14 #[ptr b, .int .i64 k] w (PSteps w b F (rcode l k) (rdone l k)) := by
  unfold rcode rdone PSteps
  have h0 := h
  rcases hk : pgAt l k with _ | x
  · have HH := Lib.hid h
    go_enter Try.func14, Try.ntmps14
    go_wp2_with fail
    refine (known_no h hk).mono ?_
    rintro e w1 ⟨rfl, rfl⟩
    go_wp2
    go_ret
    exact ⟨rfl, HH.out, Only.refl _ _⟩
  · obtain ⟨n, rfl, hn, hx⟩ := pgAt_some hk
    obtain ⟨sb, h⟩ := h
    have c0 := h.top
    obtain ⟨c1, f1⟩ := h.at hx
    have hf := h.few
    have hlt : (n : Int) < (l.length : Int) := by omega
    have hs0 := h.set n (false, false)
    have hs3 := h.set n (true, false)
    have HH := Lib.hid (And.intro h0 (And.intro (show Pgs (w.setCell ⟨sb, n, none⟩ (.int .u8 0)) b (l.set n (false, false)) F ∧ Only F w (w.setCell ⟨sb, n, none⟩ (.int .u8 0)) from ⟨⟨sb, hs0⟩, h.only n _⟩)
      (show Pgs (w.setCell ⟨sb, n, none⟩ (.int .u8 3)) b (l.set n (true, false)) F ∧ Only F w (w.setCell ⟨sb, n, none⟩ (.int .u8 3)) from ⟨⟨sb, hs3⟩, h.only n _⟩)))
    simp only [Int.toNat_natCast]
    clear h hk hx hs0 hs3
    rcases x with ⟨_ | _, _ | _⟩ <;> simp only [pnum] at c1 <;> simp only [if_true, Bool.false_eq_true, if_false]
    · go_enter Try.func14, Try.ntmps14
      go_wp2_with fail
      refine (known_yes h0 n hn).mono ?_
      rintro e w1 ⟨rfl, rfl⟩
      go_wp2
      go_ret
      exact ⟨rfl, HH.out.1, Only.refl _ _⟩
    · go_enter Try.func14, Try.ntmps14
      go_wp2_with fail
      refine (known_yes h0 n hn).mono ?_
      rintro e w1 ⟨rfl, rfl⟩
      go_wp2
      go_ret
      exact ⟨rfl, HH.out.2.1⟩
    · go_enter Try.func14, Try.ntmps14
      go_wp2_with fail
      refine (known_yes h0 n hn).mono ?_
      rintro e w1 ⟨rfl, rfl⟩
      go_wp2
      go_ret
      exact ⟨rfl, HH.out.1, Only.refl _ _⟩
    · go_enter Try.func14, Try.ntmps14
      go_wp2_with fail
      refine (known_yes h0 n hn).mono ?_
      rintro e w1 ⟨rfl, rfl⟩
      go_wp2
      go_ret
      exact ⟨rfl, HH.out.2.2⟩

/-- The first j pages have ended. -/
def endsTo (f : Pg → Pg) (l : List Pg) (j : Nat) : List Pg := (l.take j).map f ++ l.drop j
theorem endsTo_length (f : Pg → Pg) (l : List Pg) (j : Nat) : (endsTo f l j).length = l.length := by simp [endsTo]; omega
theorem endsTo_at (f : Pg → Pg) {l : List Pg} {j : Nat} {x : Pg} (h : l[j]? = some x) : (endsTo f l j)[j]? = some x := by
  have hj := (List.getElem?_eq_some_iff.1 h).1
  unfold endsTo
  rw [List.getElem?_append_right (by simp only [List.length_map, List.length_take]; omega)]
  simp [Nat.min_eq_left (Nat.le_of_lt hj), h]
theorem endsTo_set (f : Pg → Pg) {l : List Pg} {j : Nat} {x : Pg} (h : l[j]? = some x) : (endsTo f l j).set j (f x) = endsTo f l (j + 1) := by
  have hj := (List.getElem?_eq_some_iff.1 h).1
  have hx := (List.getElem?_eq_some_iff.1 h).2
  unfold endsTo
  rw [List.set_append_right _ _ (by simp only [List.length_map, List.length_take]; omega)]
  have e1 : j - ((l.take j).map f).length = 0 := by simp only [List.length_map, List.length_take]; omega
  rw [e1, List.drop_eq_getElem_cons hj, List.set_cons_zero, List.take_add_one, h]
  simp
theorem endsTo_same (f : Pg → Pg) {l : List Pg} {j : Nat} {x : Pg} (h : l[j]? = some x) (hf : f x = x) : endsTo f l (j + 1) = endsTo f l j := by
  rw [← endsTo_set f h, hf]
  have := endsTo_at f h
  obtain ⟨hl, e⟩ := List.getElem?_eq_some_iff.1 this
  conv => lhs; rw [← e]
  exact List.set_getElem_self hl
theorem endsTo_all (f : Pg → Pg) (l : List Pg) : endsTo f l l.length = l.map f := by simp [endsTo]
theorem endsTo_zero (f : Pg → Pg) (l : List Pg) : endsTo f l 0 = l := by simp [endsTo]

/-- What Settle and Back make of each. -/
def endsAs (p q : Nat) (f : Pg → Pg) : Prop := p = pnum (f (false, true)) ∧ q = pnum (f (true, false)) ∧ f (false, false) = (false, false) ∧ f (true, true) = (true, true)

set_option maxHeartbeats 800000 in
theorem end_any (h : Pgs w b l F) (p q : Nat) (f : Pg → Pg) (hfs : endsAs p q f) : Calls Try.prog 27 #[ptr b, .int .u8 (p : Int), .int .u8 (q : Int)] w (PSteps w b F 0 (l.map f)) := by
  unfold PSteps
  obtain ⟨sb, h⟩ := h
  have c0 := h.top
  have hf := h.few
  have HH := Lib.hid (And.intro h hfs)
  clear h hfs
  go_enter Try.func27, Try.ntmps27
  go_wp2
  clear c0
  go_loopw [7, 8, 16] (fun _ _ i wr => ∃ j : Nat, j ≤ l.length ∧ i = .int .i64 j ∧ PgAt wr b sb (endsTo f l j) F ∧ Only F w wr) (fun _ _ i _ => l.length - (intOf i).toNat)
  case atStart => exact ⟨0, Nat.zero_le _, rfl, by rw [endsTo_zero]; exact HH.out.1, Only.refl _ _⟩
  case round =>
    obtain ⟨j, hj, rfl, hpg, hon⟩ := hrel
    by_cases hlt : j < l.length
    · obtain ⟨x, hx⟩ : ∃ x, l[j]? = some x := ⟨_, List.getElem?_eq_getElem hlt⟩
      have c0 := hpg.top
      rw [endsTo_length] at c0
      obtain ⟨c1, f1⟩ := hpg.at (endsTo_at f hx)
      have hil : (j : Int) < (l.length : Int) := by omega
      have hsame := fun (e : f x = x) => endsTo_same f hx e
      have hset := endsTo_set f hx
      have hs := hpg.set j (f x)
      rw [hset] at hs
      have ho := hon.trans (hpg.only j (pv (f x)))
      obtain ⟨e1, e2, e3, e4⟩ := HH.out.2
      have H2 := Lib.hid (And.intro hpg (And.intro hon (And.intro hs ho)))
      clear hpg hon hs ho hset hx
      rcases x with ⟨_ | _, _ | _⟩
      · have h3 := Lib.hid (hsame e3)
        clear hsame e1 e2 e3 e4
        simp only [pnum] at c1
        go_wp2
        go_roundw
        case rel => exact ⟨j + 1, by omega, by go_num, by rw [h3.out]; exact H2.out.1, H2.out.2.1⟩
        case measure => simp [intOf]; omega
      · have h3 := Lib.hid e1
        clear hsame e1 e2 e3 e4
        simp only [pnum] at c1
        go_wp2
        go_roundw
        case rel => exact ⟨j + 1, by omega, by go_num, by have := H2.out.2.2.1; unfold pv at this; rw [← h3.out] at this; exact this, by have := H2.out.2.2.2; unfold pv at this; rw [← h3.out] at this; exact this⟩
        case measure => simp [intOf]; omega
      · have h3 := Lib.hid e2
        clear hsame e1 e2 e3 e4
        simp only [pnum] at c1
        go_wp2
        go_roundw
        case rel => exact ⟨j + 1, by omega, by go_num, by have := H2.out.2.2.1; unfold pv at this; rw [← h3.out] at this; exact this, by have := H2.out.2.2.2; unfold pv at this; rw [← h3.out] at this; exact this⟩
        case measure => simp [intOf]; omega
      · have h3 := Lib.hid (hsame e4)
        clear hsame e1 e2 e3 e4
        simp only [pnum] at c1
        go_wp2
        go_roundw
        case rel => exact ⟨j + 1, by omega, by go_num, by rw [h3.out]; exact H2.out.1, H2.out.2.1⟩
        case measure => simp [intOf]; omega
    · obtain rfl : j = l.length := by omega
      rw [endsTo_all] at hpg
      have H2 := Lib.hid (And.intro hpg hon)
      clear hpg hon
      go_wp2
      go_ret
      exact ⟨rfl, ⟨sb, H2.out.1⟩, H2.out.2⟩

theorem settle_any (h : Pgs w b l F) : Calls Try.prog 17 #[ptr b] w (PSteps w b F 0 (settledP l)) := by
  have he := end_any h 1 0 (fun x => (x.2, x.2)) ⟨rfl, rfl, rfl, rfl⟩
  go_enter Try.func17, Try.ntmps17
  go_wp2_with fail
  refine he.mono ?_
  rintro e w1 ⟨rfl, hp, ho⟩
  clear he
  go_wp2
  go_ret
  exact ⟨rfl, hp, ho⟩
theorem back_any (h : Pgs w b l F) : Calls Try.prog 19 #[ptr b] w (PSteps w b F 0 (backP l)) := by
  have he := end_any h 0 1 (fun x => (x.1, x.1)) ⟨rfl, rfl, rfl, rfl⟩
  go_enter Try.func19, Try.ntmps19
  go_wp2_with fail
  refine he.mono ?_
  rintro e w1 ⟨rfl, hp, ho⟩
  clear he
  go_wp2
  go_ret
  exact ⟨rfl, hp, ho⟩
end
end Go.Proofs.Ytdmcknankcbjiaa
