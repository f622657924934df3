/- What a statement's own pages are asked, alone or side by side with the document's; condition: what lies in memory was made by the statement itself. -/
import Derived.Test.YtdmcknankcbjiaaPgRefs
namespace Go.Proofs.Ytdmcknankcbjiaa
open Go.RowKit

/-- Pages that the walk made itself behind world w0. -/
def PMine (w0 w : World) (b : Nat) (l : List Pg) : Prop := ∃ F, Pgs w b l F ∧ (∀ q, F q → w0.heap.size ≤ q) ∧ Below w0.heap.size w0 w
/-- .. and the document's beside them. -/
def PR (w0 w : World) (b rb : Nat) (l m : List Pg) : Prop :=
  ∃ F G, Pgs w b l F ∧ Rps w rb m G ∧ (∀ q, F q → ¬ G q) ∧ (∀ q, F q → w0.heap.size ≤ q) ∧ (∀ q, G q → w0.heap.size ≤ q) ∧ Below w0.heap.size w0 w

section
variable {w0 w w' : World} {b rb : Nat} {l m : List Pg}

theorem PMine.bel (h : PMine w0 w b l) : Below w0.heap.size w0 w := let ⟨_, _, _, h⟩ := h; h
theorem PMine.drew (h : PMine w0 w b l) : PMine w0 w.drew b l := let ⟨F, h1, h2, h3⟩ := h; ⟨F, h1.kept (fun _ _ => rfl) (Nat.le_refl _), h2, h3.drew⟩
theorem PMine.later (h : PMine w0 w b l) (hb : Below w.heap.size w w') : PMine w0 w' b l := let ⟨F, h1, h2, h3⟩ := h; ⟨F, h1.below hb, h2, h3.trans (hb.mono h3.size)⟩
theorem PMine.step (h : PMine w0 w b l) : ∃ F, Pgs w b l F ∧ ∀ w' l', Pgs w' b l' F → Only F w w' → PMine w0 w' b l' :=
  let ⟨F, h1, h2, h3⟩ := h
  ⟨F, h1, fun _ _ hp ho => ⟨F, hp, h2, h3.trans (ho.below h3.size h2)⟩⟩
theorem PMine.length (h : PMine w0 w b l) : 0 < l.length ∧ l.length ≤ 4096 := let ⟨_, h1, _⟩ := h; ⟨h1.pos, h1.few⟩

theorem PR.bel (h : PR w0 w b rb l m) : Below w0.heap.size w0 w := let ⟨_, _, _, _, _, _, _, h⟩ := h; h
theorem PR.drew (h : PR w0 w b rb l m) : PR w0 w.drew b rb l m :=
  let ⟨F, G, h1, h2, h3, h4, h5, h6⟩ := h
  ⟨F, G, h1.kept (fun _ _ => rfl) (Nat.le_refl _), h2.kept (fun _ _ => rfl) (Nat.le_refl _), h3, h4, h5, h6.drew⟩
theorem PR.stepP (h : PR w0 w b rb l m) : ∃ F, Pgs w b l F ∧ ∀ w' l', Pgs w' b l' F → Only F w w' → PR w0 w' b rb l' m :=
  let ⟨F, G, h1, h2, h3, h4, h5, h6⟩ := h
  ⟨F, h1, fun _ _ hp ho => ⟨F, G, hp, h2.other ho (fun q hq hf => h3 q hf hq), h3, h4, h5, h6.trans (ho.below h6.size h4)⟩⟩
theorem PR.stepR (h : PR w0 w b rb l m) : ∃ G, Rps w rb m G ∧ ∀ w' m', Rps w' rb m' G → Only G w w' → PR w0 w' b rb l m' :=
  let ⟨F, G, h1, h2, h3, h4, h5, h6⟩ := h
  ⟨G, h2, fun _ _ hp ho => ⟨F, G, h1.other ho h3, hp, h3, h4, h5, h6.trans (ho.below h6.size h5)⟩⟩

/-! ### alone -/
theorem p_new (n : Nat) (w : World) (hb : Below w0.heap.size w0 w) (h1 : 1 ≤ n) (h2 : n ≤ 4096) : Calls Try.prog 8 #[.int .i64 (n : Int)] w fun e w' => ∃ b, e = .returned (.tuple #[ptr b, err 0]) ∧ PMine w0 w' b (freshP n) := by
  refine (pgnew_ok n w h1 h2).mono ?_
  rintro e w' ⟨b, rfl, hp, h⟩
  exact ⟨b, rfl, _, hp, fun q hq => Nat.le_trans hb.size hq.1, hb.trans (h.mono hb.size)⟩
theorem p_take (h : PMine w0 w b l) : Calls Try.prog 10 #[ptr b] w fun e w' => e = .returned (.tuple #[.int .i64 (tpage l), err (tcode l)]) ∧ PMine w0 w' b (tdone l) := by
  obtain ⟨F, h1, h2⟩ := h.step
  refine (take_any h1).mono ?_
  rintro e w' ⟨rfl, hp, ho⟩
  exact ⟨rfl, h2 _ _ hp ho⟩
theorem p_use (h : PMine w0 w b l) (k : Int) : Calls Try.prog 12 #[ptr b, .int .i64 k] w fun e w' => e = .returned (err (ucode l k)) ∧ PMine w0 w' b (udone l k) := by
  obtain ⟨F, h1, h2⟩ := h.step
  refine (use_any h1 k).mono ?_
  rintro e w' ⟨rfl, hp, ho⟩
  exact ⟨rfl, h2 _ _ hp ho⟩
theorem p_drop (h : PMine w0 w b l) (k : Int) : Calls Try.prog 14 #[ptr b, .int .i64 k] w fun e w' => e = .returned (err (rcode l k)) ∧ PMine w0 w' b (rdone l k) := by
  obtain ⟨F, h1, h2⟩ := h.step
  refine (drop_any h1 k).mono ?_
  rintro e w' ⟨rfl, hp, ho⟩
  exact ⟨rfl, h2 _ _ hp ho⟩
theorem p_settle (h : PMine w0 w b l) : Calls Try.prog 17 #[ptr b] w fun e w' => e = .returned (err 0) ∧ PMine w0 w' b (settledP l) := by
  obtain ⟨F, h1, h2⟩ := h.step
  refine (settle_any h1).mono ?_
  rintro e w' ⟨rfl, hp, ho⟩
  exact ⟨rfl, h2 _ _ hp ho⟩
theorem p_back (h : PMine w0 w b l) : Calls Try.prog 19 #[ptr b] w fun e w' => e = .returned (err 0) ∧ PMine w0 w' b (backP l) := by
  obtain ⟨F, h1, h2⟩ := h.step
  refine (back_any h1).mono ?_
  rintro e w' ⟨rfl, hp, ho⟩
  exact ⟨rfl, h2 _ _ hp ho⟩
theorem p_size (h : PMine w0 w b l) : Calls Try.prog 20 #[ptr b] w fun e w' => e = .returned (.int .i64 (l.length : Nat)) ∧ w = w' := let ⟨_, h1, _⟩ := h; pgsize_any h1
theorem p_state (h : PMine w0 w b l) (k : Int) : Calls Try.prog 23 #[ptr b, .int .i64 k] w fun e w' => e = .returned (.int .u8 (stateP l k : Nat)) ∧ w = w' := let ⟨_, h1, _⟩ := h; state_any h1 k
theorem p_free (h : PMine w0 w b l) : Calls Try.prog 21 #[ptr b] w fun e w' => e = .returned (.int .i64 (freeP l : Nat)) ∧ w = w' := let ⟨_, h1, _⟩ := h; pgfree_any h1

/-! ### side by side -/
theorem a_new (n : Nat) (h : PMine w0 w b l) (h1 : 1 ≤ n) (h2 : n ≤ 4096) : Calls Try.prog 9 #[.int .i64 (n : Int)] w fun e w' => ∃ rb, e = .returned (.tuple #[ptr rb, err 0]) ∧ PR w0 w' b rb l (freshP n) := by
  obtain ⟨F, g1, g2, g3⟩ := h
  refine (rpnew_ok n w h1 h2).mono ?_
  rintro e w' ⟨rb, rfl, hp, hb⟩
  exact ⟨rb, rfl, F, _, g1.below hb, hp, fun q hq hg => by have := g1.fl q hq; omega, g2, fun q hq => Nat.le_trans g3.size hq.1, g3.trans (hb.mono g3.size)⟩
theorem a_take (h : PR w0 w b rb l m) : Calls Try.prog 10 #[ptr b] w fun e w' => e = .returned (.tuple #[.int .i64 (tpage l), err (tcode l)]) ∧ PR w0 w' b rb (tdone l) m := by
  obtain ⟨F, h1, h2⟩ := h.stepP
  refine (take_any h1).mono ?_
  rintro e w' ⟨rfl, hp, ho⟩
  exact ⟨rfl, h2 _ _ hp ho⟩
theorem a_use (h : PR w0 w b rb l m) (k : Int) : Calls Try.prog 12 #[ptr b, .int .i64 k] w fun e w' => e = .returned (err (ucode l k)) ∧ PR w0 w' b rb (udone l k) m := by
  obtain ⟨F, h1, h2⟩ := h.stepP
  refine (use_any h1 k).mono ?_
  rintro e w' ⟨rfl, hp, ho⟩
  exact ⟨rfl, h2 _ _ hp ho⟩
theorem a_drop (h : PR w0 w b rb l m) (k : Int) : Calls Try.prog 14 #[ptr b, .int .i64 k] w fun e w' => e = .returned (err (rcode l k)) ∧ PR w0 w' b rb (rdone l k) m := by
  obtain ⟨F, h1, h2⟩ := h.stepP
  refine (drop_any h1 k).mono ?_
  rintro e w' ⟨rfl, hp, ho⟩
  exact ⟨rfl, h2 _ _ hp ho⟩
theorem a_settle (h : PR w0 w b rb l m) : Calls Try.prog 17 #[ptr b] w fun e w' => e = .returned (err 0) ∧ PR w0 w' b rb (settledP l) m := by
  obtain ⟨F, h1, h2⟩ := h.stepP
  refine (settle_any h1).mono ?_
  rintro e w' ⟨rfl, hp, ho⟩
  exact ⟨rfl, h2 _ _ hp ho⟩
theorem a_back (h : PR w0 w b rb l m) : Calls Try.prog 19 #[ptr b] w fun e w' => e = .returned (err 0) ∧ PR w0 w' b rb (backP l) m := by
  obtain ⟨F, h1, h2⟩ := h.stepP
  refine (back_any h1).mono ?_
  rintro e w' ⟨rfl, hp, ho⟩
  exact ⟨rfl, h2 _ _ hp ho⟩
theorem a_size (h : PR w0 w b rb l m) : Calls Try.prog 20 #[ptr b] w fun e w' => e = .returned (.int .i64 (l.length : Nat)) ∧ w = w' := let ⟨_, h1, _⟩ := h.stepP; pgsize_any h1
theorem a_state (h : PR w0 w b rb l m) (k : Int) : Calls Try.prog 23 #[ptr b, .int .i64 k] w fun e w' => e = .returned (.int .u8 (stateP l k : Nat)) ∧ w = w' := let ⟨_, h1, _⟩ := h.stepP; state_any h1 k
theorem a_free (h : PR w0 w b rb l m) : Calls Try.prog 21 #[ptr b] w fun e w' => e = .returned (.int .i64 (freeP l : Nat)) ∧ w = w' := let ⟨_, h1, _⟩ := h.stepP; pgfree_any h1

theorem d_take (h : PR w0 w b rb l m) : Calls Try.prog 11 #[ptr rb] w fun e w' => e = .returned (.tuple #[.int .i64 (tpage m), err (tcode m)]) ∧ PR w0 w' b rb l (tdone m) := by
  obtain ⟨F, h1, h2⟩ := h.stepR
  refine (rtake_any h1).mono ?_
  rintro e w' ⟨rfl, hp, ho⟩
  exact ⟨rfl, h2 _ _ hp ho⟩
theorem d_use (h : PR w0 w b rb l m) (k : Int) : Calls Try.prog 13 #[ptr rb, .int .i64 k] w fun e w' => e = .returned (err (ucode m k)) ∧ PR w0 w' b rb l (udone m k) := by
  obtain ⟨F, h1, h2⟩ := h.stepR
  refine (ruse_any h1 k).mono ?_
  rintro e w' ⟨rfl, hp, ho⟩
  exact ⟨rfl, h2 _ _ hp ho⟩
theorem d_drop (h : PR w0 w b rb l m) (k : Int) : Calls Try.prog 15 #[ptr rb, .int .i64 k] w fun e w' => e = .returned (err (rcode m k)) ∧ PR w0 w' b rb l (rdone m k) := by
  obtain ⟨F, h1, h2⟩ := h.stepR
  refine (rdrop_any h1 k).mono ?_
  rintro e w' ⟨rfl, hp, ho⟩
  exact ⟨rfl, h2 _ _ hp ho⟩
theorem d_settle (h : PR w0 w b rb l m) : Calls Try.prog 16 #[ptr rb] w fun e w' => e = .returned (.tuple #[]) ∧ PR w0 w' b rb l (settledP m) := by
  obtain ⟨F, h1, h2⟩ := h.stepR
  refine (rsettle_any h1).mono ?_
  rintro e w' ⟨rfl, hp, ho⟩
  exact ⟨rfl, h2 _ _ hp ho⟩
theorem d_back (h : PR w0 w b rb l m) : Calls Try.prog 18 #[ptr rb] w fun e w' => e = .returned (.tuple #[]) ∧ PR w0 w' b rb l (backP m) := by
  obtain ⟨F, h1, h2⟩ := h.stepR
  refine (rback_any h1).mono ?_
  rintro e w' ⟨rfl, hp, ho⟩
  exact ⟨rfl, h2 _ _ hp ho⟩
theorem d_state (h : PR w0 w b rb l m) (k : Int) : Calls Try.prog 24 #[ptr rb, .int .i64 k] w fun e w' => e = .returned (.int .u8 (stateP m k : Nat)) ∧ w = w' := let ⟨_, h1, _⟩ := h.stepR; rstate_any h1 k
theorem d_free (h : PR w0 w b rb l m) : Calls Try.prog 22 #[ptr rb] w fun e w' => e = .returned (.int .i64 (freeP m : Nat)) ∧ w = w' := let ⟨_, h1, _⟩ := h.stepR; rfree_any h1
end

/-! ### the anchor -/
set_option maxRecDepth 100000 in
set_option maxHeartbeats 4000000 in
theorem works_any (w : World) : Calls Try.prog 7 #[] w (Yes w) := by
  go_enter Try.func7, Try.ntmps7
  go_wp2_with fail
  refine (p_new 3 _ (Below.refl _ _) (by omega) (by omega)).mono ?_
  rintro e w1 ⟨b, rfl, m1⟩
  have m1 : PMine w w1 b [(false, false), (false, false), (false, false)] := m1
  go_wp2_with fail
  refine (p_use m1 1).mono ?_
  rintro e w2 ⟨rfl, m2⟩
  have e2 : ucode [(false, false), (false, false), (false, false)] 1 = 0 := rfl
  rw [e2]
  have m2 : PMine w w2 b [(false, false), (true, true), (false, false)] := m2
  clear m1 e2
  go_wp2_with fail
  refine (p_take m2).mono ?_
  rintro e w3 ⟨rfl, m3⟩
  have e3 : tpage [(false, false), (true, true), (false, false)] = 0 := rfl
  have e4 : tcode [(false, false), (true, true), (false, false)] = 0 := rfl
  rw [e3, e4]
  have m3 : PMine w w3 b [(false, true), (true, true), (false, false)] := m3
  clear m2 e3 e4
  go_wp2_with fail
  refine (p_take m3).mono ?_
  rintro e w4 ⟨rfl, m4⟩
  have e3 : tpage [(false, true), (true, true), (false, false)] = 2 := rfl
  have e4 : tcode [(false, true), (true, true), (false, false)] = 0 := rfl
  rw [e3, e4]
  have m4 : PMine w w4 b [(false, true), (true, true), (false, true)] := m4
  clear m3 e3 e4
  go_wp2_with fail
  refine (p_take m4).mono ?_
  rintro e w5 ⟨rfl, m5⟩
  have e3 : tpage [(false, true), (true, true), (false, true)] = 0 := rfl
  have e4 : tcode [(false, true), (true, true), (false, true)] = 7 := rfl
  rw [e3, e4]
  have m5 : PMine w w5 b [(false, true), (true, true), (false, true)] := m5
  clear m4 e3 e4
  go_wp2_with fail
  refine (p_drop m5 1).mono ?_
  rintro e w6 ⟨rfl, m6⟩
  have e3 : rcode [(false, true), (true, true), (false, true)] 1 = 0 := rfl
  rw [e3]
  have m6 : PMine w w6 b [(false, true), (true, false), (false, true)] := m6
  clear m5 e3
  go_wp2_with fail
  refine (p_drop m6 0).mono ?_
  rintro e w7 ⟨rfl, m7⟩
  have e3 : rcode [(false, true), (true, false), (false, true)] 0 = 0 := rfl
  rw [e3]
  have m7 : PMine w w7 b [(false, false), (true, false), (false, true)] := m7
  clear m6 e3
  go_wp2_with fail
  refine (p_free m7).mono ?_
  rintro e w8 ⟨rfl, rfl⟩
  have e3 : ((freeP [(false, false), (true, false), (false, true)] : Nat) : Int) = 1 := rfl
  rw [e3]
  clear e3
  go_wp2_with fail
  refine (p_take m7).mono ?_
  rintro e w8 ⟨rfl, m8⟩
  have e3 : tpage [(false, false), (true, false), (false, true)] = 0 := rfl
  have e4 : tcode [(false, false), (true, false), (false, true)] = 0 := rfl
  rw [e3, e4]
  have m8 : PMine w w8 b [(false, true), (true, false), (false, true)] := m8
  clear m7 e3 e4
  go_wp2_with fail
  refine (p_settle m8).mono ?_
  rintro e w9 ⟨rfl, m9⟩
  have m9 : PMine w w9 b [(true, true), (false, false), (true, true)] := m9
  clear m8
  go_wp2_with fail
  refine (p_free m9).mono ?_
  rintro e w10 ⟨rfl, rfl⟩
  have e3 : ((freeP [(true, true), (false, false), (true, true)] : Nat) : Int) = 1 := rfl
  rw [e3]
  clear e3
  go_wp2_with fail
  refine (p_take m9).mono ?_
  rintro e w10 ⟨rfl, m10⟩
  have e3 : tpage [(true, true), (false, false), (true, true)] = 1 := rfl
  have e4 : tcode [(true, true), (false, false), (true, true)] = 0 := rfl
  rw [e3, e4]
  have m10 : PMine w w10 b [(true, true), (false, true), (true, true)] := m10
  clear m9 e3 e4
  go_wp2_with fail
  refine (p_state m10 1).mono ?_
  rintro e w11 ⟨rfl, rfl⟩
  have e3 : ((stateP [(true, true), (false, true), (true, true)] 1 : Nat) : Int) = 2 := rfl
  rw [e3]
  clear e3
  go_wp2_with fail
  refine (p_state m10 0).mono ?_
  rintro e w11 ⟨rfl, rfl⟩
  have e3 : ((stateP [(true, true), (false, true), (true, true)] 0 : Nat) : Int) = 1 := rfl
  rw [e3]
  clear e3
  have HB := Lib.hid m10.bel
  clear m10
  go_wp2
  go_ret
  exact ⟨rfl, HB.out⟩
end Go.Proofs.Ytdmcknankcbjiaa
