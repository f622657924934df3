/- A device of which the first two blocks hold roots, in plain words: what a Save leaves, where the power stays and where it goes, and what is found behind it; no condition. -/
import Derived.Test.YtcpapdpnnlnemaaShPlain
namespace Go.Proofs.Ytcpapdpnnlnemaa
open Go.RowKit

/-- The first two blocks, and others, nothing loose. -/
def Qd (a b : Bytes) (r : List Bk) (on : Bool) (left : Int) : Dv := ⟨⟨a, []⟩ :: ⟨b, []⟩ :: r, on, left⟩
/-- The others have nothing loose. -/
def Calm (r : List Bk) : Prop := flushed r = r ∧ ∀ ps, comes r ps = r
theorem calm_nil : Calm [] := ⟨rfl, fun _ => rfl⟩
theorem calm_one (c : Bytes) : Calm [⟨c, []⟩] := ⟨rfl, fun _ => rfl⟩

def newA (g : Nat) (l a : Bytes) : Bytes := if g % 2 = 0 then sealG g l else a
def newB (g : Nat) (l b : Bytes) : Bytes := if g % 2 = 0 then b else sealG g l

section
variable {a b : Bytes} {r : List Bk} {left : Int} {g : Nat} {l : Bytes}

theorem qd_st (on : Bool) : stAt (Qd a b r on left) 0 = a ∧ stAt (Qd a b r on left) 1 = b := ⟨rfl, rfl⟩
theorem qd_len (on : Bool) : 2 ≤ (Qd a b r on left).bk.length := by simp [Qd]

theorem wrote_qd (x : Bytes) : wrote (⟨a, []⟩ :: ⟨b, []⟩ :: r) (g % 2) x = if g % 2 = 0 then ⟨a, [x]⟩ :: ⟨b, []⟩ :: r else ⟨a, []⟩ :: ⟨b, [x]⟩ :: r := by
  unfold wrote
  rcases Nat.mod_two_eq_zero_or_one g with h | h <;> simp [h]

theorem qd_save (hr : Calm r) (hg : genB g = true) (hl : l.length ≤ 480) (hz : left ≠ 0 ∧ left ≠ 1) :
    sCode (Qd a b r true left) g l = 0 ∧ sDev (Qd a b r true left) g l = Qd (newA g l a) (newB g l b) r true (spent (spent left)) := by
  obtain ⟨e1, e2⟩ := save_ok (D := Qd a b r true left) hg rfl hz (qd_len _) hl
  refine ⟨e1, e2.trans ?_⟩
  unfold Qd newA newB
  simp only
  rw [wrote_qd]
  have h1 : List.map (fun x : Bk => (⟨x.stands, []⟩ : Bk)) r = r := hr.1
  unfold flushed
  rcases Nat.mod_two_eq_zero_or_one g with h | h
  · rw [if_pos h, if_pos h, if_pos h]
    simp [Bk.stands]
    exact h1
  · rw [if_neg (by omega), if_neg (by omega), if_neg (by omega)]
    simp [Bk.stands]
    exact h1

theorem picked_one (s x : Bytes) (p : Int) : Bk.picked ⟨s, [x]⟩ (pickN p 1) = s ∨ Bk.picked ⟨s, [x]⟩ (pickN p 1) = x := by
  have h := pickN_le p 1
  unfold Bk.picked
  rcases Nat.le_one_iff_eq_zero_or_eq_one.1 h with e | e
  · left; rw [e]; rfl
  · right; rw [e]; rfl

/-- The power goes ahead of the flush: the one or the other. -/
theorem qd_comes (hr : Calm r) (x : Bytes) (ps : List Int) :
    comes (wrote (⟨a, []⟩ :: ⟨b, []⟩ :: r) (g % 2) x) ps = ⟨a, []⟩ :: ⟨b, []⟩ :: r ∨ comes (wrote (⟨a, []⟩ :: ⟨b, []⟩ :: r) (g % 2) x) ps = ⟨if g % 2 = 0 then x else a, []⟩ :: ⟨if g % 2 = 0 then b else x, []⟩ :: r := by
  rw [wrote_qd]
  rcases Nat.mod_two_eq_zero_or_one g with h | h
  · rw [if_pos h, if_pos h, if_pos h]
    have e : comes (⟨a, [x]⟩ :: ⟨b, []⟩ :: r) ps = ⟨Bk.picked ⟨a, [x]⟩ (pickN (ps.headD 0) 1), []⟩ :: ⟨b, []⟩ :: r := by
      simp [comes, hr.2]
    rw [e]
    rcases picked_one a x (ps.headD 0) with e | e
    · left; rw [e]
    · right; rw [e]
  · rw [if_neg (by omega), if_neg (by omega), if_neg (by omega)]
    have e : comes (⟨a, []⟩ :: ⟨b, [x]⟩ :: r) ps = ⟨a, []⟩ :: ⟨Bk.picked ⟨b, [x]⟩ (pickN (ps.headD 0) 1), []⟩ :: r := by
      simp [comes, hr.2]
    rw [e]
    rcases picked_one b x (ps.headD 0) with e | e
    · left; rw [e]
    · right; rw [e]
theorem qd_comes_none (hr : Calm r) (x : Bytes) : comes (wrote (⟨a, []⟩ :: ⟨b, []⟩ :: r) (g % 2) x) [] = ⟨a, []⟩ :: ⟨b, []⟩ :: r := by
  rw [wrote_qd]
  split <;> simp [comes, hr.2, Bk.picked, pickN_zero]
theorem qd_still (hr : Calm r) (ps : List Int) : comes (⟨a, []⟩ :: ⟨b, []⟩ :: r) ps = ⟨a, []⟩ :: ⟨b, []⟩ :: r := by simp [comes, hr.2]

/-- What is found: the last root. -/
def Kept (D : Dv) (r : List Bk) (g : Nat) (l : Bytes) : Prop := ∃ a b, D = Qd a b r true (-1) ∧ Last2 a b g l
theorem Kept.load {D : Dv} (h : Kept D r g l) : loadV D = (g, l, 0) := by
  obtain ⟨a, b, rfl, h⟩ := h
  exact h.load rfl (qd_len _) (qd_st _).1 (qd_st _).2
theorem Last2.again {a b : Bytes} {g : Nat} {l : Bytes} (h : Last2 a b g l) : newA g l a = a ∧ newB g l b = b := by
  obtain ⟨_, _, ⟨hp, e, _⟩ | ⟨hp, e, _⟩⟩ := h
  · unfold newA newB
    rw [if_pos hp, if_pos hp]
    exact ⟨e.symm, rfl⟩
  · unfold newA newB
    rw [if_neg (by omega), if_neg (by omega)]
    exact ⟨rfl, e.symm⟩
theorem Kept.again {D : Dv} (h : Kept D r g l) (hr : Calm r) : sCode D g l = 0 ∧ Kept (sDev D g l) r g l := by
  obtain ⟨a, b, rfl, h⟩ := h
  obtain ⟨e1, e2⟩ := qd_save (a := a) (b := b) hr h.1 h.2.1 (left := -1) ⟨by decide, by decide⟩
  rw [e2, h.again.1, h.again.2]
  exact ⟨e1, a, b, rfl, h⟩

/-- Armed, then saved. -/
def armed (D : Dv) (m : Int) : Dv := ⟨D.bk, D.on, max m (-1)⟩
theorem Kept.saves {D : Dv} (h : Kept D r g l) (hr : Calm r) (hg : genB (g + 1) = true) {x : Bytes} (hx : x.length ≤ 480) (m : Int) :
    (sCode (armed D m) (g + 1) x = 0 ∧ (sDev (armed D m) (g + 1) x).on = true ∧ (sDev (armed D m) (g + 1) x).bk.length = r.length + 2 ∧ ∀ ps, Kept ⟨comes (sDev (armed D m) (g + 1) x).bk ps, true, -1⟩ r (g + 1) x) ∨
    (sCode (armed D m) (g + 1) x = 8 ∧ (sDev (armed D m) (g + 1) x).on = false ∧ (sDev (armed D m) (g + 1) x).bk.length = r.length + 2 ∧ ∀ ps, Kept ⟨comes (sDev (armed D m) (g + 1) x).bk ps, true, -1⟩ r g l ∨ Kept ⟨comes (sDev (armed D m) (g + 1) x).bk ps, true, -1⟩ r (g + 1) x) := by
  obtain ⟨a, b, rfl, h⟩ := h
  have hn := h.next hg hx
  have ha : armed (Qd a b r true (-1)) m = Qd a b r true (max m (-1)) := rfl
  rw [ha]
  by_cases h0 : max m (-1) = 0
  · right
    obtain ⟨e1, e2⟩ := save_first (D := Qd a b r true (max m (-1))) hg rfl h0 (qd_len _) hx
    rw [e2]
    refine ⟨e1, rfl, by simp [Qd], fun ps => .inl ⟨a, b, ?_, h⟩⟩
    simp only [Qd]
    rw [qd_still hr]
  by_cases h1 : max m (-1) = 1
  · right
    obtain ⟨e1, e2⟩ := save_second (D := Qd a b r true (max m (-1))) hg rfl h1 (qd_len _) hx
    rw [e2]
    refine ⟨e1, rfl, by simp [Qd, wrote], fun ps => ?_⟩
    simp only [Qd]
    rcases qd_comes (a := a) (b := b) (g := g + 1) hr (sealG (g + 1) x) ps with e | e
    · left
      rw [e]
      exact ⟨a, b, rfl, h⟩
    · right
      rw [e]
      exact ⟨_, _, rfl, hn⟩
  · left
    obtain ⟨e1, e2⟩ := qd_save (a := a) (b := b) (left := max m (-1)) hr hg hx ⟨h0, h1⟩
    rw [e2]
    refine ⟨e1, rfl, by simp [Qd], fun ps => ?_⟩
    simp only [Qd]
    rw [qd_still hr]
    exact ⟨_, _, rfl, hn⟩
end

theorem fresh_two : fresh 2 = Qd noughts noughts [] true (-1) := rfl
theorem fresh_three : fresh 3 = Qd noughts noughts [⟨noughts, []⟩] true (-1) := rfl
/-- The first root of a fresh device. -/
theorem fresh_save {r : List Bk} (hr : Calm r) {g : Nat} {l : Bytes} (hg : genB g = true) (hl : l.length ≤ 480) :
    sCode (Qd noughts noughts r true (-1)) g l = 0 ∧ Kept (sDev (Qd noughts noughts r true (-1)) g l) r g l := by
  obtain ⟨e1, e2⟩ := qd_save (a := noughts) (b := noughts) (left := -1) hr hg hl ⟨by decide, by decide⟩
  rw [e2]
  refine ⟨e1, _, _, rfl, hg, hl, ?_⟩
  have h1 := (genB_iff.1 hg).1
  unfold newA newB
  rcases Nat.mod_two_eq_zero_or_one g with h | h
  · left
    rw [if_pos h, if_pos h, rootOf_noughts]
    exact ⟨h, rfl, h1⟩
  · right
    rw [if_neg (by omega), if_neg (by omega), rootOf_noughts]
    exact ⟨h, rfl, h1⟩
theorem fresh_load {r : List Bk} : loadV (Qd noughts noughts r true (-1)) = (0, [], 4) := by
  unfold loadV
  rw [if_neg (by simp [Qd]), if_neg (by simp [Qd]), (qd_st _).1, (qd_st _).2, rootOf_noughts, rootOf_noughts]
  rfl
/-- Saved the next one, nothing armed. -/
theorem Kept.next {D : Dv} {r : List Bk} {g : Nat} {l x : Bytes} (h : Kept D r g l) (hr : Calm r) (hg : genB (g + 1) = true) (hx : x.length ≤ 480) :
    sCode D (g + 1) x = 0 ∧ Kept (sDev D (g + 1) x) r (g + 1) x := by
  obtain ⟨a, b, rfl, h⟩ := h
  obtain ⟨e1, e2⟩ := qd_save (a := a) (b := b) (left := -1) hr hg hx ⟨by decide, by decide⟩
  rw [e2]
  exact ⟨e1, _, _, rfl, h.next hg hx⟩
end Go.Proofs.Ytcpapdpnnlnemaa
