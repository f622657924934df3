/- Two roots, one generation behind the other, one block of which is written anew, in plain words: what Load tells then; no condition. -/
import Derived.Test.YtcpapdpnnlnemaaShWorks
namespace Go.Proofs.Ytcpapdpnnlnemaa
open Go.RowKit Go.Maps

/-- Two roots, saved on a fresh device. -/
def twoD (g : Nat) (x y : Bytes) : Dv := sDev (sDev (fresh 2) g x) (g + 1) y
/-- The block of the elder one, or of the younger one. -/
def twoK (g : Nat) (older : Bool) : Nat := if older = true then g % 2 else (g + 1) % 2
def twoL (g : Nat) (x y : Bytes) (older : Bool) : Bytes := if older = true then sealG g x else sealG (g + 1) y

section
variable {g : Nat} {x y : Bytes}
theorem two_form (hg : genB g = true) (hg1 : genB (g + 1) = true) (hx : x.length ≤ 480) (hy : y.length ≤ 480) :
    twoD g x y = if g % 2 = 0 then Qd (sealG g x) (sealG (g + 1) y) [] true (-1) else Qd (sealG (g + 1) y) (sealG g x) [] true (-1) := by
  unfold twoD
  rw [fresh_two]
  obtain ⟨_, e2⟩ := qd_save (a := noughts) (b := noughts) (left := -1) calm_nil hg hx ⟨by decide, by decide⟩
  rw [e2]
  obtain ⟨_, e3⟩ := qd_save (a := newA g x noughts) (b := newB g x noughts) (left := spent (spent (-1))) calm_nil hg1 hy ⟨by decide, by decide⟩
  rw [e3]
  unfold newA newB
  rcases Nat.mod_two_eq_zero_or_one g with h | h
  · have h1 : (g + 1) % 2 = 1 := by omega
    simp [h, h1]
    rfl
  · have h1 : (g + 1) % 2 = 0 := by omega
    simp [h, h1]
    rfl
theorem two_codes (hg : genB g = true) (hg1 : genB (g + 1) = true) (hx : x.length ≤ 480) (hy : y.length ≤ 480) : sCode (fresh 2) g x = 0 ∧ sCode (sDev (fresh 2) g x) (g + 1) y = 0 := by
  have h := fresh_save calm_nil hg hx
  rw [← fresh_two] at h
  exact ⟨h.1, (h.2.next calm_nil hg1 hy).1⟩
theorem two_block (hg : genB g = true) (hg1 : genB (g + 1) = true) (hx : x.length ≤ 480) (hy : y.length ≤ 480) (older : Bool) : (twoD g x y).bk[twoK g older]? = some ⟨twoL g x y older, []⟩ := by
  rw [two_form hg hg1 hx hy]
  unfold twoK twoL
  rcases Nat.mod_two_eq_zero_or_one g with h | h <;> cases older
  · have h1 : (g + 1) % 2 = 1 := by omega
    simp [h, h1, Qd]
  · simp [h, Qd]
  · have h1 : (g + 1) % 2 = 0 := by omega
    simp [h, h1, Qd]
  · simp [h, Qd]
theorem two_on (hg : genB g = true) (hg1 : genB (g + 1) = true) (hx : x.length ≤ 480) (hy : y.length ≤ 480) : (twoD g x y).on = true ∧ (twoD g x y).bk.length = 2 ∧ (twoD g x y).left = -1 ∧ Upto (twoD g x y) 0 := by
  rw [two_form hg hg1 hx hy]
  split <;> exact ⟨rfl, rfl, rfl, calm_upto calm_nil⟩

theorem two_write {a b m : Bytes} (k : Nat) (hk : k < 2) (hm : m.length = 512) : wcode (Qd a b [] true (-1)) (k : Int) m = 0 ∧ (wdev (Qd a b [] true (-1)) (k : Int) m).on = true ∧ 2 ≤ (wdev (Qd a b [] true (-1)) (k : Int) m).bk.length ∧
    stAt (wdev (Qd a b [] true (-1)) (k : Int) m) 0 = (if k = 0 then m else a) ∧ stAt (wdev (Qd a b [] true (-1)) (k : Int) m) 1 = (if k = 0 then b else m) := by
  have hn : ¬ noSuch (Qd a b [] true (-1)) (k : Int) m := by
    unfold noSuch
    simp only [Qd, List.length_cons, List.length_nil]
    omega
  have e : wdev (Qd a b [] true (-1)) (k : Int) m = ⟨wrote (Qd a b [] true (-1)).bk k m, true, -1⟩ := by
    unfold wdev
    rw [if_neg (by simp [Qd]), if_neg hn, if_neg (by simp [Qd])]
    rfl
  have e0 : wcode (Qd a b [] true (-1)) (k : Int) m = 0 := by
    unfold wcode
    rw [if_neg (by simp [Qd]), if_neg hn, if_neg (by simp [Qd])]
  rw [e, e0]
  refine ⟨rfl, rfl, by simp [Qd, wrote], ?_, ?_⟩
  · rcases (by omega : k = 0 ∨ k = 1) with rfl | rfl <;> rfl
  · rcases (by omega : k = 0 ∨ k = 1) with rfl | rfl <;> rfl

/-- What Load tells behind it. -/
theorem two_load (hg : genB g = true) (hg1 : genB (g + 1) = true) (hx : x.length ≤ 480) (hy : y.length ≤ 480) (older : Bool) {m : Bytes} (hm : m.length = 512) (t : Nat) (h0 : t = 0 → m = twoL g x y older) (h1 : t ≠ 0 → openV m = (0, [], 9)) :
    wcode (twoD g x y) (twoK g older : Int) m = 0 ∧ loadV (wdev (twoD g x y) (twoK g older : Int) m) = if older = false ∧ t ≠ 0 then (g, x, 0) else (g + 1, y, 0) := by
  have ex := rootOf_back hg hx
  have ey := rootOf_back hg1 hy
  have hlo := (genB_iff.1 hg).1
  have hng : ¬ g + 1 < g := by omega
  have hnz : ¬ g = 0 := by omega
  have hpos : 0 < g := by omega
  have hk : twoK g older < 2 := by unfold twoK; split <;> omega
  rw [two_form hg hg1 hx hy]
  have hr : t ≠ 0 → ∀ k, rootOf k m = (0, []) := fun h k => rootOf_spoilt (h1 h)
  change rootOf (g % 2) (sealG g x) = (g, x) at ex
  change rootOf ((g + 1) % 2) (sealG (g + 1) y) = (g + 1, y) at ey
  rcases Nat.mod_two_eq_zero_or_one g with h | h
  · have hh : (g + 1) % 2 = 1 := by omega
    rw [h] at ex
    rw [hh] at ey
    rw [if_pos h]
    obtain ⟨w0, w1, w2, w3, w4⟩ := two_write (a := sealG g x) (b := sealG (g + 1) y) (m := m) (twoK g older) hk hm
    refine ⟨w0, ?_⟩
    unfold loadV
    rw [if_neg (by simp [w1]), if_neg (by omega), w3, w4]
    by_cases ht : t = 0
    · rw [h0 ht]
      cases older <;> simp [twoK, twoL, h, hh, ex, ey, best, hng, hnz, hpos, ht]
    · have hr := hr ht
      cases older
      · simp [twoK, h, hh, ex, ey, best, hng, hnz, hpos, ht, hr]
      · simp [twoK, h, hh, ex, ey, best, hng, hnz, hpos, ht, hr]
  · have hh : (g + 1) % 2 = 0 := by omega
    rw [h] at ex
    rw [hh] at ey
    rw [if_neg (by omega)]
    obtain ⟨w0, w1, w2, w3, w4⟩ := two_write (a := sealG (g + 1) y) (b := sealG g x) (m := m) (twoK g older) hk hm
    refine ⟨w0, ?_⟩
    unfold loadV
    rw [if_neg (by simp [w1]), if_neg (by omega), w3, w4]
    by_cases ht : t = 0
    · rw [h0 ht]
      cases older <;> simp [twoK, twoL, h, hh, ex, ey, best, hng, hnz, hpos, ht]
    · have hr := hr ht
      cases older
      · simp [twoK, h, hh, ex, ey, best, hng, hnz, hpos, ht, hr]
      · simp [twoK, h, hh, ex, ey, best, hng, hnz, hpos, ht, hr]
end
end Go.Proofs.Ytcpapdpnnlnemaa
