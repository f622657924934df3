/- What Save and Load answer and leave, in plain words, and what is found when the power went; no condition. -/
import Derived.Test.YtcpapdpnnlnemaaShRoot
import Derived.Test.YtcpapdpnnlnemaaDevCall
namespace Go.Proofs.Ytcpapdpnnlnemaa
open Go.RowKit

/-- What stands in a device's block. -/
def stAt (D : Dv) (k : Nat) : Bytes := ((D.bk[k]?).map Bk.stands).getD []
theorem stAt_of {D : Dv} {k : Nat} {x : Bk} (h : D.bk[k]? = some x) : stAt D k = x.stands := by simp [stAt, h]
def best (a b : Nat × Bytes) : Nat × Bytes := if a.1 < b.1 then b else a
/-- What Load answers. -/
def loadV (D : Dv) : Nat × Bytes × Int :=
  if D.on = false then (0, [], 8) else if D.bk.length < 2 then (0, [], 1) else
    if (best (rootOf 0 (stAt D 0)) (rootOf 1 (stAt D 1))).1 = 0 then (0, [], 4) else ((best (rootOf 0 (stAt D 0)) (rootOf 1 (stAt D 1))).1, (best (rootOf 0 (stAt D 0)) (rootOf 1 (stAt D 1))).2, 0)

/-- What Save answers, and leaves. -/
def sealG (g : Nat) (l : Bytes) : Bytes := sealL 1 (rootL g l)
theorem sealG_length {g : Nat} {l : Bytes} (h : l.length ≤ 480) : (sealG g l).length = 512 := sealL_length (by rw [rootL_length]; omega)
def sMay (D : Dv) (g : Nat) : Prop := genB g = true ∧ 2 ≤ D.bk.length
instance (D : Dv) (g : Nat) : Decidable (sMay D g) := by unfold sMay; exact inferInstance
def wroteD (D : Dv) (g : Nat) (l : Bytes) : Dv := wdev D ((g % 2 : Nat) : Int) (sealG g l)
def wroteC (D : Dv) (g : Nat) (l : Bytes) : Int := wcode D ((g % 2 : Nat) : Int) (sealG g l)
def sCode (D : Dv) (g : Nat) (l : Bytes) : Int := if sMay D g then (if 480 < l.length then 6 else if wroteC D g l = 0 then fcode (wroteD D g l) else wroteC D g l) else 1
def sDev (D : Dv) (g : Nat) (l : Bytes) : Dv := if sMay D g then (if 480 < l.length then D else if wroteC D g l = 0 then fdev (wroteD D g l) else wroteD D g l) else D

/-! ### where the power stays -/
theorem wrote_ok {D : Dv} {g : Nat} {l : Bytes} (ho : D.on = true) (hz : D.left ≠ 0) (h2 : 2 ≤ D.bk.length) (hl : l.length ≤ 480) : wroteC D g l = 0 ∧ wroteD D g l = ⟨wrote D.bk (g % 2) (sealG g l), true, spent D.left⟩ := by
  have hn : ¬ noSuch D ((g % 2 : Nat) : Int) (sealG g l) := by
    unfold noSuch
    rw [sealG_length hl]
    omega
  unfold wroteC wroteD wcode wdev
  rw [if_neg (by simp [ho]), if_neg hn, if_neg hz, if_neg (by simp [ho]), if_neg hn, if_neg hz]
  exact ⟨rfl, by rw [ho, Int.toNat_natCast]⟩
theorem wrote_dies {D : Dv} {g : Nat} {l : Bytes} (ho : D.on = true) (hz : D.left = 0) (h2 : 2 ≤ D.bk.length) (hl : l.length ≤ 480) : wroteC D g l = 8 ∧ wroteD D g l = ⟨D.bk, false, D.left⟩ := by
  have hn : ¬ noSuch D ((g % 2 : Nat) : Int) (sealG g l) := by
    unfold noSuch
    rw [sealG_length hl]
    omega
  unfold wroteC wroteD wcode wdev
  rw [if_neg (by simp [ho]), if_neg hn, if_pos hz, if_neg (by simp [ho]), if_neg hn, if_pos hz]
  exact ⟨rfl, rfl⟩
theorem save_ok {D : Dv} {g : Nat} {l : Bytes} (hg : genB g = true) (ho : D.on = true) (hz : D.left ≠ 0 ∧ D.left ≠ 1) (h2 : 2 ≤ D.bk.length) (hl : l.length ≤ 480) :
    sCode D g l = 0 ∧ sDev D g l = ⟨flushed (wrote D.bk (g % 2) (sealG g l)), true, spent (spent D.left)⟩ := by
  obtain ⟨e1, e2⟩ := wrote_ok (g := g) ho hz.1 h2 hl
  have hs : spent D.left ≠ 0 := by unfold spent; split <;> omega
  unfold sCode sDev
  rw [if_pos ⟨hg, h2⟩, if_neg (by omega), if_pos e1, if_pos ⟨hg, h2⟩, if_neg (by omega), if_pos e1, e2]
  unfold fcode fdev
  simp [hs]
theorem save_first {D : Dv} {g : Nat} {l : Bytes} (hg : genB g = true) (ho : D.on = true) (hz : D.left = 0) (h2 : 2 ≤ D.bk.length) (hl : l.length ≤ 480) :
    sCode D g l = 8 ∧ sDev D g l = ⟨D.bk, false, D.left⟩ := by
  obtain ⟨e1, e2⟩ := wrote_dies (g := g) ho hz h2 hl
  unfold sCode sDev
  rw [if_pos ⟨hg, h2⟩, if_neg (by omega), if_neg (by rw [e1]; decide), if_pos ⟨hg, h2⟩, if_neg (by omega), if_neg (by rw [e1]; decide)]
  exact ⟨e1, e2⟩
theorem save_second {D : Dv} {g : Nat} {l : Bytes} (hg : genB g = true) (ho : D.on = true) (hz : D.left = 1) (h2 : 2 ≤ D.bk.length) (hl : l.length ≤ 480) :
    sCode D g l = 8 ∧ sDev D g l = ⟨wrote D.bk (g % 2) (sealG g l), false, 0⟩ := by
  obtain ⟨e1, e2⟩ := wrote_ok (g := g) ho (by omega) h2 hl
  have hs : spent D.left = 0 := by rw [hz]; rfl
  unfold sCode sDev
  rw [if_pos ⟨hg, h2⟩, if_neg (by omega), if_pos e1, if_pos ⟨hg, h2⟩, if_neg (by omega), if_pos e1, e2, hs]
  unfold fcode fdev
  simp
theorem save_not {D : Dv} {g : Nat} {l : Bytes} (h : ¬ sMay D g) : sCode D g l = 1 ∧ sDev D g l = D := ⟨if_neg h, if_neg h⟩
theorem save_many {D : Dv} {g : Nat} {l : Bytes} (h : sMay D g) (hl : 480 < l.length) : sCode D g l = 6 ∧ sDev D g l = D := by
  unfold sCode sDev
  rw [if_pos h, if_pos hl, if_pos h, if_pos hl]
  exact ⟨rfl, rfl⟩

/-! ### the last root, which stands, sure, and no greater one beside it -/
/-- The blocks of a device that has nothing loose, the roots in the first two. -/
def Last2 (a b : Bytes) (g : Nat) (l : Bytes) : Prop := genB g = true ∧ l.length ≤ 480 ∧ ((g % 2 = 0 ∧ a = sealG g l ∧ (rootOf 1 b).1 < g) ∨ (g % 2 = 1 ∧ b = sealG g l ∧ (rootOf 0 a).1 < g))

theorem Last2.best {a b : Bytes} {g : Nat} {l : Bytes} (h : Last2 a b g l) : best (rootOf 0 a) (rootOf 1 b) = (g, l) := by
  obtain ⟨hg, hl, ⟨hp, rfl, hb⟩ | ⟨hp, rfl, hb⟩⟩ := h
  · have e := rootOf_back hg hl
    rw [hp] at e
    unfold Go.Proofs.Ytcpapdpnnlnemaa.best sealG
    rw [e, if_neg (by simp only; omega)]
  · have e := rootOf_back hg hl
    rw [hp] at e
    unfold Go.Proofs.Ytcpapdpnnlnemaa.best sealG
    rw [e, if_pos hb]
theorem Last2.load {a b : Bytes} {g : Nat} {l : Bytes} (h : Last2 a b g l) {D : Dv} (ho : D.on = true) (h2 : 2 ≤ D.bk.length) (ha : stAt D 0 = a) (hb : stAt D 1 = b) : loadV D = (g, l, 0) := by
  unfold loadV
  rw [if_neg (by simp [ho]), if_neg (by omega), ha, hb, h.best, if_neg (by have := (genB_iff.1 h.1).1; simp only; omega)]
theorem Last2.next {a b : Bytes} {g : Nat} {l x : Bytes} (h : Last2 a b g l) (hg : genB (g + 1) = true) (hx : x.length ≤ 480) : Last2 (if (g + 1) % 2 = 0 then sealG (g + 1) x else a) (if (g + 1) % 2 = 0 then b else sealG (g + 1) x) (g + 1) x := by
  obtain ⟨hg0, hl, ⟨hp, rfl, hb⟩ | ⟨hp, rfl, hb⟩⟩ := h
  · have e := rootOf_back hg0 hl
    rw [hp] at e
    have h1 : (g + 1) % 2 = 1 := by omega
    refine ⟨hg, hx, .inr ⟨h1, ?_, ?_⟩⟩
    · rw [if_neg (by omega)]
    · rw [if_neg (by omega)]
      unfold sealG
      rw [e]
      simp only
      omega
  · have e := rootOf_back hg0 hl
    rw [hp] at e
    have h1 : (g + 1) % 2 = 0 := by omega
    refine ⟨hg, hx, .inl ⟨h1, ?_, ?_⟩⟩
    · rw [if_pos h1]
    · rw [if_pos h1]
      unfold sealG
      rw [e]
      simp only
      omega
end Go.Proofs.Ytcpapdpnnlnemaa
