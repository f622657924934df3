/- How much may be pushed along a way, as the program reckons it, is how much may be pushed; no condition. -/
import Derived.Test.YtohcoknnalgjnaaRsPlain
namespace Go.Proofs.Ytohcoknnalgjnaa

/-- How often an edge is pushed, forward less back. -/
def cntT (e : Nat) (a : Int) : Int := if (a / 2).toNat = e then (if a % 2 = 0 then 1 else -1) else 0
def cnt (arcs : List Int) (e : Nat) : Int := (arcs.map (cntT e)).sum
/-- The least behind one more arc. -/
def botT (es : List Ed) (fl : List Int) (a t m : Int) : Int :=
  if 0 < t then min m (((edI es a).cap - flI fl a) / t) else if t < 0 then min m (flI fl a / -t) else m
def bot (es : List Ed) (fl arcs : List Int) : Nat → Int
  | 0 => 4503599627370496
  | k + 1 => botT es fl (arcs.getD k 0) (cnt (arcs.take (k + 1)) (arcs.getD k 0 / 2).toNat) (bot es fl arcs k)
def bottleP (n : Int) (es : List Ed) (fl arcs : List Int) : Int := if WithinP n es fl ∧ WayP es arcs then bot es fl arcs arcs.length else 0

theorem cnt_take {arcs : List Int} {k : Nat} {a : Int} (h : arcs[k]? = some a) (e : Nat) : cnt (arcs.take (k + 1)) e = cnt (arcs.take k) e + cntT e a := isum_take _ _ h
theorem cnt_take_le (arcs : List Int) (e : Nat) : ∀ k : Nat, -(k : Int) ≤ cnt (arcs.take k) e ∧ cnt (arcs.take k) e ≤ (k : Int)
  | 0 => by simp [cnt]
  | k + 1 => by
    have ih := cnt_take_le arcs e k
    rcases h : arcs[k]? with _ | a
    · have : arcs.take (k + 1) = arcs.take k := by rw [List.take_add_one, h]; simp
      rw [this]
      omega
    · rw [cnt_take h]
      unfold cntT
      split
      · split <;> omega
      · omega

section
variable {n : Int} {es : List Ed} {fl arcs : List Int} {a b : Int}
/-- What has been pushed so far on each edge. -/
theorem along_get (hh : ∀ a ∈ arcs, HasP es a) : ∀ {k : Nat}, k ≤ arcs.length → fl.length = es.length → ∀ {l}, alongL es b (arcs.take k) fl = some l → ∀ i, i < es.length → l.getD i 0 = fl.getD i 0 + b * cnt (arcs.take k) i
  | 0, _, _, l, h, i, _ => by
    simp only [List.take_zero, alongL, Option.some.injEq] at h
    subst h
    simp [cnt]
  | k + 1, hk, hl, l, h, i, hi => by
    obtain ⟨a, ha⟩ : ∃ a, arcs[k]? = some a := ⟨_, List.getElem?_eq_getElem hk⟩
    have hHas := hh a (List.mem_of_getElem? ha)
    rw [alongL_take ha] at h
    obtain ⟨m, h1, h2⟩ := Option.bind_eq_some_iff.1 h
    split at h2
    · cases h2
      have ih := along_get hh (k := k) (by omega) hl h1
      have hml := alongL_length h1
      rw [push_get (by rw [hml, hl]; exact hHas.lt), cnt_take ha, Int.mul_add]
      unfold cntT
      by_cases e : i = (a / 2).toNat
      · rw [if_pos e, if_pos e.symm]
        have hm : flI m a = m.getD i 0 := by unfold flI; rw [e]
        rw [hm, ih i hi]
        split <;> omega
      · rw [if_neg e, if_neg (fun h => e h.symm), ih i hi]
        omega
    · cases h2
theorem bot_nonneg (hw : WithinP n es fl) (hh : ∀ a ∈ arcs, HasP es a) : ∀ {k : Nat}, k ≤ arcs.length → 0 ≤ bot es fl arcs k ∧ bot es fl arcs k ≤ 4503599627370496
  | 0, _ => by simp [bot]
  | k + 1, hk => by
    have ih := bot_nonneg hw hh (k := k) (by omega)
    have hHas : HasP es (arcs.getD k 0) := by
      rw [List.getD_eq_getElem?_getD, List.getElem?_eq_getElem hk]
      exact hh _ (List.getElem_mem hk)
    have hf := hHas.fits hw
    have hb : bot es fl arcs (k + 1) = botT es fl (arcs.getD k 0) (cnt (arcs.take (k + 1)) (arcs.getD k 0 / 2).toNat) (bot es fl arcs k) := rfl
    rw [hb]
    generalize cnt (arcs.take (k + 1)) (arcs.getD k 0 / 2).toNat = t
    unfold botT
    split
    · have := Int.ediv_nonneg (show 0 ≤ (edI es (arcs.getD k 0)).cap - flI fl (arcs.getD k 0) by omega) (show 0 ≤ t by omega)
      omega
    · split
      · have := Int.ediv_nonneg (show 0 ≤ flI fl (arcs.getD k 0) by omega) (show 0 ≤ -t by omega)
        omega
      · exact ih
/-- As much as this may be pushed, and no more. -/
theorem bot_along (hw : WithinP n es fl) (hh : ∀ a ∈ arcs, HasP es a) (h0 : 0 ≤ b) (hb : b ≤ 4503599627370496) : ∀ {k : Nat}, k ≤ arcs.length → ((alongL es b (arcs.take k) fl).isSome = true ↔ b ≤ bot es fl arcs k)
  | 0, _ => by simp [alongL, bot, hb]
  | k + 1, hk => by
    have ih := bot_along hw hh h0 hb (k := k) (by omega)
    obtain ⟨a, ha⟩ : ∃ a, arcs[k]? = some a := ⟨_, List.getElem?_eq_getElem hk⟩
    have hHas := hh a (List.mem_of_getElem? ha)
    have hf := hHas.fits hw
    have hD : arcs.getD k 0 = a := by rw [List.getD_eq_getElem?_getD, ha]; rfl
    have hbt : bot es fl arcs (k + 1) = botT es fl a (cnt (arcs.take (k + 1)) (a / 2).toNat) (bot es fl arcs k) := by
      show botT es fl (arcs.getD k 0) (cnt (arcs.take (k + 1)) (arcs.getD k 0 / 2).toNat) (bot es fl arcs k) = _
      rw [hD]
    rw [hbt, alongL_take ha, cnt_take ha]
    have hle : ∀ t m : Int, b ≤ botT es fl a t m ↔ b ≤ m ∧ (0 < t → b * t ≤ (edI es a).cap - flI fl a) ∧ (t < 0 → b * -t ≤ flI fl a) := by
      intro t m
      unfold botT
      split
      · rename_i h
        rw [Int.le_min, Int.le_ediv_iff_mul_le h]
        constructor
        · exact fun h1 => ⟨h1.1, fun _ => h1.2, fun h2 => by omega⟩
        · exact fun h1 => ⟨h1.1, h1.2.1 h⟩
      · split
        · rename_i h
          rw [Int.le_min, Int.le_ediv_iff_mul_le (show 0 < -t by omega)]
          constructor
          · exact fun h1 => ⟨h1.1, fun h2 => by omega, fun _ => h1.2⟩
          · exact fun h1 => ⟨h1.1, h1.2.2 h⟩
        · exact ⟨fun h1 => ⟨h1, fun h2 => by omega, fun h2 => by omega⟩, fun h1 => h1.1⟩
    rw [hle]
    rcases hr : alongL es b (arcs.take k) fl with _ | l
    · rw [hr] at ih
      simp only [Option.isSome_none, Bool.false_eq_true, false_iff] at ih
      simp only [Option.bind_none, Option.isSome_none, Bool.false_eq_true, false_iff]
      exact fun h => ih h.1
    · rw [hr] at ih
      simp only [Option.isSome_some, true_iff] at ih
      have hg := along_get hh (k := k) (by omega) hw.2.1 hr (a / 2).toNat hHas.lt
      have hlw := alongL_within hw (fun c hc => hh c (List.mem_of_mem_take hc)) h0 hr
      have hlf := hHas.fits hlw
      have hgl : flI l a = flI fl a + b * cnt (arcs.take k) (a / 2).toNat := hg
      have hsome : (((some l).bind fun l => if b ≤ roomL es l a then some (pushL l a b) else none).isSome = true) ↔ b ≤ roomL es l a := by
        simp only [Option.bind_some]
        split <;> simp [*]
      rw [hsome]
      generalize cnt (arcs.take k) (a / 2).toNat = c at *
      have hT : cntT (a / 2).toNat a = if a % 2 = 0 then 1 else -1 := by unfold cntT; rw [if_pos rfl]
      rw [hT]
      unfold roomL
      by_cases e : a % 2 = 0
      · rw [if_pos e, if_pos e]
        have h1 : b * (c + 1) = b * c + b := by rw [Int.mul_add, Int.mul_one]
        constructor
        · refine fun h => ⟨ih, fun _ => by omega, fun h2 => ?_⟩
          rw [Int.mul_neg]
          omega
        · rintro ⟨_, h2, h3⟩
          by_cases ht : 0 < c + 1
          · have := h2 ht; omega
          · have : b * (c + 1) ≤ 0 := Int.mul_nonpos_of_nonneg_of_nonpos h0 (by omega)
            omega
      · rw [if_neg e, if_neg e]
        have h1 : b * (c + -1) = b * c - b := by rw [Int.mul_add, Int.mul_neg, Int.mul_one]; omega
        constructor
        · refine fun h => ⟨ih, fun _ => by omega, fun h2 => ?_⟩
          rw [Int.mul_neg]
          omega
        · rintro ⟨_, h2, h3⟩
          by_cases ht : c + -1 < 0
          · have := h3 ht
            rw [Int.mul_neg] at this
            omega
          · have : 0 ≤ b * (c + -1) := Int.mul_nonneg h0 (by omega)
            omega
/-- Of what is more than the most that may flow nothing is pushed. -/
theorem along_most (hw : WithinP n es fl) (hh : WayP es arcs) (hb : 4503599627370496 < b) : alongL es b arcs fl = none := by
  rcases arcs with _ | ⟨a, r⟩
  · exact absurd rfl hh.1
  · have := (hh.has (i := 0) (a := a) rfl).room hw
    unfold alongL
    rw [if_neg (by omega)]
theorem WayP.all (hh : WayP es arcs) : ∀ a ∈ arcs, HasP es a := fun a ha => by
  obtain ⟨i, hi⟩ := List.mem_iff_getElem?.1 ha
  exact hh.has hi
/-- THE GREATEST that may be pushed. -/
theorem bottle_iff (hw : WithinP n es fl) (hh : WayP es arcs) (h0 : 0 ≤ b) : (alongL es b arcs fl).isSome = true ↔ b ≤ bottleP n es fl arcs := by
  unfold bottleP
  rw [if_pos ⟨hw, hh⟩]
  rcases Int.lt_or_le 4503599627370496 b with hb | hb
  · rw [along_most hw hh hb]
    have := bot_nonneg hw hh.all (k := arcs.length) (Nat.le_refl _)
    simp only [Option.isSome_none, Bool.false_eq_true, false_iff]
    omega
  · have := bot_along hw hh.all h0 hb (k := arcs.length) (Nat.le_refl _)
    rwa [List.take_length] at this
theorem bottle_le : 0 ≤ bottleP n es fl arcs ∧ bottleP n es fl arcs ≤ 4503599627370496 := by
  unfold bottleP
  split
  · rename_i h
    exact bot_nonneg h.1 h.2.all (Nat.le_refl _)
  · omega
/-- .. in what Along answers. -/
theorem along_code : (alongP n es fl arcs b).2 = 0 ↔ WithinP n es fl ∧ WayP es arcs ∧ 0 ≤ b ∧ b ≤ bottleP n es fl arcs := by
  unfold alongP
  by_cases h : AlongOk n es fl arcs b
  · rw [if_pos h]
    have := bottle_iff h.1 h.2.2 h.2.1
    rcases hr : alongL es b arcs fl with _ | l
    · rw [hr] at this
      simp only [Option.isSome_none, Bool.false_eq_true, false_iff] at this
      simp only
      exact ⟨fun h => by omega, fun h => absurd h.2.2.2 this⟩
    · rw [hr] at this
      exact ⟨fun _ => ⟨h.1, h.2.2, h.2.1, this.1 rfl⟩, fun _ => rfl⟩
  · rw [if_neg h]
    simp only
    exact ⟨fun h => by omega, fun h2 => absurd ⟨h2.1, h2.2.2.1, h2.2.1⟩ h⟩
end
end Go.Proofs.Ytohcoknnalgjnaa
