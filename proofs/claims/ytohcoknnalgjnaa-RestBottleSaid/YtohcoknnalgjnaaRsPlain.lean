/- What is left on the edges of a net, as plain values: arcs, their ends and room, pushes along a way, how much may be pushed; no condition. -/
import Derived.Test.YtohcoknnalgjnaaNtOvPlain
namespace Go.Proofs.Ytohcoknnalgjnaa

def edI (es : List Ed) (a : Int) : Ed := es.getD (a / 2).toNat ⟨0, 0, 0, 0⟩
def flI (fl : List Int) (a : Int) : Int := fl.getD (a / 2).toNat 0
def HasP (es : List Ed) (a : Int) : Prop := 0 ≤ a ∧ a / 2 < (es.length : Int)
instance (es : List Ed) (a : Int) : Decidable (HasP es a) := by unfold HasP; infer_instance
def frA (es : List Ed) (a : Int) : Int := if a % 2 = 0 then (edI es a).fr else (edI es a).to
def toA (es : List Ed) (a : Int) : Int := if a % 2 = 0 then (edI es a).to else (edI es a).fr
def coA (es : List Ed) (a : Int) : Int := if a % 2 = 0 then (edI es a).cost else -(edI es a).cost
def roomL (es : List Ed) (fl : List Int) (a : Int) : Int := if a % 2 = 0 then (edI es a).cap - flI fl a else flI fl a
def pushL (fl : List Int) (a b : Int) : List Int := fl.set (a / 2).toNat (if a % 2 = 0 then flI fl a + b else flI fl a - b)
def alongL (es : List Ed) (b : Int) : List Int → List Int → Option (List Int)
  | [], fl => some fl
  | a :: r, fl => if b ≤ roomL es fl a then alongL es b r (pushL fl a b) else none

/-- The first k arcs are there, and each begins where the one ahead ends. -/
def wayT (es : List Ed) (arcs : List Int) (i : Nat) : Bool := decide (HasP es (arcs.getD i 0)) && (i == 0 || frA es (arcs.getD i 0) == toA es (arcs.getD (i - 1) 0))
def wayTo (es : List Ed) (arcs : List Int) (k : Nat) : Bool := (List.range k).all (wayT es arcs)
def WayP (es : List Ed) (arcs : List Int) : Prop := arcs ≠ [] ∧ wayTo es arcs arcs.length = true
instance (es : List Ed) (arcs : List Int) : Decidable (WayP es arcs) := by unfold WayP; infer_instance
theorem wayTo_zero (es : List Ed) (arcs : List Int) : wayTo es arcs 0 = true := rfl
theorem wayTo_more (es : List Ed) (arcs : List Int) (k : Nat) : wayTo es arcs (k + 1) = (wayTo es arcs k && wayT es arcs k) := by
  simp [wayTo, List.range_succ, List.all_append]
theorem wayTo_le {es : List Ed} {arcs : List Int} {k j : Nat} (h : wayTo es arcs k = true) (hj : j ≤ k) : wayTo es arcs j = true := by
  unfold wayTo at *
  rw [List.all_eq_true] at *
  exact fun x hx => h x (List.mem_range.2 (by have := List.mem_range.1 hx; omega))
theorem WayP.at {es : List Ed} {arcs : List Int} (h : WayP es arcs) {i : Nat} (hi : i < arcs.length) : wayT es arcs i = true := (List.all_eq_true.1 h.2) i (List.mem_range.2 hi)
theorem WayP.has {es : List Ed} {arcs : List Int} (h : WayP es arcs) {i : Nat} {a : Int} (hi : arcs[i]? = some a) : HasP es a := by
  have := h.at (List.getElem?_eq_some_iff.1 hi).1
  unfold wayT at this
  rw [List.getD_eq_getElem?_getD, hi] at this
  simp only [Option.getD_some, Bool.and_eq_true, decide_eq_true_eq] at this
  exact this.1
theorem WayP.link {es : List Ed} {arcs : List Int} (h : WayP es arcs) {i : Nat} {a b : Int} (hi : arcs[i]? = some a) (hj : arcs[i + 1]? = some b) : frA es b = toA es a := by
  have := h.at (List.getElem?_eq_some_iff.1 hj).1
  unfold wayT at this
  rw [List.getD_eq_getElem?_getD, hj, Nat.add_sub_cancel, List.getD_eq_getElem?_getD, hi] at this
  simp only [Option.getD_some, Bool.and_eq_true, Bool.or_eq_true, beq_iff_eq] at this
  rcases this.2 with h1 | h1
  · omega
  · exact h1

/-- What Ends, Room, Along answer. -/
def endsP (n : Int) (es : List Ed) (a : Int) : Int × Int × Int := if RightP n es ∧ HasP es a then (frA es a, toA es a, coA es a) else (0, 0, 0)
def roomP (n : Int) (es : List Ed) (fl : List Int) (a : Int) : Int := if WithinP n es fl ∧ HasP es a then roomL es fl a else 0
def AlongOk (n : Int) (es : List Ed) (fl arcs : List Int) (b : Int) : Prop := WithinP n es fl ∧ 0 ≤ b ∧ WayP es arcs
instance (n : Int) (es : List Ed) (fl arcs : List Int) (b : Int) : Decidable (AlongOk n es fl arcs b) := by unfold AlongOk; infer_instance
def alongP (n : Int) (es : List Ed) (fl arcs : List Int) (b : Int) : List Int × Int :=
  if AlongOk n es fl arcs b then
    match alongL es b arcs fl with
    | some l => (l, 0)
    | none => ([], 7)
  else ([], 1)

section
variable {n : Int} {es : List Ed} {fl arcs : List Int} {a b : Int}
theorem HasP.lt (h : HasP es a) : (a / 2).toNat < es.length := by unfold HasP at h; omega
theorem HasP.ed (h : HasP es a) : es[(a / 2).toNat]? = some (edI es a) := by
  unfold edI
  rw [List.getD_eq_getElem?_getD, List.getElem?_eq_getElem h.lt]
  rfl
theorem HasP.mem (h : HasP es a) : edI es a ∈ es := List.mem_of_getElem? h.ed
theorem HasP.flw (h : HasP es a) (hl : fl.length = es.length) : fl[(a / 2).toNat]? = some (flI fl a) := by
  unfold flI
  rw [List.getD_eq_getElem?_getD, List.getElem?_eq_getElem (by rw [hl]; exact h.lt)]
  rfl
theorem HasP.fits (h : HasP es a) (hw : WithinP n es fl) : 0 ≤ flI fl a ∧ flI fl a ≤ (edI es a).cap ∧ (edI es a).cap ≤ 4503599627370496 ∧ Perm n (edI es a) := by
  have h1 : (es.zip fl)[(a / 2).toNat]? = some (edI es a, flI fl a) := by
    rw [List.getElem?_zip_eq_some]
    exact ⟨h.ed, h.flw hw.2.1⟩
  have h2 := hw.2.2 _ (List.mem_of_getElem? h1)
  have h3 := hw.1.2.2.2.1 _ h.mem
  exact ⟨h2.1, h2.2, h3.2.2.2.2.2.1, h3⟩
theorem HasP.room (h : HasP es a) (hw : WithinP n es fl) : 0 ≤ roomL es fl a ∧ roomL es fl a ≤ 4503599627370496 := by
  have := h.fits hw
  unfold roomL
  split <;> omega
theorem pushL_length (fl : List Int) (a b : Int) : (pushL fl a b).length = fl.length := by simp [pushL]
theorem flI_eq {a c : Int} (h : (a / 2).toNat = (c / 2).toNat) : flI fl a = flI fl c := by unfold flI; rw [h]
theorem edI_eq {a c : Int} (h : (a / 2).toNat = (c / 2).toNat) : edI es a = edI es c := by unfold edI; rw [h]
theorem push_get (h : (a / 2).toNat < fl.length) (i : Nat) : (pushL fl a b).getD i 0 = if i = (a / 2).toNat then (if a % 2 = 0 then flI fl a + b else flI fl a - b) else fl.getD i 0 := by
  unfold pushL
  simp only [List.getD_eq_getElem?_getD, List.getElem?_set]
  by_cases e : (a / 2).toNat = i
  · subst e
    rw [if_pos rfl, if_pos h, if_pos rfl]
    rfl
  · rw [if_neg e, if_neg (fun h => e h.symm)]
/-- What is pushed by no more than there is room for stays within. -/
theorem WithinP.push (hw : WithinP n es fl) (h : HasP es a) (h0 : 0 ≤ b) (hb : b ≤ roomL es fl a) : WithinP n es (pushL fl a b) := by
  refine ⟨hw.1, by rw [pushL_length, hw.2.1], fun p hp => ?_⟩
  obtain ⟨i, hi⟩ := List.mem_iff_getElem?.1 hp
  obtain ⟨e, f⟩ := p
  rw [List.getElem?_zip_eq_some] at hi
  obtain ⟨h1, h2⟩ := hi
  have hf : f = (pushL fl a b).getD i 0 := by rw [List.getD_eq_getElem?_getD, h2]; rfl
  rw [push_get (by rw [hw.2.1]; exact h.lt)] at hf
  have hfit := h.fits hw
  unfold roomL at hb
  unfold Fits
  by_cases e1 : i = (a / 2).toNat
  · rw [if_pos e1] at hf
    rw [e1, h.ed] at h1
    obtain rfl : edI es a = e := Option.some.inj h1
    simp only
    split at hf <;> rename_i e2
    · rw [if_pos e2] at hb; omega
    · rw [if_neg e2] at hb; omega
  · rw [if_neg e1] at hf
    have hi2 : i < fl.length := by have := (List.getElem?_eq_some_iff.1 h2).1; rwa [pushL_length] at this
    rw [List.getD_eq_getElem?_getD, List.getElem?_eq_getElem hi2] at hf
    have : (es.zip fl)[i]? = some (e, f) := by
      rw [List.getElem?_zip_eq_some]
      exact ⟨h1, by rw [List.getElem?_eq_getElem hi2, hf]; rfl⟩
    exact hw.2.2 _ (List.mem_of_getElem? this)
theorem alongL_within : ∀ {arcs fl : List Int}, WithinP n es fl → (∀ a ∈ arcs, HasP es a) → 0 ≤ b → ∀ {l}, alongL es b arcs fl = some l → WithinP n es l
  | [], _, hw, _, _, l, h => by cases h; exact hw
  | a :: r, fl, hw, ha, h0, l, h => by
    unfold alongL at h
    split at h
    · rename_i hb
      exact alongL_within (hw.push (ha a (by simp)) h0 hb) (fun c hc => ha c (List.mem_cons_of_mem _ hc)) h0 h
    · cases h
theorem alongL_length : ∀ {arcs fl l : List Int}, alongL es b arcs fl = some l → l.length = fl.length
  | [], _, _, h => by cases h; rfl
  | a :: r, fl, l, h => by
    unfold alongL at h
    split at h
    · rw [alongL_length h, pushL_length]
    · cases h
theorem alongL_append : ∀ (r s fl : List Int), alongL es b (r ++ s) fl = (alongL es b r fl).bind (alongL es b s)
  | [], s, fl => rfl
  | a :: r, s, fl => by
    simp only [List.cons_append, alongL]
    split
    · exact alongL_append r s _
    · rfl
theorem alongL_take {k : Nat} (h : arcs[k]? = some a) : alongL es b (arcs.take (k + 1)) fl = (alongL es b (arcs.take k) fl).bind fun l => if b ≤ roomL es l a then some (pushL l a b) else none := by
  rw [List.take_add_one, h, alongL_append]
  congr 1
/-- Where it stops, it stops. -/
theorem alongL_none {k : Nat} (h : alongL es b (arcs.take k) fl = none) : alongL es b arcs fl = none := by
  rw [← List.take_append_drop k arcs, alongL_append, h]
  rfl
end
end Go.Proofs.Ytohcoknnalgjnaa
