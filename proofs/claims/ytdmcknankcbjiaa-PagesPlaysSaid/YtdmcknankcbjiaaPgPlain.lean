/- Pages as a list: did the state of then have each, has the one of now; what each call answers and leaves; no condition. -/
namespace Go.Proofs.Ytdmcknankcbjiaa

/-- A page: of then, of now. -/
abbrev Pg := Bool × Bool
/-- The number of its state. -/
def pnum : Pg → Nat
  | (true, true) => 1
  | (false, true) => 2
  | (true, false) => 3
  | (false, false) => 0
theorem pnum_lt (x : Pg) : pnum x < 4 := by rcases x with ⟨_ | _, _ | _⟩ <;> decide
theorem pnum_free {x : Pg} : pnum x = 0 ↔ x = (false, false) := by rcases x with ⟨_ | _, _ | _⟩ <;> simp [pnum]

/-- The least free one. -/
def leastFree : List Pg → Option Nat := List.findIdx? fun x => pnum x == 0
/-- .. as slices.Index tells it. -/
def ixP (l : List Pg) : Int := match leastFree l with | some k => (k : Int) | none => -1
theorem ixP_some {l : List Pg} {k : Nat} (h : leastFree l = some k) : ixP l = k := by simp [ixP, h]
theorem ixP_none {l : List Pg} (h : leastFree l = none) : ixP l = -1 := by simp [ixP, h]
def tcode (l : List Pg) : Int := match leastFree l with | some _ => 0 | none => 7
def tpage (l : List Pg) : Int := match leastFree l with | some k => (k : Int) | none => 0
def tdone (l : List Pg) : List Pg := match leastFree l with | some k => l.set k (false, true) | none => l

/-- The page of a number, if there is one. -/
def pgAt (l : List Pg) (k : Int) : Option Pg := if 0 ≤ k then l[k.toNat]? else none
def ucode (l : List Pg) (k : Int) : Int := match pgAt l k with | none => 1 | some x => if pnum x = 0 then 0 else 3
def udone (l : List Pg) (k : Int) : List Pg := match pgAt l k with | none => l | some x => if pnum x = 0 then l.set k.toNat (true, true) else l
def rcode (l : List Pg) (k : Int) : Int := match pgAt l k with | none => 1 | some x => if x.2 = true then 0 else 3
def rdone (l : List Pg) (k : Int) : List Pg := match pgAt l k with | none => l | some x => if x.2 = true then l.set k.toNat (x.1, false) else l
def settledP (l : List Pg) : List Pg := l.map fun x => (x.2, x.2)
def backP (l : List Pg) : List Pg := l.map fun x => (x.1, x.1)
def stateP (l : List Pg) (k : Int) : Nat := match pgAt l k with | none => 0 | some x => pnum x
def freeP (l : List Pg) : Nat := l.countP fun x => pnum x == 0

theorem pgAt_nat {l : List Pg} {k : Nat} : pgAt l (k : Int) = l[k]? := by simp [pgAt]
theorem pgAt_some {l : List Pg} {k : Int} {x : Pg} (h : pgAt l k = some x) : ∃ n : Nat, k = n ∧ n < l.length ∧ l[n]? = some x := by
  unfold pgAt at h
  split at h
  · exact ⟨k.toNat, by omega, (List.getElem?_eq_some_iff.1 h).1, h⟩
  · cases h
theorem pgAt_none {l : List Pg} {k : Int} (h : pgAt l k = none) : k < 0 ∨ (l.length : Int) ≤ k := by
  unfold pgAt at h
  split at h
  · have := List.getElem?_eq_none_iff.1 h
    omega
  · omega
theorem freeP_le (l : List Pg) : freeP l ≤ l.length := List.countP_le_length

theorem least_some {l : List Pg} {k : Nat} (h : leastFree l = some k) : ∃ x, l[k]? = some x ∧ pnum x = 0 ∧ ∀ (j : Nat) (y : Pg), j < k → l[j]? = some y → pnum y ≠ 0 := by
  unfold leastFree at h
  obtain ⟨hk, h1, h2⟩ := List.findIdx?_eq_some_iff_getElem.1 h
  refine ⟨l[k], List.getElem?_eq_getElem hk, by simpa using h1, fun j y hj hy => ?_⟩
  have := h2 j hj
  rw [(List.getElem?_eq_some_iff.1 hy).2] at this
  simpa using this
theorem least_none {l : List Pg} (h : leastFree l = none) : ∀ (j : Nat) (y : Pg), l[j]? = some y → pnum y ≠ 0 := by
  intro j y hy
  unfold leastFree at h
  have := List.findIdx?_eq_none_iff.1 h y (List.mem_of_getElem? hy)
  simpa using this
theorem least_of {l : List Pg} {k : Nat} {x : Pg} (hx : l[k]? = some x) (h0 : pnum x = 0) (h : ∀ (j : Nat) (y : Pg), j < k → l[j]? = some y → pnum y ≠ 0) : leastFree l = some k := by
  unfold leastFree
  obtain ⟨hk, e⟩ := List.getElem?_eq_some_iff.1 hx
  refine List.findIdx?_eq_some_iff_getElem.2 ⟨hk, by simp [e, h0], fun j hj => ?_⟩
  have := h j _ hj (List.getElem?_eq_getElem (by omega))
  simpa using this
theorem least_of_none {l : List Pg} (h : ∀ (j : Nat) (y : Pg), l[j]? = some y → pnum y ≠ 0) : leastFree l = none := by
  unfold leastFree
  refine List.findIdx?_eq_none_iff.2 fun x hx => ?_
  obtain ⟨j, hj⟩ := List.getElem?_of_mem hx
  have := h j x hj
  simpa using this
end Go.Proofs.Ytdmcknankcbjiaa
