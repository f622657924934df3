/- A journal on a device in plain words: what stands on its ring, what an Append writes, and what is found behind it wherever the power goes; no condition. -/
import Derived.Test.YtijkkkiejdaljaaJrScan
import Derived.Test.YtijkkkiejdaljaaDevCall
namespace Go.Proofs.Ytijkkkiejdaljaa

/-! ### the ring -/
def ringAt (a size ahead : Nat) : Nat := if size ≤ a + ahead then a + ahead - size else a + ahead
section
variable {a size p q : Nat}
theorem ringAt_lt (_ : a < size) (hp : p < size) : ringAt a size p < size := by unfold ringAt; split <;> omega
theorem ringAt_le (h : a < size) (hp : p ≤ size) : ringAt a size p < size := by unfold ringAt; split <;> omega
theorem ringAt_inj (h : a < size) (hp : p < size) (hq : q < size) (e : ringAt a size p = ringAt a size q) : p = q := by
  unfold ringAt at e; split at e <;> split at e <;> omega
theorem ringAt_zero (h : a < size) : ringAt a size 0 = a := by unfold ringAt; rw [if_neg (by omega)]; rfl
theorem ringAt_mod (h : a < size) (hp : p ≤ size) : ringAt a size p = (a + p) % size := by
  unfold ringAt
  split
  · rw [Nat.mod_eq_sub_mod (by omega), Nat.mod_eq_of_lt (by omega)]
  · rw [Nat.mod_eq_of_lt (by omega)]
end

/-- What may stand in a block behind a crash. -/
def Cand (x : Bk) (c : Bytes) : Prop := c = x.sure ∨ c ∈ x.loose
theorem cand_stands (x : Bk) : Cand x x.stands := by
  unfold Bk.stands
  rcases h : x.loose.getLast? with _ | c
  · exact .inl rfl
  · exact .inr (List.mem_of_getLast? h)
theorem cand_picked (x : Bk) (n : Nat) : Cand x (x.picked n) := by
  unfold Bk.picked
  split
  · exact .inl rfl
  · rcases h : x.loose[n - 1]? with _ | c
    · exact .inl rfl
    · exact .inr (List.mem_of_getElem? h)

/-- Nothing is loose. -/
def Clean (l : List Bk) : Prop := ∀ (i : Nat) (x : Bk), l[i]? = some x → x.loose = []
theorem Clean.cand {l : List Bk} (h : Clean l) {i : Nat} {x : Bk} (hx : l[i]? = some x) {c : Bytes} (hc : Cand x c) : c = x.sure := by
  rcases hc with hc | hc
  · exact hc
  · rw [h i x hx] at hc; cases hc
theorem clean_flushed (l : List Bk) : Clean (flushed l) := fun i x hx => by
  simp only [flushed, List.getElem?_map] at hx
  obtain ⟨y, _, rfl⟩ := Option.map_eq_some_iff.1 hx
  rfl
theorem clean_comes (l : List Bk) (ps : List Int) : Clean (comes l ps) := fun i x hx => by
  have hi := (List.getElem?_eq_some_iff.1 hx).1
  rw [comes_length] at hi
  rw [comes_at l ps i _ (List.getElem?_eq_getElem hi), Option.some.injEq] at hx
  subst hx
  rfl
theorem clean_fresh (n : Nat) : Clean (fresh n).bk := fun _ _ hx => by rw [(fresh_get hx).1]
theorem flushed_at {l : List Bk} {i : Nat} {x : Bk} (h : l[i]? = some x) : (flushed l)[i]? = some ⟨x.stands, []⟩ := by simp [flushed, h]

/-- The blocks of the ring hold just these strings, of this mark. -/
structure Holds (fr size a s : Nat) (bk : List Bk) (L : List Bytes) : Prop where
  fits : fr + size ≤ bk.length
  two : 2 ≤ size
  atl : a < size
  num : s < 18446744073709551616
  room : takenBy L ≤ size
  held : ∀ (p : Nat) (b : Bytes), (encA a s (0, 0) L).1[p]? = some b → ∃ x, bk[fr + ringAt a size p]? = some x ∧ ∀ c, Cand x c → c = b
  rest : ∀ (p : Nat) (x : Bk), takenBy L ≤ p → p < size → bk[fr + ringAt a size p]? = some x → ∀ c, Cand x c → NoEnd a s c
  old : ∀ (i : Nat) (x : Bk), i < size → bk[fr + i]? = some x → ∀ c, Cand x c → UpTo s c

section
variable {fr size a s : Nat} {bk bk' : List Bk} {L : List Bytes}

theorem Holds.turn (h : Holds fr size a s bk L) (hl : bk'.length = bk.length) (hc : ∀ (i : Nat) (x' : Bk), bk'[i]? = some x' → ∃ x, bk[i]? = some x ∧ ∀ c, Cand x' c → Cand x c) : Holds fr size a s bk' L where
  fits := by rw [hl]; exact h.fits
  two := h.two
  atl := h.atl
  num := h.num
  room := h.room
  held p b hb := by
    obtain ⟨x, hx, hx'⟩ := h.held p b hb
    have hi := (List.getElem?_eq_some_iff.1 hx).1
    obtain ⟨y, hy⟩ : ∃ y, bk'[fr + ringAt a size p]? = some y := ⟨_, List.getElem?_eq_getElem (by omega)⟩
    obtain ⟨z, hz, hz'⟩ := hc _ _ hy
    rw [hx, Option.some.injEq] at hz
    subst hz
    exact ⟨y, hy, fun c hcc => hx' c (hz' c hcc)⟩
  rest p x hp hps hx c hcc := by
    obtain ⟨z, hz, hz'⟩ := hc _ _ hx
    exact h.rest p z hp hps hz c (hz' c hcc)
  old i x hi hx c hcc := by
    obtain ⟨z, hz, hz'⟩ := hc _ _ hx
    exact h.old i z hi hz c (hz' c hcc)

theorem Holds.flushed (h : Holds fr size a s bk L) : Holds fr size a s (flushed bk) L := h.turn (flushed_length _) fun i x' hx => by
  simp only [Go.Proofs.Ytijkkkiejdaljaa.flushed, List.getElem?_map] at hx
  obtain ⟨y, hy, rfl⟩ := Option.map_eq_some_iff.1 hx
  refine ⟨y, hy, fun c hc => ?_⟩
  rcases hc with rfl | hc
  · exact cand_stands y
  · cases hc
theorem Holds.comes (h : Holds fr size a s bk L) (ps : List Int) : Holds fr size a s (comes bk ps) L := h.turn (comes_length _ _) fun i x' hx => by
  have hi := (List.getElem?_eq_some_iff.1 hx).1
  rw [comes_length] at hi
  rw [comes_at bk ps i _ (List.getElem?_eq_getElem hi), Option.some.injEq] at hx
  subst hx
  refine ⟨_, List.getElem?_eq_getElem hi, fun c hc => ?_⟩
  rcases hc with rfl | hc
  · dsimp only
    split
    · exact .inl rfl
    · exact cand_picked _ _
  · cases hc
/-- A block that ends nothing is written behind what is held. -/
theorem Holds.wrote (h : Holds fr size a s bk L) {p : Nat} {b : Bytes} (h1 : takenBy L ≤ p) (h2 : p < size) (hb : NoEnd a s b) (hu : UpTo s b) : Holds fr size a s (wrote bk (fr + ringAt a size p) b) L where
  fits := by rw [wrote_length]; exact h.fits
  two := h.two
  atl := h.atl
  num := h.num
  room := h.room
  held q c hc := by
    obtain ⟨x, hx, hx'⟩ := h.held q c hc
    refine ⟨x, ?_, hx'⟩
    have hq := (List.getElem?_eq_some_iff.1 hc).1
    rw [encA_length] at hq
    have hne : fr + ringAt a size q ≠ fr + ringAt a size p := fun e => by
      have : q = p := ringAt_inj h.atl (by have := h.room; omega) h2 (by omega)
      omega
    rw [wrote_get, if_neg hne, hx]
  rest q x hq hqs hx c hc := by
    rw [wrote_get] at hx
    split at hx
    · obtain ⟨y, hy, rfl⟩ := Option.map_eq_some_iff.1 hx
      rcases hc with rfl | hc
      · exact h.rest q y hq hqs hy _ (.inl rfl)
      · rcases List.mem_append.1 hc with hc | hc
        · exact h.rest q y hq hqs hy _ (.inr hc)
        · rw [List.mem_singleton.1 hc]
          exact hb
    · exact h.rest q x hq hqs hx c hc
  old i x hi hx c hc := by
    rw [wrote_get] at hx
    split at hx
    · obtain ⟨y, hy, rfl⟩ := Option.map_eq_some_iff.1 hx
      rcases hc with rfl | hc
      · exact h.old i y hi hy _ (.inl rfl)
      · rcases List.mem_append.1 hc with hc | hc
        · exact h.old i y hi hy _ (.inr hc)
        · rw [List.mem_singleton.1 hc]
          exact hu
    · exact h.old i x hi hx c hc

/-- The end of a string is sure, behind all its pieces. -/
theorem Holds.ends (h : Holds fr size a s bk L) {l : Bytes} (hr : takenBy L + nBlocks l.length ≤ size)
    (hp : ∀ (j : Nat) (b : Bytes), (encP a s (encA a s (0, 0) L).2 (piecesL l)).1[j]? = some b → ∃ x, bk[fr + ringAt a size (takenBy L + j)]? = some x ∧ ∀ c, Cand x c → c = b) :
    Holds fr size a s (bk.set (fr + ringAt a size (takenBy L + nPieces l.length)) ⟨endB a s (encP a s (encA a s (0, 0) L).2 (piecesL l)).2, []⟩) (L ++ [l]) := by
  have hlt : takenBy L + nPieces l.length < size := by unfold nBlocks at hr; omega
  have hin := ringAt_lt h.atl hlt
  have hset : ∀ q, q < size → q ≠ takenBy L + nPieces l.length → ∀ v, (bk.set (fr + ringAt a size (takenBy L + nPieces l.length)) v)[fr + ringAt a size q]? = bk[fr + ringAt a size q]? := fun q hq hne v =>
    List.getElem?_set_ne (fun e => hne (ringAt_inj h.atl hq hlt (by omega)))
  have hself : ∀ v, (bk.set (fr + ringAt a size (takenBy L + nPieces l.length)) v)[fr + ringAt a size (takenBy L + nPieces l.length)]? = some v := fun v =>
    List.getElem?_set_self (by have := h.fits; omega)
  have htk : takenBy (L ++ [l]) = takenBy L + nBlocks l.length := by rw [takenBy_append, takenBy_one]
  exact {
    fits := by rw [List.length_set]; exact h.fits
    two := h.two
    atl := h.atl
    num := h.num
    room := by rw [htk]; exact hr
    held := fun q b hb => by
      rw [encA_append, encA_one] at hb
      simp only [encS] at hb
      rw [← List.append_assoc] at hb
      by_cases h1 : q < takenBy L
      · rw [List.append_assoc, List.getElem?_append_left (by rw [encA_length]; exact h1)] at hb
        obtain ⟨x, hx, hx'⟩ := h.held q b hb
        exact ⟨x, by rw [hset q (by omega) (by omega)]; exact hx, hx'⟩
      · by_cases h2 : q < takenBy L + nPieces l.length
        · rw [List.getElem?_append_left (by rw [List.length_append, encA_length, encP_length, piecesL_length]; exact h2), List.getElem?_append_right (by rw [encA_length]; omega), encA_length] at hb
          obtain ⟨x, hx, hx'⟩ := hp _ b hb
          rw [show takenBy L + (q - takenBy L) = q by omega] at hx
          exact ⟨x, by rw [hset q (by omega) (by omega)]; exact hx, hx'⟩
        · rw [List.getElem?_append_right (by rw [List.length_append, encA_length, encP_length, piecesL_length]; omega), List.length_append, encA_length, encP_length, piecesL_length] at hb
          have hq : q = takenBy L + nPieces l.length := by
            have := (List.getElem?_eq_some_iff.1 hb).1
            simp at this
            omega
          subst hq
          rw [Nat.sub_self, List.getElem?_cons_zero, Option.some.injEq] at hb
          subst hb
          exact ⟨_, hself _, fun c hc => by
            rcases hc with hc | hc
            · exact hc
            · cases hc⟩
    rest := fun q x hq hqs hx c hc => by
      rw [htk] at hq
      unfold nBlocks at hq
      rw [hset q hqs (by omega)] at hx
      exact h.rest q x (by omega) hqs hx c hc
    old := fun i x hi hx c hc => by
      by_cases he : fr + i = fr + ringAt a size (takenBy L + nPieces l.length)
      · rw [he, hself, Option.some.injEq] at hx
        subst hx
        rcases hc with rfl | hc
        · exact upTo_blk (by decide) (by simp) h.num
        · cases hc
      · rw [List.getElem?_set_ne (fun e => he e.symm)] at hx
        exact h.old i x hi hx c hc }

/-- What stands on the ring from a spot on. -/
def standAt (bk : List Bk) (k : Nat) : Bytes := (bk[k]?.map Bk.stands).getD []
def standsFrom (fr size a : Nat) (bk : List Bk) (p : Nat) : List Bytes := (List.range' p (size - p)).map fun q => standAt bk (fr + ringAt a size q)
theorem standsFrom_step {p : Nat} (hp : p < size) : standsFrom fr size a bk p = standAt bk (fr + ringAt a size p) :: standsFrom fr size a bk (p + 1) := by
  unfold standsFrom
  rw [show size - p = (size - (p + 1)) + 1 by omega, List.range'_succ, List.map_cons]
theorem standsFrom_end {p : Nat} (hp : size ≤ p) : standsFrom fr size a bk p = [] := by
  unfold standsFrom
  rw [show size - p = 0 by omega]
  rfl
theorem standsFrom_drop {p k : Nat} (h : p + k ≤ size) : (standsFrom fr size a bk p).drop k = standsFrom fr size a bk (p + k) := by
  induction k generalizing p with
  | zero => rfl
  | succ k ih => rw [standsFrom_step (by omega), List.drop_succ_cons, ih (by omega)]; congr 1; omega
theorem standsFrom_get {p i : Nat} (h : p + i < size) : (standsFrom fr size a bk p)[i]? = some (standAt bk (fr + ringAt a size (p + i))) := by
  have := standsFrom_drop (fr := fr) (a := a) (bk := bk) (p := p) (k := i) (size := size) (by omega)
  rw [standsFrom_step (p := p + i) h] at this
  have h2 := congrArg (fun l => l[0]?) this
  simpa using h2

/-- What is found is what is held. -/
theorem Holds.found (h : Holds fr size a s bk L) : ∃ m, scan a s (standsFrom fr size a bk 0) (0, 0) [] = m ∧ m.map Prod.fst = L ∧ ((m.map Prod.snd).getLast?.getD (0, 0)) = (encA a s (0, 0) L).2 := by
  have hs : standsFrom fr size a bk 0 = (encA a s (0, 0) L).1 ++ standsFrom fr size a bk (takenBy L) := by
    rw [← List.take_append_drop (takenBy L) (standsFrom fr size a bk 0), standsFrom_drop (by have := h.room; omega), Nat.zero_add]
    congr 1
    apply List.ext_getElem?
    intro i
    by_cases hi : i < takenBy L
    · rw [List.getElem?_take_of_lt hi, standsFrom_get (by have := h.room; omega), Nat.zero_add]
      obtain ⟨b, hb⟩ : ∃ b, (encA a s (0, 0) L).1[i]? = some b := ⟨_, List.getElem?_eq_getElem (by rw [encA_length]; exact hi)⟩
      obtain ⟨x, hx, hx'⟩ := h.held i b hb
      rw [hb]
      unfold standAt
      rw [hx, Option.map_some, Option.getD_some, hx' _ (cand_stands x)]
    · rw [List.getElem?_eq_none (by rw [List.length_take]; omega), List.getElem?_eq_none (by rw [encA_length]; omega)]
  obtain ⟨m, h1, h2, h3⟩ := scan_encA (a := a) (s := s) L (0, 0) (standsFrom fr size a bk (takenBy L))
  refine ⟨m, ?_, h2, h3⟩
  rw [hs, h1, scan_none _ _ _ (fun b hb => ?_), List.append_nil]
  unfold standsFrom at hb
  obtain ⟨q, hq, rfl⟩ := List.mem_map.1 hb
  have hq' := List.mem_range'_1.1 hq
  have hlt := ringAt_lt h.atl (show q < size by omega)
  unfold standAt
  rw [List.getElem?_eq_getElem (by have := h.fits; omega), Option.map_some, Option.getD_some]
  exact h.rest q _ hq'.1 (by omega) (List.getElem?_eq_getElem (by have := h.fits; omega)) _ (cand_stands _)

/-- Nothing is held any more: the mark goes on. -/
theorem Holds.forget (h : Holds fr size a s bk L) (hn : s + L.length < 18446744073709551616) : Holds fr size (ringAt a size (takenBy L)) (s + L.length) bk [] where
  fits := h.fits
  two := h.two
  atl := ringAt_le h.atl h.room
  num := hn
  room := Nat.zero_le _
  held p b hb := by simp [encA] at hb
  rest p x _ hp hx c hc := by
    have hi := ringAt_lt (ringAt_le h.atl h.room) hp
    cases L with
    | nil =>
      have e : ringAt a size (takenBy []) = a := ringAt_zero h.atl
      rw [e] at hx ⊢
      exact h.rest p x (Nat.zero_le _) hp hx c hc
    | cons l L => exact (h.old _ x hi hx c hc).noEnd (by simp) hn _
  old i x hi hx c hc := (h.old i x hi hx c hc).mono (by omega)

theorem Holds.fresh (hf : ∀ (i : Nat) (x : Bk), i < size → bk[fr + i]? = some x → ∀ c, Cand x c → Foreign c) (hn : fr + size ≤ bk.length) (h2 : 2 ≤ size) (ha : a < size) (hs : s < 18446744073709551616) : Holds fr size a s bk [] where
  fits := hn
  two := h2
  atl := ha
  num := hs
  room := Nat.zero_le _
  held p b hb := by simp [encA] at hb
  rest p x _ hp hx c hc := (hf _ x (ringAt_lt ha hp) hx c hc).noEnd _ _
  old i x hi hx c hc := (hf i x hi hx c hc).upTo _
end
end Go.Proofs.Ytijkkkiejdaljaa
