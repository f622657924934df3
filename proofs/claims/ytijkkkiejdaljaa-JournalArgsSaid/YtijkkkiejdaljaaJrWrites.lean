/- What an Append of a journal does to a device in plain words: behind it all that was answered is held, and, wherever the power went, perhaps what was under way; no condition. -/
import Derived.Test.YtijkkkiejdaljaaJrPlain
namespace Go.Proofs.Ytijkkkiejdaljaa

/-- A journal's own numbers. -/
structure Jn where
  fr : Nat
  size : Nat
  at_ : Nat
  seq : Nat
  held : Nat
  ahead : Nat
  sum : Nat
  dead : Bool

abbrev Jn.spot (J : Jn) : Spot := (J.ahead, J.sum)
def Jn.place (J : Jn) (t : Spot) : Nat := J.fr + ringAt J.at_ J.size t.1
def Jn.blk (J : Jn) (t : Spot) (k : UInt8) (p : Bytes) : Bytes := blkL J.at_ J.seq k t.2 p
def behindS (t : Spot) (b : Bytes) : Spot := (t.1 + 1, sumOf b)

def putD (J : Jn) (D : Dv) (t : Spot) (k : UInt8) (p : Bytes) : Dv := wdev D (J.place t : Nat) (J.blk t k p)
def putC (J : Jn) (D : Dv) (t : Spot) (k : UInt8) (p : Bytes) : Int := wcode D (J.place t : Nat) (J.blk t k p)
def putS (J : Jn) (D : Dv) (t : Spot) (k : UInt8) (p : Bytes) : Spot := if putC J D t k p = 0 then behindS t (J.blk t k p) else (0, 0)

def putsD (J : Jn) : Dv → Spot → List Bytes → Dv × Spot × Int
  | D, t, [] => (D, t, 0)
  | D, t, x :: r => if putC J D t 1 x = 0 then putsD J (putD J D t 1 x) (behindS t (J.blk t 1 x)) r else (putD J D t 1 x, (0, 0), putC J D t 1 x)

/-- Behind the pieces: they are made sure, the end is written, and made sure. -/
def closeD (J : Jn) (D : Dv) (t : Spot) : Dv × Spot × Int :=
  if fcode D ≠ 0 then (fdev D, (0, 0), fcode D)
  else if putC J (fdev D) t 2 [] ≠ 0 then (putD J (fdev D) t 2 [], (0, 0), putC J (fdev D) t 2 [])
  else if fcode (putD J (fdev D) t 2 []) ≠ 0 then (fdev (putD J (fdev D) t 2 []), (0, 0), fcode (putD J (fdev D) t 2 []))
  else (fdev (putD J (fdev D) t 2 []), behindS t (J.blk t 2 []), 0)
def writeD (J : Jn) (D : Dv) (l : Bytes) : Dv × Spot × Int :=
  if (putsD J D J.spot (piecesL l)).2.2 ≠ 0 then ((putsD J D J.spot (piecesL l)).1, (0, 0), (putsD J D J.spot (piecesL l)).2.2)
  else closeD J (putsD J D J.spot (piecesL l)).1 (putsD J D J.spot (piecesL l)).2.1

theorem putsD_append {J : Jn} : ∀ (x y : List Bytes) (D : Dv) (t : Spot) (D' : Dv) (t' : Spot), putsD J D t x = (D', t', 0) → putsD J D t (x ++ y) = putsD J D' t' y
  | [], y, D, t, D', t', h => by
    simp only [putsD, Prod.mk.injEq] at h
    rw [List.nil_append, h.1, h.2.1]
  | b :: x, y, D, t, D', t', h => by
    rw [List.cons_append, putsD]
    rw [putsD] at h
    by_cases hc : putC J D t 1 b = 0
    · rw [if_pos hc] at h ⊢
      exact putsD_append x y _ _ _ _ h
    · rw [if_neg hc] at h
      simp only [Prod.mk.injEq] at h
      exact absurd h.2.2 hc

/-- Neither is off, nor runs out. -/
def Free' (D : Dv) : Prop := D.on = true ∧ D.left < 0

section
variable {D : Dv}
theorem wcode_in {k : Nat} {l : Bytes} (ho : D.on = true) (hk : k < D.bk.length) (hl : l.length = 512) :
    (D.left = 0 ∧ wcode D k l = 8 ∧ wdev D k l = ⟨D.bk, false, D.left⟩) ∨ (D.left ≠ 0 ∧ wcode D k l = 0 ∧ wdev D k l = ⟨wrote D.bk k l, true, spent D.left⟩) := by
  have hn : ¬ noSuch D k l := by
    unfold noSuch
    rintro (h | h | h)
    · omega
    · omega
    · exact h hl
  by_cases hz : D.left = 0
  · exact .inl ⟨hz, by simp [wcode, ho, hn, hz], by simp [wdev, ho, hn, hz]⟩
  · exact .inr ⟨hz, by simp [wcode, ho, hn, hz], by simp [wdev, ho, hn, hz]⟩
theorem fcode_in (ho : D.on = true) :
    (D.left = 0 ∧ fcode D = 8 ∧ fdev D = ⟨D.bk, false, D.left⟩) ∨ (D.left ≠ 0 ∧ fcode D = 0 ∧ fdev D = ⟨flushed D.bk, true, spent D.left⟩) := by
  by_cases hz : D.left = 0
  · exact .inl ⟨hz, by simp [fcode, ho, hz], by simp [fdev, ho, hz]⟩
  · exact .inr ⟨hz, by simp [fcode, ho, hz], by simp [fdev, ho, hz]⟩
theorem spent_below {n : Int} (h : n < 0) : spent n < 0 := by unfold spent; split <;> omega
end

/-- What has come of a device: all went well, or the power went. -/
structure Went (D D' : Dv) (c : Int) : Prop where
  len : D'.bk.length = D.bk.length
  ends : (c = 0 ∧ D'.on = true) ∨ (c = 8 ∧ D'.on = false)
  free : D.left < 0 → c = 0 ∧ D'.left < 0
theorem Went.trans {A B C : Dv} {c : Int} (h : Went A B 0) (k : Went B C c) : Went A C c where
  len := k.len.trans h.len
  ends := k.ends
  free hl := k.free (h.free hl).2
theorem went_write {D : Dv} {k : Nat} {l : Bytes} (ho : D.on = true) (hk : k < D.bk.length) (hl : l.length = 512) : Went D (wdev D k l) (wcode D k l) := by
  rcases wcode_in ho hk hl with ⟨hz, h1, h2⟩ | ⟨hz, h1, h2⟩
  · rw [h1, h2]
    exact ⟨rfl, .inr ⟨rfl, rfl⟩, fun h => by omega⟩
  · rw [h1, h2]
    exact ⟨wrote_length _ _ _, .inl ⟨rfl, rfl⟩, fun h => ⟨rfl, spent_below h⟩⟩
theorem went_flush {D : Dv} (ho : D.on = true) : Went D (fdev D) (fcode D) := by
  rcases fcode_in ho with ⟨hz, h1, h2⟩ | ⟨hz, h1, h2⟩
  · rw [h1, h2]
    exact ⟨rfl, .inr ⟨rfl, rfl⟩, fun h => by omega⟩
  · rw [h1, h2]
    exact ⟨flushed_length _, .inl ⟨rfl, rfl⟩, fun h => ⟨rfl, spent_below h⟩⟩

/-- The blocks that are not the ring's stand as they stood. -/
def Outside (fr size : Nat) (l l' : List Bk) : Prop := ∀ i, (i < fr ∨ fr + size ≤ i) → standAt l' i = standAt l i
theorem Outside.refl {fr size : Nat} (l : List Bk) : Outside fr size l l := fun _ _ => rfl
theorem Outside.trans {fr size : Nat} {a b c : List Bk} (h : Outside fr size a b) (k : Outside fr size b c) : Outside fr size a c := fun i hi => (k i hi).trans (h i hi)
theorem outside_wrote {fr size k : Nat} {l : List Bk} {b : Bytes} (h1 : fr ≤ k) (h2 : k < fr + size) : Outside fr size l (wrote l k b) := fun i hi => by
  unfold standAt
  rw [wrote_get, if_neg (by omega)]
theorem outside_flushed {fr size : Nat} (l : List Bk) : Outside fr size l (flushed l) := fun i _ => by
  unfold standAt
  simp only [flushed, List.getElem?_map]
  cases l[i]? <;> rfl

section
variable {J : Jn} {D : Dv} {L : List Bytes}

theorem place_in (ha : J.at_ < J.size) {t : Spot} (ht : t.1 < J.size) : J.fr ≤ J.place t ∧ J.place t < J.fr + J.size := by
  have := ringAt_lt ha ht
  unfold Jn.place
  omega

theorem went_put (ho : D.on = true) (hf : J.fr + J.size ≤ D.bk.length) (ha : J.at_ < J.size) {t : Spot} (ht : t.1 < J.size) (k : UInt8) {p : Bytes} (hp : p.length ≤ 480) :
    Went D (putD J D t k p) (putC J D t k p) ∧ Outside J.fr J.size D.bk (putD J D t k p).bk := by
  have h1 := place_in ha ht
  have hl : (J.blk t k p).length = 512 := blkL_length hp
  refine ⟨went_write ho (by omega) hl, ?_⟩
  unfold putD
  rcases wcode_in (k := J.place t) ho (by omega) hl with ⟨_, _, h2⟩ | ⟨_, _, h2⟩
  · rw [h2]; exact Outside.refl _
  · rw [h2]; exact outside_wrote h1.1 h1.2

theorem went_puts : ∀ (x : List Bytes) (D : Dv) (t : Spot), D.on = true → J.fr + J.size ≤ D.bk.length → J.at_ < J.size → t.1 + x.length ≤ J.size → (∀ b ∈ x, b.length ≤ 480) →
    Went D (putsD J D t x).1 (putsD J D t x).2.2 ∧ Outside J.fr J.size D.bk (putsD J D t x).1.bk ∧ ((putsD J D t x).2.2 = 0 → (putsD J D t x).2.1 = (encP J.at_ J.seq t x).2)
  | [], D, t, ho, _, _, _, _ => ⟨⟨rfl, .inl ⟨rfl, ho⟩, fun h => ⟨rfl, h⟩⟩, Outside.refl _, fun _ => rfl⟩
  | b :: x, D, t, ho, hf, ha, ht, hx => by
    simp only [List.length_cons] at ht
    obtain ⟨h1, h2⟩ := went_put (t := t) ho hf ha (by omega) 1 (hx b (by simp))
    rw [putsD]
    by_cases hc : putC J D t 1 b = 0
    · rw [if_pos hc]
      rw [hc] at h1
      have hon : (putD J D t 1 b).on = true := h1.ends.elim (·.2) fun h => by cases h.1
      obtain ⟨k1, k2, k3⟩ := went_puts x (putD J D t 1 b) (behindS t (J.blk t 1 b)) hon (by rw [h1.len]; exact hf) ha (by simp only [behindS]; omega) fun c hcx => hx c (by simp [hcx])
      exact ⟨h1.trans k1, h2.trans k2, fun h => by rw [k3 h]; rfl⟩
    · rw [if_neg hc]
      exact ⟨h1, h2, fun h => absurd h hc⟩

theorem went_close (ho : D.on = true) (hf : J.fr + J.size ≤ D.bk.length) (ha : J.at_ < J.size) {t : Spot} (ht : t.1 < J.size) :
    Went D (closeD J D t).1 (closeD J D t).2.2 ∧ Outside J.fr J.size D.bk (closeD J D t).1.bk ∧ ((closeD J D t).2.2 = 0 → (closeD J D t).2.1 = behindS t (J.blk t 2 [])) := by
  have hfl := went_flush ho
  have of : Outside J.fr J.size D.bk (fdev D).bk := by
    rcases fcode_in ho with ⟨_, _, h2⟩ | ⟨_, _, h2⟩
    · rw [h2]; exact Outside.refl _
    · rw [h2]; exact outside_flushed _
  unfold closeD
  by_cases h1 : fcode D = 0
  · rw [if_neg (by simpa using h1)]
    rw [h1] at hfl
    have hon : (fdev D).on = true := hfl.ends.elim (·.2) fun h => by cases h.1
    obtain ⟨hp, op⟩ := went_put (J := J) (t := t) hon (by rw [hfl.len]; exact hf) ha ht 2 (p := []) (by simp)
    by_cases h2 : putC J (fdev D) t 2 [] = 0
    · rw [if_neg (by simpa using h2)]
      rw [h2] at hp
      have hon2 : (putD J (fdev D) t 2 []).on = true := hp.ends.elim (·.2) fun h => by cases h.1
      have hfl2 := went_flush hon2
      have of2 : Outside J.fr J.size (putD J (fdev D) t 2 []).bk (fdev (putD J (fdev D) t 2 [])).bk := by
        rcases fcode_in hon2 with ⟨_, _, h2⟩ | ⟨_, _, h2⟩
        · rw [h2]; exact Outside.refl _
        · rw [h2]; exact outside_flushed _
      by_cases h3 : fcode (putD J (fdev D) t 2 []) = 0
      · rw [if_neg (by simpa using h3)]
        rw [h3] at hfl2
        exact ⟨(hfl.trans hp).trans hfl2, (of.trans op).trans of2, fun _ => rfl⟩
      · rw [if_pos h3]
        exact ⟨(hfl.trans hp).trans hfl2, (of.trans op).trans of2, fun h => absurd h h3⟩
    · rw [if_pos h2]
      exact ⟨hfl.trans hp, of.trans op, fun h => absurd h h2⟩
  · rw [if_pos h1]
    exact ⟨hfl, of, fun h => absurd h h1⟩

theorem went_writeD (ho : D.on = true) (hf : J.fr + J.size ≤ D.bk.length) (ha : J.at_ < J.size) {l : Bytes} (ht : J.ahead + nBlocks l.length ≤ J.size) :
    Went D (writeD J D l).1 (writeD J D l).2.2 ∧ Outside J.fr J.size D.bk (writeD J D l).1.bk ∧ ((writeD J D l).2.2 = 0 → (writeD J D l).2.1 = (encS J.at_ J.seq J.spot l).2) := by
  unfold nBlocks at ht
  obtain ⟨h1, h2, h3⟩ := went_puts (J := J) (piecesL l) D J.spot ho hf ha (by rw [piecesL_length]; simp only; omega) (piecesL_short l)
  unfold writeD
  by_cases hc : (putsD J D J.spot (piecesL l)).2.2 = 0
  · rw [if_neg (by simpa using hc)]
    rw [hc] at h1
    have hs := h3 hc
    have hon : (putsD J D J.spot (piecesL l)).1.on = true := h1.ends.elim (·.2) fun h => by cases h.1
    have hsp : (putsD J D J.spot (piecesL l)).2.1.1 = J.ahead + nPieces l.length := by rw [hs, encP_spot, piecesL_length]
    obtain ⟨k1, k2, k3⟩ := went_close (J := J) hon (by rw [h1.len]; exact hf) ha (t := (putsD J D J.spot (piecesL l)).2.1) (by rw [hsp]; omega)
    exact ⟨h1.trans k1, h2.trans k2, fun h => by rw [k3 h, hs]; rfl⟩
  · rw [if_pos hc]
    exact ⟨h1, h2, fun h => absurd h hc⟩

/-- The pieces, written loose behind what is held. -/
theorem holds_puts (x : List Bytes) : ∀ (D : Dv) (t : Spot), D.on = true → Holds J.fr J.size J.at_ J.seq D.bk L → takenBy L ≤ t.1 → t.1 + x.length ≤ J.size → (∀ b ∈ x, b.length ≤ 480) →
    Holds J.fr J.size J.at_ J.seq (putsD J D t x).1.bk L ∧ ((putsD J D t x).2.2 = 0 →
      (∀ (j : Nat) (b : Bytes), (encP J.at_ J.seq t x).1[j]? = some b → standAt (putsD J D t x).1.bk (J.fr + ringAt J.at_ J.size (t.1 + j)) = b) ∧
      (∀ p, p < t.1 → p < J.size → standAt (putsD J D t x).1.bk (J.fr + ringAt J.at_ J.size p) = standAt D.bk (J.fr + ringAt J.at_ J.size p))) := by
  induction x with
  | nil => exact fun D t _ h _ _ _ => ⟨h, fun _ => ⟨fun j b hb => by simp [encP] at hb, fun _ _ _ => rfl⟩⟩
  | cons b x ih =>
    intro D t ho h ht hts hx
    simp only [List.length_cons] at hts
    have hb : b.length ≤ 480 := hx b (by simp)
    have hpl := place_in h.atl (show t.1 < J.size by omega)
    have hl : (J.blk t 1 b).length = 512 := blkL_length hb
    rw [putsD]
    rcases wcode_in (k := J.place t) ho (by have := h.fits; omega) hl with ⟨_, h1, h2⟩ | ⟨_, h1, h2⟩
    · have hc : ¬ putC J D t 1 b = 0 := by unfold putC; rw [h1]; decide
      have hd : (putD J D t 1 b).bk = D.bk := by unfold putD; rw [h2]
      rw [if_neg hc]
      exact ⟨by rw [show (putD J D t 1 b, ((0, 0) : Spot), putC J D t 1 b).1.bk = D.bk from hd]; exact h, fun h => absurd h hc⟩
    · have hc : putC J D t 1 b = 0 := h1
      have hd : putD J D t 1 b = ⟨wrote D.bk (J.place t) (J.blk t 1 b), true, spent D.left⟩ := h2
      rw [if_pos hc, hd]
      have h' : Holds J.fr J.size J.at_ J.seq (wrote D.bk (J.place t) (J.blk t 1 b)) L := h.wrote ht (by omega) (noEnd_piece hb) (upTo_blk (by decide) hb h.num)
      obtain ⟨k1, k2⟩ := ih ⟨wrote D.bk (J.place t) (J.blk t 1 b), true, spent D.left⟩ (behindS t (J.blk t 1 b)) rfl h' (by simp only [behindS]; omega) (by simp only [behindS]; omega) fun c hcx => hx c (by simp [hcx])
      refine ⟨k1, fun hz => ?_⟩
      obtain ⟨k3, k4⟩ := k2 hz
      refine ⟨fun j c hj => ?_, fun p hp hps => ?_⟩
      · cases j with
        | zero =>
          rw [Nat.add_zero, k4 t.1 (by simp [behindS]) (by omega)]
          simp only [encP, List.getElem?_cons_zero, Option.some.injEq] at hj
          subst hj
          have hi : J.place t < D.bk.length := by have := h.fits; omega
          show standAt (wrote D.bk (J.place t) (J.blk t 1 b)) (J.place t) = J.blk t 1 b
          unfold standAt
          rw [wrote_get, if_pos rfl, List.getElem?_eq_getElem hi]
          simp [Bk.stands]
        | succ j =>
          simp only [encP, List.getElem?_cons_succ] at hj
          have := k3 j c hj
          simp only [behindS] at this
          rw [show t.1 + (j + 1) = t.1 + 1 + j by omega]
          exact this
      · rw [k4 p (by simp only [behindS]; omega) hps]
        show standAt (wrote D.bk (J.place t) (J.blk t 1 b)) _ = _
        unfold standAt
        rw [wrote_get, if_neg (fun e => ?_)]
        have : p = t.1 := ringAt_inj h.atl hps (show t.1 < J.size by omega) (by unfold Jn.place at e; omega)
        omega

theorem set_ext {l l' : List Bk} {k : Nat} {y : Bk} (hl : l'.length = l.length) (hk : k < l.length) (h1 : l'[k]? = some y) (h2 : ∀ i x, i ≠ k → l[i]? = some x → l'[i]? = some x) : l' = l.set k y := by
  apply List.ext_getElem?
  intro i
  by_cases hi : i = k
  · subst hi
    rw [h1, List.getElem?_set_self hk]
  · rw [List.getElem?_set_ne (fun e => hi e.symm)]
    rcases hx : l[i]? with _ | x
    · rw [List.getElem?_eq_none (by rw [hl]; exact List.getElem?_eq_none_iff.1 hx)]
    · exact h2 i x hi hx

theorem comes_clean {l : List Bk} (h : Clean l) (ps : List Int) : comes l ps = l := by
  apply List.ext_getElem?
  intro i
  rcases hx : l[i]? with _ | x
  · rw [List.getElem?_eq_none (by rw [comes_length]; exact List.getElem?_eq_none_iff.1 hx)]
  · rw [comes_at l ps i x hx, if_pos (h i x hx)]
    have := h i x hx
    cases x
    simp_all
/-- One thing is loose: it is kept, or not. -/
theorem comes_one {l : List Bk} (h : Clean l) {k : Nat} (hk : k < l.length) (b : Bytes) (ps : List Int) : comes (wrote l k b) ps = l ∨ comes (wrote l k b) ps = l.set k ⟨b, []⟩ := by
  obtain ⟨x, hx⟩ : ∃ x, l[k]? = some x := ⟨_, List.getElem?_eq_getElem hk⟩
  have hw : (wrote l k b)[k]? = some ⟨x.sure, [b]⟩ := by rw [wrote_get, if_pos rfl, hx, Option.map_some, h k x hx]; rfl
  have hlen : (comes (wrote l k b) ps).length = l.length := by rw [comes_length, wrote_length]
  have hoth : ∀ i y, i ≠ k → l[i]? = some y → (comes (wrote l k b) ps)[i]? = some y := fun i y hi hy => by
    have : (wrote l k b)[i]? = some y := by rw [wrote_get, if_neg hi, hy]
    rw [comes_at _ ps i y this, if_pos (h i y hy)]
    have := h i y hy
    cases y
    simp_all
  have hself := comes_at _ ps k _ hw
  rw [if_neg (by simp)] at hself
  generalize pickAt ps (cnt (wrote l k b) k) ([b] : List Bytes).length = n at hself
  rcases cand_picked ⟨x.sure, [b]⟩ n with hp | hp
  · left
    rw [hp] at hself
    rw [set_ext hlen hk hself hoth]
    apply List.ext_getElem?
    intro i
    by_cases hi : i = k
    · subst hi
      rw [List.getElem?_set_self hk, hx]
      have := h i x hx
      cases x
      simp_all
    · rw [List.getElem?_set_ne (fun e => hi e.symm)]
  · right
    rw [List.mem_singleton.1 hp] at hself
    exact set_ext hlen hk hself hoth
theorem flushed_one {l : List Bk} (h : Clean l) {k : Nat} (hk : k < l.length) (b : Bytes) : flushed (wrote l k b) = l.set k ⟨b, []⟩ := by
  obtain ⟨x, hx⟩ : ∃ x, l[k]? = some x := ⟨_, List.getElem?_eq_getElem hk⟩
  refine set_ext (by rw [flushed_length, wrote_length]) hk ?_ fun i y hi hy => ?_
  · have hw : (wrote l k b)[k]? = some ⟨x.sure, [b]⟩ := by rw [wrote_get, if_pos rfl, hx, Option.map_some, h k x hx]; rfl
    rw [flushed_at hw]
    rfl
  · have : (wrote l k b)[i]? = some y := by rw [wrote_get, if_neg hi, hy]
    rw [flushed_at this, Bk.stands_nil (h i y hy)]
    have := h i y hy
    cases y
    simp_all

/-- **What an Append has done to the ring.** -/
theorem holds_write (ho : D.on = true) (h : Holds J.fr J.size J.at_ J.seq D.bk L) (hs : J.spot = (encA J.at_ J.seq (0, 0) L).2) {l : Bytes} (hr : takenBy L + nBlocks l.length ≤ J.size) :
    ((writeD J D l).2.2 = 0 → Clean (writeD J D l).1.bk ∧ Holds J.fr J.size J.at_ J.seq (writeD J D l).1.bk (L ++ [l])) ∧
    ((writeD J D l).2.2 ≠ 0 → ∀ ps, Holds J.fr J.size J.at_ J.seq (comes (writeD J D l).1.bk ps) L ∨ Holds J.fr J.size J.at_ J.seq (comes (writeD J D l).1.bk ps) (L ++ [l])) := by
  have hah : J.ahead = takenBy L := by
    have := congrArg Prod.fst hs
    rw [encA_spot] at this
    simpa using this
  unfold nBlocks at hr
  obtain ⟨h1, h2, h3⟩ := went_puts (J := J) (piecesL l) D J.spot ho h.fits h.atl (by rw [piecesL_length]; simp only; omega) (piecesL_short l)
  obtain ⟨p1, p2⟩ := holds_puts (piecesL l) D J.spot ho h (by simp only; omega) (by rw [piecesL_length]; simp only; omega) (piecesL_short l)
  unfold writeD
  by_cases hc : (putsD J D J.spot (piecesL l)).2.2 = 0
  · rw [if_neg (by simpa using hc)]
    have hsp := h3 hc
    obtain ⟨p3, _⟩ := p2 hc
    rw [hc] at h1
    have hon : (putsD J D J.spot (piecesL l)).1.on = true := h1.ends.elim (·.2) fun h => by cases h.1
    have hlen := h1.len
    generalize hE : putsD J D J.spot (piecesL l) = E at *
    obtain ⟨D1, t1, c1⟩ := E
    simp only at hc hsp hon hlen p1 p3 ⊢
    have ht1 : t1.1 = takenBy L + nPieces l.length := by rw [hsp, encP_spot, piecesL_length]; simp only; omega
    unfold closeD
    rcases fcode_in hon with ⟨_, f1, f2⟩ | ⟨_, f1, f2⟩
    · rw [if_pos (by rw [f1]; decide), f2]
      refine ⟨fun e => ?_, fun _ ps => .inl (p1.comes ps)⟩
      simp only at e
      rw [f1] at e
      cases e
    · rw [if_neg (by rw [f1]; decide), f2]
      have cl : Clean (flushed D1.bk) := clean_flushed _
      have hH : Holds J.fr J.size J.at_ J.seq (flushed D1.bk) L := p1.flushed
      have hkk : J.place t1 < (flushed D1.bk).length := by
        have := place_in (J := J) h.atl (t := t1) (by omega)
        have := hH.fits
        omega
      have hset : Holds J.fr J.size J.at_ J.seq ((flushed D1.bk).set (J.place t1) ⟨J.blk t1 2 [], []⟩) (L ++ [l]) := by
        have := hH.ends (l := l) (by unfold nBlocks; omega) (fun j b hb => by
          rw [← hs] at hb
          have hj := (List.getElem?_eq_some_iff.1 hb).1
          rw [encP_length, piecesL_length] at hj
          have hst := p3 j b hb
          simp only [hah] at hst
          have hri := ringAt_lt h.atl (show takenBy L + j < J.size by omega)
          have hft := p1.fits
          obtain ⟨y, hy⟩ : ∃ y, D1.bk[J.fr + ringAt J.at_ J.size (takenBy L + j)]? = some y := ⟨_, List.getElem?_eq_getElem (by omega)⟩
          refine ⟨⟨y.stands, []⟩, flushed_at hy, fun c hcc => ?_⟩
          unfold standAt at hst
          rw [hy, Option.map_some, Option.getD_some] at hst
          rcases hcc with hcc | hcc
          · rw [hcc, ← hst]
          · cases hcc)
        rw [← hs, ← hsp] at this
        unfold Jn.place
        rw [ht1]
        exact this
      have hl : (J.blk t1 2 []).length = 512 := blkL_length (by simp)
      unfold putC putD
      rcases wcode_in (D := ⟨flushed D1.bk, true, spent D1.left⟩) (k := J.place t1) rfl hkk hl with ⟨_, w1, w2⟩ | ⟨_, w1, w2⟩
      · rw [if_pos (by rw [w1]; decide), w2]
        refine ⟨fun e => ?_, fun _ ps => .inl ?_⟩
        · simp only at e
          rw [w1] at e
          cases e
        · simp only
          rw [comes_clean cl]
          exact hH
      · rw [if_neg (by rw [w1]; decide), w2]
        rcases fcode_in (D := ⟨wrote (flushed D1.bk) (J.place t1) (J.blk t1 2 []), true, spent (spent D1.left)⟩) rfl with ⟨_, g1, g2⟩ | ⟨_, g1, g2⟩
        · rw [if_pos (by rw [g1]; decide), g2]
          refine ⟨fun e => ?_, fun _ ps => ?_⟩
          · simp only at e
            rw [g1] at e
            cases e
          · simp only
            rcases comes_one cl hkk (J.blk t1 2 []) ps with e | e
            · rw [e]; exact .inl hH
            · rw [e]; exact .inr hset
        · rw [if_neg (by rw [g1]; decide), g2]
          simp only
          rw [flushed_one cl hkk]
          refine ⟨fun _ => ⟨fun i x hx => ?_, hset⟩, fun e => absurd rfl e⟩
          by_cases hi : i = J.place t1
          · subst hi
            rw [List.getElem?_set_self hkk, Option.some.injEq] at hx
            rw [← hx]
          · rw [List.getElem?_set_ne (fun e => hi e.symm)] at hx
            exact cl i x hx
  · rw [if_pos hc]
    exact ⟨fun e => absurd e hc, fun _ ps => .inl (p1.comes ps)⟩
end

/-- How many things may be loose behind it. -/
theorem puts_upto {J : Jn} : ∀ (x : List Bytes) (D : Dv) (t : Spot) (n : Nat), Upto D n → Upto (putsD J D t x).1 (n + x.length)
  | [], _, _, _, h => h
  | b :: x, D, t, n, h => by
    have h1 : Upto (putD J D t 1 b) (n + 1) := (wdev_upto h _ _).1
    rw [putsD, List.length_cons]
    split
    · exact (puts_upto x _ _ (n + 1) h1).more (by omega)
    · exact h1.more (by omega)
theorem close_upto {J : Jn} {D : Dv} {t : Spot} {n : Nat} (h : Upto D n) : Upto (closeD J D t).1 (n + 3) := by
  have h1 := (fdev_upto h).1
  have h2 : Upto (putD J (fdev D) t 2 []) (n + 2) := (wdev_upto h1 _ _).1
  have h3 := (fdev_upto h2).1
  unfold closeD
  split
  · exact h1.more (by omega)
  · split
    · exact h2.more (by omega)
    · split
      · exact h3
      · exact h3
theorem write_upto {J : Jn} {D : Dv} {l : Bytes} {n : Nat} (h : Upto D n) : Upto (writeD J D l).1 (n + nPieces l.length + 3) := by
  have h1 := puts_upto (J := J) (piecesL l) D J.spot n h
  rw [piecesL_length] at h1
  unfold writeD
  split
  · exact h1.more (by omega)
  · exact close_upto h1
end Go.Proofs.Ytijkkkiejdaljaa
