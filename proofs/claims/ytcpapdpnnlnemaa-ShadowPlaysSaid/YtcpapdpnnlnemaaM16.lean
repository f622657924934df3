/- A device of which the first two blocks hold roots, in plain words: what a Save leaves, where the power stays and where it goes, and what is found behind it; no condition. · A device that a statement has made, with what must last beside it: each call of the device and of package shadow, as it answers; condition: fewer than a million things are loose in each block. · The anchor of the statements of layer 8 (the chapter's examples): it answers true and writes nothing that was there; no condition. -/
import Derived.Test.YtcpapdpnnlnemaaM04
import Derived.Test.YtcpapdpnnlnemaaM08
namespace Go.Proofs.Ytcpapdpnnlnemaa
open Go.RowKit

/-- The first two blocks, and others, nothing loose. -/
def Qd (a b : Bytes) (r : List Bk) (on : Bool) (left : Int) : Dv := ⟨⟨a, []⟩ :: ⟨b, []⟩ :: r, on, left⟩
/-- The others have nothing loose. -/
def Calm (r : List Bk) : Prop := flushed r = r ∧ ∀ ps, comes r ps = r
theorem calm_nil : Calm [] := ⟨rfl, fun _ => rfl⟩
theorem calm_one (c : Bytes) : Calm [⟨c, []⟩] := ⟨rfl, fun _ => rfl⟩

def newA (g : Nat) (l a : Bytes) : Bytes := if g % 2 = 0 then sealG g l else a
def newB (g : Nat) (l b : Bytes) : Bytes := if g % 2 = 0 then b else sealG g l

section
variable {a b : Bytes} {r : List Bk} {left : Int} {g : Nat} {l : Bytes}

theorem qd_st (on : Bool) : stAt (Qd a b r on left) 0 = a ∧ stAt (Qd a b r on left) 1 = b := ⟨rfl, rfl⟩
theorem qd_len (on : Bool) : 2 ≤ (Qd a b r on left).bk.length := by simp [Qd]

theorem wrote_qd (x : Bytes) : wrote (⟨a, []⟩ :: ⟨b, []⟩ :: r) (g % 2) x = if g % 2 = 0 then ⟨a, [x]⟩ :: ⟨b, []⟩ :: r else ⟨a, []⟩ :: ⟨b, [x]⟩ :: r := by
  unfold wrote
  rcases Nat.mod_two_eq_zero_or_one g with h | h <;> simp [h]

theorem qd_save (hr : Calm r) (hg : genB g = true) (hl : l.length ≤ 480) (hz : left ≠ 0 ∧ left ≠ 1) :
    sCode (Qd a b r true left) g l = 0 ∧ sDev (Qd a b r true left) g l = Qd (newA g l a) (newB g l b) r true (spent (spent left)) := by
  obtain ⟨e1, e2⟩ := save_ok (D := Qd a b r true left) hg rfl hz (qd_len _) hl
  refine ⟨e1, e2.trans ?_⟩
  unfold Qd newA newB
  simp only
  rw [wrote_qd]
  have h1 : List.map (fun x : Bk => (⟨x.stands, []⟩ : Bk)) r = r := hr.1
  unfold flushed
  rcases Nat.mod_two_eq_zero_or_one g with h | h
  · rw [if_pos h, if_pos h, if_pos h]
    simp [Bk.stands]
    exact h1
  · rw [if_neg (by omega), if_neg (by omega), if_neg (by omega)]
    simp [Bk.stands]
    exact h1

theorem picked_one (s x : Bytes) (p : Int) : Bk.picked ⟨s, [x]⟩ (pickN p 1) = s ∨ Bk.picked ⟨s, [x]⟩ (pickN p 1) = x := by
  have h := pickN_le p 1
  unfold Bk.picked
  rcases Nat.le_one_iff_eq_zero_or_eq_one.1 h with e | e
  · left; rw [e]; rfl
  · right; rw [e]; rfl

/-- The power goes ahead of the flush: the one or the other. -/
theorem qd_comes (hr : Calm r) (x : Bytes) (ps : List Int) :
    comes (wrote (⟨a, []⟩ :: ⟨b, []⟩ :: r) (g % 2) x) ps = ⟨a, []⟩ :: ⟨b, []⟩ :: r ∨ comes (wrote (⟨a, []⟩ :: ⟨b, []⟩ :: r) (g % 2) x) ps = ⟨if g % 2 = 0 then x else a, []⟩ :: ⟨if g % 2 = 0 then b else x, []⟩ :: r := by
  rw [wrote_qd]
  rcases Nat.mod_two_eq_zero_or_one g with h | h
  · rw [if_pos h, if_pos h, if_pos h]
    have e : comes (⟨a, [x]⟩ :: ⟨b, []⟩ :: r) ps = ⟨Bk.picked ⟨a, [x]⟩ (pickN (ps.headD 0) 1), []⟩ :: ⟨b, []⟩ :: r := by
      simp [comes, hr.2]
    rw [e]
    rcases picked_one a x (ps.headD 0) with e | e
    · left; rw [e]
    · right; rw [e]
  · rw [if_neg (by omega), if_neg (by omega), if_neg (by omega)]
    have e : comes (⟨a, []⟩ :: ⟨b, [x]⟩ :: r) ps = ⟨a, []⟩ :: ⟨Bk.picked ⟨b, [x]⟩ (pickN (ps.headD 0) 1), []⟩ :: r := by
      simp [comes, hr.2]
    rw [e]
    rcases picked_one b x (ps.headD 0) with e | e
    · left; rw [e]
    · right; rw [e]
theorem qd_comes_none (hr : Calm r) (x : Bytes) : comes (wrote (⟨a, []⟩ :: ⟨b, []⟩ :: r) (g % 2) x) [] = ⟨a, []⟩ :: ⟨b, []⟩ :: r := by
  rw [wrote_qd]
  split <;> simp [comes, hr.2, Bk.picked, pickN_zero]
theorem qd_still (hr : Calm r) (ps : List Int) : comes (⟨a, []⟩ :: ⟨b, []⟩ :: r) ps = ⟨a, []⟩ :: ⟨b, []⟩ :: r := by simp [comes, hr.2]

/-- What is found: the last root. -/
def Kept (D : Dv) (r : List Bk) (g : Nat) (l : Bytes) : Prop := ∃ a b, D = Qd a b r true (-1) ∧ Last2 a b g l
theorem Kept.load {D : Dv} (h : Kept D r g l) : loadV D = (g, l, 0) := by
  obtain ⟨a, b, rfl, h⟩ := h
  exact h.load rfl (qd_len _) (qd_st _).1 (qd_st _).2
theorem Last2.again {a b : Bytes} {g : Nat} {l : Bytes} (h : Last2 a b g l) : newA g l a = a ∧ newB g l b = b := by
  obtain ⟨_, _, ⟨hp, e, _⟩ | ⟨hp, e, _⟩⟩ := h
  · unfold newA newB
    rw [if_pos hp, if_pos hp]
    exact ⟨e.symm, rfl⟩
  · unfold newA newB
    rw [if_neg (by omega), if_neg (by omega)]
    exact ⟨rfl, e.symm⟩
theorem Kept.again {D : Dv} (h : Kept D r g l) (hr : Calm r) : sCode D g l = 0 ∧ Kept (sDev D g l) r g l := by
  obtain ⟨a, b, rfl, h⟩ := h
  obtain ⟨e1, e2⟩ := qd_save (a := a) (b := b) hr h.1 h.2.1 (left := -1) ⟨by decide, by decide⟩
  rw [e2, h.again.1, h.again.2]
  exact ⟨e1, a, b, rfl, h⟩

/-- Armed, then saved. -/
def armed (D : Dv) (m : Int) : Dv := ⟨D.bk, D.on, max m (-1)⟩
theorem Kept.saves {D : Dv} (h : Kept D r g l) (hr : Calm r) (hg : genB (g + 1) = true) {x : Bytes} (hx : x.length ≤ 480) (m : Int) :
    (sCode (armed D m) (g + 1) x = 0 ∧ (sDev (armed D m) (g + 1) x).on = true ∧ (sDev (armed D m) (g + 1) x).bk.length = r.length + 2 ∧ ∀ ps, Kept ⟨comes (sDev (armed D m) (g + 1) x).bk ps, true, -1⟩ r (g + 1) x) ∨
    (sCode (armed D m) (g + 1) x = 8 ∧ (sDev (armed D m) (g + 1) x).on = false ∧ (sDev (armed D m) (g + 1) x).bk.length = r.length + 2 ∧ ∀ ps, Kept ⟨comes (sDev (armed D m) (g + 1) x).bk ps, true, -1⟩ r g l ∨ Kept ⟨comes (sDev (armed D m) (g + 1) x).bk ps, true, -1⟩ r (g + 1) x) := by
  obtain ⟨a, b, rfl, h⟩ := h
  have hn := h.next hg hx
  have ha : armed (Qd a b r true (-1)) m = Qd a b r true (max m (-1)) := rfl
  rw [ha]
  by_cases h0 : max m (-1) = 0
  · right
    obtain ⟨e1, e2⟩ := save_first (D := Qd a b r true (max m (-1))) hg rfl h0 (qd_len _) hx
    rw [e2]
    refine ⟨e1, rfl, by simp [Qd], fun ps => .inl ⟨a, b, ?_, h⟩⟩
    simp only [Qd]
    rw [qd_still hr]
  by_cases h1 : max m (-1) = 1
  · right
    obtain ⟨e1, e2⟩ := save_second (D := Qd a b r true (max m (-1))) hg rfl h1 (qd_len _) hx
    rw [e2]
    refine ⟨e1, rfl, by simp [Qd, wrote], fun ps => ?_⟩
    simp only [Qd]
    rcases qd_comes (a := a) (b := b) (g := g + 1) hr (sealG (g + 1) x) ps with e | e
    · left
      rw [e]
      exact ⟨a, b, rfl, h⟩
    · right
      rw [e]
      exact ⟨_, _, rfl, hn⟩
  · left
    obtain ⟨e1, e2⟩ := qd_save (a := a) (b := b) (left := max m (-1)) hr hg hx ⟨h0, h1⟩
    rw [e2]
    refine ⟨e1, rfl, by simp [Qd], fun ps => ?_⟩
    simp only [Qd]
    rw [qd_still hr]
    exact ⟨_, _, rfl, hn⟩
end

theorem fresh_two : fresh 2 = Qd noughts noughts [] true (-1) := rfl
theorem fresh_three : fresh 3 = Qd noughts noughts [⟨noughts, []⟩] true (-1) := rfl
/-- The first root of a fresh device. -/
theorem fresh_save {r : List Bk} (hr : Calm r) {g : Nat} {l : Bytes} (hg : genB g = true) (hl : l.length ≤ 480) :
    sCode (Qd noughts noughts r true (-1)) g l = 0 ∧ Kept (sDev (Qd noughts noughts r true (-1)) g l) r g l := by
  obtain ⟨e1, e2⟩ := qd_save (a := noughts) (b := noughts) (left := -1) hr hg hl ⟨by decide, by decide⟩
  rw [e2]
  refine ⟨e1, _, _, rfl, hg, hl, ?_⟩
  have h1 := (genB_iff.1 hg).1
  unfold newA newB
  rcases Nat.mod_two_eq_zero_or_one g with h | h
  · left
    rw [if_pos h, if_pos h, rootOf_noughts]
    exact ⟨h, rfl, h1⟩
  · right
    rw [if_neg (by omega), if_neg (by omega), rootOf_noughts]
    exact ⟨h, rfl, h1⟩
theorem fresh_load {r : List Bk} : loadV (Qd noughts noughts r true (-1)) = (0, [], 4) := by
  unfold loadV
  rw [if_neg (by simp [Qd]), if_neg (by simp [Qd]), (qd_st _).1, (qd_st _).2, rootOf_noughts, rootOf_noughts]
  rfl
/-- Saved the next one, nothing armed. -/
theorem Kept.next {D : Dv} {r : List Bk} {g : Nat} {l x : Bytes} (h : Kept D r g l) (hr : Calm r) (hg : genB (g + 1) = true) (hx : x.length ≤ 480) :
    sCode D (g + 1) x = 0 ∧ Kept (sDev D (g + 1) x) r (g + 1) x := by
  obtain ⟨a, b, rfl, h⟩ := h
  obtain ⟨e1, e2⟩ := qd_save (a := a) (b := b) (left := -1) hr hg hx ⟨by decide, by decide⟩
  rw [e2]
  exact ⟨e1, _, _, rfl, h.next hg hx⟩
end Go.Proofs.Ytcpapdpnnlnemaa
namespace Go.Proofs.Ytcpapdpnnlnemaa
open Go.RowKit Go.Maps

/-- What holds in each world that has these blocks as they are. -/
def Lasts (P : Nat → Prop) (w : World) (Q : World → Prop) : Prop := ∀ w', (∀ q, P q → w'.heap[q]? = w.heap[q]?) → Q w'
theorem bs_lasts {w : World} {v : Value} {l : Bytes} (h : Bs w v l) : Lasts (fun q => l ≠ [] ∧ v.ownBlock = some q) w (fun w' => Bs w' v l) := fun w' hk => by
  rcases Nat.eq_zero_or_pos l.length with hl | hl
  · obtain rfl : l = [] := List.eq_nil_of_length_eq_zero hl
    obtain ⟨a, cap, rfl, h1, h2, h3, h4⟩ := h
    exact ⟨a, cap, rfl, h1, h2, h3, fun ad _ i u hu => by simp [bvs] at hu⟩
  · obtain ⟨a, cap, rfl, h2, h3, h4, h5⟩ := h
    refine ⟨a, cap, rfl, h2, h3, h4, fun ad had i u hu => ?_⟩
    subst had
    have hc := h5 _ rfl i u hu
    have hblk : (ad.add i).block = ad.block := by
      unfold Addr.add
      split <;> rfl
    exact (World.cell?_of_block (hk (ad.add i).block ⟨fun e => by simp [e] at hl, by rw [hblk]; rfl⟩)).trans hc

/-- The device has D, in memory that was laid since w0; beside it Q lasts. -/
def Own (w0 w : World) (b : Nat) (D : Dv) (Q : World → Prop) : Prop :=
  ∃ F P, Dev w b D F ∧ (∀ q, F q → w0.heap.size ≤ q) ∧ Below w0.heap.size w0 w ∧ (∀ q, P q → q < w.heap.size ∧ ¬ F q) ∧ Lasts P w Q

section
variable {w0 w w' : World} {b n : Nat} {D D' : Dv} {Q R : World → Prop} {c : Int} {v : Value} {l : Bytes}

theorem Own.now (h : Own w0 w b D Q) : Q w := let ⟨_, _, _, _, _, _, h⟩ := h; h w fun _ _ => rfl
theorem Own.under (h : Own w0 w b D Q) : Below w0.heap.size w0 w := let ⟨_, _, _, _, h, _⟩ := h; h
theorem Own.later (h : Own w0 w b D Q) (hb : Below w.heap.size w w') : Own w0 w' b D Q := by
  obtain ⟨F, P, h1, h2, h3, h4, h5⟩ := h
  exact ⟨F, P, h1.below hb, h2, h3.trans (hb.mono h3.size), fun q hq => ⟨Nat.lt_of_lt_of_le (h4 q hq).1 hb.size, (h4 q hq).2⟩, fun w'' hk => h5 w'' fun q hq => (hk q hq).trans (hb.block q (h4 q hq).1)⟩
theorem Own.base {w1 : World} (h : Own w1 w b D Q) (hb : Below w0.heap.size w0 w1) : Own w0 w b D Q := by
  obtain ⟨F, P, h1, h2, h3, h4, h5⟩ := h
  have hz := hb.size
  exact ⟨F, P, h1, fun q hq => by have := h2 q hq; omega, hb.trans (h3.mono hz), h4, h5⟩
theorem Own.forget (h : Own w0 w b D Q) (hr : ∀ W, Q W → R W) : Own w0 w b D R := by
  obtain ⟨F, P, h1, h2, h3, h4, h5⟩ := h
  exact ⟨F, P, h1, h2, h3, h4, fun w'' hk => hr _ (h5 w'' hk)⟩
theorem Own.from_old (h : Own w0 w b D Q) (hr : ∀ W, Below w0.heap.size w0 W → R W) {S : Nat → Prop} (hs : Lasts S w0 R) (hS : ∀ q, S q → q < w0.heap.size) : Own w0 w b D (fun W => Q W ∧ R W) := by
  obtain ⟨F, P, h1, h2, h3, h4, h5⟩ := h
  refine ⟨F, fun q => P q ∨ S q, h1, h2, h3, fun q hq => hq.elim (h4 q) fun hq => ⟨Nat.lt_of_lt_of_le (hS q hq) h3.size, fun hf => by have := h2 q hf; have := hS q hq; omega⟩, fun w'' hk => ⟨h5 w'' fun q hq => hk q (.inl hq), hs w'' fun q hq => (hk q (.inr hq)).trans (h3.block q (hS q hq))⟩⟩
/-- What is new lasts as well. -/
theorem Own.with (h : Own w0 w b D Q) (hb : Below w.heap.size w w') {S : Nat → Prop} (hs : Lasts S w' R) (hS : ∀ q, S q → w.heap.size ≤ q ∧ q < w'.heap.size) : Own w0 w' b D (fun W => Q W ∧ R W) := by
  obtain ⟨F, P, h1, h2, h3, h4, h5⟩ := h.later hb
  obtain ⟨F0, P0, g1, g2, g3, g4, g5⟩ := h
  refine ⟨F0, fun q => P0 q ∨ S q, g1.below hb, g2, h3, fun q hq => hq.elim (fun hq => ⟨Nat.lt_of_lt_of_le (g4 q hq).1 hb.size, (g4 q hq).2⟩) fun hq => ⟨(hS q hq).2, fun hf => by have := g1.fl q hf; have := (hS q hq).1; omega⟩,
    fun w'' hk => ⟨g5 w'' fun q hq => (hk q (.inl hq)).trans (hb.block q (g4 q hq).1), hs w'' fun q hq => hk q (.inr hq)⟩⟩
theorem Own.bytes (h : Own w0 w b D Q) (hn : New w w' v l) (hb : Below w.heap.size w w') : Own w0 w' b D (fun W => Q W ∧ Bs W v l) :=
  h.with hb (bs_lasts hn.1) fun q hq => ⟨hn.2 q hq.2, hn.1.old (List.length_pos_iff.2 hq.1) hq.2⟩

theorem Own.step {f : FuncId} {args : Array Value} (h : Own w0 w b D Q) (hs : ∀ F, Dev w b D F → (∀ q, F q → w0.heap.size ≤ q) → Calls Try.prog f args w (DSteps w b F c D')) : Calls Try.prog f args w fun e w' => e = .returned (err c) ∧ Own w0 w' b D' Q := by
  obtain ⟨F, P, h1, h2, h3, h4, h5⟩ := h
  refine (hs F h1 h2).mono ?_
  rintro e w' ⟨rfl, hd, ho⟩
  have hz := h3.size
  refine ⟨rfl, _, P, hd, fun q hq => hq.elim (h2 q) fun hq => by omega, h3.trans (ho.below hz h2), fun q hq => ⟨Nat.lt_of_lt_of_le (h4 q hq).1 ho.size, fun hf => hf.elim (h4 q hq).2 fun hf => by have := (h4 q hq).1; omega⟩, fun w'' hk => h5 w'' fun q hq => (hk q hq).trans (ho.block q (h4 q hq).1 (h4 q hq).2)⟩

theorem own_new (k : Nat) (w : World) (h1 : 1 ≤ k) (h2 : k ≤ 4096) : Calls Try.prog 9 #[.int .i64 (k : Int)] w fun e w' => ∃ b, e = .returned (.tuple #[ptr b, err 0]) ∧ Own w w' b (fresh k) (fun _ => True) := by
  refine (m_new k w h1 h2).mono ?_
  rintro e w' ⟨b, rfl, F, hd, hf, hb⟩
  exact ⟨b, rfl, F, fun _ => False, hd, hf, hb, fun q hq => hq.elim, fun _ _ => trivial⟩
theorem own_save {lv : Value} {x : Bytes} (g : Nat) (h : Own w0 w b D Q) (hu : Upto D n) (hn : n < 1000000) (hg : g < 18446744073709551616) (hl : Bs w lv x) :
    Calls Try.prog 11 #[ptr b, .int .u64 (g : Int), lv] w fun e w' => e = .returned (err (sCode D g x)) ∧ Own w0 w' b (sDev D g x) Q := h.step fun _ hd _ => save_any g hd hu hn hg hl
theorem own_load (h : Own w0 w b D Q) : Calls Try.prog 22 #[ptr b] w fun e w' => ∃ v, e = .returned (.tuple #[.int .u64 ((loadV D).1 : Int), v, err (loadV D).2.2]) ∧ Own w0 w' b D (fun W => Q W ∧ Bs W v (loadV D).2.1) := by
  have h0 := h
  obtain ⟨F, P, h1, _⟩ := h
  refine (load_any h1).mono ?_
  rintro e w' ⟨v, rfl, hn, hb⟩
  exact ⟨v, rfl, h0.bytes hn hb⟩
theorem own_arm (h : Own w0 w b D Q) (m : Int) (hm : m ≤ 9223372036854775807) : Calls Try.prog 13 #[ptr b, .int .i64 m] w fun e w' => e = .returned (err (acode D)) ∧ Own w0 w' b (adev D m) Q := h.step fun _ hd _ => darm_any hd m hm
theorem own_off (h : Own w0 w b D Q) : Calls Try.prog 15 #[ptr b] w fun e w' => e = .returned (err (ocode D)) ∧ Own w0 w' b (odev D) Q := h.step fun _ hd _ => doff_any hd
theorem own_on (h : Own w0 w b D Q) (hu : Upto D n) (hn : n < 1000000) {pv : Value} {ps : List Int} (hp : Iv w0 pv ps) : Calls Try.prog 17 #[ptr b, pv] w fun e w' => e = .returned (err (ncode D)) ∧ Own w0 w' b (ndev D ps) Q := by
  have hb := h.under
  refine h.step fun F hd hf => don_any hd (hu.small (by omega)) (hp.kept fun q _ _ hq => hb.block q hq) fun hne q hq hF => ?_
  obtain ⟨u, r, rfl⟩ := List.exists_cons_of_ne_nil hne
  obtain ⟨g, o, cap, rfl, hc⟩ := hp.open (i := 0) rfl
  cases hq
  have := World.block_lt_of_cell? w0 _ hc.1
  simp only at this
  have := hf g hF
  omega
end
end Go.Proofs.Ytcpapdpnnlnemaa
namespace Go.Proofs.Ytcpapdpnnlnemaa
open Go.RowKit Go.Maps

theorem calm_upto {a b : Bytes} {r : List Bk} {on : Bool} {left : Int} (hr : Calm r) : Upto (Qd a b r on left) 0 := fun k x hx => by
  match k, hx with
  | 0, hx => cases hx; exact Nat.le_refl _
  | 1, hx => cases hx; exact Nat.le_refl _
  | k + 2, hx =>
    have hx : r[k]? = some x := hx
    rw [← hr.1] at hx
    unfold flushed at hx
    rw [List.getElem?_map] at hx
    obtain ⟨y, _, rfl⟩ := Option.map_eq_some_iff.1 hx
    exact Nat.le_refl _
theorem Kept.upto {D : Dv} {r : List Bk} {g : Nat} {l : Bytes} (h : Kept D r g l) (hr : Calm r) : Upto D 0 := by
  obtain ⟨a, b, rfl, _⟩ := h
  exact calm_upto hr
theorem Kept.on {D : Dv} {r : List Bk} {g : Nat} {l : Bytes} (h : Kept D r g l) : D.on = true := by
  obtain ⟨a, b, rfl, _⟩ := h
  rfl
theorem sDev_upto {D : Dv} {n : Nat} (h : Upto D n) (g : Nat) (l : Bytes) : Upto (sDev D g l) (n + 2) ∧ (sDev D g l).bk.length = D.bk.length := by
  have h1 := wdev_upto h ((g % 2 : Nat) : Int) (sealG g l)
  have h2 := fdev_upto h1.1
  unfold sDev
  split
  · split
    · exact ⟨h.more (by omega), rfl⟩
    · split
      · exact ⟨h2.1, h2.2.trans h1.2⟩
      · exact ⟨h1.1.more (by omega), h1.2⟩
  · exact ⟨h.more (by omega), rfl⟩

def d1 : Dv := sDev (fresh 2) 1 [97]
def d2 : Dv := sDev d1 2 [98]
theorem d1_kept : sCode (fresh 2) 1 [97] = 0 ∧ Kept d1 [] 1 [97] := by rw [fresh_two]; exact fresh_save calm_nil (by decide) (by decide)
theorem d2_kept : sCode d1 2 [98] = 0 ∧ Kept d2 [] 2 [98] := d1_kept.2.next calm_nil (by decide) (by decide)
/-- Armed with one, saved, off: what was there. -/
theorem Kept.goes {D : Dv} {r : List Bk} {g h : Nat} {l x : Bytes} (hk : Kept D r g l) (hr : Calm r) (hg : genB h = true) (hx : x.length ≤ 480) :
    sCode (adev D 1) h x = 8 ∧ ndev (sDev (adev D 1) h x) [] = D := by
  obtain ⟨a, b, rfl, _⟩ := hk
  have e0 : adev (Qd a b r true (-1)) 1 = Qd a b r true 1 := rfl
  rw [e0]
  obtain ⟨e1, e2⟩ := save_second (D := Qd a b r true 1) hg rfl rfl (qd_len _) hx
  refine ⟨e1, ?_⟩
  rw [e2]
  unfold ndev
  rw [if_pos rfl]
  simp only [Qd]
  rw [qd_comes_none hr]

set_option maxRecDepth 1000000 in
set_option maxHeartbeats 2000000 in
theorem works_any (w : World) : Calls Try.prog 8 #[] w (Yes w) := by
  have hcv := fun (w : World) (C : Array Value) (n c : Nat) => Lib.run_convert_bytes_const (P := Try.prog) w 33 5 C n c Try.underlying33 Try.underlying5
  have L0 : loadV (fresh 2) = (0, [], 4) := by rw [fresh_two]; exact fresh_load
  have L2 := d2_kept.2.load
  have G := d2_kept.2.goes (h := 3) (x := [99]) calm_nil (by decide) (by decide)
  have U0 : Upto (fresh 2) 0 := by rw [fresh_two]; exact calm_upto calm_nil
  have U1 := d1_kept.2.upto calm_nil
  have U2 := d2_kept.2.upto calm_nil
  have O2 := d2_kept.2.on
  have C1 := d1_kept.1
  have C2 := d2_kept.1
  have S0 : sCode d2 0 [] = 1 ∧ sDev d2 0 [] = d2 := save_not fun h => by have := h.1; revert this; decide
  have S6 : sCode d2 3 (List.replicate 481 0) = 6 := (save_many ⟨by decide, by obtain ⟨a, b, e, _⟩ := d2_kept.2; rw [e]; exact qd_len _⟩ (by rw [List.length_replicate]; decide)).1
  have HS := Lib.hid (And.intro S0 S6)
  clear S0 S6
  have H := Lib.hid (And.intro L0 (And.intro L2 (And.intro G (And.intro U0 (And.intro U1 (And.intro U2 (And.intro O2 (And.intro C1 C2))))))))
  clear L0 L2 G U0 U1 U2 O2 C1 C2
  go_enter Try.func8, Try.ntmps8
  go_wp2_with fail
  refine (own_new 2 w (by decide) (by decide)).mono ?_
  rintro e w1 ⟨b, rfl, h1⟩
  have H1 := Lib.hid h1
  clear h1
  go_wp2_with fail
  refine (own_load H1.out).mono ?_
  rintro e w2 ⟨v2, he, h2⟩
  rw [H.out.1] at he
  subst he
  have H2 := Lib.hid (h2.forget (R := fun _ => True) fun _ _ => trivial)
  clear h2 H1
  go_wp2_with fail
  refine (own_save 1 (H2.out.later (below_text w2 #[.int .u8 97] (1, 2))) H.out.2.2.2.1 (by decide) (by decide) (bs_text w2 _ [97] 1 (1, 2) rfl rfl (by decide))).mono ?_
  rintro e w3 ⟨he, h3⟩
  rw [H.out.2.2.2.2.2.2.2.1] at he
  subst he
  have H3 := Lib.hid h3
  clear h3 H2
  go_wp2_with fail
  refine (own_save 2 (H3.out.later (below_text w3 #[.int .u8 98] (1, 2))) H.out.2.2.2.2.1 (by decide) (by decide) (bs_text w3 _ [98] 1 (1, 2) rfl rfl (by decide))).mono ?_
  rintro e w4 ⟨he, h4⟩
  rw [show sCode (sDev (fresh 2) 1 [97]) 2 [98] = 0 from H.out.2.2.2.2.2.2.2.2] at he
  subst he
  have H4 : Hid (Own w w4 b d2 fun _ => True) := Lib.hid h4
  clear h4 H3
  go_wp2_with fail
  refine (own_load H4.out).mono ?_
  rintro e w5 ⟨v5, he, h5⟩
  rw [H.out.2.1] at he h5
  subst he
  have H5 := Lib.hid h5
  clear h5 H4
  go_wp2_with fail
  refine (own_arm H5.out 1 (by decide)).mono ?_
  rintro e w6 ⟨rfl, h6⟩
  have H6 := Lib.hid h6
  clear h6 H5
  have U6 := (adev_upto H.out.2.2.2.2.2.1 1).1
  have HU6 := Lib.hid U6
  clear U6
  go_wp2_with fail
  refine (own_save 3 (H6.out.later (below_text w6 #[.int .u8 99] (1, 2))) HU6.out (by decide) (by decide) (bs_text w6 _ [99] 1 (1, 2) rfl rfl (by decide))).mono ?_
  rintro e w7 ⟨he, h7⟩
  rw [H.out.2.2.1.1] at he
  subst he
  have H7 := Lib.hid (And.intro h7 (sDev_upto HU6.out 3 [99]).1)
  clear h7 H6
  go_wp2_with fail
  refine (own_on H7.out.1 H7.out.2 (by decide) (Iv.nil w)).mono ?_
  rintro e w8 ⟨rfl, h8⟩
  rw [H.out.2.2.1.2] at h8
  have H8 := Lib.hid h8
  clear h8 H7
  go_wp2_with fail
  refine (own_load H8.out).mono ?_
  rintro e w9 ⟨v9, he, h9⟩
  rw [H.out.2.1] at he h9
  subst he
  have H9 := Lib.hid h9
  clear h9 H8
  have r5 := run_string_bs bt (d := 9) Try.underlying9 w9 H9.out.now.1.2
  have r9 := run_string_bs bt (d := 9) Try.underlying9 w9 H9.out.now.2
  go_wp2_with fail
  refine (own_save 0 H9.out H.out.2.2.2.2.2.1 (by decide) (by decide) (Bs.nil _)).mono ?_
  rintro e w10 ⟨he, h10⟩
  rw [HS.out.1.1] at he
  rw [HS.out.1.2] at h10
  subst he
  obtain ⟨w11, hmk, o11, g11⟩ := run_zeros_bs bt w10 w10.heap.size .i64 .i64 481 (by decide) (Nat.le_refl _)
  rw [show ((481 : Nat) : Int) = 481 from rfl] at hmk
  have b11 : Below w10.heap.size w10 w11 := (Below.refl _ _).grown g11 (Nat.le_refl _) (fun _ h => by cases h)
  have H11 := Lib.hid (And.intro (h10.later b11) o11.bs)
  clear h10 b11 o11 g11 H9 r5 r9
  go_wp2_with fail
  refine (own_save 3 H11.out.1 H.out.2.2.2.2.2.1 (by decide) (by decide) H11.out.2).mono ?_
  rintro e w12 ⟨he, h12⟩
  rw [HS.out.2] at he
  subst he
  have H12 := Lib.hid h12.under
  clear h12 H11 hmk
  go_wp2
  go_ret
  exact ⟨rfl, H12.out⟩
end Go.Proofs.Ytcpapdpnnlnemaa
