/- The statements' own desk: a device, pages, a tree, all of them the walk's own, the power on; what each call makes of it; condition: enough pages are free. · The desk's calls: bytes of a text, a desk opened, a pair put, cut, looked up; condition: enough pages are free. · A desk opened; the anchor of the statements of layer 7 (the chapter's examples): it answers true and writes nothing that was there; no condition. -/
import Derived.Test.YtgekeemhbnhelaaGreatM32
import Derived.Laws.IdiomStrings
namespace Go.Proofs.YtgekeemhbnhelaaGreat
open Go.RowKit

/-- What is said of a world and of what may turn stays where nothing else turns. -/
def Stab (Q : World → (Nat → Prop) → Prop) : Prop := ∀ (w w' : World) (S S' : Nat → Prop), Q w S → Step S w w' S' → Q w' S'
/-- A desk of one's own: a root, its pairs, its pages; n: how many things are loose in a block at most. -/
def Dk (w0 w : World) (xb tb N n : Nat) (Q : World → (Nat → Prop) → Prop) (ps : List Pg) (root : Int) (prs : List Pr) : Prop :=
  ∃ (db pb : Nat) (D : Dv) (S : Nat → Prop) (pgs : List Nat), Cel w xb [ptr db, ptr pb, ptr tb] 36 ∧ ¬ S xb ∧ TrS w tb db pb 10 D ps S ∧ (∀ q, S q → w0.heap.size ≤ q) ∧ w0.heap.size ≤ xb ∧ w0.heap.size ≤ tb ∧ Below w0.heap.size w0 w ∧
    D.on = true ∧ D.left = -1 ∧ Upto D n ∧ ps.length = N ∧ Hold D 10 ps root prs pgs ∧ Q w S ∧ Stab Q

section
variable {w0 w w2 : World} {xb tb N n : Nat} {Q Q' : World → (Nat → Prop) → Prop} {ps : List Pg} {root : Int} {prs : List Pr}
theorem Dk.under (h : Dk w0 w xb tb N n Q ps root prs) : Below w0.heap.size w0 w := by
  obtain ⟨db, pb, D, S, pgs, h1, h2, h3, h4, h5, h6, h7, _⟩ := h
  exact h7
theorem Dk.later (h : Dk w0 w xb tb N n Q ps root prs) (hb : Below w.heap.size w w2) : Dk w0 w2 xb tb N n Q ps root prs := by
  obtain ⟨db, pb, D, S, pgs, h1, h2, h3, h4, h5, h6, h7, h8, h9, h10, h11, h12, h13, h14⟩ := h
  exact ⟨db, pb, D, S, pgs, h1.below hb h1.lt, h2, h3.below hb, h4, h5, h6, h7.trans (hb.mono h7.size), h8, h9, h10, h11, h12, h14 _ _ _ _ h13 (Step.of_below hb S), h14⟩
/-- Something else is said. -/
theorem Dk.say (h : Dk w0 w xb tb N n Q ps root prs) (hs : Stab Q') (hq : ∀ S : Nat → Prop, (∀ q, S q → w0.heap.size ≤ q ∧ q < w.heap.size) → Q w S → Q' w S) : Dk w0 w xb tb N n Q' ps root prs := by
  obtain ⟨db, pb, D, S, pgs, h1, h2, h3, h4, h5, h6, h7, h8, h9, h10, h11, h12, h13, h14⟩ := h
  exact ⟨db, pb, D, S, pgs, h1, h2, h3, h4, h5, h6, h7, h8, h9, h10, h11, h12, hq S (fun q hq => ⟨h4 q hq, h3.lt q hq⟩) h13, hs⟩
theorem Dk.said (h : Dk w0 w xb tb N n Q ps root prs) : ∃ S : Nat → Prop, (∀ q, S q → w0.heap.size ≤ q ∧ q < w.heap.size) ∧ Q w S := by
  obtain ⟨db, pb, D, S, pgs, h1, h2, h3, h4, h5, h6, h7, h8, h9, h10, h11, h12, h13, h14⟩ := h
  exact ⟨S, fun q hq => ⟨h4 q hq, h3.lt q hq⟩, h13⟩
/-- The tree that the desk names. -/
theorem Dk.tree (h : Dk w0 w xb tb N n Q ps root prs) : w.cell? ⟨xb, 2, none⟩ = some (ptr tb) := by
  obtain ⟨db, pb, D, S, pgs, h1, _⟩ := h
  exact h1.cell 2
theorem Dk.xlt (h : Dk w0 w xb tb N n Q ps root prs) : xb < w.heap.size := by
  obtain ⟨db, pb, D, S, pgs, h1, _⟩ := h
  exact h1.lt
theorem Dk.rise (h : Dk w0 w xb tb N n Q ps root prs) : RiseP prs := by
  obtain ⟨db, pb, D, S, pgs, _, _, _, _, _, _, _, _, _, _, _, h, _⟩ := h
  exact h.rt.rise
theorem Dk.root_none (h : Dk w0 w xb tb N n Q ps root prs) : prs = [] ↔ root = -1 := by
  obtain ⟨db, pb, D, S, pgs, _, _, _, _, _, _, _, _, _, _, _, h, _⟩ := h
  rcases h.rt.at_ with ⟨h1, h2, _⟩ | ⟨l, k, hs, h1, h2, _⟩
  · exact ⟨fun _ => h1, fun _ => h2⟩
  · refine ⟨fun e => absurd (h2 ▸ e) hs.ne, fun e => by omega⟩
theorem Dk.root_ge (h : Dk w0 w xb tb N n Q ps root prs) : -1 ≤ root := by
  obtain ⟨db, pb, D, S, pgs, _, _, _, _, _, _, _, _, _, _, _, h, _⟩ := h
  rcases h.rt.at_ with ⟨h1, _⟩ | ⟨l, k, hs, h1, _⟩ <;> omega

theorem freeP_set {l : List Pg} {k : Nat} {x y : Pg} (hx : l[k]? = some x) (h : pnum x ≠ 0) : freeP l ≤ freeP (l.set k y) := by
  obtain ⟨hl, e⟩ := List.getElem?_eq_some_iff.1 hx
  have h1 : l.set k y = l.take k ++ y :: l.drop (k + 1) := List.set_eq_take_append_cons_drop.trans (if_pos hl)
  have h2 : l = l.take k ++ x :: l.drop (k + 1) := by rw [← e, ← List.drop_eq_getElem_cons hl, List.take_append_drop]
  have hf : (pnum x == 0) = false := by rw [beq_eq_false_iff_ne]; exact h
  unfold freeP
  rw [h1]
  conv => lhs; rw [h2]
  simp only [List.countP_append, List.countP_cons, hf]
  simp
theorem freeP_drops (xs : List Nat) : ∀ l : List Pg, freeP l ≤ freeP (dropsP l xs) := by
  induction xs with
  | nil => intro l; exact Nat.le_refl _
  | cons a r ih =>
    intro l
    refine Nat.le_trans ?_ (ih (rdone l (a : Int)))
    unfold rdone
    rw [pgAt_nat]
    rcases hk : l[a]? with _ | x
    · exact Nat.le_refl _
    · simp only [Int.toNat_natCast]
      split
      · rename_i h
        refine freeP_set hk ?_
        obtain ⟨p, q⟩ := x
        have : q = true := h
        subst this
        cases p <;> simp [pnum]
      · exact Nat.le_refl _

/-- What a change makes of the desk. -/
theorem dk_changed {db pb : Nat} {D : Dv} {S : Nat → Prop} {pgs : List Nat} {ed : Ed} {r : Int} {b : Bool} {c : Int} {w' : World} {K : Nat} (hb : Below w.heap.size w w2) (h1 : Cel w xb [ptr db, ptr pb, ptr tb] 36) (h2 : ¬ S xb) (h3 : TrS w tb db pb 10 D ps S) (h4 : ∀ q, S q → w0.heap.size ≤ q) (h5 : w0.heap.size ≤ xb) (h6 : w0.heap.size ≤ tb)
    (h7 : Below w0.heap.size w0 w) (h8 : D.on = true) (h9 : D.left = -1) (h10 : Upto D n) (h11 : ps.length = N) (h12 : Hold D 10 ps root prs pgs) (h13 : Q w S) (h14 : Stab Q) (hK : ∀ lvl, 2 ^ lvl ≤ N + 1 → 2 * lvl + 3 ≤ K) (hfree : K ≤ freeP ps)
    (hc : Changes w2 tb db pb 10 D ps S root prs pgs ed (.returned (.tuple #[.int .i64 r, .bool b, err c])) w') :
    c = 0 ∧ b = ed.is prs ∧ ((ed.is prs = false ∧ r = root ∧ Dk w0 w' xb tb N n Q ps root prs) ∨ (ed.is prs = true ∧ ∃ ps', Dk w0 w' xb tb N (n + K) Q ps' r (ed.f prs) ∧ freeP ps ≤ freeP ps' + K)) := by
  obtain ⟨S', hst, hcase⟩ := hc
  have hx2 : xb < w2.heap.size := Nat.lt_of_lt_of_le h1.lt hb.size
  have hstw : Step S w w' S' := (Step.of_below hb S).trans hst
  have hx' : ¬ S' xb := fun hq => (hstw.more _ hq).elim h2 fun h => by have := h1.lt; omega
  have hcx : Cel w' xb [ptr db, ptr pb, ptr tb] 36 := h1.only hstw.only h2
  have hS' : ∀ q, S' q → w0.heap.size ≤ q := fun q hq => (hstw.more q hq).elim (h4 q) fun h => Nat.le_trans h7.size h
  have hbw : Below w0.heap.size w0 w' := h7.trans (hstw.only.below h7.size h4)
  have hlen : pgs.length ≤ N := by rw [← h11]; exact nodup_len _ _ h12.nd h12.rt.lt.1
  rcases hcase with ⟨his, htr, he⟩ | ⟨his, lvl, i, BL, Xs, hpow, hf, hBL, h512, hi, hcase⟩
  · simp only [Ending.returned.injEq, Value.tuple.injEq, Array.mk.injEq, List.cons.injEq, Value.int.injEq, Value.bool.injEq, and_true, true_and] at he
    obtain ⟨rfl, rfl, rfl⟩ := he
    exact ⟨rfl, his.symm, .inl ⟨his, rfl, db, pb, D, S', pgs, hcx, hx', htr, hS', h5, h6, hbw, h8, h9, h10, h11, h12, h14 _ _ _ _ h13 hstw, h14⟩⟩
  · have hk := hK lvl (by omega)
    have hfr := free_tdones hf
    have hroom := h3.room
    have hall : ∀ p ∈ (placeT ps i).zip BL, 10 + p.1 < D.bk.length ∧ p.2.length = 512 := fun p hp => by
      obtain ⟨a, b⟩ := p
      obtain ⟨h1, h2⟩ := List.of_mem_zip hp
      have := placeT_lt hf h1
      exact ⟨by show 10 + a < _; omega, h512 b h2⟩
    obtain ⟨hw0, hw1, hw2⟩ := writes_well (fr := 10) _ h8 h9 hall
    rcases hcase with ⟨hnone, hi2, _, _⟩ | ⟨hw, _, _⟩ | ⟨hw, htr, root', pgs', he, hrt, hp⟩
    · have := free_none hnone
      omega
    · exact absurd hw0 hw
    · simp only [Ending.returned.injEq, Value.tuple.injEq, Array.mk.injEq, List.cons.injEq, Value.int.injEq, Value.bool.injEq, and_true, true_and] at he
      obtain ⟨rfl, rfl, rfl⟩ := he
      refine ⟨rfl, his.symm, .inr ⟨his, dropsP (tdones i ps) Xs, ⟨db, pb, _, S', pgs', hcx, hx', htr, hS', h5, h6, hbw, ?_, ?_, ?_, ?_, h12.done hf hw hrt hp, h14 _ _ _ _ h13 hstw, h14⟩, ?_⟩⟩
      · exact hw1
      · exact hw2
      · have hu := (writesP_upto 10 ((placeT ps i).zip BL) h10).1
        refine hu.more ?_
        rw [List.length_zip, placeT_length, hBL]
        omega
      · rw [dropsP_length, tdones_length]
        exact h11
      · have := freeP_drops Xs (tdones i ps)
        omega
end
end Go.Proofs.YtgekeemhbnhelaaGreat
namespace Go.Proofs.YtgekeemhbnhelaaGreat
open Go.RowKit

theorem cell_of {w : World} {g : Nat} {C : Array Value} {t : TypeId} {fr : Nat × Nat} (hh : w.heap[g]? = some (.cells C t fr)) (i : Nat) : w.cell? ⟨g, i, none⟩ = C[i]? := by simp [World.cell?, hh]
theorem bs_of_string (w : World) (l : Bytes) (C : Nat) (t : TypeId) (fr : Nat × Nat) (h1 : l.length ≤ C) (h2 : C ≤ maxLen) : Bs (w.alloc (.cells (bytesRow ⟨l.toArray⟩ C) t fr)) (.slice (some ⟨w.heap.size, 0, none⟩) l.length C) l := by
  refine ⟨some ⟨w.heap.size, 0, none⟩, C, rfl, h1, h2, (fun h => by cases h), fun ad had i u hu => ?_⟩
  cases had
  rw [Addr.add_lit, Nat.zero_add]
  have hi : i < l.length := by
    have := (List.getElem?_eq_some_iff.1 hu).1
    simpa [bvs] using this
  have hb := bytesRow_at ⟨l.toArray⟩ C i (by simpa using hi)
  have : (w.alloc (.cells (bytesRow ⟨l.toArray⟩ C) t fr)).cell? ⟨w.heap.size, i, none⟩ = (bytesRow ⟨l.toArray⟩ C)[i]? := by
    have hh : (w.alloc (.cells (bytesRow ⟨l.toArray⟩ C) t fr)).heap[w.heap.size]? = some (.cells (bytesRow ⟨l.toArray⟩ C) t fr) := by
      show (w.heap.push _)[w.heap.size]? = _
      simp
    exact cell_of hh i
  rw [this, hb]
  rw [bvs_cell hi] at hu
  rw [← hu]
  simp [bv]

set_option maxRecDepth 100000 in
set_option maxHeartbeats 1000000 in
theorem bl_any (c : UInt8) (w : World) : Calls Tryz.prog 26 #[.string ⟨#[c]⟩] w fun e w' => ∃ v, e = .returned v ∧ Bs w' v [c] ∧ Below w.heap.size w w' ∧ ∀ q, v.ownBlock = some q → w.heap.size ≤ q := by
  obtain ⟨S, hS⟩ : ∃ S : Bytes, S = [c] := ⟨_, rfl⟩
  have hc := run_bytes_of_string (P := Tryz.prog) w 9 23 5 ⟨S.toArray⟩ Tryz.underlying9 Tryz.underlying23 Tryz.underlying5
  have hl : S.length ≤ maxLen := by rw [hS]; unfold maxLen; simp
  have e1 : (⟨#[c]⟩ : ByteArray) = ⟨S.toArray⟩ := by rw [hS]
  rw [e1, ← hS]
  have HL := Lib.hid hl
  clear hl e1 hS
  go_enter Tryz.func26, Tryz.ntmps26
  go_wp2
  go_ret
  have hb3 := (Below.refl w.heap.size w).alloc (Nat.le_refl _) (.cells (bytesRow ⟨S.toArray⟩ (grownCap w S.length 0 5)) 5 ((bytesRow ⟨S.toArray⟩ (grownCap w S.length 0 5)).size, (bytesRow ⟨S.toArray⟩ (grownCap w S.length 0 5)).size + 1))
  exact ⟨_, rfl, (bs_of_string w S _ _ _ (grownCap_ge w S.length 0 _) (grownCap_le_maxLen w S.length 0 _ HL.out)).kept fun _ _ hu => hu, ⟨hb3.os, hb3.tape, hb3.output, hb3.size, hb3.block⟩, fun q hq => by cases hq; exact Nat.le_refl _⟩

section
variable {w0 w w2 : World} {xb tb N n K : Nat} {Q : World → (Nat → Prop) → Prop} {ps : List Pg} {root : Int} {prs : List Pr} {kv vv : Value} {key val : Bytes}
theorem Bsf.fresh {S : Nat → Prop} {v : Value} {l : Bytes} (h : Bs w v l) (hn : ∀ q, v.ownBlock = some q → ¬ S q) : Bsf w S v l := ⟨h, fun _ q hq => hn q hq⟩
theorem dk_put (h : Dk w0 w xb tb N n Q ps root prs) (hb : Below w.heap.size w w2) (hkv : Bs w2 kv key) (hk : ∀ q, kv.ownBlock = some q → w.heap.size ≤ q ∨ q < w0.heap.size) (hvv : Bs w2 vv val) (hv : ∀ q, vv.ownBlock = some q → w.heap.size ≤ q ∨ q < w0.heap.size) (hmk : mayK key = true) (hmv : mayV val = true)
    (hK : ∀ lvl, 2 ^ lvl ≤ N + 1 → 2 * lvl + 3 ≤ K) (hfree : K ≤ freeP ps) (hn : n ≤ 4000000000) :
    Calls Tryz.prog 35 #[ptr tb, .int .i64 root, kv, vv] w2 fun e w' => ∃ r ps', e = .returned (.tuple #[.int .i64 r, err 0]) ∧ Dk w0 w' xb tb N (n + K) Q ps' r (putP prs key val) ∧ freeP ps ≤ freeP ps' + K := by
  obtain ⟨db, pb, D, S, pgs, h1, h2, h3, h4, h5, h6, h7, h8, h9, h10, h11, h12, h13, h14⟩ := h
  have hlt := h3.lt
  have hno : ∀ v : Value, (∀ q, v.ownBlock = some q → w.heap.size ≤ q ∨ q < w0.heap.size) → ∀ q, v.ownBlock = some q → ¬ S q := fun v hv q hq hs => (hv q hq).elim (fun h => by have := hlt q hs; omega) (fun h => by have := h4 q hs; omega)
  refine (tput_any (n := n) (h3.below hb) h8 h12.rt h12.free h12.nd (Bsf.fresh hkv (hno _ hk)) (Bsf.fresh hvv (hno _ hv)) hmk hmv h12.rt.lt.2 (by omega) h10 hn).mono ?_
  rintro e w' ⟨r, b, c, hc, rfl⟩
  obtain ⟨rfl, hb', h⟩ := dk_changed hb h1 h2 h3 h4 h5 h6 h7 h8 h9 h10 h11 h12 h13 h14 hK hfree hc
  rcases h with ⟨h, _⟩ | ⟨_, ps', hd, hf⟩
  · cases h
  · exact ⟨r, ps', rfl, hd, hf⟩
theorem dk_cut (h : Dk w0 w xb tb N n Q ps root prs) (hb : Below w.heap.size w w2) (hkv : Bs w2 kv key) (hk : ∀ q, kv.ownBlock = some q → w.heap.size ≤ q ∨ q < w0.heap.size) (hmk : mayK key = true)
    (hK : ∀ lvl, 2 ^ lvl ≤ N + 1 → 2 * lvl + 3 ≤ K) (hfree : K ≤ freeP ps) (hn : n ≤ 4000000000) :
    Calls Tryz.prog 34 #[ptr tb, .int .i64 root, kv] w2 fun e w' => ∃ r ps', e = .returned (.tuple #[.int .i64 r, .bool (lookP prs key).isSome, err 0]) ∧ Dk w0 w' xb tb N (n + K) Q ps' r (cutP prs key) ∧ freeP ps ≤ freeP ps' + K ∧ ((lookP prs key).isSome = false → r = root) := by
  obtain ⟨db, pb, D, S, pgs, h1, h2, h3, h4, h5, h6, h7, h8, h9, h10, h11, h12, h13, h14⟩ := h
  have hlt := h3.lt
  have hno : ∀ q, kv.ownBlock = some q → ¬ S q := fun q hq hs => (hk q hq).elim (fun h => by have := hlt q hs; omega) (fun h => by have := h4 q hs; omega)
  refine (tcut_any (n := n) (h3.below hb) h8 h12.rt h12.free h12.nd (Bsf.fresh hkv hno) hmk h12.rt.lt.2 (by omega) h10 hn).mono ?_
  rintro e w' hc
  obtain ⟨r, b, c, rfl⟩ := hc.form
  obtain ⟨rfl, hb', h⟩ := dk_changed hb h1 h2 h3 h4 h5 h6 h7 h8 h9 h10 h11 h12 h13 h14 hK hfree hc
  subst hb'
  rcases h with ⟨hi, rfl, hd⟩ | ⟨hi, ps', hd, hf⟩
  · have hi' : (lookP prs key).isSome = false := hi
    have hnone : lookP prs key = none := by
      rcases hl : lookP prs key with _ | v
      · rfl
      · rw [hl] at hi'; cases hi'
    refine ⟨r, ps, rfl, ?_, by omega, fun _ => rfl⟩
    rw [cutP_none hnone]
    obtain ⟨db, pb, D, S, pgs, h1, h2, h3, h4, h5, h6, h7, h8, h9, h10, h11, h12, h13, h14⟩ := hd
    exact ⟨db, pb, D, S, pgs, h1, h2, h3, h4, h5, h6, h7, h8, h9, h10.more (by omega), h11, h12, h13, h14⟩
  · exact ⟨r, ps', rfl, hd, hf, fun h => by have hi' : (lookP prs key).isSome = true := hi; rw [hi'] at h; cases h⟩
theorem dk_get (h : Dk w0 w xb tb N n Q ps root prs) (hb : Below w.heap.size w w2) (hkv : Bs w2 kv key) (hk : ∀ q, kv.ownBlock = some q → w.heap.size ≤ q ∨ q < w0.heap.size) (hmk : mayK key = true) :
    Calls Tryz.prog 13 #[ptr tb, .int .i64 root, kv] w2 fun e w' => ∃ v, e = .returned (.tuple #[v, .bool (lookP prs key).isSome, err 0]) ∧ Bs w' v ((lookP prs key).getD []) ∧ Below w2.heap.size w2 w' ∧ Dk w0 w' xb tb N n (fun W S => Q W S ∧ Bsf W S v ((lookP prs key).getD [])) ps root prs := by
  obtain ⟨db, pb, D, S, pgs, h1, h2, h3, h4, h5, h6, h7, h8, h9, h10, h11, h12, h13, h14⟩ := h
  have hlt := h3.lt
  have hno : ∀ q, kv.ownBlock = some q → ¬ S q := fun q hq hs => (hk q hq).elim (fun h => by have := hlt q hs; omega) (fun h => by have := h4 q hs; omega)
  refine (get_any w2 (h3.below hb) h8 h12.rt (Bsf.fresh hkv hno) hmk).mono ?_
  rintro e w' ⟨v, rfl, hv, hb'⟩
  have hbb := hb.trans (hb'.mono hb.size)
  exact ⟨v, rfl, hv.1, hb', db, pb, D, S, pgs, h1.below hbb h1.lt, h2, h3.below hbb, h4, h5, h6, h7.trans (hbb.mono h7.size), h8, h9, h10, h11, h12, ⟨h14 _ _ _ _ h13 (Step.of_below hbb S), hv⟩, fun w w' S S' hq hs => ⟨h14 _ _ _ _ hq.1 hs, hq.2.step hs⟩⟩
end
end Go.Proofs.YtgekeemhbnhelaaGreat
namespace Go.Proofs.YtgekeemhbnhelaaGreat
open Go.RowKit

set_option maxRecDepth 100000 in
set_option maxHeartbeats 2000000 in
theorem desk_any (n : Nat) (h1 : 1 ≤ n) (h2 : n ≤ 4000) (w : World) : Calls Tryz.prog 10 #[.int .i64 (n : Int)] w fun e w' => ∃ xb tb, e = .returned (ptr xb) ∧ Dk w w' xb tb n 0 (fun _ _ => True) (freshP n) (-1) [] := by
  have hwr : IntKind.i64.wrap (10 + (n : Int)) = 10 + (n : Int) := IntWalk.i64_in _ (by omega)
  have DN := m_new (10 + n) w (by omega) (by omega)
  rw [show ((10 + n : Nat) : Int) = 10 + (n : Int) by omega] at DN
  have PN := fun W : World => pgnew_ok n W h1 (by omega)
  go_enter Tryz.func10, Tryz.ntmps10
  go_wp2_with fail
  refine DN.mono ?_
  rintro e w1 ⟨db, rfl, F, hd, hF, hb1⟩
  clear DN
  have P1 := PN w1
  have H1 := Lib.hid (And.intro hd (And.intro hF hb1))
  clear PN hd hF hb1
  go_wp2_with fail
  refine P1.mono ?_
  rintro e w2 ⟨pb, rfl, hp, hb2⟩
  clear P1
  have hd2 := H1.out.1.below hb2
  have T := tnew_ok hd2 hp 10 (by rw [freshP_length]; simp [Go.Proofs.YtgekeemhbnhelaaGreat.fresh])
  have H2 := Lib.hid (And.intro hp (And.intro hb2 hd2))
  clear hp hb2 hd2
  go_wp2_with fail
  refine T.mono ?_
  rintro e w3 ⟨rfl, hc, hb3⟩
  clear T
  have H3 := Lib.hid (And.intro hc hb3)
  clear hc hb3
  go_wp2
  go_ret
  obtain ⟨hd, hF, hb1⟩ := H1.out
  obtain ⟨hp, hb2, hd2⟩ := H2.out
  obtain ⟨hc, hb3⟩ := H3.out
  have hb4 : Below w3.heap.size w3 (w3.alloc (.cells #[ptr db, ptr pb, ptr w2.heap.size] 36)) := (Below.refl _ _).alloc (Nat.le_refl _) _
  have z1 := hb1.size
  have z2 := hb2.size
  have z3 := hb3.size
  have hT := (tree_at (fr := 10) hd2 hp (fun q hf hg => by have := hd.fl q hf; omega) (fun q hf => by have := hd.fl q hf; omega) (fun q hg => hg.2) hb3 hc (by rw [freshP_length]; simp [Go.Proofs.YtgekeemhbnhelaaGreat.fresh])).below hb4
  have hbw := hb1.trans ((hb2.trans ((hb3.trans (hb4.mono z3)).mono z2)).mono z1)
  refine ⟨w3.heap.size, w2.heap.size, rfl, db, pb, _, _, [], Cel.new w3 _ _, fun hs => ?_, hT, fun q hq => ?_, by omega, by omega, hbw, rfl, rfl, fun k x hx => by rw [(fresh_get hx).1]; exact Nat.le_refl _, freshP_length n, hold_none, trivial, fun _ _ _ _ _ _ => trivial⟩
  · rcases hs with hf | hg
    · have := hd.fl _ hf; omega
    · have := hg.2; omega
  · rcases hq with hf | hg
    · exact hF q hf
    · have := hg.1; omega
end Go.Proofs.YtgekeemhbnhelaaGreat
