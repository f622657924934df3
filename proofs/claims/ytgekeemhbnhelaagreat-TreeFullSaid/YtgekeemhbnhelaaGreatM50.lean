/- A desk of one's own whose device may be armed, and whose power may go: what a Put and a Cut leave, whatever the end; Arm and On of it; condition: as each says. -/
import Derived.Test.YtgekeemhbnhelaaGreatM47
namespace Go.Proofs.YtgekeemhbnhelaaGreat
open Go.RowKit

theorem wcode_any {D : Dv} {k : Int} {b : Bytes} (ho : D.on = true) (hn : ¬ noSuch D k b) : (wcode D k b = 0 ∧ (wdev D k b).on = true) ∨ (wcode D k b = 8 ∧ wdev D k b = ⟨D.bk, false, D.left⟩) := by
  have h1 : ¬ D.on = false := by rw [ho]; simp
  by_cases h : D.left = 0
  · right
    unfold wcode wdev
    rw [if_neg h1, if_neg hn, if_pos h, if_neg h1, if_neg hn, if_pos h]
    exact ⟨rfl, rfl⟩
  · left
    unfold wcode wdev
    rw [if_neg h1, if_neg hn, if_neg h, if_neg h1, if_neg hn, if_neg h]
    exact ⟨rfl, ho⟩
/-- Writes of a device that is on: all go well, or the power goes. -/
theorem writes_ends {fr : Nat} : ∀ {D : Dv} (l : List (Nat × Bytes)), D.on = true → (∀ p ∈ l, fr + p.1 < D.bk.length ∧ p.2.length = 512) →
    ((writesP fr D l).2 = 0 ∧ (writesP fr D l).1.on = true) ∨ ((writesP fr D l).2 = 8 ∧ (writesP fr D l).1.on = false)
  | D, [], h1, _ => .inl ⟨rfl, h1⟩
  | D, (t, b) :: r, h1, h3 => by
    have h4 := h3 (t, b) List.mem_cons_self
    have hns : ¬ noSuch D ((fr + t : Nat) : Int) b := by unfold noSuch; simp only at h4; omega
    unfold writesP
    rcases wcode_any h1 hns with ⟨h0, hon⟩ | ⟨h8, hd⟩
    · rw [if_pos h0]
      refine writes_ends r hon fun p hp => ?_
      rw [wdev_zero h0]
      have h5 := h3 p (List.mem_cons_of_mem _ hp)
      rw [show (wrote D.bk (fr + t) b).length = D.bk.length from wrote_length _ _ _]
      exact h5
    · rw [if_neg (by omega)]
      exact .inr ⟨h8, by rw [hd]⟩
theorem writes_else {fr q : Nat} : ∀ {D : Dv} (l : List (Nat × Bytes)), D.on = true → (∀ p ∈ l, fr + p.1 < D.bk.length ∧ p.2.length = 512) → (∀ p ∈ l, p.1 ≠ q) → (writesP fr D l).1.bk[fr + q]? = D.bk[fr + q]?
  | D, [], _, _, _ => rfl
  | D, (t, b) :: r, h1, h3, hn => by
    have h4 := h3 (t, b) List.mem_cons_self
    have hns : ¬ noSuch D ((fr + t : Nat) : Int) b := by unfold noSuch; simp only at h4; omega
    unfold writesP
    rcases wcode_any h1 hns with ⟨h0, hon⟩ | ⟨h8, hd⟩
    · rw [if_pos h0]
      have hw := wdev_zero h0
      refine (writes_else r hon (fun p hp => ?_) fun p hp => hn p (List.mem_cons_of_mem _ hp)).trans ?_
      · rw [hw]
        have h5 := h3 p (List.mem_cons_of_mem _ hp)
        rw [show (wrote D.bk (fr + t) b).length = D.bk.length from wrote_length _ _ _]
        exact h5
      · rw [hw]
        simp only [wrote_get]
        have := hn (t, b) List.mem_cons_self
        rw [if_neg (by simp only at this; omega)]
    · rw [if_neg (by omega), hd]

/-- A desk of one's own, armed or not, on or off. -/
structure Dz (w0 w : World) (xb tb db pb N n : Nat) (D : Dv) (ps : List Pg) (root : Int) (prs : List Pr) (pgs : List Nat) (S : Nat → Prop) : Prop where
  cel : Cel w xb [ptr db, ptr pb, ptr tb] 36
  xs : ¬ S xb
  tr : TrS w tb db pb 10 D ps S
  s0 : ∀ q, S q → w0.heap.size ≤ q
  x0 : w0.heap.size ≤ xb
  bw : Below w0.heap.size w0 w
  up : Upto D n
  len : ps.length = N
  hold : Hold D 10 ps root prs pgs

section
variable {w0 w w' w2 : World} {xb tb db pb N n m K : Nat} {D D' : Dv} {ps ps' : List Pg} {root root' : Int} {prs prs' : List Pr} {pgs pgs' : List Nat} {S S' : Nat → Prop} {kv vv : Value} {key val : Bytes}
theorem Dx.dz (h : Dx w0 w xb tb db pb N n D ps root prs pgs S) : Dz w0 w xb tb db pb N n D ps root prs pgs S := ⟨h.cel, h.xs, h.tr, h.s0, h.x0, h.bw, h.up, h.len, h.hold⟩
theorem Dz.dx (h : Dz w0 w xb tb db pb N n D ps root prs pgs S) (h1 : D.on = true) (h2 : D.left = -1) : Dx w0 w xb tb db pb N n D ps root prs pgs S := ⟨h.cel, h.xs, h.tr, h.s0, h.x0, h.bw, h1, h2, h.up, h.len, h.hold⟩
theorem Dz.later (h : Dz w0 w xb tb db pb N n D ps root prs pgs S) (hb : Below w.heap.size w w2) : Dz w0 w2 xb tb db pb N n D ps root prs pgs S :=
  { h with cel := h.cel.below hb h.cel.lt, tr := h.tr.below hb, bw := h.bw.trans (hb.mono h.bw.size) }
theorem Dz.to (h : Dz w0 w xb tb db pb N n D ps root prs pgs S) (ht : TrS w' tb db pb 10 D' ps' S') (st : Step S w w' S') (hu : Upto D' m) (hp : ps'.length = N) (hh : Hold D' 10 ps' root' prs' pgs') : Dz w0 w' xb tb db pb N m D' ps' root' prs' pgs' S' :=
  { cel := h.cel.only st.only h.xs, xs := fun hq => (st.more _ hq).elim h.xs fun h1 => by have := h.cel.lt; omega, tr := ht
    s0 := fun q hq => (st.more q hq).elim (h.s0 q) fun h1 => Nat.le_trans h.bw.size h1, x0 := h.x0, bw := h.bw.trans (st.only.below h.bw.size h.s0), up := hu, len := hp, hold := hh }
theorem Dz.old {v : Value} {b : Bytes} (h : Dz w0 w xb tb db pb N n D ps root prs pgs S) (hv : Bs w0 v b) : Bsf w S v b :=
  ⟨hv.below h.bw, fun hne q hq hs => by
    have := hv.in_heap hne hq
    have := h.s0 q hs
    omega⟩
theorem Dz.free (h : Dz w0 w xb tb db pb N n D ps root prs pgs S) : Calls Tryz.prog 18 #[ptr pb] w fun e w' => e = .returned (.int .i64 (freeP ps : Nat)) ∧ w = w' := by
  obtain ⟨F, G, ht⟩ := h.tr
  exact pgfree_any ht.pgs
theorem Dz.state (h : Dz w0 w xb tb db pb N n D ps root prs pgs S) (k : Int) : Calls Tryz.prog 33 #[ptr pb, .int .i64 k] w fun e w' => e = .returned (.int .u8 (stateP ps k : Nat)) ∧ w = w' := by
  obtain ⟨F, G, ht⟩ := h.tr
  exact state_any ht.pgs k

/-- What a Put or a Cut comes to: done; or no page is free; or the power is gone. -/
def FullTo (w0 w : World) (xb tb db pb N n : Nat) (ps : List Pg) (root : Int) (prs prs1 : List Pr) (S : Nat → Prop) (r : Int) (c : Int) (w' : World) : Prop :=
  ∃ D' ps' root' prs' pgs' S', Step S w w' S' ∧ Dz w0 w' xb tb db pb N (n + 13) D' ps' root' prs' pgs' S' ∧
    ((c = 0 ∧ root' = r ∧ prs' = prs1 ∧ D'.on = true) ∨ (c = 7 ∧ freeP ps < 17 ∧ ps' = ps ∧ root' = root ∧ prs' = prs ∧ D'.on = true) ∨ (c = 8 ∧ ps' = ps ∧ root' = root ∧ prs' = prs ∧ D'.on = false ∧ Sure D' pgs'))
theorem dz_changed {ed : Ed} {r : Int} {b : Bool} {c : Int} {prs1 : List Pr} (h : Dz w0 w xb tb db pb N n D ps root prs pgs S) (hon : D.on = true) (hs : D.left = -1 ∨ Sure D pgs) (hN : N ≤ 60) (h1 : ed.is prs = true → prs1 = ed.f prs) (h2 : ed.is prs = false → prs1 = prs)
    (hc : Changes w tb db pb 10 D ps S root prs pgs ed (.returned (.tuple #[.int .i64 r, .bool b, err c])) w') : FullTo w0 w xb tb db pb N n ps root prs prs1 S r c w' := by
  obtain ⟨S', hst, hcase⟩ := hc
  rcases hcase with ⟨his, htr, he⟩ | ⟨his, lvl, i, BL, Xs, hpow, hf, hBL, h512, hi, hcase⟩
  · simp only [Ending.returned.injEq, Value.tuple.injEq, Array.mk.injEq, List.cons.injEq, Value.int.injEq, Value.bool.injEq, and_true, true_and] at he
    obtain ⟨rfl, rfl, rfl⟩ := he
    exact ⟨D, ps, r, prs, pgs, S', hst, h.to htr hst (h.up.more (by omega)) h.len h.hold, .inl ⟨rfl, rfl, (h2 his).symm, hon⟩⟩
  · have hlen : pgs.length ≤ N := by rw [← h.len]; exact nodup_len _ _ h.hold.nd h.hold.rt.lt.1
    have hlvl : lvl ≤ 5 := by
      rcases Nat.lt_or_ge lvl 6 with h3 | h3
      · omega
      · have := Nat.pow_le_pow_right (show 0 < 2 by decide) h3
        omega
    have hfr := free_tdones hf
    have hroom := h.tr.room
    have hall : ∀ p ∈ (placeT ps i).zip BL, 10 + p.1 < D.bk.length ∧ p.2.length = 512 := fun p hp => by
      obtain ⟨a, b⟩ := p
      obtain ⟨h1, h2⟩ := List.of_mem_zip hp
      have := placeT_lt hf h1
      exact ⟨by show 10 + a < _; omega, h512 b h2⟩
    have hup : Upto (writesP 10 D ((placeT ps i).zip BL)).1 (n + 13) := by
      refine (writesP_upto 10 ((placeT ps i).zip BL) h.up).1.more ?_
      rw [List.length_zip, placeT_length, hBL]
      omega
    have hback := drops_back hf
    rcases hcase with ⟨hnone, hi2, htr, he⟩ | ⟨hw, htr, he⟩ | ⟨hw, htr, root', pgs', he, hrt, hp⟩
    · simp only [Ending.returned.injEq, Value.tuple.injEq, Array.mk.injEq, List.cons.injEq, Value.int.injEq, Value.bool.injEq, and_true, true_and] at he
      obtain ⟨rfl, rfl, rfl⟩ := he
      have := free_none hnone
      rw [hback] at htr
      exact ⟨D, ps, root, prs, pgs, S', hst, h.to htr hst (h.up.more (by omega)) h.len h.hold, .inr (.inl ⟨rfl, by omega, rfl, rfl, rfl, hon⟩)⟩
    · rcases writes_ends _ hon hall with ⟨h0, _⟩ | ⟨h8, hoff⟩
      · exact absurd h0 hw
      · rw [h8] at he
        simp only [Ending.returned.injEq, Value.tuple.injEq, Array.mk.injEq, List.cons.injEq, Value.int.injEq, Value.bool.injEq, and_true, true_and] at he
        obtain ⟨rfl, rfl, rfl⟩ := he
        rw [hback] at htr
        have hnot : ∀ q ∈ pgs, ∀ p ∈ (placeT ps i).zip BL, p.1 ≠ q := fun q hq p hp e => by
          obtain ⟨a, b⟩ := p
          exact h.hold.free q ((placeT_free hf).2 q (e ▸ (List.of_mem_zip hp).1)) hq
        have hsame : ∀ q ∈ pgs, (writesP 10 D ((placeT ps i).zip BL)).1.bk[10 + q]? = D.bk[10 + q]? := fun q hq => writes_else _ hon hall (hnot q hq)
        have hsure : Sure D pgs := by
          rcases hs with hs | hs
          · have := (writes_well (fr := 10) _ hon hs hall).1
            omega
          · exact hs
        exact ⟨_, ps, root, prs, pgs, S', hst, h.to htr hst hup h.len ⟨h.hold.rt.congr fun q hq => by unfold blkOf; rw [hsame q hq], h.hold.held, h.hold.nd⟩, .inr (.inr ⟨rfl, rfl, rfl, rfl, hoff, fun q hq x hx => hsure q hq x (by rw [← hsame q hq]; exact hx)⟩)⟩
    · simp only [Ending.returned.injEq, Value.tuple.injEq, Array.mk.injEq, List.cons.injEq, Value.int.injEq, Value.bool.injEq, and_true, true_and] at he
      obtain ⟨rfl, rfl, rfl⟩ := he
      have hon2 : (writesP 10 D ((placeT ps i).zip BL)).1.on = true := by
        rcases writes_ends _ hon hall with ⟨_, h0⟩ | ⟨h8, _⟩
        · exact h0
        · omega
      exact ⟨_, dropsP (tdones i ps) Xs, r, prs1, pgs', S', hst, h.to htr hst hup (by rw [dropsP_length, tdones_length]; exact h.len) (by rw [h1 his]; exact h.hold.done hf hw hrt hp), .inl ⟨rfl, rfl, rfl, hon2⟩⟩
theorem dz_put (h : Dz w0 w xb tb db pb N n D ps root prs pgs S) (hon : D.on = true) (hs : D.left = -1 ∨ Sure D pgs) (hN : N ≤ 60) (hkv : Bsf w S kv key) (hvv : Bsf w S vv val) (hmk : mayK key = true) (hmv : mayV val = true) (hn : n ≤ 4000000000) :
    Calls Tryz.prog 35 #[ptr tb, .int .i64 root, kv, vv] w fun e w' => ∃ r c, e = .returned (.tuple #[.int .i64 r, err c]) ∧ FullTo w0 w xb tb db pb N n ps root prs (putP prs key val) S r c w' := by
  refine (tput_any (n := n) h.tr hon h.hold.rt h.hold.free h.hold.nd hkv hvv hmk hmv h.hold.rt.lt.2 (by omega) h.up hn).mono ?_
  rintro e w' ⟨r, b, c, hc, rfl⟩
  exact ⟨r, c, rfl, dz_changed h hon hs hN (fun _ => rfl) (fun h => by cases h) hc⟩
theorem dz_cut (h : Dz w0 w xb tb db pb N n D ps root prs pgs S) (hon : D.on = true) (hs : D.left = -1 ∨ Sure D pgs) (hN : N ≤ 60) (hkv : Bsf w S kv key) (hmk : mayK key = true) (hn : n ≤ 4000000000) :
    Calls Tryz.prog 34 #[ptr tb, .int .i64 root, kv] w fun e w' => ∃ r b c, e = .returned (.tuple #[.int .i64 r, .bool b, err c]) ∧ FullTo w0 w xb tb db pb N n ps root prs (cutP prs key) S r c w' := by
  refine (tcut_any (n := n) h.tr hon h.hold.rt h.hold.free h.hold.nd hkv hmk h.hold.rt.lt.2 (by omega) h.up hn).mono ?_
  rintro e w' hc
  obtain ⟨r, b, c, rfl⟩ := hc.form
  refine ⟨r, b, c, rfl, dz_changed h hon hs hN (fun _ => rfl) (fun hi => ?_) hc⟩
  have hi' : (lookP prs key).isSome = false := hi
  have hnone : lookP prs key = none := by
    rcases hl : lookP prs key with _ | v
    · rfl
    · rw [hl] at hi'; cases hi'
  exact cutP_none hnone
theorem dz_arm (h : Dz w0 w xb tb db pb N n D ps root prs pgs S) (hon : D.on = true) (k : Int) (hk : k ≤ 9223372036854775807) : Calls Tryz.prog 32 #[ptr db, .int .i64 k] w fun e w' => e = .returned (err 0) ∧ ∃ S', Step S w w' S' ∧ Dz w0 w' xb tb db pb N n ⟨D.bk, true, max k (-1)⟩ ps root prs pgs S' := by
  have e1 : acode D = 0 := by unfold acode; rw [if_neg (by rw [hon]; simp)]
  have e2 : adev D k = ⟨D.bk, true, max k (-1)⟩ := by unfold adev; rw [if_neg (by rw [hon]; simp), hon]
  have hlen : (adev D k).bk.length = D.bk.length := by rw [e2]
  refine (h.tr.device hlen fun F _ hd => darm_any hd k hk).mono ?_
  rintro e w' ⟨rfl, S', ht, st⟩
  rw [e1]
  rw [e2] at ht
  exact ⟨rfl, S', st, h.to ht st h.up h.len ⟨h.hold.rt, h.hold.held, h.hold.nd⟩⟩
theorem dz_on {v : Value} {l : List Int} (h : Dz w0 w xb tb db pb N n D ps root prs pgs S) (hoff : D.on = false) (hs : Sure D pgs) (hn : n ≤ 4000000000) (hv : Iv w v l) (hq : ∀ q, v.ownBlock = some q → ¬ S q) : Calls Tryz.prog 24 #[ptr db, v] w fun e w' => e = .returned (err 0) ∧ ∃ S', Step S w w' S' ∧ Dx w0 w' xb tb db pb N n ⟨comes D.bk l, true, -1⟩ ps root prs pgs S' := by
  have e1 : ncode D = 0 := by unfold ncode; rw [if_pos hoff]
  have e2 : ndev D l = ⟨comes D.bk l, true, -1⟩ := by unfold ndev; rw [if_pos hoff]
  have hsm : Small D := h.up.small (by omega)
  have hlen : (ndev D l).bk.length = D.bk.length := by rw [e2]; exact comes_length _ _
  refine (h.tr.device hlen fun F hF hd => don_any hd hsm hv fun _ q hq' hf => hq q hq' (hF q hf)).mono ?_
  rintro e w' ⟨rfl, S', ht, st⟩
  rw [e1]
  rw [e2] at ht
  have hroom := h.tr.room
  refine ⟨rfl, S', st, (h.to ht st (upto_comes l n) h.len ⟨h.hold.rt.congr fun q hq => ?_, h.hold.held, h.hold.nd⟩).dx rfl rfl⟩
  have hq2 := h.hold.rt.lt.1 q hq
  obtain ⟨x, hx⟩ : ∃ x, D.bk[10 + q]? = some x := ⟨_, List.getElem?_eq_getElem (by omega)⟩
  have hl := hs q hq x hx
  unfold blkOf
  rw [comes_sure l hx hl, hx]
  simp [Bk.stands, hl]
end
end Go.Proofs.YtgekeemhbnhelaaGreat
