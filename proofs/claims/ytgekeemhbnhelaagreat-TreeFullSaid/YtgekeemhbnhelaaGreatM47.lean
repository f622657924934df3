/- A root of then: what it holds stays, whatever is put and cut since; the device flushed, turned off and on; the pages as they were then; condition: as each says. · A desk of one's own whatever its pages hold; the device's Off and On, the pages' Back on it; the bytes of a short string; condition: as each says. -/
import Derived.Test.YtgekeemhbnhelaaGreatM39
namespace Go.Proofs.YtgekeemhbnhelaaGreat
open Go.RowKit

theorem writes_other {fr q : Nat} : ∀ {D : Dv} (l : List (Nat × Bytes)), (writesP fr D l).2 = 0 → (∀ p ∈ l, p.1 ≠ q) → (writesP fr D l).1.bk[fr + q]? = D.bk[fr + q]?
  | D, [], _, _ => rfl
  | D, (t, b) :: r, h, hn => by
    unfold writesP at h ⊢
    split at h
    · rename_i h0
      rw [if_pos h0]
      have hw := wdev_zero h0
      rw [writes_other r h fun p hp => hn p (List.mem_cons_of_mem _ hp), hw]
      simp only [wrote_get]
      have := hn (t, b) List.mem_cons_self
      rw [if_neg (by simp only at this; omega)]
    · rename_i h0
      exact absurd h h0

/-- A root of then: its pages are just those that were there when all settled last. -/
structure Old (D : Dv) (ps : List Pg) (root : Int) (prs : List Pr) (pgs : List Nat) : Prop where
  rt : Rt (blkOf D 10) ps.length root prs pgs
  thn : ∀ k x, ps[k]? = some x → (x.1 = true ↔ k ∈ pgs)
  nd : pgs.Nodup
/-- Nothing is loose in its blocks. -/
def Sure (D : Dv) (pgs : List Nat) : Prop := ∀ q ∈ pgs, ∀ x, D.bk[10 + q]? = some x → x.loose = []

section
variable {D D' : Dv} {ps ps' : List Pg} {root : Int} {prs : List Pr} {pgs : List Nat}
theorem Old.chg (h : Old D ps root prs pgs) (hc : Chg D ps D' ps') : Old D' ps' root prs pgs ∧ (Sure D pgs → Sure D' pgs) := by
  rcases hc with ⟨rfl, rfl⟩ | ⟨i, BL, Xs, hf, hw, rfl, rfl⟩
  · exact ⟨h, id⟩
  · have hfr := (placeT_free hf).2
    have hno : ∀ q ∈ pgs, q ∉ placeT ps i := fun q hq hp => by
      have := (h.thn q _ (hfr q hp)).2 hq
      cases this
    have hno2 : ∀ q ∈ pgs, ∀ p ∈ (placeT ps i).zip BL, p.1 ≠ q := fun q hq p hp e => by
      obtain ⟨a, b⟩ := p
      exact hno q hq (e ▸ (List.of_mem_zip hp).1)
    refine ⟨⟨?_, fun k x hx => ?_, h.nd⟩, fun hs q hq x hx => ?_⟩
    · rw [dropsP_length, tdones_length]
      refine h.rt.congr fun q hq => ?_
      unfold blkOf
      rw [writes_other _ hw (hno2 q hq)]
    · rw [dropsP_get] at hx
      have hg : ∀ y, (tdones i ps)[k]? = some y → (y.1 = true ↔ k ∈ pgs) := fun y hy => by
        rw [tdones_get ps i hf] at hy
        by_cases hk : k ∈ placeT ps i
        · rw [if_pos hk] at hy
          cases hy
          exact ⟨(fun h => by cases h), fun hq => absurd hk (hno k hq)⟩
        · rw [if_neg hk] at hy
          exact h.thn k y hy
      split at hx
      · obtain ⟨y, hy, rfl⟩ := Option.map_eq_some_iff.1 hx
        exact hg y hy
      · exact hg x hx
    · rw [writes_other _ hw (hno2 q hq)] at hx
      exact hs q hq x hx
theorem comes_sure : ∀ {l : List Bk} {k : Nat} {x : Bk} (ps : List Int), l[k]? = some x → x.loose = [] → (comes l ps)[k]? = some ⟨x.sure, []⟩
  | [], _, _, _, h, _ => by simp at h
  | b :: r, 0, x, ps, h, hl => by
    obtain rfl : b = x := by simpa using h
    unfold comes
    rw [if_pos hl]
    rfl
  | b :: r, k + 1, x, ps, h, hl => by
    have h' : r[k]? = some x := by simpa using h
    unfold comes
    split
    · exact comes_sure ps h' hl
    · exact comes_sure ps.tail h' hl
theorem comes_none : ∀ (l : List Bk) (ps : List Int) (x : Bk), x ∈ comes l ps → x.loose = []
  | [], _, _, h => by cases h
  | b :: r, ps, x, h => by
    unfold comes at h
    split at h
    · rcases List.mem_cons.1 h with rfl | h
      · rfl
      · exact comes_none r ps x h
    · rcases List.mem_cons.1 h with rfl | h
      · rfl
      · exact comes_none r ps.tail x h
/-- Behind the power's going and coming. -/
theorem Old.crash (h : Old D ps root prs pgs) (hs : Sure D pgs) (hr : 10 + ps.length ≤ D.bk.length) (l : List Int) (left : Int) : Old ⟨comes D.bk l, true, left⟩ ps root prs pgs := by
  refine ⟨h.rt.congr fun q hq => ?_, h.thn, h.nd⟩
  have hq2 := h.rt.lt.1 q hq
  obtain ⟨x, hx⟩ : ∃ x, D.bk[10 + q]? = some x := ⟨_, List.getElem?_eq_getElem (by omega)⟩
  have hl := hs q hq x hx
  unfold blkOf
  rw [comes_sure l hx hl, hx]
  simp [Bk.stands, hl]
theorem Old.back (h : Old D ps root prs pgs) : Old D (backP ps) root prs pgs ∧ Hold D 10 (backP ps) root prs pgs := by
  have hl : (backP ps).length = ps.length := by simp [backP]
  have hg : ∀ k x, (backP ps)[k]? = some x → ∃ y : Pg, ps[k]? = some y ∧ x = (y.1, y.1) := fun k x hx => by
    unfold backP at hx
    rw [List.getElem?_map] at hx
    obtain ⟨y, hy, rfl⟩ := Option.map_eq_some_iff.1 hx
    exact ⟨y, hy, rfl⟩
  refine ⟨⟨by rw [hl]; exact h.rt, fun k x hx => ?_, h.nd⟩, ⟨by rw [hl]; exact h.rt, fun k x hx => ?_, h.nd⟩⟩
  · obtain ⟨y, hy, rfl⟩ := hg k x hx
    exact h.thn k y hy
  · obtain ⟨y, hy, rfl⟩ := hg k x hx
    exact h.thn k y hy
end

section
variable {w0 w w2 : World} {xb tb db pb N n K : Nat} {D D' : Dv} {ps : List Pg} {root : Int} {prs : List Pr} {pgs : List Nat} {S S' : Nat → Prop}
/-- The device's calls. -/
theorem TrS.device {f : Nat} {args : Array Value} {c : Int} (h : TrS w tb db pb 10 D ps S) (hl : D'.bk.length = D.bk.length) (hc : ∀ F, (∀ q, F q → S q) → Dev w db D F → Calls Tryz.prog f args w (DSteps w db F c D')) :
    Calls Tryz.prog f args w fun e w' => e = .returned (err c) ∧ ∃ S', TrS w' tb db pb 10 D' ps S' ∧ Step S w w' S' := by
  obtain ⟨F, G, h⟩ := h
  refine (hc F h.fs h.dev).mono ?_
  rintro e w' ⟨rfl, hd, ho⟩
  have hstep : Step S w w' (fun q => S q ∨ Grow F w w' q) := ⟨ho.mono fun q _ hq => h.fs q hq, fun q hq => by
    rcases hq with hq | hq | hq
    · exact .inl hq
    · exact .inl (h.fs q hq)
    · exact .inr hq.1⟩
  have hfl := hd.fl
  refine ⟨rfl, _, ⟨Grow F w w', G, { tree := h.tree.only hstep.only h.out, dev := hd, pgs := h.pgs.kept (fun q hq => ho.block q (h.lt q (h.gs q hq)) fun hf => h.fg q hf hq) ho.size, fg := fun q hq hg => ?_, fs := fun q hq => .inr hq, gs := fun q hq => .inl (h.gs q hq), lt := fun q hq => ?_, out := fun hq => ?_, room := by rw [hl]; exact h.room }⟩, hstep⟩
  · rcases hq with hq | hq
    · exact h.fg q hq hg
    · have := h.lt q (h.gs q hg)
      have := hq.1
      omega
  · rcases hq with hq | hq
    · exact Nat.lt_of_lt_of_le (h.lt q hq) ho.size
    · exact hfl q hq
  · rcases hq with hq | hq | hq
    · exact h.out hq
    · exact h.out (h.fs _ hq)
    · have := h.tree.lt
      have := hq.1
      omega
theorem Dx.dev_to {w' : World} (h : Dx w0 w xb tb db pb N n D ps root prs pgs S) (ht : TrS w' tb db pb 10 D' ps S') (st : Step S w w' S') (hon : D'.on = true) (hl : D'.left = -1) {m : Nat} (hu : Upto D' m) (hb : ∀ q ∈ pgs, blkOf D' 10 q = blkOf D 10 q) :
    Dx w0 w' xb tb db pb N m D' ps root prs pgs S' :=
  { cel := h.cel.only st.only h.xs, xs := fun hq => (st.more _ hq).elim h.xs fun h1 => by have := h.cel.lt; omega, tr := ht
    s0 := fun q hq => (st.more q hq).elim (h.s0 q) fun h1 => Nat.le_trans h.bw.size h1, x0 := h.x0, bw := h.bw.trans (st.only.below h.bw.size h.s0), on := hon, left := hl, up := hu, len := h.len
    hold := ⟨h.hold.rt.congr hb, h.hold.held, h.hold.nd⟩ }
theorem flushed_blk (D : Dv) (on : Bool) (left : Int) (q : Nat) : blkOf ⟨flushed D.bk, on, left⟩ 10 q = blkOf D 10 q := by
  unfold blkOf flushed
  simp only [List.getElem?_map]
  rcases D.bk[10 + q]? with _ | x
  · rfl
  · simp [Bk.stands]
theorem dx_flush (h : Dx w0 w xb tb db pb N n D ps root prs pgs S) (hn : n ≤ 4000000000) : Calls Tryz.prog 22 #[ptr db] w fun e w' => e = .returned (err 0) ∧ ∃ D' S', Step S w w' S' ∧ Dx w0 w' xb tb db pb N n D' ps root prs pgs S' ∧ Sure D' pgs := by
  have hon := h.on
  have hle := h.left
  have e1 : fcode D = 0 := by unfold fcode; rw [if_neg (by rw [hon]; simp), if_neg (by omega)]
  have e2 : fdev D = ⟨flushed D.bk, D.on, spent D.left⟩ := by unfold fdev; rw [if_neg (by rw [hon]; simp), if_neg (by omega)]
  have hlen : (fdev D).bk.length = D.bk.length := (fdev_upto h.up).2
  refine (h.tr.device hlen fun F _ hd => dflush_any hd (h.up.small (by omega))).mono ?_
  rintro e w' ⟨rfl, S', ht, st⟩
  rw [e1]
  refine ⟨rfl, _, S', st, h.dev_to ht st ?_ ?_ (m := n) ?_ fun q _ => ?_, fun q hq x hx => ?_⟩
  · rw [e2]; exact hon
  · rw [e2, hle]; rfl
  · rw [e2]
    intro k x hx
    unfold flushed at hx
    rw [List.getElem?_map] at hx
    obtain ⟨y, _, rfl⟩ := Option.map_eq_some_iff.1 hx
    exact Nat.zero_le _
  · rw [e2]; exact flushed_blk D _ _ q
  · rw [e2] at hx
    unfold flushed at hx
    rw [List.getElem?_map] at hx
    obtain ⟨y, _, rfl⟩ := Option.map_eq_some_iff.1 hx
    rfl
end
end Go.Proofs.YtgekeemhbnhelaaGreat
namespace Go.Proofs.YtgekeemhbnhelaaGreat
open Go.RowKit

set_option maxRecDepth 100000 in
set_option maxHeartbeats 1000000 in
theorem bl_str (l : Bytes) (w : World) (hlen : l.length ≤ maxLen) : Calls Tryz.prog 26 #[.string ⟨l.toArray⟩] w fun e w' => ∃ v, e = .returned v ∧ Bs w' v l ∧ Below w.heap.size w w' ∧ ∀ q, v.ownBlock = some q → w.heap.size ≤ q := by
  have hc := run_bytes_of_string (P := Tryz.prog) w 9 23 5 ⟨l.toArray⟩ Tryz.underlying9 Tryz.underlying23 Tryz.underlying5
  have HL := Lib.hid hlen
  clear hlen
  go_enter Tryz.func26, Tryz.ntmps26
  go_wp2
  go_ret
  have hb3 := (Below.refl w.heap.size w).alloc (Nat.le_refl _) (.cells (bytesRow ⟨l.toArray⟩ (grownCap w l.length 0 5)) 5 ((bytesRow ⟨l.toArray⟩ (grownCap w l.length 0 5)).size, (bytesRow ⟨l.toArray⟩ (grownCap w l.length 0 5)).size + 1))
  exact ⟨_, rfl, (bs_of_string w l _ _ _ (grownCap_ge w l.length 0 _) (grownCap_le_maxLen w l.length 0 _ HL.out)).kept fun _ _ hu => hu, ⟨hb3.os, hb3.tape, hb3.output, hb3.size, hb3.block⟩, fun q hq => by cases hq; exact Nat.le_refl _⟩

/-- A desk of one's own, whatever its pages hold. -/
structure Rdy (w0 w : World) (xb tb db pb N n : Nat) (D : Dv) (ps : List Pg) (S : Nat → Prop) : Prop where
  cel : Cel w xb [ptr db, ptr pb, ptr tb] 36
  xs : ¬ S xb
  tr : TrS w tb db pb 10 D ps S
  s0 : ∀ q, S q → w0.heap.size ≤ q
  x0 : w0.heap.size ≤ xb
  bw : Below w0.heap.size w0 w
  on : D.on = true
  left : D.left = -1
  up : Upto D n
  len : ps.length = N

section
variable {w0 w w' w2 : World} {xb tb db pb N n m K : Nat} {D D' : Dv} {ps ps' : List Pg} {root : Int} {prs : List Pr} {pgs : List Nat} {S S' : Nat → Prop}
theorem Dx.rdy (h : Dx w0 w xb tb db pb N n D ps root prs pgs S) : Rdy w0 w xb tb db pb N n D ps S := ⟨h.cel, h.xs, h.tr, h.s0, h.x0, h.bw, h.on, h.left, h.up, h.len⟩
theorem Rdy.dx (h : Rdy w0 w xb tb db pb N n D ps S) (hh : Hold D 10 ps root prs pgs) : Dx w0 w xb tb db pb N n D ps root prs pgs S := ⟨h.cel, h.xs, h.tr, h.s0, h.x0, h.bw, h.on, h.left, h.up, h.len, hh⟩
theorem Rdy.later (h : Rdy w0 w xb tb db pb N n D ps S) (hb : Below w.heap.size w w2) : Rdy w0 w2 xb tb db pb N n D ps S :=
  { h with cel := h.cel.below hb h.cel.lt, tr := h.tr.below hb, bw := h.bw.trans (hb.mono h.bw.size) }
theorem Rdy.to (h : Rdy w0 w xb tb db pb N n D ps S) (ht : TrS w' tb db pb 10 D' ps' S') (st : Step S w w' S') (hon : D'.on = true) (hl : D'.left = -1) (hu : Upto D' m) (hp : ps'.length = N) : Rdy w0 w' xb tb db pb N m D' ps' S' :=
  { cel := h.cel.only st.only h.xs, xs := fun hq => (st.more _ hq).elim h.xs fun h1 => by have := h.cel.lt; omega, tr := ht
    s0 := fun q hq => (st.more q hq).elim (h.s0 q) fun h1 => Nat.le_trans h.bw.size h1, x0 := h.x0, bw := h.bw.trans (st.only.below h.bw.size h.s0), on := hon, left := hl, up := hu, len := hp }
theorem rdy_off (h : Rdy w0 w xb tb db pb N n D ps S) : Calls Tryz.prog 23 #[ptr db] w fun e w' => e = .returned (err 0) ∧ ∃ S', TrS w' tb db pb 10 ⟨D.bk, false, -1⟩ ps S' ∧ Step S w w' S' := by
  have e1 : ocode D = 0 := by unfold ocode; rw [if_neg (by rw [h.on]; simp)]
  have e2 : odev D = ⟨D.bk, false, -1⟩ := by unfold odev; rw [if_neg (by rw [h.on]; simp), h.left]
  have hlen : (odev D).bk.length = D.bk.length := by rw [e2]
  refine (h.tr.device hlen fun F _ hd => doff_any hd).mono ?_
  rintro e w' ⟨rfl, S', ht, st⟩
  rw [e1]
  rw [e2] at ht
  exact ⟨rfl, S', ht, st⟩
theorem tr_on (h : TrS w tb db pb 10 ⟨D.bk, false, -1⟩ ps S) (hu : Upto D n) (hn : n ≤ 4000000000) : Calls Tryz.prog 24 #[ptr db, .slice none 0 0] w fun e w' => e = .returned (err 0) ∧ ∃ S', TrS w' tb db pb 10 ⟨comes D.bk [], true, -1⟩ ps S' ∧ Step S w w' S' := by
  have e1 : ncode ⟨D.bk, false, -1⟩ = 0 := by unfold ncode; rw [if_pos rfl]
  have e2 : ndev ⟨D.bk, false, -1⟩ [] = ⟨comes D.bk [], true, -1⟩ := by unfold ndev; rw [if_pos rfl]
  have hs : Small ⟨D.bk, false, -1⟩ := fun k x hx => by have := hu k x hx; omega
  have hlen : (ndev ⟨D.bk, false, -1⟩ []).bk.length = D.bk.length := by rw [e2]; exact comes_length _ _
  refine (h.device hlen fun F _ hd => don_any hd hs (Iv.nil w) fun h => absurd rfl h).mono ?_
  rintro e w' ⟨rfl, S', ht, st⟩
  rw [e1]
  rw [e2] at ht
  exact ⟨rfl, S', ht, st⟩
theorem upto_comes (l : List Int) (m : Nat) : Upto ⟨comes D.bk l, true, -1⟩ m := fun k x hx => by
  have := comes_none D.bk l x (List.mem_of_getElem? hx)
  rw [this]
  exact Nat.zero_le _
/-- The pages are again as they were; the root of then holds all that is taken. -/
theorem rdy_back (h : Rdy w0 w xb tb db pb N n D ps S) (ho : Old D ps root prs pgs) : Calls Tryz.prog 25 #[ptr pb] w fun e w' => e = .returned (err 0) ∧ Step S w w' S ∧ Dx w0 w' xb tb db pb N n D (backP ps) root prs pgs S ∧ Old D (backP ps) root prs pgs := by
  have hl : (backP ps).length = ps.length := by simp [backP]
  refine (h.tr.pages hl fun G hp => back_any hp).mono ?_
  rintro e w' ⟨rfl, ht, st⟩
  obtain ⟨o1, o2⟩ := ho.back
  exact ⟨rfl, st, (h.to ht st h.on h.left h.up (hl.trans h.len)).dx o2, o1⟩
theorem Old.of_hold (h : Hold D 10 ps root prs pgs) (hs : ∀ (k : Nat) (x : Pg), ps[k]? = some x → x.1 = x.2) : Old D ps root prs pgs := ⟨h.rt, fun k x hx => by rw [hs k x hx]; exact h.held k x hx, h.nd⟩
theorem settled_eq (ps : List Pg) : ∀ (k : Nat) (x : Pg), (settledP ps)[k]? = some x → x.1 = x.2 := fun k x hx => by
  unfold settledP at hx
  rw [List.getElem?_map] at hx
  obtain ⟨y, _, rfl⟩ := Option.map_eq_some_iff.1 hx
  rfl
theorem fresh_eq (n : Nat) : ∀ (k : Nat) (x : Pg), (freshP n)[k]? = some x → x.1 = x.2 := fun k x hx => by
  unfold freshP at hx
  obtain ⟨_, rfl⟩ := List.getElem?_eq_some_iff.1 hx
  simp
theorem back_free (hn : ps.length = N) (h : Hold D 10 (backP ps) root prs pgs) : freeP (backP ps) + pgs.length = N := by
  have e : settledP (backP ps) = backP ps := by
    unfold settledP backP
    rw [List.map_map]
    rfl
  have hl : (backP ps).length = ps.length := by simp [backP]
  rw [← e, settled_loose, ← hn, ← hl]
  exact loose_all pgs _ h.nd h.rt.lt.1 h.held
theorem Dx.free_same (h : Dx w0 w xb tb db pb N n D ps root prs pgs S) (hs : ∀ (k : Nat) (x : Pg), ps[k]? = some x → x.1 = x.2) : freeP ps + pgs.length = N := by
  have e : backP ps = ps := by
    apply List.ext_getElem?
    intro k
    unfold backP
    rw [List.getElem?_map]
    rcases hk : ps[k]? with _ | x
    · rfl
    · have := hs k x hk
      obtain ⟨a, b⟩ := x
      simp only at this
      subst this
      rfl
  have := back_free (N := N) h.len (by rw [e]; exact h.hold)
  rwa [e] at this
end
theorem fresh_free (n : Nat) : freeP (freshP n) = n := by
  unfold freeP freshP
  simp [List.countP_replicate, pnum]
end Go.Proofs.YtgekeemhbnhelaaGreat
