/- The statements' own desk, all that lies in it named; what each call makes of it: Put, Cut, Get, Scan, Walk, Settle, Back; condition: enough pages are free. · What the statements of layer 7 ask of a desk: has, held, heavy: their walks; condition: the tree is whole, the power is on. · held of a desk: the pages of a root are just those that are old or fresh: its walk; condition: the desk is whole. -/
import Derived.Test.YtgekeemhbnhelaaGreatM33
import Derived.Test.YtgekeemhbnhelaaGreatM37
import Derived.Test.YtgekeemhbnhelaaGreatM38
import Derived.Test.YtgekeemhbnhelaaGreatM40
import Derived.Test.YtgekeemhbnhelaaGreatM41
namespace Go.Proofs.YtgekeemhbnhelaaGreat
open Go.RowKit

/-- A desk of one's own: a root, its pairs, its pages; n: how many things are loose in a block at most; S: what may turn. -/
structure Dx (w0 w : World) (xb tb db pb N n : Nat) (D : Dv) (ps : List Pg) (root : Int) (prs : List Pr) (pgs : List Nat) (S : Nat → Prop) : Prop where
  cel : Cel w xb [ptr db, ptr pb, ptr tb] 36
  xs : ¬ S xb
  tr : TrS w tb db pb 10 D ps S
  s0 : ∀ q, S q → w0.heap.size ≤ q
  x0 : w0.heap.size ≤ xb
  bw : Below w0.heap.size w0 w
  on : D.on = true
  left : D.left = -1
  up : Upto D n
  len : ps.length = N
  hold : Hold D 10 ps root prs pgs
/-- What a change makes of a device and of pages. -/
def Chg (D : Dv) (ps : List Pg) (D' : Dv) (ps' : List Pg) : Prop :=
  (D' = D ∧ ps' = ps) ∨ ∃ (i : Nat) (BL : List Bytes) (Xs : List Nat), (∀ j, j < i → leastFree (tdones j ps) ≠ none) ∧ (writesP 10 D ((placeT ps i).zip BL)).2 = 0 ∧ D' = (writesP 10 D ((placeT ps i).zip BL)).1 ∧ ps' = dropsP (tdones i ps) Xs

section
variable {w0 w w2 : World} {xb tb db pb N n K : Nat} {D : Dv} {ps : List Pg} {root : Int} {prs : List Pr} {pgs : List Nat} {S S' : Nat → Prop} {kv vv fv tv : Value} {key val f t : Bytes}
theorem Dx.later (h : Dx w0 w xb tb db pb N n D ps root prs pgs S) (hb : Below w.heap.size w w2) : Dx w0 w2 xb tb db pb N n D ps root prs pgs S :=
  { h with cel := h.cel.below hb h.cel.lt, tr := h.tr.below hb, bw := h.bw.trans (hb.mono h.bw.size) }
theorem Dx.more {m : Nat} (h : Dx w0 w xb tb db pb N n D ps root prs pgs S) (hm : n ≤ m) : Dx w0 w xb tb db pb N m D ps root prs pgs S := { h with up := h.up.more hm }
theorem Dx.few (h : Dx w0 w xb tb db pb N n D ps root prs pgs S) : pgs.length ≤ 4096 := by
  have h1 := nodup_len _ _ h.hold.nd h.hold.rt.lt.1
  have := h.tr.few.2
  omega
/-- What came in before all is none of it. -/
theorem Dx.old {v : Value} {b : Bytes} (h : Dx w0 w xb tb db pb N n D ps root prs pgs S) (hv : Bs w0 v b) : Bsf w S v b :=
  ⟨hv.below h.bw, fun hne q hq hs => by
    have := hv.in_heap hne hq
    have := h.s0 q hs
    omega⟩

/-- Pages are no more than twice the pairs. -/
theorem Nb.few {B : Nat → Bytes} {N : Nat} : ∀ {l : Nat} {es : List En} {prs : List Pr} {pgs : List Nat}, NdOk N l es → Nb B N l es prs pgs → pgs.length + 2 ≤ 2 * prs.length
  | 0, es, prs, pgs, hok, h => by
    obtain ⟨rfl, rfl⟩ := Nb.zero.1 h
    rcases prs with _ | ⟨a, r⟩
    · exact absurd rfl hok.1.1
    · simp
      omega
  | l + 1, es, prs, pgs, hok, h => by
    obtain ⟨kids, rfl, rfl, rfl, hk⟩ := Nb.succ.1 h
    have h2 := hok.2 (Nat.succ_pos l)
    rw [List.length_map] at h2
    have hall : ∀ ks : List Sb, (∀ k ∈ ks, Sub B N l k) → (ks.flatMap Sb.pgs).length + ks.length ≤ 2 * (ks.flatMap Sb.prs).length := by
      intro ks
      induction ks with
      | nil => intro _; simp
      | cons a r ih =>
        intro hks
        obtain ⟨ces, cpg, g1, g2, g3, g4, g5, g6⟩ := hks a List.mem_cons_self
        have h3 := Nb.few g1 g3
        have h4 := ih fun k hk => hks k (List.mem_cons_of_mem _ hk)
        rw [List.flatMap_cons, List.flatMap_cons, List.length_append, List.length_append, List.length_cons, g4, List.length_cons]
        omega
    have := hall kids hk
    omega
theorem Rt.few {B : Nat → Bytes} (h : Rt B N root prs pgs) : pgs.length ≤ 2 * prs.length := by
  rcases h.at_ with ⟨_, rfl, rfl⟩ | ⟨l, k, hk, _, rfl, rfl, _⟩
  · exact Nat.zero_le _
  · obtain ⟨ces, cpg, g1, g2, g3, g4, g5, g6⟩ := hk
    have := Nb.few g1 g3
    rw [g4, List.length_cons]
    omega

theorem dx_walk (h : Dx w0 w xb tb db pb N n D ps root prs pgs S) : Calls Tryz.prog 29 #[ptr tb, .int .i64 root] w (Walks w S pgs) := walk_any h.tr h.on h.hold.rt h.few

theorem dx_changed {ed : Ed} {r : Int} {b : Bool} {c : Int} {w' : World} (h : Dx w0 w xb tb db pb N n D ps root prs pgs S) (hK : ∀ lvl, 2 ^ lvl ≤ N + 1 → 2 * lvl + 3 ≤ K) (hfree : K ≤ freeP ps)
    (hc : Changes w tb db pb 10 D ps S root prs pgs ed (.returned (.tuple #[.int .i64 r, .bool b, err c])) w') :
    c = 0 ∧ b = ed.is prs ∧ ∃ D' ps' pgs' S', Step S w w' S' ∧ freeP ps ≤ freeP ps' + K ∧ Chg D ps D' ps' ∧ ((ed.is prs = false ∧ r = root ∧ Dx w0 w' xb tb db pb N (n + K) D' ps' root prs pgs' S') ∨ (ed.is prs = true ∧ Dx w0 w' xb tb db pb N (n + K) D' ps' r (ed.f prs) pgs' S')) := by
  obtain ⟨S', hst, hcase⟩ := hc
  have hx' : ¬ S' xb := fun hq => (hst.more _ hq).elim h.xs fun h1 => by have := h.cel.lt; omega
  have hcx := h.cel.only hst.only h.xs
  have hS' : ∀ q, S' q → w0.heap.size ≤ q := fun q hq => (hst.more q hq).elim (h.s0 q) fun h1 => Nat.le_trans h.bw.size h1
  have hbw : Below w0.heap.size w0 w' := h.bw.trans (hst.only.below h.bw.size h.s0)
  have hlen : pgs.length ≤ N := by rw [← h.len]; exact nodup_len _ _ h.hold.nd h.hold.rt.lt.1
  rcases hcase with ⟨his, htr, he⟩ | ⟨his, lvl, i, BL, Xs, hpow, hf, hBL, h512, hi, hcase⟩
  · simp only [Ending.returned.injEq, Value.tuple.injEq, Array.mk.injEq, List.cons.injEq, Value.int.injEq, Value.bool.injEq, and_true, true_and] at he
    obtain ⟨rfl, rfl, rfl⟩ := he
    exact ⟨rfl, his.symm, D, ps, pgs, S', hst, by omega, .inl ⟨rfl, rfl⟩, .inl ⟨his, rfl, ⟨hcx, hx', htr, hS', h.x0, hbw, h.on, h.left, h.up.more (by omega), h.len, h.hold⟩⟩⟩
  · have hk := hK lvl (by omega)
    have hfr := free_tdones hf
    have hroom := h.tr.room
    have hall : ∀ p ∈ (placeT ps i).zip BL, 10 + p.1 < D.bk.length ∧ p.2.length = 512 := fun p hp => by
      obtain ⟨a, b⟩ := p
      obtain ⟨h1, h2⟩ := List.of_mem_zip hp
      have := placeT_lt hf h1
      exact ⟨by show 10 + a < _; omega, h512 b h2⟩
    obtain ⟨hw0, hw1, hw2⟩ := writes_well (fr := 10) _ h.on h.left hall
    rcases hcase with ⟨hnone, hi2, _, _⟩ | ⟨hw, _, _⟩ | ⟨hw, htr, root', pgs', he, hrt, hp⟩
    · have := free_none hnone
      omega
    · exact absurd hw0 hw
    · simp only [Ending.returned.injEq, Value.tuple.injEq, Array.mk.injEq, List.cons.injEq, Value.int.injEq, Value.bool.injEq, and_true, true_and] at he
      obtain ⟨rfl, rfl, rfl⟩ := he
      refine ⟨rfl, his.symm, _, dropsP (tdones i ps) Xs, pgs', S', hst, ?_, .inr ⟨i, BL, Xs, hf, hw, rfl, rfl⟩, .inr ⟨his, ⟨hcx, hx', htr, hS', h.x0, hbw, hw1, hw2, ?_, ?_, h.hold.done hf hw hrt hp⟩⟩⟩
      · have := freeP_drops Xs (tdones i ps)
        omega
      · refine (writesP_upto 10 ((placeT ps i).zip BL) h.up).1.more ?_
        rw [List.length_zip, placeT_length, hBL]
        omega
      · rw [dropsP_length, tdones_length]
        exact h.len
/-- What Put and Cut make of it. -/
def DxTo (w0 w : World) (xb tb db pb N n K : Nat) (D : Dv) (ps : List Pg) (S : Nat → Prop) (r : Int) (prs' : List Pr) (w' : World) : Prop :=
  ∃ D' ps' pgs' S', Step S w w' S' ∧ freeP ps ≤ freeP ps' + K ∧ Chg D ps D' ps' ∧ Dx w0 w' xb tb db pb N (n + K) D' ps' r prs' pgs' S'
theorem dx_put (h : Dx w0 w xb tb db pb N n D ps root prs pgs S) (hkv : Bsf w S kv key) (hvv : Bsf w S vv val) (hmk : mayK key = true) (hmv : mayV val = true) (hK : ∀ lvl, 2 ^ lvl ≤ N + 1 → 2 * lvl + 3 ≤ K) (hfree : K ≤ freeP ps) (hn : n ≤ 4000000000) :
    Calls Tryz.prog 35 #[ptr tb, .int .i64 root, kv, vv] w fun e w' => ∃ r, e = .returned (.tuple #[.int .i64 r, err 0]) ∧ DxTo w0 w xb tb db pb N n K D ps S r (putP prs key val) w' := by
  refine (tput_any (n := n) h.tr h.on h.hold.rt h.hold.free h.hold.nd hkv hvv hmk hmv h.hold.rt.lt.2 (by omega) h.up hn).mono ?_
  rintro e w' ⟨r, b, c, hc, rfl⟩
  obtain ⟨rfl, hb', D', ps', pgs', S', h1, h2, h3, h4⟩ := dx_changed h hK hfree hc
  rcases h4 with ⟨h4, _⟩ | ⟨_, h4⟩
  · cases h4
  · exact ⟨r, rfl, D', ps', pgs', S', h1, h2, h3, h4⟩
theorem dx_cut (h : Dx w0 w xb tb db pb N n D ps root prs pgs S) (hkv : Bsf w S kv key) (hmk : mayK key = true) (hK : ∀ lvl, 2 ^ lvl ≤ N + 1 → 2 * lvl + 3 ≤ K) (hfree : K ≤ freeP ps) (hn : n ≤ 4000000000) :
    Calls Tryz.prog 34 #[ptr tb, .int .i64 root, kv] w fun e w' => ∃ r, e = .returned (.tuple #[.int .i64 r, .bool (lookP prs key).isSome, err 0]) ∧ DxTo w0 w xb tb db pb N n K D ps S r (cutP prs key) w' ∧ ((lookP prs key).isSome = false → r = root) := by
  refine (tcut_any (n := n) h.tr h.on h.hold.rt h.hold.free h.hold.nd hkv hmk h.hold.rt.lt.2 (by omega) h.up hn).mono ?_
  rintro e w' hc
  obtain ⟨r, b, c, rfl⟩ := hc.form
  obtain ⟨rfl, hb', D', ps', pgs', S', h1, h2, h3, h4⟩ := dx_changed h hK hfree hc
  subst hb'
  rcases h4 with ⟨hi, rfl, h4⟩ | ⟨hi, h4⟩
  · have hi' : (lookP prs key).isSome = false := hi
    have hnone : lookP prs key = none := by
      rcases hl : lookP prs key with _ | v
      · rfl
      · rw [hl] at hi'; cases hi'
    refine ⟨r, rfl, ⟨D', ps', pgs', S', h1, h2, h3, ?_⟩, fun _ => rfl⟩
    rw [cutP_none hnone]
    exact h4
  · exact ⟨r, rfl, ⟨D', ps', pgs', S', h1, h2, h3, h4⟩, fun h => by have hi' : (lookP prs key).isSome = true := hi; rw [hi'] at h; cases h⟩

/-- The pages' calls. -/
theorem TrS.pages (h : TrS w tb db pb 10 D ps S) {c : Int} {ps' : List Pg} {f : Nat} (hl : ps'.length = ps.length) (hc : ∀ G, Pgs w pb ps G → Calls Tryz.prog f #[ptr pb] w (PSteps w pb G c ps')) :
    Calls Tryz.prog f #[ptr pb] w fun e w' => e = .returned (err c) ∧ TrS w' tb db pb 10 D ps' S ∧ Step S w w' S := by
  obtain ⟨F, G, h⟩ := h
  refine (hc G h.pgs).mono ?_
  rintro e w' ⟨rfl, hp, ho⟩
  have st : Step S w w' S := ⟨ho.mono fun q _ hq => h.gs q hq, fun _ h => .inl h⟩
  exact ⟨rfl, ⟨F, G, { tree := h.tree.only st.only h.out, dev := h.dev.other ho h.fg, pgs := hp, fg := h.fg, fs := h.fs, gs := h.gs, lt := fun q hq => Nat.lt_of_lt_of_le (h.lt q hq) st.size, out := h.out, room := by rw [hl]; exact h.room }⟩, st⟩
def looseP (l : List Pg) : Nat := l.countP fun x => !x.2
theorem settled_loose (l : List Pg) : freeP (settledP l) = looseP l := by
  unfold freeP settledP looseP
  rw [List.countP_map]
  congr 1
  funext x
  rcases x with ⟨_ | _, _ | _⟩ <;> rfl
theorem loose_set {l : List Pg} {k : Nat} {x y : Pg} (hx : l[k]? = some x) (h : x.2 = true) (h' : y.2 = false) : looseP (l.set k y) = looseP l + 1 := by
  obtain ⟨hl, e⟩ := List.getElem?_eq_some_iff.1 hx
  have h1 : l.set k y = l.take k ++ y :: l.drop (k + 1) := List.set_eq_take_append_cons_drop.trans (if_pos hl)
  have h2 : l = l.take k ++ x :: l.drop (k + 1) := by rw [← e, ← List.drop_eq_getElem_cons hl, List.take_append_drop]
  unfold looseP
  rw [h1]
  conv => rhs; rw [h2]
  simp only [List.countP_append, List.countP_cons, h, h']
  simp
  omega
theorem loose_all : ∀ (pgs : List Nat) (l : List Pg), pgs.Nodup → (∀ q ∈ pgs, q < l.length) → (∀ k x, l[k]? = some x → (x.2 = true ↔ k ∈ pgs)) → looseP l + pgs.length = l.length
  | [], l, _, _, h => by
    have : looseP l = l.length := by
      unfold looseP
      rw [List.countP_eq_length]
      intro x hx
      obtain ⟨k, hk⟩ := List.getElem?_of_mem hx
      have := h k x hk
      rcases hx2 : x.2 with _ | _
      · rfl
      · exact absurd (this.1 hx2) List.not_mem_nil
    rw [this]
    rfl
  | a :: r, l, hn, hlt, h => by
    obtain ⟨x, hx⟩ : ∃ x, l[a]? = some x := ⟨_, List.getElem?_eq_getElem (hlt a List.mem_cons_self)⟩
    have hx2 := (h a x hx).2 List.mem_cons_self
    obtain ⟨hna, hnr⟩ := List.nodup_cons.1 hn
    have ih := loose_all r (l.set a (x.1, false)) hnr (fun q hq => by rw [List.length_set]; exact hlt q (List.mem_cons_of_mem _ hq)) (fun k y hy => by
      by_cases e : k = a
      · subst e
        rw [List.getElem?_set_self (List.getElem?_eq_some_iff.1 hx).1] at hy
        cases hy
        exact ⟨(fun h => by cases h), fun hk => absurd hk hna⟩
      · rw [List.getElem?_set_ne (fun h => e h.symm)] at hy
        rw [h k y hy]
        exact ⟨fun hk => (List.mem_cons.1 hk).resolve_left e, List.mem_cons_of_mem _⟩)
    rw [loose_set hx hx2 rfl, List.length_set] at ih
    rw [List.length_cons]
    omega
theorem Dx.settled (h : Dx w0 w xb tb db pb N n D ps root prs pgs S) : freeP (settledP ps) + pgs.length = N := by
  rw [settled_loose, ← h.len]
  exact loose_all pgs ps h.hold.nd h.hold.rt.lt.1 h.hold.held
theorem dx_size (h : Dx w0 w xb tb db pb N n D ps root prs pgs S) : Calls Tryz.prog 48 #[ptr pb] w fun e w' => e = .returned (.int .i64 (N : Nat)) ∧ w = w' := by
  obtain ⟨F, G, ht⟩ := h.tr
  have := pgsize_any ht.pgs
  rw [h.len] at this
  exact this
theorem dx_free (h : Dx w0 w xb tb db pb N n D ps root prs pgs S) : Calls Tryz.prog 18 #[ptr pb] w fun e w' => e = .returned (.int .i64 (freeP ps : Nat)) ∧ w = w' := by
  obtain ⟨F, G, ht⟩ := h.tr
  exact pgfree_any ht.pgs
theorem dx_state (h : Dx w0 w xb tb db pb N n D ps root prs pgs S) (k : Int) : Calls Tryz.prog 33 #[ptr pb, .int .i64 k] w fun e w' => e = .returned (.int .u8 (stateP ps k : Nat)) ∧ w = w' := by
  obtain ⟨F, G, ht⟩ := h.tr
  exact state_any ht.pgs k
/-- The desk that was opened. -/
theorem Dk.dx {Q : World → (Nat → Prop) → Prop} (h : Dk w0 w xb tb N n Q ps root prs) : ∃ db pb D pgs S, Dx w0 w xb tb db pb N n D ps root prs pgs S := by
  obtain ⟨db, pb, D, S, pgs, h1, h2, h3, h4, h5, h6, h7, h8, h9, h10, h11, h12, h13, h14⟩ := h
  exact ⟨db, pb, D, pgs, S, h1, h2, h3, h4, h5, h7, h8, h9, h10, h11, h12⟩
end
end Go.Proofs.YtgekeemhbnhelaaGreat
namespace Go.Proofs.YtgekeemhbnhelaaGreat
open Go.RowKit

/-- A step of the statements. -/
structure Sp where
  cut : Bool
  key : Bytes
  val : Bytes
  settle : Bool
structure SpT where
  k : Sl
  v : Sl
  s : Sp
def kdSp : Kd SpT Sp where
  sz := 4
  pos := by decide
  cs t := [.bool t.s.cut, t.k.v, t.v.v, .bool t.s.settle]
  len _ := rfl
  one t u hu := by
    simp only [List.mem_cons, List.not_mem_nil, or_false] at hu
    rcases hu with rfl | rfl | rfl | rfl <;> rfl
  con t := t.s
  ok w S t := Bsf w S t.k.v t.s.key ∧ Bsf w S t.v.v t.s.val
  step h hs := ⟨h.1.step hs, h.2.step hs⟩
theorem Rd.stp {w : World} {S : Nat → Prop} {v : Value} {ls : List Sp} (h : Rd kdSp w S v ls) {i : Nat} {p : Sp} (hp : ls[i]? = some p) : ∃ g o cap ka kc va vc, v = .slice (some ⟨g, o, none⟩) ls.length cap ∧ g < w.heap.size ∧
    w.cell? ⟨g, o + i * 4, none⟩ = some (.bool p.cut) ∧ w.cell? ⟨g, o + i * 4 + 1, none⟩ = some (.slice ka p.key.length kc) ∧ w.cell? ⟨g, o + i * 4 + 2, none⟩ = some (.slice va p.val.length vc) ∧ w.cell? ⟨g, o + i * 4 + 3, none⟩ = some (.bool p.settle) ∧
    Bsf w S (.slice ka p.key.length kc) p.key ∧ Bsf w S (.slice va p.val.length vc) p.val := by
  obtain ⟨g, o, cap, ⟨⟨ka, kn, kc⟩, ⟨va, vn, vc⟩, p'⟩, h1, h2, h3, h4, h5, _⟩ := h.at hp
  have h2 : p' = p := h2
  subst h2
  obtain ⟨h6, h7⟩ := h3
  obtain ⟨_, _, e1, _⟩ := h6.1.shape
  obtain ⟨_, _, e2, _⟩ := h7.1.shape
  simp only [Sl.v, Value.slice.injEq] at e1 e2
  obtain ⟨_, rfl, _⟩ := e1
  obtain ⟨_, rfl, _⟩ := e2
  exact ⟨g, o, cap, ka, kc, va, vc, h1, h4, h5 0 _ rfl, h5 1 _ rfl, h5 2 _ rfl, h5 3 _ rfl, h6, h7⟩

section
variable {w0 w w2 : World} {xb tb db pb N n K : Nat} {D : Dv} {ps : List Pg} {root : Int} {prs : List Pr} {pgs : List Nat} {S S' : Nat → Prop} {av lv : Value}
def Heavies (w : World) (n : Nat) (e : Ending) (w' : World) : Prop := ∃ b, e = .returned (.bool b) ∧ Below w.heap.size w w' ∧ (b = false → n ≤ 300)
set_option maxRecDepth 100000 in
set_option maxHeartbeats 2000000 in
theorem heavy_any {ls : List Sp} (w : World) (h : Rd kdSp w S lv ls) : Calls Tryz.prog 8 #[lv] w (Heavies w ls.length) := by
  obtain ⟨la, lc, rfl, _⟩ := h.shape
  obtain ⟨n, hn⟩ : ∃ n, n = ls.length := ⟨_, rfl⟩
  have hle := h.len
  rw [← hn] at h hle ⊢
  have HH := Lib.hid (And.intro h hn)
  clear h hn
  go_enter Tryz.func8, Tryz.ntmps8
  go_wp2
  go_loopw [3] (fun i wr => ∃ r : Nat, r ≤ n ∧ i = .int .i64 (r : Int) ∧ Below w.heap.size w wr) (fun i _ => n - (intOf i).toNat)
  case atStart => exact ⟨0, Nat.zero_le _, rfl, Below.refl _ _⟩
  case round =>
    obtain ⟨r, hr, rfl, hb⟩ := hrel
    obtain ⟨h, hn⟩ := HH.out
    have fin : ∀ m : Nat, m = n → 300 < (m : Int) ∨ (m : Int) ≤ 300 := fun m _ => by omega
    by_cases hlt : r < n
    · have hil : (r : Int) < (n : Int) := by omega
      have hr0 : (0 : Int) ≤ (r : Int) := by omega
      by_cases h5 : r < 500
      · have h5i : (r : Int) < 500 := by omega
        obtain ⟨p, hp⟩ : ∃ p, ls[r]? = some p := ⟨_, List.getElem?_eq_getElem (by omega)⟩
        obtain ⟨g, o, cap, ka, kc, va, vc, e0, hg, k0, k1, k2, k3, bk, bv⟩ := (h.step (Step.of_below hb S)).stp hp
        simp only [Value.slice.injEq] at e0
        obtain ⟨rfl, -, rfl⟩ := e0
        by_cases hk : p.key.length > 200
        · have hki : (200 : Int) < (p.key.length : Int) := by omega
          have HB := Lib.hid hb
          clear h hn hp bk bv hk hb fin
          go_wp2
          go_ret
          exact ⟨true, rfl, HB.out, fun h => by cases h⟩
        · have hki : (p.key.length : Int) ≤ 200 := by omega
          by_cases hv : p.val.length > 500
          · have hvi : (500 : Int) < (p.val.length : Int) := by omega
            have HB := Lib.hid hb
            clear h hn hp bk bv hk hv hb fin
            go_wp2
            go_ret
            exact ⟨true, rfl, HB.out, fun h => by cases h⟩
          · have hvi : (p.val.length : Int) ≤ 500 := by omega
            have HB := Lib.hid hb
            clear h hn hp bk bv hk hv hb fin
            go_wp2
            go_roundw
            case rel => exact ⟨r + 1, by omega, by go_num, HB.out⟩
            case measure => simp [intOf]; omega
      · have h5i : ¬ (r : Int) < 500 := by omega
        have hbig : (300 : Int) < (n : Int) := by omega
        have HB := Lib.hid hb
        clear h hn hb fin
        go_wp2
        go_ret
        exact ⟨true, rfl, HB.out, fun h => by cases h⟩
    · have hil : ¬ (r : Int) < (n : Int) := by omega
      have HB := Lib.hid (And.intro hb hn)
      clear h hn hb fin
      go_wp2
      go_ret
      exact ⟨_, rfl, HB.out.1, fun h => by have := of_decide_eq_false h; omega⟩

set_option maxRecDepth 100000 in
set_option maxHeartbeats 2000000 in
theorem lhas_any {ms : List Pr} (hc : w.cell? ⟨xb, 2, none⟩ = some (ptr tb)) (hT : TrS w tb db pb 10 D ps S) (ho : D.on = true) (hR : Rt (blkOf D 10) ps.length root prs pgs) (hM : pgs.length ≤ 4096) (hav : Rd kdPr w S av ms) :
    Calls Tryz.prog 17 #[ptr xb, .int .i64 root, av] w fun e w' => e = .returned (.bool (decide (prs = ms))) ∧ Below w.heap.size w w' := by
  have SC := scan_any hT ho (Bsf.nil w S) (Bsf.nil w S) hR hM
  rw [inSpan_all] at SC
  obtain ⟨aa, ac, rfl, _⟩ := hav.shape
  have HH := Lib.hid hav
  clear hT hR hM hav
  go_enter Tryz.func17, Tryz.ntmps17
  go_wp2_with fail
  refine SC.mono ?_
  rintro e w1 ⟨v, rfl, hv, hb1⟩
  clear SC hc
  have SA := rsame_any w1 hv (HH.out.step (Step.of_below hb1 S))
  obtain ⟨va, vc, rfl, _⟩ := hv.shape
  have HB := Lib.hid hb1
  clear hv hb1
  go_wp2_with fail
  refine SA.mono ?_
  rintro e w2 ⟨rfl, hb2⟩
  clear SA
  go_wp2
  go_ret
  exact ⟨rfl, HB.out.trans (hb2.mono HB.out.size)⟩
end
end Go.Proofs.YtgekeemhbnhelaaGreat
namespace Go.Proofs.YtgekeemhbnhelaaGreat
open Go.RowKit

section
variable {w0 w w2 : World} {xb tb db pb N n K : Nat} {D : Dv} {ps : List Pg} {root : Int} {prs : List Pr} {pgs : List Nat} {S S' : Nat → Prop} {av lv : Value}

/-! ### held -/
theorem sorted_mem (l : List Int) (x : Int) : x ∈ sortedI l ↔ x ∈ l := by unfold sortedI; exact List.mem_mergeSort
theorem sorted_rise {l : List Int} (h : l.Nodup) : (sortedI l).Pairwise (· < ·) := by
  have h1 : (sortedI l).Pairwise fun x y => decide (x ≤ y) = true := List.pairwise_mergeSort (le := fun x y : Int => decide (x ≤ y)) (fun a b c hab hbc => by simp at *; omega) (fun a b => by simp; omega) l
  have h2 : (sortedI l).Nodup := (List.mergeSort_perm l _).nodup_iff.2 h
  have h3 := List.pairwise_and_iff.2 ⟨h1, h2⟩
  refine h3.imp ?_
  intro a b hab
  have h4 : a ≤ b := by simpa using hab.1
  have h5 : a ≠ b := hab.2
  omega
/-- Pages that are gone through beside a list of numbers that rise. -/
def AtP (L : List Int) (k a : Nat) : Prop := a ≤ L.length ∧ (∀ i x, i < a → L[i]? = some x → x < (k : Int)) ∧ ∀ i x, a ≤ i → L[i]? = some x → (k : Int) ≤ x
theorem AtP.yes {L : List Int} {k a : Nat} (hr : L.Pairwise (· < ·)) (h : AtP L k a) (hm : (k : Int) ∈ L) : L[a]? = some (k : Int) ∧ AtP L (k + 1) (a + 1) := by
  obtain ⟨h1, h2, h3⟩ := h
  obtain ⟨i, hi⟩ := List.getElem?_of_mem hm
  have hlt : ∀ (x y : Nat) (u v : Int), L[x]? = some u → L[y]? = some v → x < y → u < v := fun x y u v hx hy hxy => by
    obtain ⟨a1, e1⟩ := List.getElem?_eq_some_iff.1 hx
    obtain ⟨a2, e2⟩ := List.getElem?_eq_some_iff.1 hy
    have := List.pairwise_iff_getElem.1 hr x y a1 a2 hxy
    rw [e1, e2] at this
    exact this
  have hai : a ≤ i := by
    rcases Nat.lt_or_ge i a with h4 | h4
    · have := h2 i _ h4 hi; omega
    · exact h4
  have hil := (List.getElem?_eq_some_iff.1 hi).1
  obtain ⟨y, hy⟩ : ∃ y, L[a]? = some y := ⟨_, List.getElem?_eq_getElem (by omega)⟩
  have hia : i = a := by
    rcases Nat.lt_or_ge a i with h4 | h4
    · have h5 := hlt a i y _ hy hi h4
      have h6 := h3 a y (Nat.le_refl _) hy
      omega
    · omega
  subst hia
  refine ⟨hi, by omega, fun j x hj hx => ?_, fun j x hj hx => ?_⟩
  · rcases Nat.lt_or_ge j i with h4 | h4
    · have := h2 j x h4 hx; omega
    · obtain rfl : j = i := by omega
      rw [hi] at hx
      cases hx
      omega
  · have := hlt i j _ x hi hx (by omega)
    omega
theorem AtP.no {L : List Int} {k a : Nat} (h : AtP L k a) (hm : (k : Int) ∉ L) : L[a]? ≠ some (k : Int) ∧ AtP L (k + 1) a := by
  obtain ⟨h1, h2, h3⟩ := h
  refine ⟨fun e => hm (List.mem_of_getElem? e), h1, fun i x hi hx => ?_, fun i x hi hx => ?_⟩
  · have := h2 i x hi hx; omega
  · have h4 := h3 i x hi hx
    have h5 : x ≠ (k : Int) := fun e => hm (e ▸ List.mem_of_getElem? hx)
    omega
theorem AtP.zero {L : List Int} (h : ∀ x ∈ L, 0 ≤ x) : AtP L 0 0 := ⟨Nat.zero_le _, (fun i x hi => by omega), fun i x _ hx => h x (List.mem_of_getElem? hx)⟩
theorem AtP.all {L : List Int} {N a : Nat} (h : AtP L N a) (hl : ∀ x ∈ L, x < (N : Int)) : a = L.length := by
  rcases Nat.lt_or_ge a L.length with h1 | h1
  · have := h.2.2 a L[a] (Nat.le_refl _) (List.getElem?_eq_getElem h1)
    have := hl L[a] (List.getElem_mem h1)
    omega
  · have := h.1; omega

theorem Rd.num {v : Value} {l : List Int} (h : Rd kdIn w S v l) {i : Nat} {x : Int} (hx : l[i]? = some x) : ∃ g o cap, v = .slice (some ⟨g, o, none⟩) l.length cap ∧ g < w.heap.size ∧ w.cell? ⟨g, o + i, none⟩ = some (.int .i64 x) := by
  obtain ⟨g, o, cap, t, h1, h2, _, h4, h5, _⟩ := h.at hx
  have h2 : t = x := h2
  subst h2
  have h6 := h5 0 _ rfl
  rw [show o + i * kdIn.sz + 0 = o + i from by show o + i * 1 + 0 = o + i; omega] at h6
  exact ⟨g, o, cap, h1, h4, h6⟩

set_option maxRecDepth 100000 in
set_option maxHeartbeats 4000000 in
theorem lheld_any (h : Dx w0 w xb tb db pb N n D ps root prs pgs S) : Calls Tryz.prog 16 #[ptr xb, .int .i64 root] w fun e w' => e = .returned (.bool true) ∧ Below w.heap.size w w' := by
  have WK := dx_walk h
  have c2 := h.cel.cell 2
  obtain ⟨L, hL⟩ : ∃ L, L = sortedI (ints pgs) := ⟨_, rfl⟩
  have hmem : ∀ k : Nat, (k : Int) ∈ L ↔ k ∈ pgs := fun k => by
    rw [hL, sorted_mem]
    unfold ints
    rw [List.mem_map]
    refine ⟨fun ⟨a, ha, e⟩ => ?_, fun hk => ⟨k, hk, rfl⟩⟩
    have e2 : a = k := by omega
    exact e2 ▸ ha
  have hmem2 : ∀ x ∈ L, ∃ k ∈ pgs, x = ((k : Nat) : Int) := fun x hx => by
    rw [hL, sorted_mem] at hx
    unfold ints at hx
    obtain ⟨a, ha, e⟩ := List.mem_map.1 hx
    exact ⟨a, ha, e.symm⟩
  have hrise : L.Pairwise (· < ·) := by
    rw [hL]
    refine sorted_rise ?_
    unfold ints
    exact List.Pairwise.map _ (fun a b hab => by omega) h.hold.nd
  have hlt : ∀ x ∈ L, x < (N : Int) := fun x hx => by
    obtain ⟨k, hk, rfl⟩ := hmem2 x hx
    have := h.hold.rt.lt.1 k hk
    have := h.len
    omega
  have hz : AtP L 0 0 := AtP.zero fun x hx => by
    obtain ⟨k, hk, rfl⟩ := hmem2 x hx
    omega
  have HH := Lib.hid (And.intro h (And.intro hmem (And.intro hrise (And.intro hlt (And.intro hz hL)))))
  clear h hmem hmem2 hrise hlt hz
  go_enter Tryz.func16, Tryz.ntmps16
  go_wp2_with fail
  refine WK.mono ?_
  rintro e w1 ⟨v, rfl, hv, hb1⟩
  clear WK c2
  rw [← hL] at hv
  clear hL
  have hle := hv.len
  obtain ⟨va, vc, rfl, _⟩ := hv.shape
  obtain ⟨ln, hln⟩ : ∃ ln, ln = L.length := ⟨_, rfl⟩
  rw [← hln] at hv hle ⊢
  have HV := Lib.hid (And.intro hv (And.intro hb1 hln))
  clear hv hb1 hln
  go_wp2
  go_loopw [7, 8] (fun av kv wr => ∃ a k : Nat, k ≤ N ∧ av = .int .i64 (a : Int) ∧ kv = .int .i64 (k : Int) ∧ AtP L k a ∧ Below w1.heap.size w1 wr) (fun _ i _ => N - (intOf i).toNat)
  case atStart => exact ⟨0, 0, Nat.zero_le _, rfl, rfl, HH.out.2.2.2.2.1, Below.refl _ _⟩
  case round =>
    obtain ⟨a, k, hk, rfl, rfl, hA, hbr⟩ := hrel
    obtain ⟨h, hmem, hrise, hlt, hz, hL⟩ := HH.out
    obtain ⟨hv, hb1, hln⟩ := HV.out
    have hbw := hb1.trans (hbr.mono hb1.size)
    have hr := h.later hbw
    have SZ := dx_size hr
    have c1 := hr.cel.cell 1
    have haln : a ≤ ln := by rw [hln]; exact hA.1
    have hNs : N ≤ 4096 := by rw [← h.len]; exact h.tr.few.2
    by_cases hkN : k < N
    · have hki : (k : Int) < (N : Int) := by omega
      have ST := dx_state hr (k : Int)
      obtain ⟨x, hx⟩ : ∃ x, ps[k]? = some x := ⟨_, List.getElem?_eq_getElem (by rw [h.len]; exact hkN)⟩
      have hst : stateP ps (k : Int) = pnum x := by unfold stateP; rw [pgAt_nat, hx]
      rw [hst] at ST
      have hheld := h.hold.held k x hx
      by_cases hm : k ∈ pgs
      · obtain ⟨hLa, hA2⟩ := hA.yes hrise ((hmem k).2 hm)
        obtain ⟨g, o, cap, e0, hg, k0⟩ := (hv.step (Step.of_below hbr S)).num hLa
        rw [← hln] at e0
        simp only [Value.slice.injEq] at e0
        obtain ⟨rfl, -, rfl⟩ := e0
        have hal : (a : Int) < (ln : Int) := by
          have := (List.getElem?_eq_some_iff.1 hLa).1
          omega
        have ha0 : (0 : Int) ≤ (a : Int) := by omega
        have hx2 := hheld.2 hm
        have HB := Lib.hid (And.intro hA2 hbr)
        have hlfew : (ln : Int) ≤ 4096 := by
          have h1 := h.few
          have h2 : L.length = pgs.length := by rw [hL]; unfold sortedI; simp [ints_length]
          omega
        obtain ⟨x1, x2⟩ := x
        simp only at hx2
        subst hx2
        rcases x1 with _ | _
        · have ST2 : Calls Tryz.prog 33 #[ptr pb, .int .i64 (k : Int)] wr fun e w' => e = .returned (.int .u8 2) ∧ wr = w' := ST
          clear h hmem hrise hlt hz hL hv hb1 hln hA hbr hbw hr hx hst hheld hm hLa hA2 hg ST
          go_wp2_with fail
          refine SZ.mono ?_
          rintro e w3 ⟨rfl, rfl⟩
          clear SZ
          go_wp2_with fail
          refine ST2.mono ?_
          rintro e w3 ⟨rfl, rfl⟩
          clear ST2
          go_wp2
          go_roundw
          case rel => exact ⟨a + 1, k + 1, by omega, by go_num, by go_num, HB.out.1, HB.out.2⟩
          case measure => simp [intOf]; omega
        · have ST2 : Calls Tryz.prog 33 #[ptr pb, .int .i64 (k : Int)] wr fun e w' => e = .returned (.int .u8 1) ∧ wr = w' := ST
          clear h hmem hrise hlt hz hL hv hb1 hln hA hbr hbw hr hx hst hheld hm hLa hA2 hg ST
          go_wp2_with fail
          refine SZ.mono ?_
          rintro e w3 ⟨rfl, rfl⟩
          clear SZ
          go_wp2_with fail
          refine ST2.mono ?_
          rintro e w3 ⟨rfl, rfl⟩
          clear ST2
          go_wp2
          go_roundw
          case rel => exact ⟨a + 1, k + 1, by omega, by go_num, by go_num, HB.out.1, HB.out.2⟩
          case measure => simp [intOf]; omega
      · obtain ⟨hLa, hA2⟩ := hA.no (fun e => hm ((hmem k).1 e))
        have hx2 : x.2 = false := by
          rcases hx3 : x.2 with _ | _
          · rfl
          · exact absurd (hheld.1 hx3) hm
        have HB := Lib.hid (And.intro hA2 hbr)
        obtain ⟨x1, x2⟩ := x
        simp only at hx2
        subst hx2
        by_cases hal0 : a < ln
        · have hal : (a : Int) < (ln : Int) := by omega
          have ha0 : (0 : Int) ≤ (a : Int) := by omega
          obtain ⟨y, hy⟩ : ∃ y, L[a]? = some y := ⟨_, List.getElem?_eq_getElem (by omega)⟩
          obtain ⟨g, o, cap, e0, hg, k0⟩ := (hv.step (Step.of_below hbr S)).num hy
          rw [← hln] at e0
          simp only [Value.slice.injEq] at e0
          obtain ⟨rfl, -, rfl⟩ := e0
          have hyk : (y == (k : Int)) = false := by
            rw [beq_eq_false_iff_ne]
            intro e
            exact hLa (by rw [hy, e])
          have hyk2 : ¬ y = (k : Int) := by simpa using hyk
          rcases x1 with _ | _
          · have ST2 : Calls Tryz.prog 33 #[ptr pb, .int .i64 (k : Int)] wr fun e w' => e = .returned (.int .u8 0) ∧ wr = w' := ST
            clear h hmem hrise hlt hz hL hv hb1 hln hA hbr hbw hr hx hst hheld hm hA2 ST hLa hy hg
            go_wp2_with fail
            refine SZ.mono ?_
            rintro e w3 ⟨rfl, rfl⟩
            clear SZ
            go_wp2_with fail
            refine ST2.mono ?_
            rintro e w3 ⟨rfl, rfl⟩
            clear ST2
            go_wp2
            go_roundw
            case rel => exact ⟨a, k + 1, by omega, by go_num, by go_num, HB.out.1, HB.out.2⟩
            case measure => simp [intOf]; omega
          · have ST2 : Calls Tryz.prog 33 #[ptr pb, .int .i64 (k : Int)] wr fun e w' => e = .returned (.int .u8 3) ∧ wr = w' := ST
            clear h hmem hrise hlt hz hL hv hb1 hln hA hbr hbw hr hx hst hheld hm hA2 ST hLa hy hg
            go_wp2_with fail
            refine SZ.mono ?_
            rintro e w3 ⟨rfl, rfl⟩
            clear SZ
            go_wp2_with fail
            refine ST2.mono ?_
            rintro e w3 ⟨rfl, rfl⟩
            clear ST2
            go_wp2
            go_roundw
            case rel => exact ⟨a, k + 1, by omega, by go_num, by go_num, HB.out.1, HB.out.2⟩
            case measure => simp [intOf]; omega
        · have hal : ¬ (a : Int) < (ln : Int) := by omega
          rcases x1 with _ | _
          · have ST2 : Calls Tryz.prog 33 #[ptr pb, .int .i64 (k : Int)] wr fun e w' => e = .returned (.int .u8 0) ∧ wr = w' := ST
            clear h hmem hrise hlt hz hL hv hb1 hln hA hbr hbw hr hx hst hheld hm hA2 ST hLa
            go_wp2_with fail
            refine SZ.mono ?_
            rintro e w3 ⟨rfl, rfl⟩
            clear SZ
            go_wp2_with fail
            refine ST2.mono ?_
            rintro e w3 ⟨rfl, rfl⟩
            clear ST2
            go_wp2
            go_roundw
            case rel => exact ⟨a, k + 1, by omega, by go_num, by go_num, HB.out.1, HB.out.2⟩
            case measure => simp [intOf]; omega
          · have ST2 : Calls Tryz.prog 33 #[ptr pb, .int .i64 (k : Int)] wr fun e w' => e = .returned (.int .u8 3) ∧ wr = w' := ST
            clear h hmem hrise hlt hz hL hv hb1 hln hA hbr hbw hr hx hst hheld hm hA2 ST hLa
            go_wp2_with fail
            refine SZ.mono ?_
            rintro e w3 ⟨rfl, rfl⟩
            clear SZ
            go_wp2_with fail
            refine ST2.mono ?_
            rintro e w3 ⟨rfl, rfl⟩
            clear ST2
            go_wp2
            go_roundw
            case rel => exact ⟨a, k + 1, by omega, by go_num, by go_num, HB.out.1, HB.out.2⟩
            case measure => simp [intOf]; omega
    · obtain rfl : k = N := by omega
      have hki : ¬ (k : Int) < (k : Int) := by omega
      have haL := hA.all hlt
      have hal : (a : Int) = (ln : Int) := by omega
      have hal2 : ((a : Int) == (ln : Int)) = true := by simpa using hal
      have HB := Lib.hid hbw
      have hae : a = ln := by omega
      clear h hmem hrise hlt hz hL hv hb1 hln hA hbr hbw hr haL hal hal2
      subst hae
      go_wp2_with fail
      refine SZ.mono ?_
      rintro e w3 ⟨rfl, rfl⟩
      clear SZ
      go_wp2
      go_ret
      exact ⟨rfl, HB.out⟩
end
end Go.Proofs.YtgekeemhbnhelaaGreat
