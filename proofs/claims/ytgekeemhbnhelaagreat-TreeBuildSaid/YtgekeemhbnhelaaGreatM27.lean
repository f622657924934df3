/- Nodes as they are filled, in the model's memory: a row of nodes, the last one's entries in a row of the call's own; one node more, one entry more; no condition. -/
import Derived.Test.YtgekeemhbnhelaaGreatM24
namespace Go.Proofs.YtgekeemhbnhelaaGreat
open Go.RowKit

/-- An append whose run is known, in a list of operations. -/
theorem wpList_append_run {P : Program} {t : TypeId} {ops : Array Oper} {rest : List Oper} {o : Oper} {a : Act} {w w' : World} {v v' xv : Value} {Q : Exit → Act → World → Prop} (hgd : o.guard = none) (s x : Operand)
    (ho : o.op = .call { callee := .builtin .append, args := #[s, x], argTypes := #[t, t] }) (hs : a.eval s = v) (hx : a.eval x = xv) (hr : (Builtin.append_ #[t, t] o.type #[v, xv]).run P w = .ok v' w')
    (h : wpList P ops Q rest (a.put o.dst v') w') : wpList P ops Q (o :: rest) a w := by
  refine wpList_plain hgd fun _ hK => ?_
  unfold Oper.wp execOp
  simp only [ho, resolve, invoke, builtin, Sem.run_bind, Sem.run_pure, Result.andThen_ok, List.map_toArray, List.map_cons, List.map_nil, hs, hx, hr]
  exact hK _ _ h

abbrev lastC (lvl : Nat) (ev : Value) : List Value := [.int .i64 0, .int .i64 (lvl : Nat), ev, .slice none 0 0]
structure FlAt (w0 w : World) (S0 S : Nat → Prop) (lvl : Nat) (i : List (List En)) (a : List En) (ts : List NT) (g cap : Nat) (cur : Array Value) (ev : Value) : Prop where
  more : ∀ q, S q → S0 q ∨ w0.heap.size ≤ q
  inc : ∀ q, S0 q → S q
  con : ts.map kdNd.con = i.map (mkN lvl)
  ok : ∀ t ∈ ts, kdNd.ok w S t
  blk : w.heap[g]? = some (.cells cur 85 (0, 0))
  cap1 : i.length + 1 ≤ cap
  cap2 : cap ≤ maxLen
  sz : cur.size = cap * 4
  cells : cur.toList.take ((i.length + 1) * 4) = kdNd.cells ts ++ lastC lvl ev
  row : Ro kdEn 93 w S ev a
  gS : S g
  ne : ev.ownBlock ≠ some g
  newg : w0.heap.size ≤ g
  newe : ∀ q, ev.ownBlock = some q → w0.heap.size ≤ q
  lt : ∀ q, S q → q < w.heap.size
def FillR (w0 w : World) (S0 X : Nat → Prop) (lvl : Nat) (lv : Value) (Ls : List (List En)) : Prop :=
  Below w0.heap.size w0 w ∧ ((Ls = [] ∧ lv = .slice none 0 0) ∨ ∃ S i a ts g cap cur ev, Ls = i ++ [a] ∧ lv = .slice (some ⟨g, 0, none⟩) (i.length + 1) cap ∧ FlAt w0 w S0 S lvl i a ts g cap cur ev ∧ ∀ q, X q → ¬ S q)

section
variable {w0 w w' : World} {S0 S X : Nat → Prop} {lvl : Nat} {i : List (List En)} {a : List En} {ts : List NT} {g cap : Nat} {cur : Array Value} {ev : Value}
theorem FlAt.tlen (h : FlAt w0 w S0 S lvl i a ts g cap cur ev) : ts.length = i.length := by
  have := congrArg List.length h.con
  simpa using this
theorem FlAt.below (h : FlAt w0 w S0 S lvl i a ts g cap cur ev) (hb : Below w.heap.size w w') : FlAt w0 w' S0 S lvl i a ts g cap cur ev :=
  { more := h.more, inc := h.inc, con := h.con, ok := fun t ht => kdNd.step (h.ok t ht) (Step.of_below hb S), blk := (hb.block g (h.lt g h.gS)).trans h.blk, cap1 := h.cap1, cap2 := h.cap2, sz := h.sz, cells := h.cells, row := h.row.below hb,
    gS := h.gS, ne := h.ne, newg := h.newg, newe := h.newe, lt := fun q hq => Nat.lt_of_lt_of_le (h.lt q hq) hb.size }
theorem FillR.below {lv : Value} {Ls : List (List En)} (h : FillR w0 w S0 X lvl lv Ls) (hb : Below w.heap.size w w') : FillR w0 w' S0 X lvl lv Ls := by
  refine ⟨h.1.trans (hb.mono h.1.size), h.2.imp (fun h => h) ?_⟩
  rintro ⟨S, i, a, ts, g, cap, cur, ev, h1, h2, h3, h4⟩
  exact ⟨S, i, a, ts, g, cap, cur, ev, h1, h2, h3.below hb, h4⟩
theorem FillR.newx {lv : Value} {Ls : List (List En)} (h : FillR w0 w S0 X lvl lv Ls) : FillR w0 w S0 (fun q => q = w.heap.size) lvl lv Ls := by
  refine ⟨h.1, h.2.imp (fun h => h) ?_⟩
  rintro ⟨S, i, a, ts, g, cap, cur, ev, h1, h2, h3, h4⟩
  exact ⟨S, i, a, ts, g, cap, cur, ev, h1, h2, h3, fun q hq hs => by have := h3.lt q hs; omega⟩
theorem FillR.shape {lv : Value} {Ls : List (List En)} (h : FillR w0 w S0 X lvl lv Ls) : ∃ la lc, lv = .slice la Ls.length lc := by
  rcases h.2 with ⟨rfl, rfl⟩ | ⟨S, i, a, ts, g, cap, cur, ev, rfl, rfl, _, _⟩
  · exact ⟨none, 0, rfl⟩
  · exact ⟨some ⟨g, 0, none⟩, cap, by rw [List.length_append]; rfl⟩
/-- A cell of the nodes. -/
theorem FlAt.cellj (h : FlAt w0 w S0 S lvl i a ts g cap cur ev) {j : Nat} {u : Value} (hu : (kdNd.cells ts ++ lastC lvl ev)[j]? = some u) : w.cell? ⟨g, j, none⟩ = some u := by
  rw [← h.cells, List.getElem?_take] at hu
  split at hu
  · simp only [World.cell?, h.blk]
    simpa using hu
  · cases hu
theorem FlAt.froz (h : FlAt w0 w S0 S lvl i a ts g cap cur ev) (j : Nat) : w.frozen? ⟨g, j, none⟩ = false := by
  simp [World.frozen?, h.blk]
theorem FlAt.last (h : FlAt w0 w S0 S lvl i a ts g cap cur ev) {j : Nat} {u : Value} (hu : (lastC lvl ev)[j]? = some u) : w.cell? ⟨g, i.length * 4 + j, none⟩ = some u := by
  refine h.cellj ?_
  have hl : (kdNd.cells ts).length = i.length * 4 := by rw [kdNd.cells_length, h.tlen]; rfl
  rw [List.getElem?_append_right (by omega), hl, show i.length * 4 + j - i.length * 4 = j by omega]
  exact hu
/-- All of them, in other words. -/
theorem FlAt.rd (h : FlAt w0 w S0 S lvl i a ts g cap cur ev) (hS : ∀ q, S0 q → q < w0.heap.size) : Rd kdNd w S0 (.slice (some ⟨g, 0, none⟩) (i.length + 1) cap) ((i ++ [a]).map (mkN lvl)) ∧
    ∃ t : NT, t.e.v = ev ∧ kdNd.con t = mkN lvl a ∧ kdNd.ok w S0 t ∧ kdNd.cs t = lastC lvl ev := by
  have hrow : Rd kdEn w S0 ev a := h.row.rd h.inc fun q hq hq2 => by have := h.newe q hq; have := hS q hq2; omega
  obtain ⟨ea, ec, he, _⟩ := hrow.shape
  have ht : ∃ t : NT, t.e.v = ev ∧ kdNd.con t = mkN lvl a ∧ kdNd.ok w S0 t ∧ kdNd.cs t = lastC lvl ev := by
    rw [he] at hrow
    refine ⟨⟨⟨ea, a.length, ec⟩, ⟨none, 0, 0⟩, mkN lvl a⟩, he.symm, rfl, ⟨hrow, Bsf.nil _ _⟩, ?_⟩
    rw [he]
    rfl
  refine ⟨?_, ht⟩
  obtain ⟨t, e1, e2, e3, e4⟩ := ht
  have hl : ((i ++ [a]).map (mkN lvl)).length = i.length + 1 := by simp
  have hc : kdNd.cells (ts ++ [t]) = kdNd.cells ts ++ lastC lvl ev := by rw [kdNd.cells_append, ← e4]; simp [Kd.cells]
  have htl := h.tlen
  refine ⟨ts ++ [t], ?_, ⟨some ⟨g, 0, none⟩, cap, by rw [hl], by rw [hl]; exact h.cap1, h.cap2, (fun h => by cases h), ?_, fun ad had j u hu => ?_⟩, fun t' ht' => ?_, fun _ q hq hq2 => ?_⟩
  · rw [List.map_append, List.map_append, h.con, List.map_singleton, List.map_singleton, e2]
  · rw [kdNd.cells_length, hl, List.length_append, htl]
    rfl
  · cases had
    rw [Addr.add_lit, Nat.zero_add]
    rw [hc] at hu
    exact h.cellj hu
  · rcases List.mem_append.1 ht' with h1 | h1
    · exact kdNd.less (h.ok t' h1) h.inc
    · rw [List.mem_singleton.1 h1]
      exact e3
  · cases hq
    have := h.newg
    have := hS g hq2
    omega
/-- One node more, with no entry yet. -/
theorem fill_push {lv : Value} {Ls : List (List En)} (h : FillR w0 w S0 X lvl lv Ls) (hS : ∀ q, S0 q → q < w0.heap.size) (hX : ∀ q, X q → q < w.heap.size ∧ ¬ S0 q) (hn : Ls.length ≤ 1000000) {xb : Nat} (hx : ∀ (j : Nat) (u : Value), (lastC lvl (.slice none 0 0))[j]? = some u → w.cell? ⟨xb, j, none⟩ = some u) :
    ∃ v' w', (Builtin.append_ #[115, 115] 115 #[lv, .slice (some ⟨xb, 0, none⟩) 1 1]).run Tryz.prog w = .ok v' w' ∧ FillR w0 w' S0 X lvl v' (Ls ++ [[]]) ∧ Below w0.heap.size w0 w' ∧ (∀ q, q < w.heap.size → lv.ownBlock ≠ some q → w'.heap[q]? = w.heap[q]?) ∧ w.heap.size ≤ w'.heap.size := by
  obtain ⟨hb, hc⟩ := h
  obtain ⟨inf, z, hi, hz, hsz, hzs, hby⟩ := nod_ty.info
  -- what stands, as a row whose entries are all read
  obtain ⟨S, ts, hown, hcon, hok, hmore, hinc, hlt, hnew, hXS⟩ : ∃ (S : Nat → Prop) (ts : List NT), w.ownsRow 0 85 4 lv Ls.length (kdNd.cells ts) ∧ ts.map kdNd.con = Ls.map (mkN lvl) ∧ (∀ t ∈ ts, kdNd.ok w S t) ∧ (∀ q, S q → S0 q ∨ w0.heap.size ≤ q) ∧
      (∀ q, S0 q → S q) ∧ (∀ q, S q → q < w.heap.size) ∧ (∀ q, lv.ownBlock = some q → S q ∧ w0.heap.size ≤ q) ∧ ∀ q, X q → ¬ S q := by
    rcases hc with ⟨rfl, rfl⟩ | ⟨S, i, a, ts, g, cap, cur, ev, rfl, rfl, h, hx4⟩
    · exact ⟨S0, [], World.ownsRow_nil _ _ _ _, rfl, (fun _ h => by cases h), fun q hq => .inl hq, fun _ h => h, fun q hq => Nat.lt_of_lt_of_le (hS q hq) hb.size, (fun q h => by cases h), fun q hq => (hX q hq).2⟩
    · obtain ⟨_, t, e1, e2, e3, e4⟩ := h.rd hS
      have hc : kdNd.cells (ts ++ [t]) = kdNd.cells ts ++ lastC lvl ev := by rw [kdNd.cells_append, ← e4]; simp [Kd.cells]
      have hrow : Rd kdEn w (fun q => S q ∧ ev.ownBlock ≠ some q) ev a := h.row.rd (fun q hq => hq.1) (fun q hq hq2 => hq2.2 hq)
      obtain ⟨ea, ec, he, _⟩ := hrow.shape
      refine ⟨fun q => S q ∧ ev.ownBlock ≠ some q, ts ++ [⟨⟨ea, a.length, ec⟩, ⟨none, 0, 0⟩, mkN lvl a⟩], ⟨?_, .inr ⟨g, cap, cur, by simp, Nat.zero_le _, h.blk, by simp; exact h.cap1, h.cap2, h.sz, ?_⟩⟩, ?_, fun t' ht' => ?_, fun q hq => h.more q hq.1, fun q hq => ⟨h.inc q hq, fun e => by have := h.newe q e; have := hS q hq; omega⟩, fun q hq => h.lt q hq.1, fun q hq => ?_, fun q hq hs => hx4 q hq hs.1⟩
      · rw [kdNd.cells_length, List.length_append, List.length_append, h.tlen]
        rfl
      · rw [List.length_append, List.length_singleton, h.cells, kdNd.cells_append, he]
        rfl
      · rw [List.map_append, List.map_append, h.con]
        rfl
      · rcases List.mem_append.1 ht' with h1 | h1
        · exact kdNd.less (h.ok t' h1) fun q hq => hq.1
        · rw [List.mem_singleton.1 h1]
          exact ⟨(congrArg (fun v => Rd kdEn w (fun q => S q ∧ ev.ownBlock ≠ some q) v a) he).mp hrow, Bsf.nil _ _⟩
      · cases hq
        exact ⟨⟨h.gS, h.ne⟩, h.newg⟩
  have hb63 : (Ls.length + 1) * inf.bytes ≤ 140737488355328 := Nat.le_trans (Nat.mul_le_mul (show Ls.length + 1 ≤ 1000001 by omega) hby) (by decide)
  obtain ⟨v', w', hr, ho, hg, hnil, hloc⟩ := run_append_own_at (P := Tryz.prog) (w := w) 0 115 115 85 inf z 4 inf.bytes nod_ty.slice hi hz hsz rfl hzs (by decide) lv Ls.length (kdNd.cells ts) hown ⟨xb, 0, none⟩ 1 1 (lastC lvl (.slice none 0 0)) rfl
    (fun j u hu => by rw [Addr.add_lit, Nat.zero_add]; exact hx j u hu) (fun u hu => by simp only [lastC, List.mem_cons, List.not_mem_nil, or_false] at hu; rcases hu with rfl | rfl | rfl | rfl <;> rfl) (by unfold maxLen; omega) hb63 (Nat.zero_le _)
  have hst := step_own hg (fun q hq => (hnew q hq).1) hloc
  have hvn : ∀ q, v'.ownBlock = some q → w0.heap.size ≤ q := fun q hq => by
    rcases hloc with e | e
    · exact (hnew q (e ▸ hq)).2
    · rw [e] at hq
      cases hq
      exact hb.size
  have hbel : Below w0.heap.size w0 w' := by
    refine ⟨hg.os.trans hb.os, hg.tape.trans hb.tape, hg.output.trans hb.output, Nat.le_trans hb.size hg.size, fun k hk => (hg.block k (Nat.lt_of_lt_of_le hk hb.size) fun e => ?_).trans (hb.block k hk)⟩
    have := (hnew k e.symm).2
    omega
  refine ⟨v', w', hr, ⟨hbel, .inr ?_⟩, hbel, fun q hq hne => hg.block q hq fun e => hne e.symm, hg.size⟩
  rcases ho.2 with ⟨_, h0⟩ | ⟨g, cap, cur, rfl, _, hblk, h1, h2, h3, h4⟩
  · omega
  · refine ⟨Sv S (.slice (some ⟨g, 0, none⟩) (Ls.length + 1) cap), Ls, [], ts, g, cap, cur, .slice none 0 0, rfl, rfl, ?_, fun q hq hs => ?_⟩
    rotate_left
    · rcases hs with h5 | h5
      · exact hXS q hq h5
      · rcases hloc with e | e
        · exact hXS q hq (hnew q (e ▸ h5)).1
        · rw [e] at h5
          cases h5
          have := (hX _ hq).1
          omega
    exact {
      more := fun q hq => hq.elim (hmore q) (fun e => .inr (hvn q e)), inc := fun q hq => .inl (hinc q hq), con := hcon, ok := fun t ht => kdNd.step (hok t ht) hst, blk := hblk, cap1 := h1, cap2 := h2, sz := h3
      cells := h4, row := Ro.nil _ _ _ _, gS := .inr rfl, ne := (fun e => by cases e), newg := hvn g rfl, newe := (fun q e => by cases e)
      lt := fun q hq => hq.elim (fun h => Nat.lt_of_lt_of_le (hlt q h) hg.size) (fun e => by cases e; exact (Array.getElem?_eq_some_iff.1 hblk).1) }
/-- One entry more. -/
theorem FlAt.put {v' : Value} {w2 : World} {e : En} (h : FlAt w0 w S0 S lvl i a ts g cap cur ev) (hro : Ro kdEn 93 w2 (Sv S v') v' (a ++ [e])) (hst : Step S w w2 (Sv S v')) (hgr : w.grownBy w2 ev.ownBlock) (hlo : v'.ownBlock = ev.ownBlock ∨ v'.ownBlock = some w.heap.size)
    (hb : Below w0.heap.size w0 w) :
    ∃ cur', FlAt w0 (w2.setCell ⟨g, i.length * 4 + 2, none⟩ v') S0 (Sv S v') lvl i (a ++ [e]) ts g cap cur' v' ∧ Below w0.heap.size w0 (w2.setCell ⟨g, i.length * 4 + 2, none⟩ v') := by
  have hg : g < w.heap.size := h.lt g h.gS
  have hg2 : w2.heap[g]? = some (.cells cur 85 (0, 0)) := (hgr.block g hg fun e => h.ne e.symm).trans h.blk
  have hvne : v'.ownBlock ≠ some g := fun e => by
    rcases hlo with h1 | h1
    · exact h.ne (h1 ▸ e)
    · rw [h1] at e
      cases e
      omega
  have hvn : ∀ q, v'.ownBlock = some q → w0.heap.size ≤ q := fun q hq => by
    rcases hlo with h1 | h1
    · exact h.newe q (h1 ▸ hq)
    · rw [h1] at hq
      cases hq
      exact hb.size
  have hset : Step (Sv S v') w2 (w2.setCell ⟨g, i.length * 4 + 2, none⟩ v') (Sv S v') := (Step.refl _ _).set (p := ⟨g, i.length * 4 + 2, none⟩) (.inl h.gS) v'
  have hcl : (kdNd.cells ts).length = i.length * 4 := by rw [kdNd.cells_length, h.tlen]; rfl
  refine ⟨cur.setIfInBounds (i.length * 4 + 2) v', {
    more := fun q hq => hq.elim (h.more q) (fun e => .inr (hvn q e)), inc := fun q hq => .inl (h.inc q hq), con := h.con, ok := fun t ht => kdNd.step (kdNd.step (h.ok t ht) hst) hset, blk := by rw [Lib.heap_setCell_same hg2], cap1 := h.cap1, cap2 := h.cap2, sz := by simpa using h.sz
    cells := ?_, row := hro.keep (fun q hq => Below.heap_setCell _ _ _ _ (fun e => hvne (by rw [hq]; exact congrArg some e))) hset (fun _ h => h), gS := .inl h.gS, ne := hvne, newg := h.newg, newe := hvn
    lt := fun q hq => by
      have h2 : q < w2.heap.size := hq.elim (fun h1 => Nat.lt_of_lt_of_le (h.lt q h1) hgr.size) (fun h1 => hro.own h1)
      simpa [World.setCell] using h2 }, ?_⟩
  · rw [Array.toList_setIfInBounds, List.take_set, h.cells, List.set_append_right _ _ (by omega), hcl, show i.length * 4 + 2 - i.length * 4 = 2 by omega]
    rfl
  · refine Below.setCell (p := ⟨g, i.length * 4 + 2, none⟩) ⟨hgr.os.trans hb.os, hgr.tape.trans hb.tape, hgr.output.trans hb.output, Nat.le_trans hb.size hgr.size, fun k hk => (hgr.block k (Nat.lt_of_lt_of_le hk hb.size) fun e => ?_).trans (hb.block k hk)⟩ h.newg v'
    have := h.newe k e.symm
    omega
/-- The last entry of the node ahead goes to the last one. -/
theorem FlAt.share {b : List En} {k : Nat} (h : FlAt w0 w S0 S lvl (i ++ [a]) b ts g cap cur ev) (hS : ∀ q, S0 q → q < w0.heap.size) (hb0 : Below w0.heap.size w0 w) (hk : a.length = k + 1) :
    ∃ ea ec, w.cell? ⟨g, i.length * 4 + 2, none⟩ = some (.slice ea (k + 1) ec) ∧ Rd kdEn w (fun q => S q ∧ ev.ownBlock ≠ some q) (.slice ea (k + 1) ec) a ∧ Rd kdEn w (fun q => S q ∧ ev.ownBlock ≠ some q) ev b ∧
      ∀ v w1, Below w.heap.size w w1 → Rd kdEn w1 (fun q => S q ∧ ev.ownBlock ≠ some q) v (a.drop k ++ b) →
        Rd kdNd ((w1.setCell ⟨g, i.length * 4 + 4 + 2, none⟩ v).setCell ⟨g, i.length * 4 + 2, none⟩ (.slice ea k ec)) S0 (.slice (some ⟨g, 0, none⟩) ((i ++ [a]).length + 1) cap) ((i ++ [a.take k, a.drop k ++ b]).map (mkN lvl)) ∧
        Below w0.heap.size w0 ((w1.setCell ⟨g, i.length * 4 + 4 + 2, none⟩ v).setCell ⟨g, i.length * 4 + 2, none⟩ (.slice ea k ec)) := by
  have hcon := h.con
  rw [List.map_append, List.map_singleton] at hcon
  obtain ⟨ts0, tl, rfl, hc0, hc1⟩ := List.map_eq_append_iff.1 hcon
  obtain ⟨t0, rfl, hc2⟩ : ∃ t0, tl = [t0] ∧ kdNd.con t0 = mkN lvl a := by
    rcases tl with _ | ⟨t0, _ | ⟨t1, r⟩⟩
    · cases hc1
    · exact ⟨t0, rfl, by simpa using hc1⟩
    · simp at hc1
  have hS1 : ∀ q, S0 q → S q ∧ ev.ownBlock ≠ some q := fun q hq => ⟨h.inc q hq, fun e => by have := h.newe q e; have := hS q hq; omega⟩
  have hok0 := h.ok t0 (by simp)
  obtain ⟨⟨ea, e1, ec⟩, tt, n0⟩ := t0
  have hc2 : n0 = mkN lvl a := hc2
  subst hc2
  have hra : Rd kdEn w S (.slice ea e1 ec) a := hok0.1
  obtain ⟨_, _, hsh, _⟩ := hra.shape
  simp only [Value.slice.injEq] at hsh
  obtain ⟨-, rfl, -⟩ := hsh
  have hl0 : ts0.length = i.length := by have := congrArg List.length hc0; simpa using this
  have hcl : (kdNd.cells ts0).length = i.length * 4 := by rw [kdNd.cells_length, hl0]; rfl
  have hcells := h.cells
  have e0 : kdNd.cells (ts0 ++ [⟨⟨ea, a.length, ec⟩, tt, mkN lvl a⟩]) ++ lastC lvl ev = kdNd.cells ts0 ++ [.int .i64 0, .int .i64 (lvl : Nat), .slice ea a.length ec, tt.v, .int .i64 0, .int .i64 (lvl : Nat), ev, .slice none 0 0] := by
    rw [kdNd.cells_append, List.append_assoc]
    rfl
  rw [e0] at hcells
  have hrow : Rd kdEn w (fun q => S q ∧ ev.ownBlock ≠ some q) ev b := h.row.rd (fun q hq => hq.1) (fun q hq hq2 => hq2.2 hq)
  have hcell2 : w.cell? ⟨g, i.length * 4 + 2, none⟩ = some (.slice ea a.length ec) := by
    refine h.cellj ?_
    rw [e0, List.getElem?_append_right (by omega), hcl, show i.length * 4 + 2 - i.length * 4 = 2 by omega]
    rfl
  rw [hk] at hcell2 hra
  refine ⟨ea, ec, hcell2, hra.less fun q hq => hq.1, hrow, fun v w1 hb1 hv => ?_⟩
  have hg := h.lt g h.gS
  have hblk1 : w1.heap[g]? = some (.cells cur 85 (0, 0)) := (hb1.block g hg).trans h.blk
  obtain ⟨va, vc, rfl, _⟩ := hv.shape
  have hst : Step (fun q => S q ∧ ev.ownBlock ≠ some q) w ((w1.setCell ⟨g, i.length * 4 + 4 + 2, none⟩ (.slice va (a.drop k ++ b).length vc)).setCell ⟨g, i.length * 4 + 2, none⟩ (.slice ea k ec)) (fun q => S q ∧ ev.ownBlock ≠ some q) :=
    ((Step.of_below hb1 _).set (p := ⟨g, i.length * 4 + 4 + 2, none⟩) ⟨h.gS, h.ne⟩ _).set (p := ⟨g, i.length * 4 + 2, none⟩) ⟨h.gS, h.ne⟩ _
  have hst1 : Step (fun q => S q ∧ ev.ownBlock ≠ some q) w1 ((w1.setCell ⟨g, i.length * 4 + 4 + 2, none⟩ (.slice va (a.drop k ++ b).length vc)).setCell ⟨g, i.length * 4 + 2, none⟩ (.slice ea k ec)) (fun q => S q ∧ ev.ownBlock ≠ some q) :=
    ((Step.refl _ _).set (p := ⟨g, i.length * 4 + 4 + 2, none⟩) ⟨h.gS, h.ne⟩ _).set (p := ⟨g, i.length * 4 + 2, none⟩) ⟨h.gS, h.ne⟩ _
  refine ⟨⟨ts0 ++ [⟨⟨ea, k, ec⟩, tt, mkN lvl (a.take k)⟩, ⟨⟨va, (a.drop k ++ b).length, vc⟩, ⟨none, 0, 0⟩, mkN lvl (a.drop k ++ b)⟩], ?_, ⟨some ⟨g, 0, none⟩, cap, by simp, by have := h.cap1; simpa using this, h.cap2, (fun h => by cases h), ?_, fun ad had j u hu => ?_⟩, fun t ht => ?_, fun _ q hq hq2 => ?_⟩, ?_⟩
  · rw [List.map_append, hc0, List.map_append]
    rfl
  · rw [kdNd.cells_length, List.length_append, hl0]
    simp
  · cases had
    rw [Addr.add_lit, Nat.zero_add]
    have e1 : kdNd.cells (ts0 ++ [⟨⟨ea, k, ec⟩, tt, mkN lvl (a.take k)⟩, ⟨⟨va, (a.drop k ++ b).length, vc⟩, ⟨none, 0, 0⟩, mkN lvl (a.drop k ++ b)⟩]) =
        kdNd.cells ts0 ++ [.int .i64 0, .int .i64 (lvl : Nat), .slice ea k ec, tt.v, .int .i64 0, .int .i64 (lvl : Nat), .slice va (a.drop k ++ b).length vc, .slice none 0 0] := by
      rw [kdNd.cells_append]
      rfl
    have e2 : ((cur.setIfInBounds (i.length * 4 + 4 + 2) (.slice va (a.drop k ++ b).length vc)).setIfInBounds (i.length * 4 + 2) (.slice ea k ec)).toList.take (((i ++ [a]).length + 1) * 4) =
        kdNd.cells ts0 ++ [.int .i64 0, .int .i64 (lvl : Nat), .slice ea k ec, tt.v, .int .i64 0, .int .i64 (lvl : Nat), .slice va (a.drop k ++ b).length vc, .slice none 0 0] := by
      rw [Array.toList_setIfInBounds, Array.toList_setIfInBounds, List.take_set, List.take_set, hcells, List.set_append_right _ _ (by omega), List.set_append_right _ _ (by omega), hcl, show i.length * 4 + 4 + 2 - i.length * 4 = 6 by omega, show i.length * 4 + 2 - i.length * 4 = 2 by omega]
      rfl
    rw [e1, ← e2, List.getElem?_take] at hu
    split at hu
    · have hb2 : ((w1.setCell ⟨g, i.length * 4 + 4 + 2, none⟩ (.slice va (a.drop k ++ b).length vc)).setCell ⟨g, i.length * 4 + 2, none⟩ (.slice ea k ec)).heap[g]? = some (.cells ((cur.setIfInBounds (i.length * 4 + 4 + 2) (.slice va (a.drop k ++ b).length vc)).setIfInBounds (i.length * 4 + 2) (.slice ea k ec)) 85 (0, 0)) :=
        Lib.heap_setCell_same (Lib.heap_setCell_same hblk1 _) _
      simp only [World.cell?, hb2]
      rw [← Array.getElem?_toList]
      exact hu
    · cases hu
  · simp only [List.mem_append, List.mem_cons, List.not_mem_nil, or_false] at ht
    rcases ht with ht | rfl | rfl
    · exact kdNd.less (kdNd.step (kdNd.less (h.ok t (by simp [ht])) (fun q hq => hq.1)) hst) hS1
    · refine ⟨?_, (hok0.2.step (S' := fun q => S q ∧ ev.ownBlock ≠ some q) ⟨Only.refl _ _, fun q hq => .inl hq.1⟩).step hst |> fun hh => hh.step (S' := S0) ⟨Only.refl _ _, fun q hq => .inl (hS1 q hq)⟩⟩
      have := (hra.upto k (by omega)).less (S' := fun q => S q ∧ ev.ownBlock ≠ some q) (fun q hq => hq.1)
      exact (this.step hst).less hS1
    · exact ⟨(hv.step hst1).less hS1, Bsf.nil _ _⟩
  · cases hq
    have := h.newg
    have := hS g hq2
    omega
  · exact ((hb0.trans (hb1.mono hb0.size)).setCell (p := ⟨g, i.length * 4 + 4 + 2, none⟩) h.newg _).setCell (p := ⟨g, i.length * 4 + 2, none⟩) h.newg _
end
end Go.Proofs.YtgekeemhbnhelaaGreat
