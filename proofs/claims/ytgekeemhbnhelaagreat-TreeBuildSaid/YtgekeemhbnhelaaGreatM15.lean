/- A tree over a device and pages in memory; the node of a page; a child; condition: they lie in memory, the power is on. · A tree as its pairs and its pages: what a node of a level holds below it, over what stands in the blocks; no condition. · A child of a node: the walk of child; condition: what the node tells of it is so. · The node of a root; whether a page stands in a tree: the walks of top and has; condition: the tree is whole. -/
import Derived.Test.YtgekeemhbnhelaaGreatM09
import Derived.Test.YtgekeemhbnhelaaGreatM13
import Derived.Test.YtgekeemhbnhelaaGreatM14
import Derived.StillTailTactics
import Derived.Deep.RegionWith
import Derived.Test.YtgekeemhbnhelaaGreatM03
namespace Go.Proofs.YtgekeemhbnhelaaGreat
open Go.RowKit

/-- A tree in memory: its device, its pages; all that may turn is of S. -/
structure TrAt (w : World) (tb db pb fr : Nat) (D : Dv) (l : List Pg) (S F G : Nat → Prop) : Prop where
  tree : Cel w tb [ptr db, ptr pb, .int .i64 (fr : Nat)] 125
  dev : Dev w db D F
  pgs : Pgs w pb l G
  fg : ∀ q, F q → ¬ G q
  fs : ∀ q, F q → S q
  gs : ∀ q, G q → S q
  lt : ∀ q, S q → q < w.heap.size
  out : ¬ S tb
  room : fr + l.length ≤ D.bk.length
def TrS (w : World) (tb db pb fr : Nat) (D : Dv) (l : List Pg) (S : Nat → Prop) : Prop := ∃ F G, TrAt w tb db pb fr D l S F G

section
variable {w w' : World} {tb db pb fr : Nat} {D : Dv} {l : List Pg} {S : Nat → Prop}
theorem TrS.below (h : TrS w tb db pb fr D l S) (hb : Below w.heap.size w w') : TrS w' tb db pb fr D l S := by
  obtain ⟨F, G, h⟩ := h
  exact ⟨F, G, h.tree.below hb h.tree.lt, h.dev.below hb, h.pgs.below hb, h.fg, h.fs, h.gs, fun q hq => Nat.lt_of_lt_of_le (h.lt q hq) hb.size, h.out, h.room⟩
theorem TrS.more {S' : Nat → Prop} (h : TrS w tb db pb fr D l S) (hs : ∀ q, S q → S' q) (hl : ∀ q, S' q → q < w.heap.size) (ht : ¬ S' tb) : TrS w tb db pb fr D l S' := by
  obtain ⟨F, G, h⟩ := h
  exact ⟨F, G, h.tree, h.dev, h.pgs, h.fg, fun q hq => hs q (h.fs q hq), fun q hq => hs q (h.gs q hq), hl, ht, h.room⟩
theorem TrS.tlt (h : TrS w tb db pb fr D l S) : tb < w.heap.size ∧ ¬ S tb := let ⟨_, _, h⟩ := h; ⟨h.tree.lt, h.out⟩
theorem TrS.lt (h : TrS w tb db pb fr D l S) : ∀ q, S q → q < w.heap.size := let ⟨_, _, h⟩ := h; h.lt
theorem TrS.room (h : TrS w tb db pb fr D l S) : fr + l.length ≤ D.bk.length := let ⟨_, _, h⟩ := h; h.room
theorem TrS.few (h : TrS w tb db pb fr D l S) : 0 < l.length ∧ l.length ≤ 4096 := let ⟨_, _, h⟩ := h; ⟨h.pgs.pos, h.pgs.few⟩
theorem Dev.bks {b : Nat} {F : Nat → Prop} (h : Dev w b D F) : 0 < D.bk.length ∧ D.bk.length ≤ 4096 := by
  obtain ⟨sb, mb, sv, lv, Dm, h1⟩ := h
  exact ⟨h1.pos, h1.few⟩
end

/-- What stands in a page's block. -/
def blkOf (D : Dv) (fr k : Nat) : Bytes := ((D.bk[fr + k]?).map Bk.stands).getD []
/-- What read answers. -/
def Readn (w : World) (S : Nat → Prop) (N : Nat) (b : Bytes) (k : Nat) (e : Ending) (w' : World) : Prop :=
  ∃ v r, e = .returned (.tuple #[v, err (if Option.isSome r then 0 else 9)]) ∧ Says N b r ∧ Nv w' S v (match r with | some (lvl, es) => ⟨k, lvl, es, []⟩ | none => ⟨0, 0, [], []⟩) ∧ Below w.heap.size w w'

set_option maxRecDepth 100000 in
set_option maxHeartbeats 1000000 in
theorem tread_any {tb db pb fr : Nat} {D : Dv} {l : List Pg} {S : Nat → Prop} (w : World) (h : TrS w tb db pb fr D l S) (ho : D.on = true) (k : Nat) (hk : k < l.length) :
    Calls Tryz.prog 69 #[ptr tb, .int .i64 (k : Int)] w (Readn w S l.length (blkOf D fr k) k) := by
  obtain ⟨F, G, h⟩ := h
  have hd := h.dev.bks
  obtain ⟨x, hx⟩ : ∃ x, D.bk[fr + k]? = some x := ⟨_, List.getElem?_eq_getElem (by have := h.room; omega)⟩
  have hbk : blkOf D fr k = x.stands := by unfold blkOf; rw [hx]; rfl
  have hroom := h.room
  rw [hbk]
  have hb0 : Below w.heap.size w (w.alloc (.cells #[.int .i64 0, .int .i64 0, .slice none 0 0, .slice none 0 0] 85)) := (Below.refl _ _).alloc (Nat.le_refl _) _
  have C0 : Cel (w.alloc (.cells #[.int .i64 0, .int .i64 0, .slice none 0 0, .slice none 0 0] 85)) w.heap.size [.int .i64 0, .int .i64 0, .slice none 0 0, .slice none 0 0] 85 := Cel.new w _ _
  have R := read_ok (h.dev.below hb0 |>.kept (w' := (w.alloc (.cells #[.int .i64 0, .int .i64 0, .slice none 0 0, .slice none 0 0] 85)).drew) (fun _ _ => rfl) (Nat.le_refl _)) ho hx
  have t0 := (h.tree.below hb0 h.tree.lt).cell 0
  have t1 := (h.tree.below hb0 h.tree.lt).cell 1
  have t2 := (h.tree.below hb0 h.tree.lt).cell 2
  have hfk : ((fr + k : Nat) : Int) = (fr : Int) + (k : Int) := by omega
  rw [hfk] at R
  have hfi : (fr : Int) + (k : Int) ≤ 4096 := by omega
  have HH := Lib.hid (And.intro h (And.intro hb0 (And.intro C0 hd)))
  have HX2 := Lib.hid hx
  clear h hb0 C0 hd hx hbk hfk hroom
  go_enter Tryz.func69, Tryz.ntmps69
  go_wp2_with fail
  have hwr : IntKind.i64.wrap ((fr : Int) + (k : Int)) = (fr : Int) + (k : Int) := by rw [IntKind.wrap_i64]; omega
  have HX := Lib.hid (fun (W : World) (hW : W.cell? ⟨tb, 0, none⟩ = some (ptr db) ∧ W.cell? ⟨tb, 2, none⟩ = some (.int .i64 (fr : Nat))) => And.intro hW hwr)
  refine region_till 99 (fun W => W.cell? ⟨tb, 0, none⟩ = some (ptr db) ∧ W.cell? ⟨tb, 2, none⟩ = some (.int .i64 (fr : Nat))) (by kernel_rfl) ⟨t0, t2⟩ (fun hS => ?_)
  refine take_till (i := 0) (some 11) (ptr tb) rfl rfl (by kernel_rfl) (by kernel_rfl) (by kernel_rfl) (by kernel_rfl) (by decide) (fun _ _ _ h => h) (by rfl) (fun W hW => ?_) hS ?_
  · have hx := HX.out W hW
    clear hW
    go_simp
  simp only [Act.put, List.setIfInBounds_toArray, List.set_cons_zero, List.set_cons_succ]
  refine take_till (i := 1) (some 12) (ptr tb) rfl rfl (by kernel_rfl) (by kernel_rfl) (by kernel_rfl) (by kernel_rfl) (by decide) (fun _ _ _ h => h) (by rfl) (fun W hW => ?_) hS ?_
  · have hx := HX.out W hW
    clear hW
    go_simp
  simp only [Act.put, List.setIfInBounds_toArray, List.set_cons_zero, List.set_cons_succ]
  refine take_till (i := 2) (some 13) (.pointer (some ⟨tb, 0, none⟩)) rfl rfl (by kernel_rfl) (by kernel_rfl) (by kernel_rfl) (by kernel_rfl) (by decide) (fun _ _ _ h => h) (by rfl) (fun W hW => ?_) hS ?_
  · have hx := HX.out W hW
    clear hW
    go_simp
  simp only [Act.put, List.setIfInBounds_toArray, List.set_cons_zero, List.set_cons_succ]
  refine take_till (i := 3) (some 14) (ptr db) rfl rfl (by kernel_rfl) (by kernel_rfl) (by kernel_rfl) (by kernel_rfl) (by decide) (fun _ _ _ h => h) (by rfl) (fun W hW => ?_) hS ?_
  · have hx := HX.out W hW
    clear hW
    go_simp
  simp only [Act.put, List.setIfInBounds_toArray, List.set_cons_zero, List.set_cons_succ]
  refine take_till (i := 4) (some 15) (ptr tb) rfl rfl (by kernel_rfl) (by kernel_rfl) (by kernel_rfl) (by kernel_rfl) (by decide) (fun _ _ _ h => h) (by rfl) (fun W hW => ?_) hS ?_
  · have hx := HX.out W hW
    clear hW
    go_simp
  simp only [Act.put, List.setIfInBounds_toArray, List.set_cons_zero, List.set_cons_succ]
  refine take_till (i := 5) (some 16) (ptr tb) rfl rfl (by kernel_rfl) (by kernel_rfl) (by kernel_rfl) (by kernel_rfl) (by decide) (fun _ _ _ h => h) (by rfl) (fun W hW => ?_) hS ?_
  · have hx := HX.out W hW
    clear hW
    go_simp
  simp only [Act.put, List.setIfInBounds_toArray, List.set_cons_zero, List.set_cons_succ]
  refine take_till (i := 6) (some 17) (.pointer (some ⟨tb, 2, none⟩)) rfl rfl (by kernel_rfl) (by kernel_rfl) (by kernel_rfl) (by kernel_rfl) (by decide) (fun _ _ _ h => h) (by rfl) (fun W hW => ?_) hS ?_
  · have hx := HX.out W hW
    clear hW
    go_simp
  simp only [Act.put, List.setIfInBounds_toArray, List.set_cons_zero, List.set_cons_succ]
  refine take_till (i := 7) (some 18) (.int .i64 (fr : Nat)) rfl rfl (by kernel_rfl) (by kernel_rfl) (by kernel_rfl) (by kernel_rfl) (by decide) (fun _ _ _ h => h) (by rfl) (fun W hW => ?_) hS ?_
  · have hx := HX.out W hW
    clear hW
    go_simp
  simp only [Act.put, List.setIfInBounds_toArray, List.set_cons_zero, List.set_cons_succ]
  refine take_till (i := 8) (some 19) (.int .i64 (k : Int)) rfl rfl (by kernel_rfl) (by kernel_rfl) (by kernel_rfl) (by kernel_rfl) (by decide) (fun _ _ _ h => h) (by rfl) (fun W hW => ?_) hS ?_
  · have hx := HX.out W hW
    clear hW
    go_simp
  simp only [Act.put, List.setIfInBounds_toArray, List.set_cons_zero, List.set_cons_succ]
  refine take_till (i := 9) (some 20) (.int .i64 ((fr : Int) + (k : Int))) rfl rfl (by kernel_rfl) (by kernel_rfl) (by kernel_rfl) (by kernel_rfl) (by decide) (fun _ _ _ h => h) (by rfl) (fun W hW => ?_) hS ?_
  · have hx := HX.out W hW
    clear hW
    go_simp
  simp only [Act.put, List.setIfInBounds_toArray, List.set_cons_zero, List.set_cons_succ]
  refine next_till 10 (by kernel_rfl) rfl (fun K hK => ?_)
  go_simp
  refine R.mono ?_
  rintro e w1 ⟨g, rfl, hg, hwg, hb1⟩
  clear R
  obtain ⟨h, hb0, C0, hd⟩ := HH.out
  have hbw : Below w.heap.size w w1 := hb0.trans (show Below w.heap.size (w.alloc (.cells #[.int .i64 0, .int .i64 0, .slice none 0 0, .slice none 0 0] 85)) w1 from ⟨hb1.os, hb1.tape, hb1.output, hb1.size, fun k hk => hb1.block k (Nat.lt_of_lt_of_le hk hb0.size)⟩)
  have C1 : Cel w1 w.heap.size [.int .i64 0, .int .i64 0, .slice none 0 0, .slice none 0 0] 85 := C0.kept (hb1.block _ C0.lt)
  have T1 := h.tree.below hbw h.tree.lt
  have u0 : w1.cell? ⟨tb, 0, none⟩ = some (ptr db) := T1.cell 0
  have u1 : w1.cell? ⟨tb, 1, none⟩ = some (ptr pb) := T1.cell 1
  have u2 : w1.cell? ⟨tb, 2, none⟩ = some (.int .i64 (fr : Nat)) := T1.cell 2
  refine hK.out _ _ (fun _ => ⟨u0, u2⟩) ?_
  clear hK K
  have hxl := stands_len h.dev (k := fr + k) (HX2.out)
  have P1 := pgsize_any (h.pgs.below hbw)
  have Bg : Bs w1 (.slice (some ⟨g, 0, none⟩) 512 512) x.stands := Blk.bs ⟨g, rfl, hg, hxl⟩
  have O := opened_any (S := fun q => S q ∨ q = w.heap.size) l.length w1 Bg (fun q hq => hq.elim (fun hq => Nat.lt_of_lt_of_le (h.lt q hq) hbw.size) (fun e => e ▸ C1.lt)) h.pgs.few
  have H1 := Lib.hid (And.intro hbw (And.intro C1 (And.intro h.lt hb0)))
  have hS : w1.cell? ⟨tb, 0, none⟩ = some (ptr db) ∧ w1.cell? ⟨tb, 2, none⟩ = some (.int .i64 (fr : Nat)) := ⟨u0, u2⟩
  clear h hb0 C0 hd hbw C1 T1 hb1 hg hwg hxl Bg t0 t1 t2
  refine take_till (i := 11) (some 10) (.tuple #[.slice (some ⟨g, 0, none⟩) 512 512, err 0]) rfl rfl (by kernel_rfl) (by kernel_rfl) (by kernel_rfl) (by kernel_rfl) (by decide) (fun _ _ _ h => h) (by rfl) (fun W hW => ?_) hS ?_
  · have hx := HX.out W hW
    clear hW
    go_simp
  simp only [Act.put, List.setIfInBounds_toArray, List.set_cons_zero, List.set_cons_succ]
  refine take_till (i := 12) (some 22) (.slice (some ⟨g, 0, none⟩) 512 512) rfl rfl (by kernel_rfl) (by kernel_rfl) (by kernel_rfl) (by kernel_rfl) (by decide) (fun _ _ _ h => h) (by rfl) (fun W hW => ?_) hS ?_
  · have hx := HX.out W hW
    clear hW
    go_simp
  simp only [Act.put, List.setIfInBounds_toArray, List.set_cons_zero, List.set_cons_succ]
  refine take_till (i := 13) (some 23) (err 0) rfl rfl (by kernel_rfl) (by kernel_rfl) (by kernel_rfl) (by kernel_rfl) (by decide) (fun _ _ _ h => h) (by rfl) (fun W hW => ?_) hS ?_
  · have hx := HX.out W hW
    clear hW
    go_simp
  simp only [Act.put, List.setIfInBounds_toArray, List.set_cons_zero, List.set_cons_succ]
  refine take_till (i := 14) (some 6) (.slice (some ⟨g, 0, none⟩) 512 512) rfl rfl (by kernel_rfl) (by kernel_rfl) (by kernel_rfl) (by kernel_rfl) (by decide) (fun _ _ _ h => h) (by rfl) (fun W hW => ?_) hS ?_
  · have hx := HX.out W hW
    clear hW
    go_simp
  simp only [Act.put, List.setIfInBounds_toArray, List.set_cons_zero, List.set_cons_succ]
  refine next_till 15 (by kernel_rfl) rfl (fun K hK => ?_)
  go_simp
  refine hK.out _ _ (fun _ => hS) ?_
  clear hK K hS
  refine done_till (by kernel_rfl) ?_ _
  clear HX HX2
  go_wp2_with fail
  refine P1.mono ?_
  rintro e w2 ⟨rfl, rfl⟩
  clear P1
  go_wp2_with fail
  refine O.mono ?_
  rintro e w2 ⟨nv, r, rfl, hs, hn, hb2⟩
  clear O
  obtain ⟨hbw, C1, hlt, hb0⟩ := H1.out
  have C2 := C1.below hb2 C1.lt
  have c0 : w2.cell? ⟨w.heap.size, 0, none⟩ = some (.int .i64 0) := C2.cell 0
  have c1 : w2.cell? ⟨w.heap.size, 1, none⟩ = some (.int .i64 0) := C2.cell 1
  have c2 : w2.cell? ⟨w.heap.size, 2, none⟩ = some (.slice none 0 0) := C2.cell 2
  have c3 : w2.cell? ⟨w.heap.size, 3, none⟩ = some (.slice none 0 0) := C2.cell 3
  have f0 := C2.frozen 0
  have f1 := C2.frozen 1
  have f2 := C2.frozen 2
  have f3 := C2.frozen 3
  have hbw2 := hbw.trans (hb2.mono hbw.size)
  have hz := C2.lt
  rcases r with _ | ⟨lvl, es⟩
  · obtain ⟨ea, ec, ta, tc, rfl, he, ht⟩ := hn
    have H2 := Lib.hid (And.intro C2 (And.intro hbw2 hs))
    clear hbw C1 hlt hb0 C2 hbw2 hs hb2 he ht u0 u1 u2
    simp only [Option.isSome]
    go_wp2
    obtain ⟨C2, hbw2, hs⟩ := H2.out
    have C5 := ((((C2.set 0 (.int .i64 0)).set 1 (.int .i64 0)).set 2 (.slice none 0 0)).set 3 (.slice none 0 0)).alloc (.cells #[.int .i64 0, .int .i64 0, .slice ea 0 ec, .slice ta 0 tc] 85)
    have B5 := (((hbw2.setCell (p := ⟨w.heap.size, 0, none⟩) (Nat.le_refl _) (.int .i64 0)).setCell (p := ⟨w.heap.size, 1, none⟩) (Nat.le_refl _) (.int .i64 0)).setCell (p := ⟨w.heap.size, 2, none⟩) (Nat.le_refl _) (.slice none 0 0)).setCell (p := ⟨w.heap.size, 3, none⟩) (Nat.le_refl _) (.slice none 0 0)
    exact bodyPost_ret (results_cell2 (g := w.heap.size) rfl rfl C5 Tryz.underlying85 rfl (by kernel_rfl)) rfl ⟨_, none, rfl, hs, nv_zero _ S, B5.alloc B5.size _⟩
  · obtain ⟨ea, ec, ta, tc, rfl, he, ht⟩ := hn
    have H2 := Lib.hid (And.intro C2 (And.intro hbw2 (And.intro hs (And.intro (And.intro he ht) (And.intro hb2 hlt)))))
    have hne : w.heap.size ≠ w2.heap.size := by omega
    clear hbw C1 hlt hb0 C2 hbw2 hs hb2 he ht u0 u1 u2
    simp only [Option.isSome]
    go_wp2
    obtain ⟨C2, hbw2, hs, he, hb2, hlt⟩ := H2.out
    have C5 := ((((C2.set 0 (.int .i64 (k : Int))).set 1 (.int .i64 (lvl : Nat))).set 2 (.slice ea es.length ec)).set 3 (.slice ta 0 tc)).alloc (.cells #[.int .i64 (k : Int), .int .i64 (lvl : Nat), .slice ea es.length ec, .slice ta 0 tc] 85)
    have B5 := (((hbw2.setCell (p := ⟨w.heap.size, 0, none⟩) (Nat.le_refl _) (.int .i64 (k : Int))).setCell (p := ⟨w.heap.size, 1, none⟩) (Nat.le_refl _) (.int .i64 (lvl : Nat))).setCell (p := ⟨w.heap.size, 2, none⟩) (Nat.le_refl _) (.slice ea es.length ec)).setCell (p := ⟨w.heap.size, 3, none⟩) (Nat.le_refl _) (.slice ta 0 tc)
    have st := (((((Step.refl (fun q => S q ∨ q = w.heap.size) w2).set (p := ⟨w.heap.size, 0, none⟩) (.inr rfl) (.int .i64 (k : Int))).set (p := ⟨w.heap.size, 1, none⟩) (.inr rfl) (.int .i64 (lvl : Nat))).set (p := ⟨w.heap.size, 2, none⟩) (.inr rfl) (.slice ea es.length ec)).set (p := ⟨w.heap.size, 3, none⟩) (.inr rfl) (.slice ta 0 tc)).alloc (.cells #[.int .i64 (k : Int), .int .i64 (lvl : Nat), .slice ea es.length ec, .slice ta 0 tc] 85)
    have st2 := st.weak (S'' := S) fun q h => .inl h
    exact bodyPost_ret (results_cell2 (g := w.heap.size) rfl rfl C5 Tryz.underlying85 rfl (by kernel_rfl)) rfl ⟨_, some (lvl, es), rfl, hs, Nv.of (n := ⟨(k : Int), lvl, es, []⟩) (he.1.step st2) (he.2.step st2), B5.alloc B5.size _⟩
end Go.Proofs.YtgekeemhbnhelaaGreat
namespace Go.Proofs.YtgekeemhbnhelaaGreat
open Go.RowKit

/-- Entries as a node may have that is put into a block. -/
def EsOk (N lvl : Nat) (es : List En) : Prop := es ≠ [] ∧ nsize lvl es ≤ 503 ∧ RiseE es ∧ ∀ e ∈ es, (1 ≤ e.key.length ∧ e.key.length ≤ 32) ∧ e.val.length ≤ 128 ∧ e.page < N ∧ EnOk lvl e
/-- .. and no inner one of too few children. -/
def NdOk (N lvl : Nat) (es : List En) : Prop := EsOk N lvl es ∧ (0 < lvl → 2 ≤ es.length)
theorem NdOk.may {N lvl : Nat} {es : List En} (h : NdOk N lvl es) : MayP N lvl es := ⟨h.1.1, h.2, fun e he => ⟨(h.1.2.2.2 e he).1, (h.1.2.2.2 e he).2.1, (h.1.2.2.2 e he).2.2.1⟩, h.1.2.2.1⟩

/-- A tree below a page. -/
structure Sb where
  key : Bytes
  page : Nat
  prs : List Pr
  pgs : List Nat
def kidE (k : Sb) : En := ⟨k.key, [], k.page⟩
def prE (p : Pr) : En := ⟨p.1, p.2, 0⟩

/-- Entries of a node of a level: the pairs that it has below it, the pages below it. -/
def Nb (B : Nat → Bytes) (N : Nat) : Nat → List En → List Pr → List Nat → Prop
  | 0, es, prs, pgs => es = prs.map prE ∧ pgs = []
  | l + 1, es, prs, pgs => ∃ kids : List Sb, es = kids.map kidE ∧ prs = kids.flatMap Sb.prs ∧ pgs = kids.flatMap Sb.pgs ∧
      ∀ k ∈ kids, ∃ ces cpg, NdOk N l ces ∧ B k.page = sealL 3 (bodyL l ces) ∧ Nb B N l ces k.prs cpg ∧ k.pgs = k.page :: cpg ∧ ces.head?.map En.key = some k.key ∧ k.page < N
/-- A tree of a level below a page. -/
def Sub (B : Nat → Bytes) (N l : Nat) (k : Sb) : Prop :=
  ∃ ces cpg, NdOk N l ces ∧ B k.page = sealL 3 (bodyL l ces) ∧ Nb B N l ces k.prs cpg ∧ k.pgs = k.page :: cpg ∧ ces.head?.map En.key = some k.key ∧ k.page < N

theorem Nb.zero {B : Nat → Bytes} {N : Nat} {es : List En} {prs : List Pr} {pgs : List Nat} : Nb B N 0 es prs pgs ↔ es = prs.map prE ∧ pgs = [] := Iff.rfl
theorem Nb.succ {B : Nat → Bytes} {N l : Nat} {es : List En} {prs : List Pr} {pgs : List Nat} : Nb B N (l + 1) es prs pgs ↔
    ∃ kids : List Sb, es = kids.map kidE ∧ prs = kids.flatMap Sb.prs ∧ pgs = kids.flatMap Sb.pgs ∧ ∀ k ∈ kids, Sub B N l k := Iff.rfl

/-- What stands in pages that are not its own does not matter. -/
theorem Nb.congr {B B' : Nat → Bytes} {N : Nat} : ∀ {l : Nat} {es : List En} {prs : List Pr} {pgs : List Nat}, (∀ k ∈ pgs, B' k = B k) → Nb B N l es prs pgs → Nb B' N l es prs pgs
  | 0, _, _, _, _, h => h
  | l + 1, es, prs, pgs, hk, h => by
    obtain ⟨kids, h1, h2, h3, h4⟩ := Nb.succ.1 h
    refine Nb.succ.2 ⟨kids, h1, h2, h3, fun k hkk => ?_⟩
    obtain ⟨ces, cpg, g1, g2, g3, g4, g5, g6⟩ := h4 k hkk
    have hin : ∀ q ∈ k.pgs, B' q = B q := fun q hq => hk q (by rw [h3]; exact List.mem_flatMap.2 ⟨k, hkk, hq⟩)
    refine ⟨ces, cpg, g1, ?_, Nb.congr (fun q hq => hin q (by rw [g4]; exact List.mem_cons_of_mem _ hq)) g3, g4, g5, g6⟩
    rw [hin k.page (by rw [g4]; exact List.mem_cons_self)]
    exact g2
theorem Sub.congr {B B' : Nat → Bytes} {N l : Nat} {k : Sb} (hk : ∀ q ∈ k.pgs, B' q = B q) (h : Sub B N l k) : Sub B' N l k := by
  obtain ⟨ces, cpg, g1, g2, g3, g4, g5, g6⟩ := h
  refine ⟨ces, cpg, g1, ?_, Nb.congr (fun q hq => hk q (by rw [g4]; exact List.mem_cons_of_mem _ hq)) g3, g4, g5, g6⟩
  rw [hk k.page (by rw [g4]; exact List.mem_cons_self)]
  exact g2

/-- Pairs whose keys rise. -/
def RiseP (l : List Pr) : Prop := l.Pairwise fun a b => cmp a.1 b.1 < 0
theorem RiseP.append {a b : List Pr} : RiseP (a ++ b) ↔ RiseP a ∧ RiseP b ∧ ∀ x ∈ a, ∀ y ∈ b, cmp x.1 y.1 < 0 := List.pairwise_append

/-- The least key is the first pair's. -/
theorem Nb.head {B : Nat → Bytes} {N : Nat} : ∀ {l : Nat} {es : List En} {prs : List Pr} {pgs : List Nat}, Nb B N l es prs pgs → es.head?.map En.key = prs.head?.map Prod.fst
  | 0, es, prs, pgs, h => by
    obtain ⟨rfl, _⟩ := Nb.zero.1 h
    cases prs <;> rfl
  | l + 1, es, prs, pgs, h => by
    obtain ⟨kids, rfl, rfl, h3, h4⟩ := Nb.succ.1 h
    rcases kids with _ | ⟨k, r⟩
    · rfl
    · obtain ⟨ces, cpg, g1, g2, g3, g4, g5, g6⟩ := h4 k List.mem_cons_self
      have ih := Nb.head g3
      rw [g5] at ih
      rcases hp : k.prs with _ | ⟨p, q⟩
      · rw [hp] at ih
        cases ih
      · rw [hp] at ih
        simp only [List.head?_cons, Option.map_some, Option.some.injEq] at ih
        simp [kidE, ih, hp]
/-- Every entry's key is a pair's. -/
theorem Nb.keys {B : Nat → Bytes} {N l : Nat} {es : List En} {prs : List Pr} {pgs : List Nat} (h : Nb B N l es prs pgs) {e : En} (he : e ∈ es) : ∃ v, (e.key, v) ∈ prs := by
  cases l with
  | zero =>
    obtain ⟨rfl, _⟩ := Nb.zero.1 h
    obtain ⟨p, hp, rfl⟩ := List.mem_map.1 he
    exact ⟨p.2, hp⟩
  | succ l =>
    obtain ⟨kids, rfl, rfl, h3, h4⟩ := Nb.succ.1 h
    obtain ⟨k, hk, rfl⟩ := List.mem_map.1 he
    obtain ⟨ces, cpg, g1, g2, g3, g4, g5, g6⟩ := h4 k hk
    have ih := Nb.head g3
    rw [g5] at ih
    rcases hp : k.prs with _ | ⟨p, q⟩
    · rw [hp] at ih
      cases ih
    · rw [hp] at ih
      simp only [List.head?_cons, Option.map_some, Option.some.injEq] at ih
      refine ⟨p.2, List.mem_flatMap.2 ⟨k, hk, ?_⟩⟩
      rw [hp]
      show (k.key, p.2) ∈ p :: q
      rw [ih]
      exact List.mem_cons_self
theorem Sub.ne {B : Nat → Bytes} {N l : Nat} {k : Sb} (h : Sub B N l k) : k.prs ≠ [] := by
  obtain ⟨ces, cpg, g1, g2, g3, g4, g5, g6⟩ := h
  intro e
  have ih := Nb.head g3
  rw [g5, e] at ih
  cases ih
theorem Sub.first {B : Nat → Bytes} {N l : Nat} {k : Sb} (h : Sub B N l k) : ∃ v r, k.prs = (k.key, v) :: r := by
  obtain ⟨ces, cpg, g1, g2, g3, g4, g5, g6⟩ := h
  have ih := Nb.head g3
  rw [g5] at ih
  rcases hp : k.prs with _ | ⟨p, q⟩
  · rw [hp] at ih
    cases ih
  · rw [hp] at ih
    simp only [List.head?_cons, Option.map_some, Option.some.injEq] at ih
    exact ⟨p.2, q, by rw [ih]⟩

/-- All keys of pairs stand ahead of an end, which is beyond all if it is empty. -/
def Under (prs : List Pr) (to : Bytes) : Prop := to = [] ∨ ∀ p ∈ prs, cmp p.1 to < 0
theorem Under.ahead {prs : List Pr} {to : Bytes} (h : Under prs to) {k v : Bytes} (hk : (k, v) ∈ prs) : aheadB k to = true := by
  unfold aheadB
  rcases h with h | h
  · subst h; rfl
  · rw [decide_eq_true (h _ hk), Bool.or_true]

section
variable {B : Nat → Bytes} {N l : Nat} {kids : List Sb} {to : Bytes}
/-- What stands below child i stands ahead of its end. -/
theorem under_kid (hs : ∀ k ∈ kids, Sub B N l k) (hr : RiseP (kids.flatMap Sb.prs)) (hu : Under (kids.flatMap Sb.prs) to) {i : Nat} {k : Sb} (hk : kids[i]? = some k) : Under k.prs (endK (kids.map kidE) to i) := by
  unfold endK
  rw [List.getElem?_map]
  rcases hn : kids[i + 1]? with _ | k'
  · simp only [Option.map_none]
    rcases hu with h | h
    · exact .inl h
    · exact .inr fun p hp => h p (List.mem_flatMap.2 ⟨k, List.mem_of_getElem? hk, hp⟩)
  · simp only [Option.map_some]
    obtain ⟨v, r, hf⟩ := (hs k' (List.mem_of_getElem? hn)).first
    refine .inr fun p hp => ?_
    obtain ⟨hi, e1⟩ := List.getElem?_eq_some_iff.1 hk
    obtain ⟨hi', e2⟩ := List.getElem?_eq_some_iff.1 hn
    have hd : kids = kids.take i ++ (k :: k' :: kids.drop (i + 2)) := by
      rw [← e1, ← e2, ← List.drop_eq_getElem_cons hi', ← List.drop_eq_getElem_cons hi, List.take_append_drop]
    rw [hd, List.flatMap_append, List.flatMap_cons, List.flatMap_cons] at hr
    exact (RiseP.append.1 (RiseP.append.1 hr).2.1).2.2 p hp (k'.key, v) (List.mem_append_left _ (by rw [hf]; exact List.mem_cons_self))
theorem rise_kid (hr : RiseP (kids.flatMap Sb.prs)) {k : Sb} (hk : k ∈ kids) : RiseP k.prs := by
  obtain ⟨a, b, rfl⟩ := List.append_of_mem hk
  rw [List.flatMap_append, List.flatMap_cons] at hr
  exact (RiseP.append.1 (RiseP.append.1 hr).2.1).1
end
end Go.Proofs.YtgekeemhbnhelaaGreat
namespace Go.Proofs.YtgekeemhbnhelaaGreat
open Go.RowKit

set_option maxRecDepth 100000 in
set_option maxHeartbeats 2000000 in
theorem child_any {tb db pb fr : Nat} {D : Dv} {ps : List Pg} {S : Nat → Prop} {p : Int} {ev tv : Value} {es ces : List En} {to : Bytes} {i l : Nat} {a : En} {lv : Int} (w : World) (hlv : lv = (l : Int) + 1) (h : TrS w tb db pb fr D ps S) (ho : D.on = true)
    (he : Rd kdEn w S ev es) (ht : Bsf w S tv to) (ha : es[i]? = some a) (hpg : a.page < ps.length) (hl : l ≤ 4096) (hok : NdOk ps.length l ces) (hB : blkOf D fr a.page = sealL 3 (bodyL l ces))
    (hk : ces.head?.map En.key = some a.key) (hg : ∀ c, ces.getLast? = some c → aheadB c.key (endK es to i) = true) :
    Calls Tryz.prog 45 #[ptr tb, ndv p lv ev tv, .int .i64 (i : Int)] w fun e w' =>
      ∃ v, e = .returned (.tuple #[v, err 0]) ∧ Nv w' S v ⟨a.page, l, ces, endK es to i⟩ ∧ Below w.heap.size w w' := by
  obtain ⟨g, o, cap, ka, kc, va, vc, rfl, hgl, c0, c1, c2, hka, hva⟩ := he.ent ha
  obtain ⟨ta, tc, rfl, _⟩ := ht.1.shape
  have hi := (List.getElem?_eq_some_iff.1 ha).1
  have hlen := he.len
  have hil : (i : Int) < (es.length : Int) := by omega
  have hb0 : Below w.heap.size w ((w.alloc (.cells #[.int .i64 p, .int .i64 lv, .slice (some ⟨g, o, none⟩) es.length cap, .slice ta to.length tc] 85)).alloc (.cells #[.int .i64 0, .int .i64 0, .slice none 0 0, .slice none 0 0] 85)) :=
    ((Below.refl _ _).alloc (Nat.le_refl _) _).alloc (by simp) _
  obtain ⟨W, hW⟩ : ∃ W, W = (w.alloc (.cells #[.int .i64 p, .int .i64 lv, .slice (some ⟨g, o, none⟩) es.length cap, .slice ta to.length tc] 85)).alloc (.cells #[.int .i64 0, .int .i64 0, .slice none 0 0, .slice none 0 0] 85) := ⟨_, rfl⟩
  have CN : Cel W w.heap.size [.int .i64 p, .int .i64 lv, .slice (some ⟨g, o, none⟩) es.length cap, .slice ta to.length tc] 85 := by rw [hW]; exact (Cel.new w _ _).alloc _
  have CR : Cel W (w.heap.size + 1) [.int .i64 0, .int .i64 0, .slice none 0 0, .slice none 0 0] 85 := by
    rw [hW]
    have := Cel.new (w.alloc (.cells #[.int .i64 p, .int .i64 lv, .slice (some ⟨g, o, none⟩) es.length cap, .slice ta to.length tc] 85)) #[.int .i64 0, .int .i64 0, .slice none 0 0, .slice none 0 0] 85
    simpa using this
  have hzW : W.heap.size = w.heap.size + 2 := by rw [hW]; simp
  rw [← hW] at hb0
  have R := tread_any W ((h.below hb0).more (S' := fun q => S q ∨ q = w.heap.size + 1) (fun q h => .inl h) (fun q hq => hq.elim ((h.below hb0).lt q) (fun e => by omega)) (fun hq => hq.elim h.tlt.2 (fun e => by have := h.tlt.1; omega))) ho a.page hpg
  have k2 : W.cell? ⟨g, o + i * 3 + 2, none⟩ = some (.int .i64 (a.page : Nat)) := (hb0.cell (p := ⟨g, o + i * 3 + 2, none⟩) hgl).trans c2
  have n2 : W.cell? ⟨w.heap.size, 2, none⟩ = some (.slice (some ⟨g, o, none⟩) es.length cap) := CN.cell 2
  have HH := Lib.hid (And.intro h (And.intro he (And.intro ht (And.intro hb0 (And.intro CN (And.intro CR (And.intro hzW hka)))))))
  have H2 := Lib.hid (And.intro hok (And.intro hB (And.intro hk (And.intro hg (And.intro ha (And.intro c0 (And.intro hgl hpg)))))))
  rw [hW] at R k2 n2
  clear h he ht hb0 CN CR hzW hka hok hB hk hg ha c0 c1 c2 hva hpg
  have HW := Lib.hid hW
  have HLV := Lib.hid hlv
  clear hW hlv
  go_enter Tryz.func45, Tryz.ntmps45
  go_wp2_with fail
  refine R.mono ?_
  rintro e w1 ⟨nv, r, rfl, hs, hn, hb1⟩
  clear R k2 n2
  obtain ⟨h, he, ht, hb0, CN, CR, hzW, hka⟩ := HH.out
  obtain ⟨hok, hB, hk, hg, ha, c0, hgl, hpg⟩ := H2.out
  rw [← HW.out] at hb1
  rw [hB] at hs
  obtain rfl := says_seal hok.may (fun e he => (hok.1.2.2.2 e he).2.2.2) hok.1.2.1 (by omega) hs
  obtain ⟨ca, cc, da, dc, rfl, hce, hcd⟩ := hn
  have hbw := hb0.trans (hb1.mono hb0.size)
  have hbc : Below w1.heap.size w1 (w1.alloc (.cells #[.int .i64 (a.page : Int), .int .i64 (l : Int), .slice ca ces.length cc, .slice da 0 dc] 85)) := (Below.refl _ _).alloc (Nat.le_refl _) _
  have hbw2 := hbw.trans (hbc.mono hbw.size)
  have hsz1 : w.heap.size ≤ w1.heap.size := hbw.size
  have stx : Step S w (w1.alloc (.cells #[.int .i64 (a.page : Int), .int .i64 (l : Int), .slice ca ces.length cc, .slice da 0 dc] 85)) (fun q => (S q ∨ q = w.heap.size + 1) ∨ q = w1.heap.size) := ⟨Only.of_below hbw2 S, fun q hq => hq.elim (fun hq => hq.elim .inl fun e => .inr (by omega)) fun e => .inr (by omega)⟩
  have N := end_any (p := p) (l := lv) i _ (he.step stx) (ht.step stx) hi
  have hzw1 : w.heap.size + 2 ≤ w1.heap.size := by have := hb1.size; omega
  have CN2 := (CN.below hb1 CN.lt).below hbc (by omega)
  have CR2 := (CR.below hb1 CR.lt).below hbc (by omega)
  have CC2 : Cel (w1.alloc (.cells #[.int .i64 (a.page : Int), .int .i64 (l : Int), .slice ca ces.length cc, .slice da 0 dc] 85)) w1.heap.size [.int .i64 (a.page : Int), .int .i64 (l : Int), .slice ca ces.length cc, .slice da 0 dc] 85 := Cel.new w1 _ _
  have hzc : (w1.alloc (.cells #[.int .i64 (a.page : Int), .int .i64 (l : Int), .slice ca ces.length cc, .slice da 0 dc] 85)).heap.size = w1.heap.size + 1 := by simp
  have H3 := Lib.hid (And.intro hce (And.intro hbw2 (And.intro CN2 (And.intro CR2 (And.intro CC2 (And.intro hzc (And.intro hzw1 hbc)))))))
  have CN1 := CN.below hb1 CN.lt
  have q0 : w1.cell? ⟨w.heap.size, 0, none⟩ = some (.int .i64 p) := CN1.cell 0
  have q1 : w1.cell? ⟨w.heap.size, 1, none⟩ = some (.int .i64 lv) := CN1.cell 1
  have q2 : w1.cell? ⟨w.heap.size, 2, none⟩ = some (.slice (some ⟨g, o, none⟩) es.length cap) := CN1.cell 2
  have q3 : w1.cell? ⟨w.heap.size, 3, none⟩ = some (.slice ta to.length tc) := CN1.cell 3
  have hlt1 : w.heap.size < w1.heap.size := by omega
  have hlt2 : w.heap.size + 1 < w1.heap.size := by omega
  clear CN1 h he ht hb0 CN CR hzW hka hok hB hk hg ha c0 hgl hpg hs hce hcd hbw hbc hbw2 CN2 CR2 CC2 hzc hzw1 hb1
  simp only [Option.isSome]
  go_wp2_with fail
  refine N.mono ?_
  rintro e w3 ⟨xv, rfl, hx, hb3⟩
  clear N
  obtain ⟨hce, hbw2, CN2, CR2, CC2, hzc, hzw1, hbc⟩ := H3.out
  have CC3 := CC2.below hb3 CC2.lt
  have m3 : w3.cell? ⟨w1.heap.size, 3, none⟩ = some (.slice da 0 dc) := CC3.cell 3
  have m1 : w3.cell? ⟨w1.heap.size, 1, none⟩ = some (.int .i64 (l : Int)) := CC3.cell 1
  have mf := CC3.frozen 3
  obtain ⟨xa, xc, rfl, _⟩ := hx.1.shape
  have H4 := Lib.hid (And.intro hx hb3)
  clear hce hbw2 CN2 CR2 CC2 hzc hzw1 hbc CC3 hx hb3
  go_wp2_with fail
  generalize hW4 : w3.setCell ⟨w1.heap.size, 3, none⟩ (.slice xa (endK es to i).length xc) = W4 at *
  obtain ⟨hce, hbw2, CN2, CR2, CC2, hzc, hzw1, hbc⟩ := H3.out
  obtain ⟨hx, hb3⟩ := H4.out
  obtain ⟨h, he, ht, hb0, CN, CR, hzW, hka⟩ := HH.out
  obtain ⟨hok, hB, hk, hg, ha, c0, hgl, hpg⟩ := H2.out
  have CC4 : Cel W4 w1.heap.size [.int .i64 (a.page : Int), .int .i64 (l : Int), .slice ca ces.length cc, .slice xa (endK es to i).length xc] 85 := by rw [← hW4]; exact (CC2.below hb3 CC2.lt).set 3 _
  have hb34 : Below w1.heap.size w1 W4 := by
    rw [← hW4]
    exact (hbc.trans (hb3.mono (by omega))).setCell (p := ⟨w1.heap.size, 3, none⟩) (Nat.le_refl _) _
  have hbw4 : Below w.heap.size w W4 := by
    rw [← hW4]
    exact (hbw2.trans (hb3.mono hbw2.size)).setCell (p := ⟨w1.heap.size, 3, none⟩) (by show w.heap.size ≤ w1.heap.size; omega) _
  have CN4 : Cel W4 w.heap.size [.int .i64 p, .int .i64 lv, .slice (some ⟨g, o, none⟩) es.length cap, .slice ta to.length tc] 85 := by
    rw [← hW4]
    exact (CN2.below hb3 CN2.lt).kept (Below.heap_setCell _ _ _ _ (by show w.heap.size ≠ w1.heap.size; omega))
  have CR4 : Cel W4 (w.heap.size + 1) [.int .i64 0, .int .i64 0, .slice none 0 0, .slice none 0 0] 85 := by
    rw [← hW4]
    exact (CR2.below hb3 CR2.lt).kept (Below.heap_setCell _ _ _ _ (by show w.heap.size + 1 ≠ w1.heap.size; omega))
  have hx4 : Bsf W4 (fun q => S q ∨ q = w.heap.size + 1) (.slice xa (endK es to i).length xc) (endK es to i) := by
    rw [← hW4]
    exact hx.step (((Step.refl (fun q => (S q ∨ q = w.heap.size + 1) ∨ q = w1.heap.size) w3).set (p := ⟨w1.heap.size, 3, none⟩) (.inr rfl) _).weak fun q h => .inl h)
  have hce4 : Rd kdEn W4 (fun q => S q ∨ q = w.heap.size + 1) (.slice ca ces.length cc) ces := hce.step (Step.of_below hb34 _)
  have FF : ∀ W, Below W4.heap.size W4 W → W.cell? ⟨w.heap.size, 1, none⟩ = some (.int .i64 lv) ∧ W.cell? ⟨w.heap.size, 2, none⟩ = some (.slice (some ⟨g, o, none⟩) es.length cap) ∧ W.cell? ⟨w1.heap.size, 0, none⟩ = some (.int .i64 (a.page : Int)) ∧ W.cell? ⟨w1.heap.size, 1, none⟩ = some (.int .i64 (l : Int)) ∧ W.cell? ⟨w1.heap.size, 2, none⟩ = some (.slice ca ces.length cc) ∧ W.cell? ⟨w1.heap.size, 3, none⟩ = some (.slice xa (endK es to i).length xc) ∧ W.cell? ⟨g, o + i * 3, none⟩ = some (.slice ka a.key.length kc) := fun W hb => by
    refine ⟨(hb.cell (p := ⟨w.heap.size, 1, none⟩) CN4.lt).trans (CN4.cell 1), (hb.cell (p := ⟨w.heap.size, 2, none⟩) CN4.lt).trans (CN4.cell 2), (hb.cell (p := ⟨w1.heap.size, 0, none⟩) CC4.lt).trans (CC4.cell 0),
      (hb.cell (p := ⟨w1.heap.size, 1, none⟩) CC4.lt).trans (CC4.cell 1), (hb.cell (p := ⟨w1.heap.size, 2, none⟩) CC4.lt).trans (CC4.cell 2), (hb.cell (p := ⟨w1.heap.size, 3, none⟩) CC4.lt).trans (CC4.cell 3), ?_⟩
    exact (hb.cell (p := ⟨g, o + i * 3, none⟩) (Nat.lt_of_lt_of_le hgl hbw4.size)).trans ((hbw4.cell (p := ⟨g, o + i * 3, none⟩) hgl).trans c0)
  have hwr : IntKind.i64.wrap (lv - 1) = (l : Int) := by rw [HLV.out, IntKind.wrap_i64]; omega
  have hi0 : (0 : Int) ≤ (i : Int) := by omega
  have HX := Lib.hid (fun (W : World) (hW : W.cell? ⟨w.heap.size, 1, none⟩ = some (.int .i64 lv) ∧ W.cell? ⟨w.heap.size, 2, none⟩ = some (.slice (some ⟨g, o, none⟩) es.length cap) ∧ W.cell? ⟨w1.heap.size, 0, none⟩ = some (.int .i64 (a.page : Int)) ∧ W.cell? ⟨w1.heap.size, 1, none⟩ = some (.int .i64 (l : Int)) ∧ W.cell? ⟨w1.heap.size, 2, none⟩ = some (.slice ca ces.length cc) ∧ W.cell? ⟨w1.heap.size, 3, none⟩ = some (.slice xa (endK es to i).length xc) ∧ W.cell? ⟨g, o + i * 3, none⟩ = some (.slice ka a.key.length kc)) => And.intro hW (And.intro hwr (And.intro hil hi0)))
  obtain ⟨a0, r0, hces⟩ : ∃ a0 r0, ces = a0 :: r0 := List.exists_cons_of_ne_nil hok.1.1
  have hk0 : a0.key = a.key := by rw [hces] at hk; simpa using hk
  have hc0 : ces[0]? = some a0 := by rw [hces]; rfl
  obtain ⟨k, hkl⟩ : ∃ k, ces.length = k + 1 := ⟨r0.length, by rw [hces]; rfl⟩
  obtain ⟨az, haz⟩ : ∃ az, ces[k]? = some az := ⟨_, List.getElem?_eq_getElem (by omega)⟩
  have haz2 : ces.getLast? = some az := by rw [List.getLast?_eq_getElem?, hkl]; exact haz
  have hah := hg az haz2
  have LL := fun W (hb : Below W4.heap.size W4 W) => least_any (p := (a.page : Int)) (l := (l : Int)) (tv := .slice xa (endK es to i).length xc) (a := a0) W (hce4.step (Step.of_below hb _)) hc0
  have GG := fun W (hb : Below W4.heap.size W4 W) => greatest_any (p := (a.page : Int)) (l := (l : Int)) (tv := .slice xa (endK es to i).length xc) W (hce4.step (Step.of_below hb _)) hkl haz
  have HL := Lib.hid (And.intro LL (And.intro GG FF))
  have H5 := Lib.hid (And.intro CC4 (And.intro CR4 (And.intro hbw4 (And.intro hce4 (And.intro hx4 (And.intro hah hk0))))))
  have hka4 : Bs W4 (.slice ka a.key.length kc) a.key := hka.1.below hbw4
  have HK := Lib.hid hka4
  have hd1 : Below W4.heap.size W4 W4.drew := (Below.refl _ _).drew
  clear hkl hces hc0 hce hbw2 CN2 CR2 CC2 hzc hzw1 hbc hx hb3 h he ht hb0 CN CR hzW hka hok hB hk hg ha c0 hgl hpg CC4 hb34 hbw4 CN4 CR4 hx4 hce4 FF hwr hi0 LL GG hka4 haz haz2 hah hk0 q0 q1 q2 q3 hW4 hil HH H2 H3 H4
  refine region_till 99 (fun W => W.cell? ⟨w.heap.size, 1, none⟩ = some (.int .i64 lv) ∧ W.cell? ⟨w.heap.size, 2, none⟩ = some (.slice (some ⟨g, o, none⟩) es.length cap) ∧ W.cell? ⟨w1.heap.size, 0, none⟩ = some (.int .i64 (a.page : Int)) ∧ W.cell? ⟨w1.heap.size, 1, none⟩ = some (.int .i64 (l : Int)) ∧ W.cell? ⟨w1.heap.size, 2, none⟩ = some (.slice ca ces.length cc) ∧ W.cell? ⟨w1.heap.size, 3, none⟩ = some (.slice xa (endK es to i).length xc) ∧ W.cell? ⟨g, o + i * 3, none⟩ = some (.slice ka a.key.length kc)) (by kernel_rfl) (HL.out.2.2 _ hd1) (fun hS => ?_)
  refine take_till (i := 0) (some 29) (.pointer (some ⟨w1.heap.size, 1, none⟩)) rfl rfl (by kernel_rfl) (by kernel_rfl) (by kernel_rfl) (by kernel_rfl) (by decide) (fun _ _ _ h => h) (by rfl) (fun W hW => ?_) hS ?_
  · have hx := HX.out W hW
    clear hW
    go_simp
  simp only [Act.put, List.setIfInBounds_toArray, List.set_cons_zero, List.set_cons_succ]
  refine take_till (i := 1) (some 30) (.int .i64 (l : Int)) rfl rfl (by kernel_rfl) (by kernel_rfl) (by kernel_rfl) (by kernel_rfl) (by decide) (fun _ _ _ h => h) (by rfl) (fun W hW => ?_) hS ?_
  · have hx := HX.out W hW
    clear hW
    go_simp
  simp only [Act.put, List.setIfInBounds_toArray, List.set_cons_zero, List.set_cons_succ]
  refine take_till (i := 2) (some 31) (.pointer (some ⟨w.heap.size, 1, none⟩)) rfl rfl (by kernel_rfl) (by kernel_rfl) (by kernel_rfl) (by kernel_rfl) (by decide) (fun _ _ _ h => h) (by rfl) (fun W hW => ?_) hS ?_
  · have hx := HX.out W hW
    clear hW
    go_simp
  simp only [Act.put, List.setIfInBounds_toArray, List.set_cons_zero, List.set_cons_succ]
  refine take_till (i := 3) (some 32) (.int .i64 lv) rfl rfl (by kernel_rfl) (by kernel_rfl) (by kernel_rfl) (by kernel_rfl) (by decide) (fun _ _ _ h => h) (by rfl) (fun W hW => ?_) hS ?_
  · have hx := HX.out W hW
    clear hW
    go_simp
  simp only [Act.put, List.setIfInBounds_toArray, List.set_cons_zero, List.set_cons_succ]
  refine take_till (i := 4) (some 33) (.int .i64 (l : Int)) rfl rfl (by kernel_rfl) (by kernel_rfl) (by kernel_rfl) (by kernel_rfl) (by decide) (fun _ _ _ h => h) (by rfl) (fun W hW => ?_) hS ?_
  · have hx := HX.out W hW
    clear hW
    go_simp
  simp only [Act.put, List.setIfInBounds_toArray, List.set_cons_zero, List.set_cons_succ]
  refine take_till (i := 5) (some 34) (.bool false) rfl rfl (by kernel_rfl) (by kernel_rfl) (by kernel_rfl) (by kernel_rfl) (by decide) (fun _ _ _ h => h) (by rfl) (fun W hW => ?_) hS ?_
  · have hx := HX.out W hW
    clear hW
    go_simp
  simp only [Act.put, List.setIfInBounds_toArray, List.set_cons_zero, List.set_cons_succ]
  refine take_till (i := 6) (some 35) (.bool false) rfl rfl (by kernel_rfl) (by kernel_rfl) (by kernel_rfl) (by kernel_rfl) (by decide) (fun _ _ _ h => h) (by rfl) (fun W hW => ?_) hS ?_
  · have hx := HX.out W hW
    clear hW
    go_simp
  simp only [Act.put, List.setIfInBounds_toArray, List.set_cons_zero, List.set_cons_succ]
  refine take_till (i := 7) (some 36) (ndv (a.page : Int) (l : Int) (.slice ca ces.length cc) (.slice xa (endK es to i).length xc)) rfl rfl (by kernel_rfl) (by kernel_rfl) (by kernel_rfl) (by kernel_rfl) (by decide) (fun _ _ _ h => h) (by rfl) (fun W hW => ?_) hS ?_
  · have hx := HX.out W hW
    clear hW
    go_simp
  simp only [Act.put, List.setIfInBounds_toArray, List.set_cons_zero, List.set_cons_succ]
  refine take_till (i := 9) (some 38) (.pointer (some ⟨w.heap.size, 2, none⟩)) rfl rfl (by kernel_rfl) (by kernel_rfl) (by kernel_rfl) (by kernel_rfl) (by decide) (fun _ _ _ h => h) (by rfl) (fun W hW => ?_) hS ?_
  · have hx := HX.out W hW
    clear hW
    go_simp
  simp only [Act.put, List.setIfInBounds_toArray, List.set_cons_zero, List.set_cons_succ]
  refine take_till (i := 10) (some 39) (.slice (some ⟨g, o, none⟩) es.length cap) rfl rfl (by kernel_rfl) (by kernel_rfl) (by kernel_rfl) (by kernel_rfl) (by decide) (fun _ _ _ h => h) (by rfl) (fun W hW => ?_) hS ?_
  · have hx := HX.out W hW
    clear hW
    go_simp
  simp only [Act.put, List.setIfInBounds_toArray, List.set_cons_zero, List.set_cons_succ]
  refine take_till (i := 11) (some 40) (.int .i64 (i : Int)) rfl rfl (by kernel_rfl) (by kernel_rfl) (by kernel_rfl) (by kernel_rfl) (by decide) (fun _ _ _ h => h) (by rfl) (fun W hW => ?_) hS ?_
  · have hx := HX.out W hW
    clear hW
    go_simp
  simp only [Act.put, List.setIfInBounds_toArray, List.set_cons_zero, List.set_cons_succ]
  refine take_till (i := 12) (some 41) (.pointer (some ⟨g, o + i * 3, none⟩)) rfl rfl (by kernel_rfl) (by kernel_rfl) (by kernel_rfl) (by kernel_rfl) (by decide) (fun _ _ _ h => h) (by rfl) (fun W hW => ?_) hS ?_
  · have hx := HX.out W hW
    clear hW
    go_simp
  simp only [Act.put, List.setIfInBounds_toArray, List.set_cons_zero, List.set_cons_succ]
  refine take_till (i := 13) (some 42) (.pointer (some ⟨g, o + i * 3, none⟩)) rfl rfl (by kernel_rfl) (by kernel_rfl) (by kernel_rfl) (by kernel_rfl) (by decide) (fun _ _ _ h => h) (by rfl) (fun W hW => ?_) hS ?_
  · have hx := HX.out W hW
    clear hW
    go_simp
  simp only [Act.put, List.setIfInBounds_toArray, List.set_cons_zero, List.set_cons_succ]
  refine take_till (i := 14) (some 43) (.slice ka a.key.length kc) rfl rfl (by kernel_rfl) (by kernel_rfl) (by kernel_rfl) (by kernel_rfl) (by decide) (fun _ _ _ h => h) (by rfl) (fun W hW => ?_) hS ?_
  · have hx := HX.out W hW
    clear hW
    go_simp
  simp only [Act.put, List.setIfInBounds_toArray, List.set_cons_zero, List.set_cons_succ]
  refine next_till 8 (by kernel_rfl) rfl (fun K hK => ?_)
  go_simp
  refine (HL.out.1 _ hd1).mono ?_
  rintro e w5 ⟨lv5, rfl, hl5, hb5⟩
  have hd2 := hd1.trans (hb5.mono hd1.size)
  refine hK.out _ _ (fun _ => HL.out.2.2 _ hd2) ?_
  clear hK K
  have hS := HL.out.2.2 _ hd2
  obtain ⟨CC4, CR4, hbw4, hce4, hx4, hah, hk0⟩ := H5.out
  have O := order_cmp w5 hl5.1 (HK.out.below hd2)
  rw [hk0, cmp_refl] at O
  have H6 := Lib.hid (And.intro hd2 hx4)
  clear CC4 CR4 hbw4 hce4 hx4 hah hk0 hl5 hb5 hd2
  refine next_till 15 (by kernel_rfl) rfl (fun K hK => ?_)
  go_simp
  refine O.mono ?_
  rintro e w6 ⟨rfl, rfl⟩
  refine hK.out _ _ (fun _ => hS) ?_
  clear hK K O
  refine take_till (i := 16) (some 45) (.bool false) rfl rfl (by kernel_rfl) (by kernel_rfl) (by kernel_rfl) (by kernel_rfl) (by decide) (fun _ _ _ h => h) (by rfl) (fun W hW => ?_) hS ?_
  · have hx := HX.out W hW
    clear hW
    go_simp
  simp only [Act.put, List.setIfInBounds_toArray, List.set_cons_zero, List.set_cons_succ]
  refine take_till (i := 17) (some 46) (.bool false) rfl rfl (by kernel_rfl) (by kernel_rfl) (by kernel_rfl) (by kernel_rfl) (by decide) (fun _ _ _ h => h) (by rfl) (fun W hW => ?_) hS ?_
  · have hx := HX.out W hW
    clear hW
    go_simp
  simp only [Act.put, List.setIfInBounds_toArray, List.set_cons_zero, List.set_cons_succ]
  refine take_till (i := 18) (some 47) (.bool false) rfl rfl (by kernel_rfl) (by kernel_rfl) (by kernel_rfl) (by kernel_rfl) (by decide) (fun _ _ _ h => h) (by rfl) (fun W hW => ?_) hS ?_
  · have hx := HX.out W hW
    clear hW
    go_simp
  simp only [Act.put, List.setIfInBounds_toArray, List.set_cons_zero, List.set_cons_succ]
  refine take_till (i := 19) (some 48) (ndv (a.page : Int) (l : Int) (.slice ca ces.length cc) (.slice xa (endK es to i).length xc)) rfl rfl (by kernel_rfl) (by kernel_rfl) (by kernel_rfl) (by kernel_rfl) (by decide) (fun _ _ _ h => h) (by rfl) (fun W hW => ?_) hS ?_
  · have hx := HX.out W hW
    clear hW
    go_simp
  simp only [Act.put, List.setIfInBounds_toArray, List.set_cons_zero, List.set_cons_succ]
  refine take_till (i := 21) (some 50) (.pointer (some ⟨w1.heap.size, 3, none⟩)) rfl rfl (by kernel_rfl) (by kernel_rfl) (by kernel_rfl) (by kernel_rfl) (by decide) (fun _ _ _ h => h) (by rfl) (fun W hW => ?_) hS ?_
  · have hx := HX.out W hW
    clear hW
    go_simp
  simp only [Act.put, List.setIfInBounds_toArray, List.set_cons_zero, List.set_cons_succ]
  refine take_till (i := 22) (some 51) (.slice xa (endK es to i).length xc) rfl rfl (by kernel_rfl) (by kernel_rfl) (by kernel_rfl) (by kernel_rfl) (by decide) (fun _ _ _ h => h) (by rfl) (fun W hW => ?_) hS ?_
  · have hx := HX.out W hW
    clear hW
    go_simp
  simp only [Act.put, List.setIfInBounds_toArray, List.set_cons_zero, List.set_cons_succ]
  refine next_till 20 (by kernel_rfl) rfl (fun K hK => ?_)
  go_simp
  refine (HL.out.2.1 _ H6.out.1).mono ?_
  rintro e w6 ⟨gv, rfl, hgv, hb6⟩
  have hd3 := H6.out.1.trans (hb6.mono H6.out.1.size)
  refine hK.out _ _ (fun _ => HL.out.2.2 _ hd3) ?_
  clear hK K hS
  have hS := HL.out.2.2 _ hd3
  have A := ahead_any w6 hgv.1 (H6.out.2.1.below hd3)
  rw [H5.out.2.2.2.2.2.1] at A
  have H7 := Lib.hid hd3
  clear hgv hb6 hd3
  refine next_till 23 (by kernel_rfl) rfl (fun K hK => ?_)
  go_simp
  refine A.mono ?_
  rintro e w7 ⟨rfl, rfl⟩
  refine hK.out _ _ (fun _ => hS) ?_
  clear hK K A
  refine take_till (i := 24) (some 53) (.bool false) rfl rfl (by kernel_rfl) (by kernel_rfl) (by kernel_rfl) (by kernel_rfl) (by decide) (fun _ _ _ h => h) (by rfl) (fun W hW => ?_) hS ?_
  · have hx := HX.out W hW
    clear hW
    go_simp
  simp only [Act.put, List.setIfInBounds_toArray, List.set_cons_zero, List.set_cons_succ]
  refine next_till 25 (by kernel_rfl) rfl (fun K hK => ?_)
  go_simp
  refine hK.out _ _ (fun _ => hS) ?_
  clear hK K
  refine done_till (by kernel_rfl) ?_ _
  obtain ⟨s1, s2, s3, s4, s5, s6, s7⟩ := hS
  have CR6 := H5.out.2.1.below H7.out H5.out.2.1.lt
  have r0 : w6.cell? ⟨w.heap.size + 1, 0, none⟩ = some (.int .i64 0) := CR6.cell 0
  have r1 : w6.cell? ⟨w.heap.size + 1, 1, none⟩ = some (.int .i64 0) := CR6.cell 1
  have r2 : w6.cell? ⟨w.heap.size + 1, 2, none⟩ = some (.slice none 0 0) := CR6.cell 2
  have r3 : w6.cell? ⟨w.heap.size + 1, 3, none⟩ = some (.slice none 0 0) := CR6.cell 3
  have f0 := CR6.frozen 0
  have f1 := CR6.frozen 1
  have f2 := CR6.frozen 2
  have f3 := CR6.frozen 3
  have H8 := Lib.hid CR6
  clear HX HL CR6
  go_wp2
  obtain ⟨CC4, CR4, hbw4, hce4, hx4, hah, hk0⟩ := H5.out
  have C9 := (((H8.out.set 0 (.int .i64 (a.page : Int))).set 1 (.int .i64 (l : Int))).set 2 (.slice ca ces.length cc)).set 3 (.slice xa (endK es to i).length xc)
  have st := (((((Step.of_below H7.out (fun q => S q ∨ q = w.heap.size + 1)).set (p := ⟨w.heap.size + 1, 0, none⟩) (.inr rfl) (.int .i64 (a.page : Int))).set (p := ⟨w.heap.size + 1, 1, none⟩) (.inr rfl) (.int .i64 (l : Int))).set (p := ⟨w.heap.size + 1, 2, none⟩) (.inr rfl) (.slice ca ces.length cc)).set (p := ⟨w.heap.size + 1, 3, none⟩) (.inr rfl) (.slice xa (endK es to i).length xc)).weak (S'' := S) fun q h => .inl h
  have B9 := ((((hbw4.trans (H7.out.mono hbw4.size)).setCell (p := ⟨w.heap.size + 1, 0, none⟩) (Nat.le_succ _) (.int .i64 (a.page : Int))).setCell (p := ⟨w.heap.size + 1, 1, none⟩) (Nat.le_succ _) (.int .i64 (l : Int))).setCell (p := ⟨w.heap.size + 1, 2, none⟩) (Nat.le_succ _) (.slice ca ces.length cc)).setCell (p := ⟨w.heap.size + 1, 3, none⟩) (Nat.le_succ _) (.slice xa (endK es to i).length xc)
  exact bodyPost_ret (results_cell2 (g := w.heap.size + 1) rfl rfl C9 Tryz.underlying85 rfl (by kernel_rfl)) rfl ⟨_, rfl, Nv.of (n := ⟨(a.page : Int), l, ces, endK es to i⟩) (hce4.step st) (hx4.step st), B9⟩
end Go.Proofs.YtgekeemhbnhelaaGreat
namespace Go.Proofs.YtgekeemhbnhelaaGreat
open Go.RowKit

theorem way_lt {es : List En} (h : es ≠ []) (key : Bytes) : way es key < es.length := by
  unfold way
  have h1 := fnd_le es key
  have h2 := List.length_pos_iff.2 h
  split
  · rename_i hi
    unfold fndIs at hi
    rcases he : es[fnd es key]? with _ | e
    · rw [he] at hi
      cases hi
    · exact (List.getElem?_eq_some_iff.1 he).1
  · omega
theorem rise_kids {B : Nat → Bytes} {N l : Nat} {kids : List Sb} (hs : ∀ k ∈ kids, Sub B N l k) (h : EsOk N (l + 1) (kids.map kidE)) : (kids.map kidE).length ≤ 503 := by
  have := length_le_nsize (l + 1) (kids.map kidE)
  have := h.2.1
  omega
theorem EsOk.few {N l : Nat} {es : List En} (h : EsOk N l es) : es.length ≤ 503 := by
  have := length_le_nsize l es
  have := h.2.1
  omega

/-- What child i of a node is, as child asks for it. -/
theorem kid_facts {B : Nat → Bytes} {N l : Nat} {kids : List Sb} {to : Bytes} (hs : ∀ k ∈ kids, Sub B N l k) (hr : RiseP (kids.flatMap Sb.prs)) (hu : Under (kids.flatMap Sb.prs) to) {i : Nat} {k : Sb} (hk : kids[i]? = some k) :
    ∃ ces cpg, NdOk N l ces ∧ B k.page = sealL 3 (bodyL l ces) ∧ Nb B N l ces k.prs cpg ∧ k.pgs = k.page :: cpg ∧ k.page < N ∧ (kids.map kidE)[i]? = some (kidE k) ∧ ces.head?.map En.key = some (kidE k).key ∧
      (∀ c, ces.getLast? = some c → aheadB c.key (endK (kids.map kidE) to i) = true) ∧ RiseP k.prs ∧ Under k.prs (endK (kids.map kidE) to i) := by
  obtain ⟨ces, cpg, g1, g2, g3, g4, g5, g6⟩ := hs k (List.mem_of_getElem? hk)
  have hu2 := under_kid hs hr hu hk
  refine ⟨ces, cpg, g1, g2, g3, g4, g6, by simp [hk], g5, fun c hc => ?_, rise_kid hr (List.mem_of_getElem? hk), hu2⟩
  obtain ⟨v, hv⟩ := g3.keys (List.mem_of_getLast? hc)
  exact hu2.ahead hv

set_option maxHeartbeats 1000000 in
theorem top_page {tb db pb fr : Nat} {D : Dv} {ps : List Pg} {S : Nat → Prop} {l k : Nat} {ces : List En} (w : World) (h : TrS w tb db pb fr D ps S) (ho : D.on = true) (hk : k < ps.length) (hl : l ≤ 4096)
    (hok : NdOk ps.length l ces) (hB : blkOf D fr k = sealL 3 (bodyL l ces)) :
    Calls Tryz.prog 44 #[ptr tb, .int .i64 (k : Int)] w fun e w' => ∃ v, e = .returned (.tuple #[v, err 0]) ∧ Nv w' S v ⟨k, l, ces, []⟩ ∧ Below w.heap.size w w' := by
  have hb0 : Below w.heap.size w (w.alloc (.cells #[.int .i64 0, .int .i64 0, .slice none 0 0, .slice none 0 0] 85)) := (Below.refl _ _).alloc (Nat.le_refl _) _
  have C0 : Cel (w.alloc (.cells #[.int .i64 0, .int .i64 0, .slice none 0 0, .slice none 0 0] 85)) w.heap.size [.int .i64 0, .int .i64 0, .slice none 0 0, .slice none 0 0] 85 := Cel.new w _ _
  have R := tread_any _ ((h.below hb0).more (S' := fun q => S q ∨ q = w.heap.size) (fun q h => .inl h) (fun q hq => hq.elim ((h.below hb0).lt q) (fun e => by rw [e]; exact C0.lt)) (fun hq => hq.elim h.tlt.2 (fun e => by have := h.tlt.1; omega))) ho k hk
  have hne : ((k : Int) == -1) = false := by rw [beq_eq_false_iff_ne]; omega
  have HH := Lib.hid (And.intro hb0 (And.intro C0 (And.intro hok hB)))
  clear hb0 C0 hok hB h
  go_enter Tryz.func44, Tryz.ntmps44
  go_wp2_with fail
  refine R.mono ?_
  rintro e w1 ⟨nv, r, rfl, hs, hn, hb1⟩
  clear R
  obtain ⟨hb0, C0, hok, hB⟩ := HH.out
  rw [hB] at hs
  obtain rfl := says_seal hok.may (fun e he => (hok.1.2.2.2 e he).2.2.2) hok.1.2.1 (by omega) hs
  obtain ⟨ca, cc, da, dc, rfl, hce, hcd⟩ := hn
  have C1 := C0.below hb1 C0.lt
  have c0 : w1.cell? ⟨w.heap.size, 0, none⟩ = some (.int .i64 0) := C1.cell 0
  have c1 : w1.cell? ⟨w.heap.size, 1, none⟩ = some (.int .i64 0) := C1.cell 1
  have c2 : w1.cell? ⟨w.heap.size, 2, none⟩ = some (.slice none 0 0) := C1.cell 2
  have c3 : w1.cell? ⟨w.heap.size, 3, none⟩ = some (.slice none 0 0) := C1.cell 3
  have f0 := C1.frozen 0
  have f1 := C1.frozen 1
  have f2 := C1.frozen 2
  have f3 := C1.frozen 3
  have H1 := Lib.hid (And.intro C1 (And.intro hce (And.intro hcd (hb0.trans (hb1.mono hb0.size)))))
  clear hb0 C0 hok hB hs hce hcd hb1 C1
  simp only [Option.isSome]
  go_wp2
  obtain ⟨C1, hce, hcd, hbw⟩ := H1.out
  have C9 := (((C1.set 0 (.int .i64 (k : Int))).set 1 (.int .i64 (l : Int))).set 2 (.slice ca ces.length cc)).set 3 (.slice da 0 dc)
  have st := (((((Step.refl (fun q => S q ∨ q = w.heap.size) w1).set (p := ⟨w.heap.size, 0, none⟩) (.inr rfl) (.int .i64 (k : Int))).set (p := ⟨w.heap.size, 1, none⟩) (.inr rfl) (.int .i64 (l : Int))).set (p := ⟨w.heap.size, 2, none⟩) (.inr rfl) (.slice ca ces.length cc)).set (p := ⟨w.heap.size, 3, none⟩) (.inr rfl) (.slice da 0 dc)).weak (S'' := S) fun q h => .inl h
  have B9 := (((hbw.setCell (p := ⟨w.heap.size, 0, none⟩) (Nat.le_refl _) (.int .i64 (k : Int))).setCell (p := ⟨w.heap.size, 1, none⟩) (Nat.le_refl _) (.int .i64 (l : Int))).setCell (p := ⟨w.heap.size, 2, none⟩) (Nat.le_refl _) (.slice ca ces.length cc)).setCell (p := ⟨w.heap.size, 3, none⟩) (Nat.le_refl _) (.slice da 0 dc)
  exact bodyPost_ret (results_cell2 (g := w.heap.size) rfl rfl C9 Tryz.underlying85 rfl (by kernel_rfl)) rfl ⟨_, rfl, Nv.of (n := ⟨(k : Int), l, ces, []⟩) (hce.step st) (hcd.step st), B9⟩

theorem top_none {tb : Nat} (w : World) : Calls Tryz.prog 44 #[ptr tb, .int .i64 (-1)] w fun e w' => e = .returned (.tuple #[ndv (-1) 0 (.slice none 0 0) (.slice none 0 0), err 0]) ∧ Below w.heap.size w w' := by
  have hb0 : Below w.heap.size w (w.alloc (.cells #[.int .i64 0, .int .i64 0, .slice none 0 0, .slice none 0 0] 85)) := (Below.refl _ _).alloc (Nat.le_refl _) _
  have C0 : Cel (w.alloc (.cells #[.int .i64 0, .int .i64 0, .slice none 0 0, .slice none 0 0] 85)) w.heap.size [.int .i64 0, .int .i64 0, .slice none 0 0, .slice none 0 0] 85 := Cel.new w _ _
  have R := nowhere_any (w.alloc (.cells #[.int .i64 0, .int .i64 0, .slice none 0 0, .slice none 0 0] 85))
  have HH := Lib.hid (And.intro hb0 C0)
  clear hb0 C0
  go_enter Tryz.func44, Tryz.ntmps44
  go_wp2_with fail
  refine R.mono ?_
  rintro e w1 ⟨rfl, hb1⟩
  clear R
  obtain ⟨hb0, C0⟩ := HH.out
  have C1 := C0.below hb1 C0.lt
  have c0 : w1.cell? ⟨w.heap.size, 0, none⟩ = some (.int .i64 0) := C1.cell 0
  have c1 : w1.cell? ⟨w.heap.size, 1, none⟩ = some (.int .i64 0) := C1.cell 1
  have c2 : w1.cell? ⟨w.heap.size, 2, none⟩ = some (.slice none 0 0) := C1.cell 2
  have c3 : w1.cell? ⟨w.heap.size, 3, none⟩ = some (.slice none 0 0) := C1.cell 3
  have f0 := C1.frozen 0
  have f1 := C1.frozen 1
  have f2 := C1.frozen 2
  have f3 := C1.frozen 3
  have H1 := Lib.hid (And.intro C1 (hb0.trans (hb1.mono hb0.size)))
  clear hb0 C0 hb1 C1
  go_wp2
  obtain ⟨C1, hbw⟩ := H1.out
  have C9 := (((C1.set 0 (.int .i64 (-1))).set 1 (.int .i64 0)).set 2 (.slice none 0 0)).set 3 (.slice none 0 0)
  have B9 := (((hbw.setCell (p := ⟨w.heap.size, 0, none⟩) (Nat.le_refl _) (.int .i64 (-1))).setCell (p := ⟨w.heap.size, 1, none⟩) (Nat.le_refl _) (.int .i64 0)).setCell (p := ⟨w.heap.size, 2, none⟩) (Nat.le_refl _) (.slice none 0 0)).setCell (p := ⟨w.heap.size, 3, none⟩) (Nat.le_refl _) (.slice none 0 0)
  exact bodyPost_ret (results_cell2 (g := w.heap.size) rfl rfl C9 Tryz.underlying85 rfl (by kernel_rfl)) rfl ⟨rfl, B9⟩
end Go.Proofs.YtgekeemhbnhelaaGreat
