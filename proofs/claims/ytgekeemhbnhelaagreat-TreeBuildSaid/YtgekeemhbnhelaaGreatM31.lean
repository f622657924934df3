/- What is to stand in pages is written there, in order: the walk of write; conditions: they are whole blocks, fewer than 2^32 things are loose in each block. · The end of a call's work: all is written, and what was left is dropped, or all that was taken is dropped; conditions as of write. -/
import Derived.Test.YtgekeemhbnhelaaGreatM16
namespace Go.Proofs.YtgekeemhbnhelaaGreat
open Go.RowKit

/-- Blocks written one behind the other, until one is refused. -/
def writesP (fr : Nat) : Dv → List (Nat × Bytes) → Dv × Int
  | D, [] => (D, 0)
  | D, (k, b) :: r => if wcode D ((fr + k : Nat) : Int) b = 0 then writesP fr (wdev D ((fr + k : Nat) : Int) b) r else (wdev D ((fr + k : Nat) : Int) b, wcode D ((fr + k : Nat) : Int) b)
theorem writesP_snoc (fr : Nat) : ∀ (D : Dv) (l : List (Nat × Bytes)) (k : Nat) (b : Bytes), (writesP fr D l).2 = 0 → writesP fr D (l ++ [(k, b)]) = (wdev (writesP fr D l).1 ((fr + k : Nat) : Int) b, wcode (writesP fr D l).1 ((fr + k : Nat) : Int) b)
  | D, [], k, b, _ => by
    show (if wcode D ((fr + k : Nat) : Int) b = 0 then _ else _) = _
    split
    · rename_i h
      show (wdev D ((fr + k : Nat) : Int) b, (0 : Int)) = (wdev D ((fr + k : Nat) : Int) b, wcode D ((fr + k : Nat) : Int) b)
      rw [h]
    · rfl
  | D, (k', b') :: r, k, b, h => by
    rw [List.cons_append]
    unfold writesP at h ⊢
    split
    · rename_i h0
      rw [if_pos h0] at h
      exact writesP_snoc fr _ r k b h
    · rename_i h0
      rw [if_neg h0] at h
      exact absurd h h0
theorem writesP_more (fr : Nat) : ∀ (D : Dv) (l m : List (Nat × Bytes)), (writesP fr D l).2 ≠ 0 → writesP fr D (l ++ m) = writesP fr D l
  | D, [], m, h => absurd rfl h
  | D, (k', b') :: r, m, h => by
    rw [List.cons_append]
    unfold writesP at h ⊢
    split
    · rename_i h0
      rw [if_pos h0] at h
      exact writesP_more fr _ r m h
    · rfl
theorem writesP_upto (fr : Nat) {n : Nat} : ∀ {D : Dv} (l : List (Nat × Bytes)), Upto D n → Upto (writesP fr D l).1 (n + l.length) ∧ (writesP fr D l).1.bk.length = D.bk.length
  | D, [], h => ⟨h, rfl⟩
  | D, (k, b) :: r, h => by
    have h1 := wdev_upto h ((fr + k : Nat) : Int) b
    unfold writesP
    split
    · have h2 := writesP_upto fr (n := n + 1) r h1.1
      refine ⟨h2.1.more (by simp; omega), h2.2.trans h1.2⟩
    · exact ⟨h1.1.more (by simp), h1.2⟩

section
variable {w w' : World} {tb db pb fr : Nat} {D D' : Dv} {l : List Pg} {wb : Nat} {top : Nd} {k : Wk} {S F G : Nat → Prop} {tev ttv tv bv xv : Value}

theorem StAt.device (h : StAt w tb db pb fr D l wb top k S F G tev ttv tv bv xv) (hd : Dev w' db D' (Grow F w w')) (ho : Only F w w') (hl : D'.bk.length = D.bk.length) : StAt w' tb db pb fr D' l wb top k (Grow S w w') (Grow F w w') G tev ttv tv bv xv ∧ Step S w w' (Grow S w w') := by
  have hst : Step S w w' (Grow S w w') := ⟨ho.mono fun q _ hq => h.tr.fs q hq, fun q hq => hq.elim .inl fun e => .inr e.1⟩
  have hsame : ∀ g, g < w.heap.size → ¬ F g → w'.heap[g]? = w.heap[g]? := fun g h1 h2 => ho.block g h1 h2
  have hgr : ∀ g, g < w.heap.size → ¬ F g → ¬ Grow F w w' g := fun g h1 h2 h3 => h3.elim h2 fun e => by have := e.1; omega
  have htb : ¬ F tb := fun hf => h.tr.out (h.tr.fs tb hf)
  exact ⟨{
    tr := ⟨h.tr.tree.kept (hsame _ h.tr.tree.lt htb), hd, h.tr.pgs.kept (fun q hq => hsame q (h.tr.pgs.fl q hq) (fun hf => h.tr.fg q hf hq)) ho.size, fun q hq hg => hgr q (h.tr.pgs.fl q hg) (fun hf => h.tr.fg q hf hg) hq,
      fun q hq => hq.elim (fun h1 => .inl (h.tr.fs q h1)) .inr, fun q hq => .inl (h.tr.gs q hq), fun q hq => hq.elim (fun h1 => Nat.lt_of_lt_of_le (h.tr.lt q h1) ho.size) (fun e => e.2),
      fun hq => hq.elim h.tr.out fun e => by have := h.tr.tree.lt; have := e.1; omega, by rw [hl]; exact h.tr.room⟩
    cel := h.cel.kept (hsame _ h.cel.lt h.wf.1), te := h.te.step hst, tt := h.tt.step hst
    rt := h.rt.keep (fun g hg => hsame g (h.rt.own hg) (h.tf g hg).1) hst (fun _ hq => .inl hq)
    rb := h.rb.keep (fun g hg => hsame g (h.rb.own hg) (h.bf g hg).1) hst (fun _ hq => .inl hq)
    rx := h.rx.keep (fun g hg => hsame g (h.rx.own hg) (h.xf g hg).1) hst (fun _ hq => .inl hq)
    ws := .inl h.ws, wf := ⟨hgr _ h.cel.lt h.wf.1, h.wf.2⟩
    tf := fun q hq => ⟨hgr q (h.rt.own hq) (h.tf q hq).1, (h.tf q hq).2⟩
    bf := fun q hq => ⟨hgr q (h.rb.own hq) (h.bf q hq).1, (h.bf q hq).2⟩
    xf := fun q hq => ⟨hgr q (h.rx.own hq) (h.xf q hq).1, (h.xf q hq).2⟩
    tx := h.tx, tbn := h.tbn, bx := h.bx }, hst⟩

/-- A block of what is to be written. -/
theorem Ro.blk {ls : List Bytes} (h : Ro kdBs 23 w S bv ls) {i : Nat} {b : Bytes} (hb : ls[i]? = some b) : ∃ g o cap ba bc, bv = .slice (some ⟨g, o, none⟩) ls.length cap ∧ g < w.heap.size ∧ w.cell? ⟨g, o + i, none⟩ = some (.slice ba b.length bc) ∧ Bsf w S (.slice ba b.length bc) b := by
  obtain ⟨ts, h1, h2, h3, h4⟩ := h
  have hlen := (List.getElem?_eq_some_iff.1 hb).1
  obtain ⟨g, o, cap, e1, _, _, hg, hc⟩ := (Rw.of_own h2).open (by omega) (by decide)
  have hb2 := hb
  rw [← h1, List.getElem?_map] at hb2
  obtain ⟨t, ht, e⟩ := Option.map_eq_some_iff.1 hb2
  have h5 := h3 t (List.mem_of_getElem? ht)
  have h6 := hc _ _ (kdBs.cells_at ht (j := 0) (u := t.s.v) rfl)
  obtain ⟨⟨ba, bn, bc⟩, bl⟩ := t
  have e : bl = b := e
  subst e
  obtain ⟨_, _, e2, _⟩ := Bs.shape h5.1
  simp only [Sl.v, Value.slice.injEq] at e2
  obtain ⟨_, rfl, _⟩ := e2
  exact ⟨g, o, cap, ba, bc, e1, hg, by simpa [kdBs, Sl.v] using h6, h5⟩
theorem Ro.int {ls : List Nat} (h : Ro kdIn 3 w S bv (ints ls)) {i n : Nat} (hb : ls[i]? = some n) : ∃ g o cap, bv = .slice (some ⟨g, o, none⟩) ls.length cap ∧ g < w.heap.size ∧ w.cell? ⟨g, o + i, none⟩ = some (.int .i64 (n : Int)) := by
  obtain ⟨ts, h1, h2, h3, h4⟩ := h
  have hlen := (List.getElem?_eq_some_iff.1 hb).1
  rw [ints_length] at h2
  obtain ⟨g, o, cap, e1, _, _, hg, hc⟩ := (Rw.of_own h2).open (by omega) (by decide)
  have ht : ts[i]? = some (n : Int) := by
    have : (ts.map kdIn.con)[i]? = (ints ls)[i]? := by rw [h1]
    simpa [kdIn, ints, hb] using this
  have h6 := hc _ _ (kdIn.cells_at ht (j := 0) (u := .int .i64 (n : Int)) rfl)
  exact ⟨g, o, cap, e1, hg, by simpa [kdIn] using h6⟩

set_option maxRecDepth 100000 in
set_option maxHeartbeats 2000000 in
theorem write_at {n : Nat} (h : StAt w tb db pb fr D l wb top k S F G tev ttv tv bv xv) (hlen : k.BL.length = k.T.length) (h512 : ∀ b ∈ k.BL, b.length = 512) (hT : ∀ t ∈ k.T, t < 4096) (hfr : fr ≤ 4096) (hu : Upto D n) (hn : n + k.T.length < 4294967296) :
    Calls Tryz.prog 81 #[ptr wb] w fun e w' => e = .returned (err (writesP fr D (k.T.zip k.BL)).2) ∧ ∃ S' F', StAt w' tb db pb fr (writesP fr D (k.T.zip k.BL)).1 l wb top k S' F' G tev ttv tv bv xv ∧ Step S w w' S' ∧ (∀ q, S q → S' q) := by
  obtain ⟨ta, tc, htv, _⟩ := h.rt.shape
  rw [ints_length] at htv
  subst htv
  obtain ⟨ba0, bc0, hbv, _⟩ := h.rb.shape
  subst hbv
  have t5 : w.cell? ⟨wb, 5, none⟩ = some (.slice ta k.T.length tc) := h.cel.cell 5
  have HH := Lib.hid (And.intro h (And.intro h512 (And.intro hT (And.intro hu hn))))
  have hTl : k.T.length < 4294967296 := by omega
  clear h h512 hT hu hn
  go_enter Tryz.func81, Tryz.ntmps81
  go_wp2
  clear t5
  go_loopw [11] (fun i wr => ∃ j : Nat, j ≤ k.T.length ∧ i = .int .i64 j ∧ (writesP fr D ((k.T.zip k.BL).take j)).2 = 0 ∧ ∃ S' F', StAt wr tb db pb fr (writesP fr D ((k.T.zip k.BL).take j)).1 l wb top k S' F' G tev ttv (.slice ta k.T.length tc) (.slice ba0 k.BL.length bc0) xv ∧ Step S w wr S' ∧ (∀ q, S q → S' q)) (fun i _ => k.T.length - (intOf i).toNat)
  case atStart => exact ⟨0, Nat.zero_le _, rfl, rfl, S, F, HH.out.1, Step.refl _ _, fun _ h => h⟩
  case round =>
    obtain ⟨j, hj, rfl, hw0, S1, F1, hst, stp, hin⟩ := hrel
    by_cases hlt : j < k.T.length
    · obtain ⟨t, ht⟩ : ∃ t, k.T[j]? = some t := ⟨_, List.getElem?_eq_getElem hlt⟩
      obtain ⟨bl, hbl⟩ : ∃ bl, k.BL[j]? = some bl := ⟨_, List.getElem?_eq_getElem (by omega)⟩
      have hz : (k.T.zip k.BL)[j]? = some (t, bl) := by rw [List.getElem?_zip_eq_some]; exact ⟨ht, hbl⟩
      obtain ⟨tg, to, tcap, e0, htg, c0⟩ := hst.rt.int ht
      simp only [Value.slice.injEq] at e0
      obtain ⟨rfl, _, rfl⟩ := e0
      obtain ⟨bg, bo, bc, ba, bcc, e0, hbg, c1, hbs⟩ := hst.rb.blk hbl
      simp only [Value.slice.injEq] at e0
      obtain ⟨rfl, _, rfl⟩ := e0
      have hb512 := HH.out.2.1 bl (List.mem_of_getElem? hbl)
      have ht4 := HH.out.2.2.1 t (List.mem_of_getElem? ht)
      have hil : (j : Int) < (k.T.length : Int) := by omega
      have hup := writesP_upto fr ((k.T.zip k.BL).take j) HH.out.2.2.2.1
      have hsm : Small (writesP fr D ((k.T.zip k.BL).take j)).1 := hup.1.small (by have := HH.out.2.2.2.2; rw [List.length_take, List.length_zip]; omega)
      have hst1 := hst.below (below_drewN (Below.refl _ _) 1)
      have hbs1 := hbs.step (Step.of_below (below_drewN (Below.refl wr.heap.size wr) 1) S1)
      have DW := dwrite_any hst1.tr.dev hsm ((fr + t : Nat) : Int) hbs1.1 (fun q hq hf => hbs1.2 (fun e => by rw [e] at hb512; cases hb512) q hq (hst1.tr.fs q hf))
      have hsn := writesP_snoc fr D ((k.T.zip k.BL).take j) t bl hw0
      have htk : (k.T.zip k.BL).take (j + 1) = (k.T.zip k.BL).take j ++ [(t, bl)] := by rw [List.take_add_one, hz]; rfl
      have hft : ((fr + t : Nat) : Int) = (fr : Int) + (t : Int) := by omega
      obtain ⟨bn, hbn⟩ : ∃ bn, bn = k.BL.length := ⟨_, rfl⟩
      have s0 : wr.drew.cell? ⟨wb, 0, none⟩ = some (ptr tb) := hst1.cel.cell 0
      have s1 : wr.drew.cell? ⟨tb, 0, none⟩ = some (ptr db) := hst1.tr.tree.cell 0
      have s2 : wr.drew.cell? ⟨tb, 2, none⟩ = some (.int .i64 (fr : Nat)) := hst1.tr.tree.cell 2
      have s3 : wr.drew.cell? ⟨wb, 6, none⟩ = some (.slice (some ⟨bg, bo, none⟩) bn bc0) := by rw [hbn]; exact hst1.cel.cell 6
      have s4 : wr.drew.cell? ⟨bg, bo + j, none⟩ = some (.slice ba bl.length bcc) := c1
      have hwr : IntKind.i64.wrap ((fr : Int) + (t : Int)) = (fr : Int) + (t : Int) := by rw [IntKind.wrap_i64]; omega
      have hjb : (j : Int) < (bn : Int) := by omega
      have hj0 : (0 : Int) ≤ (j : Int) := by omega
      rw [hft] at DW hsn
      have HX := Lib.hid (fun (W : World) (hW : W.cell? ⟨wb, 0, none⟩ = some (ptr tb) ∧ W.cell? ⟨tb, 0, none⟩ = some (ptr db) ∧ W.cell? ⟨tb, 2, none⟩ = some (.int .i64 (fr : Nat)) ∧ W.cell? ⟨wb, 6, none⟩ = some (.slice (some ⟨bg, bo, none⟩) bn bc0) ∧ W.cell? ⟨bg, bo + j, none⟩ = some (.slice ba bl.length bcc)) => And.intro hW (And.intro hwr (And.intro hjb hj0)))
      have H2 := Lib.hid (And.intro hst1 (And.intro stp (And.intro hin (And.intro hsn (And.intro htk (And.intro hup hw0))))))
      clear hst hst1 stp hin hsn htk hup hw0 hbs hbs1 hsm ht hbl hz hft hb512 ht4 hwr hjb hj0 c1 hbn
      generalize (writesP fr D ((k.T.zip k.BL).take j)).1 = D1 at *
      go_wp2_with fail
      refine region_till 99 (fun W => W.cell? ⟨wb, 0, none⟩ = some (ptr tb) ∧ W.cell? ⟨tb, 0, none⟩ = some (ptr db) ∧ W.cell? ⟨tb, 2, none⟩ = some (.int .i64 (fr : Nat)) ∧ W.cell? ⟨wb, 6, none⟩ = some (.slice (some ⟨bg, bo, none⟩) bn bc0) ∧ W.cell? ⟨bg, bo + j, none⟩ = some (.slice ba bl.length bcc)) (by kernel_rfl) ⟨s0, s1, s2, s3, s4⟩ (fun hS => ?_)
      refine take_till (i := 0) (some 16) (ptr wb) rfl rfl (by kernel_rfl) (by kernel_rfl) (by kernel_rfl) (by kernel_rfl) (by decide) (fun _ _ _ h => h) (by rfl) (fun W hW => ?_) hS ?_
      · have hx := HX.out W hW
        clear hW
        go_simp
      simp only [Act.put, List.setIfInBounds_toArray, List.set_cons_zero, List.set_cons_succ]
      refine take_till (i := 1) (some 17) (ptr wb) rfl rfl (by kernel_rfl) (by kernel_rfl) (by kernel_rfl) (by kernel_rfl) (by decide) (fun _ _ _ h => h) (by rfl) (fun W hW => ?_) hS ?_
      · have hx := HX.out W hW
        clear hW
        go_simp
      simp only [Act.put, List.setIfInBounds_toArray, List.set_cons_zero, List.set_cons_succ]
      refine take_till (i := 2) (some 18) (.pointer (some ⟨wb, 0, none⟩)) rfl rfl (by kernel_rfl) (by kernel_rfl) (by kernel_rfl) (by kernel_rfl) (by decide) (fun _ _ _ h => h) (by rfl) (fun W hW => ?_) hS ?_
      · have hx := HX.out W hW
        clear hW
        go_simp
      simp only [Act.put, List.setIfInBounds_toArray, List.set_cons_zero, List.set_cons_succ]
      refine take_till (i := 3) (some 19) (ptr tb) rfl rfl (by kernel_rfl) (by kernel_rfl) (by kernel_rfl) (by kernel_rfl) (by decide) (fun _ _ _ h => h) (by rfl) (fun W hW => ?_) hS ?_
      · have hx := HX.out W hW
        clear hW
        go_simp
      simp only [Act.put, List.setIfInBounds_toArray, List.set_cons_zero, List.set_cons_succ]
      refine take_till (i := 4) (some 20) (ptr tb) rfl rfl (by kernel_rfl) (by kernel_rfl) (by kernel_rfl) (by kernel_rfl) (by decide) (fun _ _ _ h => h) (by rfl) (fun W hW => ?_) hS ?_
      · have hx := HX.out W hW
        clear hW
        go_simp
      simp only [Act.put, List.setIfInBounds_toArray, List.set_cons_zero, List.set_cons_succ]
      refine take_till (i := 5) (some 21) (.pointer (some ⟨tb, 0, none⟩)) rfl rfl (by kernel_rfl) (by kernel_rfl) (by kernel_rfl) (by kernel_rfl) (by decide) (fun _ _ _ h => h) (by rfl) (fun W hW => ?_) hS ?_
      · have hx := HX.out W hW
        clear hW
        go_simp
      simp only [Act.put, List.setIfInBounds_toArray, List.set_cons_zero, List.set_cons_succ]
      refine take_till (i := 6) (some 22) (ptr db) rfl rfl (by kernel_rfl) (by kernel_rfl) (by kernel_rfl) (by kernel_rfl) (by decide) (fun _ _ _ h => h) (by rfl) (fun W hW => ?_) hS ?_
      · have hx := HX.out W hW
        clear hW
        go_simp
      simp only [Act.put, List.setIfInBounds_toArray, List.set_cons_zero, List.set_cons_succ]
      refine take_till (i := 7) (some 23) (ptr wb) rfl rfl (by kernel_rfl) (by kernel_rfl) (by kernel_rfl) (by kernel_rfl) (by decide) (fun _ _ _ h => h) (by rfl) (fun W hW => ?_) hS ?_
      · have hx := HX.out W hW
        clear hW
        go_simp
      simp only [Act.put, List.setIfInBounds_toArray, List.set_cons_zero, List.set_cons_succ]
      refine take_till (i := 8) (some 24) (ptr wb) rfl rfl (by kernel_rfl) (by kernel_rfl) (by kernel_rfl) (by kernel_rfl) (by decide) (fun _ _ _ h => h) (by rfl) (fun W hW => ?_) hS ?_
      · have hx := HX.out W hW
        clear hW
        go_simp
      simp only [Act.put, List.setIfInBounds_toArray, List.set_cons_zero, List.set_cons_succ]
      refine take_till (i := 9) (some 25) (.pointer (some ⟨wb, 0, none⟩)) rfl rfl (by kernel_rfl) (by kernel_rfl) (by kernel_rfl) (by kernel_rfl) (by decide) (fun _ _ _ h => h) (by rfl) (fun W hW => ?_) hS ?_
      · have hx := HX.out W hW
        clear hW
        go_simp
      simp only [Act.put, List.setIfInBounds_toArray, List.set_cons_zero, List.set_cons_succ]
      refine take_till (i := 10) (some 26) (ptr tb) rfl rfl (by kernel_rfl) (by kernel_rfl) (by kernel_rfl) (by kernel_rfl) (by decide) (fun _ _ _ h => h) (by rfl) (fun W hW => ?_) hS ?_
      · have hx := HX.out W hW
        clear hW
        go_simp
      simp only [Act.put, List.setIfInBounds_toArray, List.set_cons_zero, List.set_cons_succ]
      refine take_till (i := 11) (some 27) (ptr tb) rfl rfl (by kernel_rfl) (by kernel_rfl) (by kernel_rfl) (by kernel_rfl) (by decide) (fun _ _ _ h => h) (by rfl) (fun W hW => ?_) hS ?_
      · have hx := HX.out W hW
        clear hW
        go_simp
      simp only [Act.put, List.setIfInBounds_toArray, List.set_cons_zero, List.set_cons_succ]
      refine take_till (i := 12) (some 28) (.pointer (some ⟨tb, 2, none⟩)) rfl rfl (by kernel_rfl) (by kernel_rfl) (by kernel_rfl) (by kernel_rfl) (by decide) (fun _ _ _ h => h) (by rfl) (fun W hW => ?_) hS ?_
      · have hx := HX.out W hW
        clear hW
        go_simp
      simp only [Act.put, List.setIfInBounds_toArray, List.set_cons_zero, List.set_cons_succ]
      refine take_till (i := 13) (some 29) (.int .i64 (fr : Nat)) rfl rfl (by kernel_rfl) (by kernel_rfl) (by kernel_rfl) (by kernel_rfl) (by decide) (fun _ _ _ h => h) (by rfl) (fun W hW => ?_) hS ?_
      · have hx := HX.out W hW
        clear hW
        go_simp
      simp only [Act.put, List.setIfInBounds_toArray, List.set_cons_zero, List.set_cons_succ]
      refine take_till (i := 14) (some 30) (.int .i64 (t : Int)) rfl rfl (by kernel_rfl) (by kernel_rfl) (by kernel_rfl) (by kernel_rfl) (by decide) (fun _ _ _ h => h) (by rfl) (fun W hW => ?_) hS ?_
      · have hx := HX.out W hW
        clear hW
        go_simp
      simp only [Act.put, List.setIfInBounds_toArray, List.set_cons_zero, List.set_cons_succ]
      refine take_till (i := 15) (some 31) (.int .i64 ((fr : Int) + (t : Int))) rfl rfl (by kernel_rfl) (by kernel_rfl) (by kernel_rfl) (by kernel_rfl) (by decide) (fun _ _ _ h => h) (by rfl) (fun W hW => ?_) hS ?_
      · have hx := HX.out W hW
        clear hW
        go_simp
      simp only [Act.put, List.setIfInBounds_toArray, List.set_cons_zero, List.set_cons_succ]
      refine take_till (i := 16) (some 32) (ptr wb) rfl rfl (by kernel_rfl) (by kernel_rfl) (by kernel_rfl) (by kernel_rfl) (by decide) (fun _ _ _ h => h) (by rfl) (fun W hW => ?_) hS ?_
      · have hx := HX.out W hW
        clear hW
        go_simp
      simp only [Act.put, List.setIfInBounds_toArray, List.set_cons_zero, List.set_cons_succ]
      refine take_till (i := 17) (some 33) (ptr wb) rfl rfl (by kernel_rfl) (by kernel_rfl) (by kernel_rfl) (by kernel_rfl) (by decide) (fun _ _ _ h => h) (by rfl) (fun W hW => ?_) hS ?_
      · have hx := HX.out W hW
        clear hW
        go_simp
      simp only [Act.put, List.setIfInBounds_toArray, List.set_cons_zero, List.set_cons_succ]
      refine take_till (i := 18) (some 34) (.pointer (some ⟨wb, 6, none⟩)) rfl rfl (by kernel_rfl) (by kernel_rfl) (by kernel_rfl) (by kernel_rfl) (by decide) (fun _ _ _ h => h) (by rfl) (fun W hW => ?_) hS ?_
      · have hx := HX.out W hW
        clear hW
        go_simp
      simp only [Act.put, List.setIfInBounds_toArray, List.set_cons_zero, List.set_cons_succ]
      refine take_till (i := 19) (some 35) (.slice (some ⟨bg, bo, none⟩) bn bc0) rfl rfl (by kernel_rfl) (by kernel_rfl) (by kernel_rfl) (by kernel_rfl) (by decide) (fun _ _ _ h => h) (by rfl) (fun W hW => ?_) hS ?_
      · have hx := HX.out W hW
        clear hW
        go_simp
      simp only [Act.put, List.setIfInBounds_toArray, List.set_cons_zero, List.set_cons_succ]
      refine take_till (i := 20) (some 36) (.int .i64 (j : Int)) rfl rfl (by kernel_rfl) (by kernel_rfl) (by kernel_rfl) (by kernel_rfl) (by decide) (fun _ _ _ h => h) (by rfl) (fun W hW => ?_) hS ?_
      · have hx := HX.out W hW
        clear hW
        go_simp
      simp only [Act.put, List.setIfInBounds_toArray, List.set_cons_zero, List.set_cons_succ]
      refine take_till (i := 21) (some 37) (.pointer (some ⟨bg, bo + j, none⟩)) rfl rfl (by kernel_rfl) (by kernel_rfl) (by kernel_rfl) (by kernel_rfl) (by decide) (fun _ _ _ h => h) (by rfl) (fun W hW => ?_) hS ?_
      · have hx := HX.out W hW
        clear hW
        go_simp
      simp only [Act.put, List.setIfInBounds_toArray, List.set_cons_zero, List.set_cons_succ]
      refine take_till (i := 22) (some 38) (.slice ba bl.length bcc) rfl rfl (by kernel_rfl) (by kernel_rfl) (by kernel_rfl) (by kernel_rfl) (by decide) (fun _ _ _ h => h) (by rfl) (fun W hW => ?_) hS ?_
      · have hx := HX.out W hW
        clear hW
        go_simp
      simp only [Act.put, List.setIfInBounds_toArray, List.set_cons_zero, List.set_cons_succ]
      refine next_till 23 (by kernel_rfl) rfl (fun K hK => ?_)
      go_simp
      refine DW.mono ?_
      rintro e w2 ⟨rfl, hd2, ho2⟩
      clear DW
      obtain ⟨hst1, stp, hin, hsn, htk, hup, hw0⟩ := H2.out
      obtain ⟨h2, st2⟩ := hst1.device hd2 ho2 (wdev_upto (n := n + ((k.T.zip k.BL).take j).length) hup.1 _ _).2
      have st2' : Step S1 wr w2 (Grow S1 wr.drew w2) := (Step.of_below (below_drewN (Below.refl wr.heap.size wr) 1) S1).trans st2
      have hS2 : w2.cell? ⟨wb, 0, none⟩ = some (ptr tb) ∧ w2.cell? ⟨tb, 0, none⟩ = some (ptr db) ∧ w2.cell? ⟨tb, 2, none⟩ = some (.int .i64 (fr : Nat)) ∧ w2.cell? ⟨wb, 6, none⟩ = some (.slice (some ⟨bg, bo, none⟩) bn bc0) ∧ w2.cell? ⟨bg, bo + j, none⟩ = some (.slice ba bl.length bcc) := by
        have hs := hS
        refine ⟨h2.cel.cell 0, h2.tr.tree.cell 0, h2.tr.tree.cell 2, ?_, ?_⟩
        · have h6 := h2.cel.cell 6
          have h6' : wr.drew.cell? ⟨wb, 6, none⟩ = _ := hst1.cel.cell 6
          rw [hs.2.2.2.1] at h6'
          rw [h6]
          exact h6'.symm
        · have hc : wr.drew.cell? ⟨bg, bo + j, none⟩ = _ := hs.2.2.2.2
          have hbF := (hst1.bf bg rfl).1
          rw [World.cell?_of_block (w := wr.drew) (a := ⟨bg, bo + j, none⟩) (ho2.block bg (hst1.rb.own rfl) hbF)]
          exact hc
      have H3 := Lib.hid (And.intro h2 (And.intro (stp.trans st2') (fun q hq => (show Grow S1 wr.drew w2 q from .inl (hin q hq)))))
      have H4 := Lib.hid (And.intro hsn htk)
      clear hst1 stp hin hsn htk hup hw0 hd2 ho2 h2 st2 st2' s0 s1 s2 s3 s4 H2
      refine hK.out _ _ (fun _ => hS2) ?_
      clear hK K hS
      refine next_till 24 (by kernel_rfl) rfl (fun K hK => ?_)
      go_simp
      refine hK.out _ _ (fun _ => hS2) ?_
      clear hK K
      refine done_till (by kernel_rfl) ?_ _
      clear HX hS2
      generalize hc : wcode D1 ((fr : Int) + (t : Int)) bl = c at *
      generalize wdev D1 ((fr : Int) + (t : Int)) bl = D2 at *
      by_cases hc0 : c = 0
      · subst hc0
        clear hc
        go_wp2
        go_roundw
        case rel =>
          refine ⟨j + 1, by omega, by go_num, ?_, ?_⟩
          · rw [H4.out.2, H4.out.1]
          · rw [H4.out.2, H4.out.1]
            exact ⟨_, _, H3.out⟩
        case measure => simp [intOf]; omega
      · have hcb : (c == 0) = false := by rw [beq_eq_false_iff_ne]; exact hc0
        have HC := Lib.hid hc0
        clear hc hc0
        go_wp2
        go_ret
        have e : writesP fr D (k.T.zip k.BL) = (D2, c) := by
          have h1 : k.T.zip k.BL = (k.T.zip k.BL).take (j + 1) ++ (k.T.zip k.BL).drop (j + 1) := (List.take_append_drop _ _).symm
          rw [h1, writesP_more fr _ _ _ (by rw [H4.out.2, H4.out.1]; exact HC.out), H4.out.2, H4.out.1]
        rw [e]
        exact ⟨rfl, _, _, H3.out⟩
    · obtain rfl : j = k.T.length := by omega
      have hall : (k.T.zip k.BL).take k.T.length = k.T.zip k.BL := List.take_of_length_le (by rw [List.length_zip]; omega)
      rw [hall] at hw0 hst
      have H2 := Lib.hid (And.intro hw0 (And.intro hst (And.intro stp hin)))
      clear hst stp hin hw0 hall
      go_wp2
      go_ret
      exact ⟨by rw [H2.out.1]; rfl, _, _, H2.out.2⟩
end
end Go.Proofs.YtgekeemhbnhelaaGreat
namespace Go.Proofs.YtgekeemhbnhelaaGreat
open Go.RowKit

def endE (fr : Nat) (D : Dv) (k : Wk) (c : Int) : Int := if c = 0 then (writesP fr D (k.T.zip k.BL)).2 else c
def endD (fr : Nat) (D : Dv) (k : Wk) (c : Int) : Dv := if c = 0 then (writesP fr D (k.T.zip k.BL)).1 else D
def endL (l : List Pg) (k : Wk) (c : Int) : List Pg := if c = 0 then dropsP l k.X else dropsP l k.T
/-- What a call's end answers and leaves. -/
def Ends (w : World) (tb db pb fr : Nat) (D : Dv) (l : List Pg) (S : Nat → Prop) (c root : Int) (e : Ending) (w' : World) : Prop :=
  e = .returned (.tuple #[.int .i64 (if c = 0 then root else 0), err c]) ∧ ∃ S', TrS w' tb db pb fr D l S' ∧ Step S w w' S'

section
variable {w : World} {tb db pb fr : Nat} {D : Dv} {l : List Pg} {wb : Nat} {top : Nd} {k : Wk} {S F G : Nat → Prop} {tev ttv tv bv xv : Value}

theorem Ro.rw {τ α : Type} {K : Kd τ α} {e : TypeId} {v : Value} {m : List α} (h : Ro K e w S v m) : ∃ ts : List τ, ts.map K.con = m ∧ Rw w v m.length K.sz (K.cells ts) := let ⟨ts, h1, h2, _⟩ := h; ⟨ts, h1, Rw.of_own h2⟩
theorem Ro.ints {v : Value} {xs : List Nat} (h : Ro kdIn 3 w S v (Go.Proofs.YtgekeemhbnhelaaGreat.ints xs)) : Rw w v xs.length 1 (kdIn.cells (Go.Proofs.YtgekeemhbnhelaaGreat.ints xs)) := by
  obtain ⟨ts, h1, h2⟩ := h.rw
  rw [ints_length] at h2
  have : ts = Go.Proofs.YtgekeemhbnhelaaGreat.ints xs := by rw [← h1]; exact (List.map_id _).symm
  rw [← this]
  exact h2

/-- Behind the writing. -/
theorem end_tail {c root : Int} {w0 : World} {S0 : Nat → Prop} (h : StAt w tb db pb fr D l wb top k S F G tev ttv tv bv xv) (hst : Step S0 w0 w S) (hT : k.T.length ≤ 4294967296) (hX : k.X.length ≤ 4294967296) :
    (∃ _ : True, Calls Tryz.prog 82 #[ptr wb, .slice none 0 0] w fun e w' => e = .returned (.tuple #[]) ∧ StAt w' tb db pb fr D l wb top k S F G tev ttv tv bv xv ∧ Step S0 w0 w' S) := by
  refine ⟨trivial, (tdrop_at (xs := []) h (Rw.nil w 1) (fun q hq => by cases hq) (by simp)).mono ?_⟩
  rintro e w' ⟨rfl, h1, ho⟩
  exact ⟨rfl, h1, hst.trans ⟨ho.mono fun q _ hq => h.tr.gs q hq, fun q hq => .inl hq⟩⟩

set_option maxHeartbeats 1000000 in
theorem end_any' {c root : Int} {n : Nat} (h : St w tb db pb fr D l wb top k S) (hlen : k.BL.length = k.T.length) (h512 : ∀ b ∈ k.BL, b.length = 512) (hT : ∀ t ∈ k.T, t < 4096) (hfr : fr ≤ 4096) (hu : Upto D n) (hn : n + k.T.length < 4294967296) (hX : k.X.length ≤ 4294967296) :
    Calls Tryz.prog 58 #[ptr wb, .int .i64 root, err c] w (Ends w tb db pb fr (endD fr D k c) (endL l k (endE fr D k c)) S (endE fr D k c) root) := by
  obtain ⟨F, G, tev, ttv, tv, bv, xv, h⟩ := h
  have W := write_at h hlen h512 hT hfr hu hn
  obtain ⟨ta, tc, htv, _⟩ := h.rt.shape
  rw [ints_length] at htv
  subst htv
  obtain ⟨xa, xc, hxv, _⟩ := h.rx.shape
  rw [ints_length] at hxv
  subst hxv
  generalize hE : endE fr D k c = E
  generalize hD : endD fr D k c = D'
  have HE := Lib.hid (And.intro hE hD)
  clear hE hD
  -- what stands behind the writing, whatever it was
  have tail : ∀ (w1 : World) (D1 : Dv) (c1 : Int) (S1 F1 : Nat → Prop), StAt w1 tb db pb fr D1 l wb top k S1 F1 G tev ttv (.slice ta k.T.length tc) bv (.slice xa k.X.length xc) → Step S w w1 S1 →
      Calls Tryz.prog 82 #[ptr wb, .slice none 0 0] w1 fun e w' => e = .returned (.tuple #[]) ∧ StAt w' tb db pb fr D1 l wb top k S1 F1 G tev ttv (.slice ta k.T.length tc) bv (.slice xa k.X.length xc) ∧ Step S w w' S1 := fun w1 D1 c1 S1 F1 h1 hs =>
    (end_tail (c := c1) (root := root) h1 hs (by omega) hX).2
  have HT := Lib.hid tail
  have hTl : k.T.length ≤ 4294967296 := by omega
  have HH := Lib.hid (And.intro h (And.intro hTl hX))
  clear h hlen h512 hT hu hn tail
  by_cases hc : c = 0
  · subst hc
    have e1 : endE fr D k 0 = (writesP fr D (k.T.zip k.BL)).2 := if_pos rfl
    have e2 : endD fr D k 0 = (writesP fr D (k.T.zip k.BL)).1 := if_pos rfl
    rw [e1, e2] at HE
    clear e1 e2
    generalize (writesP fr D (k.T.zip k.BL)).2 = c2 at *
    generalize (writesP fr D (k.T.zip k.BL)).1 = D2 at *
    obtain ⟨rfl, rfl⟩ := HE.out
    clear HE
    go_enter Tryz.func58, Tryz.ntmps58
    go_wp2_with fail
    refine W.mono ?_
    rintro e w1 ⟨rfl, S1, F1, h1, st1, hin⟩
    clear W
    have t0 : w1.cell? ⟨wb, 0, none⟩ = some (ptr tb) := h1.cel.cell 0
    have t7 : w1.cell? ⟨wb, 7, none⟩ = some (.slice none 0 0) := h1.cel.cell 7
    have T1 := HT.out w1 D2 c2 S1 F1 h1 st1
    clear h1 st1 hin
    go_wp2_with fail
    refine T1.mono ?_
    rintro e w2 ⟨rfl, h2, st2⟩
    clear T1 t0 t7
    by_cases hc2 : c2 = 0
    · subst hc2
      have t8 : w2.cell? ⟨wb, 8, none⟩ = some (.slice xa k.X.length xc) := h2.cel.cell 8
      have T2 := tdrop_at h2 h2.rx.ints (fun q hq => (h2.xf q hq).2.1) hX
      have H2 := Lib.hid (And.intro h2 st2)
      clear h2 st2
      go_wp2_with fail
      refine T2.mono ?_
      rintro e w3 ⟨rfl, h3, ho3⟩
      clear T2
      have H3 := Lib.hid (And.intro h3 ho3)
      clear h3 ho3
      go_wp2
      go_ret2
      refine ⟨rfl, S1, ⟨F1, G, ?_⟩, H2.out.2.trans ⟨H3.out.2.mono fun q _ hq => H2.out.1.tr.gs q hq, fun q hq => .inl hq⟩⟩
      unfold endL
      rw [if_pos rfl]
      exact H3.out.1.tr
    · have hcb : (c2 == 0) = false := by rw [beq_eq_false_iff_ne]; exact hc2
      have t5 : w2.cell? ⟨wb, 5, none⟩ = some (.slice ta k.T.length tc) := h2.cel.cell 5
      have T2 := tdrop_at h2 h2.rt.ints (fun q hq => (h2.tf q hq).2.1) hTl
      have H2 := Lib.hid (And.intro h2 (And.intro st2 hc2))
      clear h2 st2 hc2
      go_wp2_with fail
      refine T2.mono ?_
      rintro e w3 ⟨rfl, h3, ho3⟩
      clear T2
      have H3 := Lib.hid (And.intro h3 ho3)
      clear h3 ho3
      go_wp2
      go_ret2
      refine ⟨by rw [if_neg H2.out.2.2]; rfl, S1, ⟨F1, G, ?_⟩, H2.out.2.1.trans ⟨H3.out.2.mono fun q _ hq => H2.out.1.tr.gs q hq, fun q hq => .inl hq⟩⟩
      unfold endL
      rw [if_neg H2.out.2.2]
      exact H3.out.1.tr
  · have e1 : endE fr D k c = c := if_neg hc
    have e2 : endD fr D k c = D := if_neg hc
    rw [e1, e2] at HE
    obtain ⟨rfl, rfl⟩ := HE.out
    have hcb : (c == 0) = false := by rw [beq_eq_false_iff_ne]; exact hc
    have h := HH.out.1
    have t0 : w.cell? ⟨wb, 0, none⟩ = some (ptr tb) := h.cel.cell 0
    have t7 : w.cell? ⟨wb, 7, none⟩ = some (.slice none 0 0) := h.cel.cell 7
    have T1 := HT.out w D c S F h (Step.refl _ _)
    have HC := Lib.hid hc
    clear h hc e1 e2 HE W
    go_enter Tryz.func58, Tryz.ntmps58
    go_wp2_with fail
    refine T1.mono ?_
    rintro e w2 ⟨rfl, h2, st2⟩
    clear T1 t0 t7
    have t5 : w2.cell? ⟨wb, 5, none⟩ = some (.slice ta k.T.length tc) := h2.cel.cell 5
    have T2 := tdrop_at h2 h2.rt.ints (fun q hq => (h2.tf q hq).2.1) hTl
    have H2 := Lib.hid (And.intro h2 st2)
    clear h2 st2
    go_wp2_with fail
    refine T2.mono ?_
    rintro e w3 ⟨rfl, h3, ho3⟩
    clear T2
    have H3 := Lib.hid (And.intro h3 ho3)
    clear h3 ho3
    go_wp2
    go_ret2
    refine ⟨by rw [if_neg HC.out]; rfl, S, ⟨F, G, ?_⟩, H2.out.2.trans ⟨H3.out.2.mono fun q _ hq => H2.out.1.tr.gs q hq, fun q hq => .inl hq⟩⟩
    unfold endL
    rw [if_neg HC.out]
    exact H3.out.1.tr
end
end Go.Proofs.YtgekeemhbnhelaaGreat
