/- Has what stands for a node become less?: the walk of dwindled; condition: the nodes' entries are such as a tree may hold. -/
import Derived.Test.YtgekeemhbnhelaaGreatM03
namespace Go.Proofs.YtgekeemhbnhelaaGreat
open Go.RowKit

def dwB (L : List Nd) (lvl : Nat) (es : List En) : Bool := match L with
  | [a] => loneB a.lvl a.ents.length || decide (nsize a.lvl a.ents < nsize lvl es)
  | _ => false
theorem dwB_off {L : List Nd} {lvl : Nat} {es : List En} (h : L.length ≠ 1) : dwB L lvl es = false := by
  unfold dwB
  split
  · simp at h
  · rfl

set_option maxRecDepth 100000 in
set_option maxHeartbeats 2000000 in
theorem dwindled_off {lv ev tv : Value} {p : Int} {lvl : Nat} {S : Nat → Prop} {L : List Nd} {es : List En} (w : World) (h : Rd kdNd w S lv L) (hl : L.length ≠ 1) :
    Calls Tryz.prog 117 #[lv, ndv p (lvl : Int) ev tv] w fun e w' => e = .returned (.bool (dwB L lvl es)) ∧ Below w.heap.size w w' := by
  have hb : Below w.heap.size w (w.alloc (.cells #[.int .i64 p, .int .i64 (lvl : Int), ev, tv] 85)) := (Below.refl _ _).alloc (Nat.le_refl _) _
  rw [dwB_off hl]
  obtain ⟨la, lc, rfl, _⟩ := h.shape
  obtain ⟨ln, hln⟩ : ∃ ln, ln = L.length := ⟨_, rfl⟩
  rw [← hln] at hl
  rw [← hln]
  have hne : ((ln : Int) == 1) = false := by rw [beq_eq_false_iff_ne]; omega
  have HB := Lib.hid hb
  clear hb h hl hln
  go_enter Tryz.func117, Tryz.ntmps117
  go_wp2_with fail
  have HX := Lib.hid (fun (_ : World) (h : True) => h)
  refine region_till 99 (fun _ => True) (by kernel_rfl) trivial (fun hS => ?_)
  refine take_till (i := 0) (some 5) (.slice la ln lc) rfl rfl (by kernel_rfl) (by kernel_rfl) (by kernel_rfl) (by kernel_rfl) (by decide) (fun _ _ _ h => h) (by rfl) (fun W hW => ?_) hS ?_
  · have hx := HX.out W hW
    clear hW
    go_simp
  simp only [Act.put, List.setIfInBounds_toArray, List.set_cons_zero, List.set_cons_succ]
  refine take_till (i := 1) (some 6) (.int .i64 (ln : Int)) rfl rfl (by kernel_rfl) (by kernel_rfl) (by kernel_rfl) (by kernel_rfl) (by decide) (fun _ _ _ h => h) (by rfl) (fun W hW => ?_) hS ?_
  · have hx := HX.out W hW
    clear hW
    go_simp
  simp only [Act.put, List.setIfInBounds_toArray, List.set_cons_zero, List.set_cons_succ]
  refine take_till (i := 2) (some 7) (.bool false) rfl rfl (by kernel_rfl) (by kernel_rfl) (by kernel_rfl) (by kernel_rfl) (by decide) (fun _ _ _ h => h) (by rfl) (fun W hW => ?_) hS ?_
  · have hx := HX.out W hW
    clear hW
    go_simp
  simp only [Act.put, List.setIfInBounds_toArray, List.set_cons_zero, List.set_cons_succ]
  refine take_till (i := 3) (some 8) (.bool false) rfl rfl (by kernel_rfl) (by kernel_rfl) (by kernel_rfl) (by kernel_rfl) (by decide) (fun _ _ _ h => h) (by rfl) (fun W hW => ?_) hS ?_
  · have hx := HX.out W hW
    clear hW
    go_simp
  simp only [Act.put, List.setIfInBounds_toArray, List.set_cons_zero, List.set_cons_succ]
  refine skip_till (i := 4) (some 9) rfl rfl (by kernel_rfl) (by kernel_rfl) (by kernel_rfl) (by kernel_rfl) (by decide) (fun _ _ _ h => h) (by rfl) hS ?_
  simp only [Act.put, List.setIfInBounds_toArray, List.set_cons_zero, List.set_cons_succ]
  refine skip_till (i := 5) (some 10) rfl rfl (by kernel_rfl) (by kernel_rfl) (by kernel_rfl) (by kernel_rfl) (by decide) (fun _ _ _ h => h) (by rfl) hS ?_
  simp only [Act.put, List.setIfInBounds_toArray, List.set_cons_zero, List.set_cons_succ]
  refine skip_till (i := 6) (some 11) rfl rfl (by kernel_rfl) (by kernel_rfl) (by kernel_rfl) (by kernel_rfl) (by decide) (fun _ _ _ h => h) (by rfl) hS ?_
  simp only [Act.put, List.setIfInBounds_toArray, List.set_cons_zero, List.set_cons_succ]
  refine skip_till (i := 7) (some 12) rfl rfl (by kernel_rfl) (by kernel_rfl) (by kernel_rfl) (by kernel_rfl) (by decide) (fun _ _ _ h => h) (by rfl) hS ?_
  simp only [Act.put, List.setIfInBounds_toArray, List.set_cons_zero, List.set_cons_succ]
  refine skip_till (i := 8) (some 13) rfl rfl (by kernel_rfl) (by kernel_rfl) (by kernel_rfl) (by kernel_rfl) (by decide) (fun _ _ _ h => h) (by rfl) hS ?_
  simp only [Act.put, List.setIfInBounds_toArray, List.set_cons_zero, List.set_cons_succ]
  refine skip_till (i := 9) (some 14) rfl rfl (by kernel_rfl) (by kernel_rfl) (by kernel_rfl) (by kernel_rfl) (by decide) (fun _ _ _ h => h) (by rfl) hS ?_
  simp only [Act.put, List.setIfInBounds_toArray, List.set_cons_zero, List.set_cons_succ]
  refine skip_till (i := 10) (some 15) rfl rfl (by kernel_rfl) (by kernel_rfl) (by kernel_rfl) (by kernel_rfl) (by decide) (fun _ _ _ h => h) (by rfl) hS ?_
  simp only [Act.put, List.setIfInBounds_toArray, List.set_cons_zero, List.set_cons_succ]
  refine skip_till (i := 11) (some 16) rfl rfl (by kernel_rfl) (by kernel_rfl) (by kernel_rfl) (by kernel_rfl) (by decide) (fun _ _ _ h => h) (by rfl) hS ?_
  simp only [Act.put, List.setIfInBounds_toArray, List.set_cons_zero, List.set_cons_succ]
  refine skip_till (i := 12) (some 17) rfl rfl (by kernel_rfl) (by kernel_rfl) (by kernel_rfl) (by kernel_rfl) (by decide) (fun _ _ _ h => h) (by rfl) hS ?_
  simp only [Act.put, List.setIfInBounds_toArray, List.set_cons_zero, List.set_cons_succ]
  refine skip_till (i := 13) (some 18) rfl rfl (by kernel_rfl) (by kernel_rfl) (by kernel_rfl) (by kernel_rfl) (by decide) (fun _ _ _ h => h) (by rfl) hS ?_
  simp only [Act.put, List.setIfInBounds_toArray, List.set_cons_zero, List.set_cons_succ]
  refine skip_till (i := 14) (some 19) rfl rfl (by kernel_rfl) (by kernel_rfl) (by kernel_rfl) (by kernel_rfl) (by decide) (fun _ _ _ h => h) (by rfl) hS ?_
  simp only [Act.put, List.setIfInBounds_toArray, List.set_cons_zero, List.set_cons_succ]
  refine skip_till (i := 15) (some 20) rfl rfl (by kernel_rfl) (by kernel_rfl) (by kernel_rfl) (by kernel_rfl) (by decide) (fun _ _ _ h => h) (by rfl) hS ?_
  simp only [Act.put, List.setIfInBounds_toArray, List.set_cons_zero, List.set_cons_succ]
  refine skip_till (i := 16) (some 21) rfl rfl (by kernel_rfl) (by kernel_rfl) (by kernel_rfl) (by kernel_rfl) (by decide) (fun _ _ _ h => h) (by rfl) hS ?_
  simp only [Act.put, List.setIfInBounds_toArray, List.set_cons_zero, List.set_cons_succ]
  refine take_till (i := 17) (some 22) (.bool false) rfl rfl (by kernel_rfl) (by kernel_rfl) (by kernel_rfl) (by kernel_rfl) (by decide) (fun _ _ _ h => h) (by rfl) (fun W hW => ?_) hS ?_
  · have hx := HX.out W hW
    clear hW
    go_simp
  simp only [Act.put, List.setIfInBounds_toArray, List.set_cons_zero, List.set_cons_succ]
  refine next_till 18 (by kernel_rfl) rfl (fun K hK => ?_)
  go_simp
  refine hK.out _ _ (fun _ => trivial) ?_
  clear hK K
  refine done_till (by kernel_rfl) ?_ _
  go_wp2
  go_ret
  exact ⟨rfl, HB.out.drew⟩

set_option maxRecDepth 100000 in
set_option maxHeartbeats 4000000 in
theorem dwindled_one {lv ev tv : Value} {p : Int} {lvl : Nat} {S : Nat → Prop} {a : Nd} {es : List En} (w : World) (h : Rd kdNd w S lv [a]) (he : Rd kdEn w S ev es) (hf : Few a.ents) (hfe : Few es) (hn : a.ents.length ≤ 1000000) (hne : es.length ≤ 1000000) :
    Calls Tryz.prog 117 #[lv, ndv p (lvl : Int) ev tv] w fun e w' => e = .returned (.bool (dwB [a] lvl es)) ∧ Below w.heap.size w w' := by
  have hb : Below w.heap.size w (w.alloc (.cells #[.int .i64 p, .int .i64 (lvl : Int), ev, tv] 85)) := (Below.refl _ _).alloc (Nat.le_refl _) _
  have hst : Step S w (w.alloc (.cells #[.int .i64 p, .int .i64 (lvl : Int), ev, tv] 85)) S := (Step.refl S w).alloc _
  obtain ⟨g, o, cap, ea, ec, ta, tc, rfl, hg, c0, c1, c2, c3, hre, hbt⟩ := (h.step hst).nod (i := 0) rfl
  have C := Cel.new w #[.int .i64 p, .int .i64 (lvl : Int), ev, tv] 85
  have he' := he.step hst
  obtain ⟨W, hW⟩ : ∃ W, W = w.alloc (.cells #[.int .i64 p, .int .i64 (lvl : Int), ev, tv] 85) := ⟨_, rfl⟩
  have hzw : w.heap.size < W.heap.size := by rw [hW]; simp
  rw [← hW] at hre he' hb hg c0 c1 c2 c3
  have A1 := lone_any (p := a.page) (lvl := a.lvl) (tv := .slice ta a.to.length tc) W.drew hre
  have A2 := fun (W1 : World) (hb1 : Below W.heap.size W W1) => size_any' (p := a.page) (lvl := a.lvl) (tv := .slice ta a.to.length tc) W1 (hre.step (Step.of_below hb1 S)) hf (by omega)
  have A3 := fun (W1 : World) (hb1 : Below W.heap.size W W1) => size_any' (p := p) (lvl := lvl) (tv := tv) W1 (he'.step (Step.of_below hb1 S)) hfe (by omega)
  have d0 : W.cell? ⟨w.heap.size, 0, none⟩ = some (.int .i64 p) := hW ▸ C.cell 0
  have d1 : W.cell? ⟨w.heap.size, 1, none⟩ = some (.int .i64 (lvl : Int)) := hW ▸ C.cell 1
  have d2 : W.cell? ⟨w.heap.size, 2, none⟩ = some ev := hW ▸ C.cell 2
  have d3 : W.cell? ⟨w.heap.size, 3, none⟩ = some tv := hW ▸ C.cell 3
  rw [Nat.zero_mul, Nat.add_zero] at c0 c1 c2 c3
  unfold dwB
  have e1 : decide (nsize a.lvl a.ents < nsize lvl es) = decide ((nsize a.lvl a.ents : Int) < (nsize lvl es : Int)) := by rw [decide_eq_decide]; omega
  simp only [e1]
  generalize loneB a.lvl a.ents.length = lb at *
  generalize nsize a.lvl a.ents = x at *
  generalize nsize lvl es = y at *
  have HC := Lib.hid (fun (W1 : World) (hb1 : Below W.heap.size W W1) => show (W1.cell? ⟨g, o, none⟩ = some (.int .i64 a.page) ∧ W1.cell? ⟨g, o + 1, none⟩ = some (.int .i64 (a.lvl : Int)) ∧ W1.cell? ⟨g, o + 2, none⟩ = some (.slice ea a.ents.length ec) ∧ W1.cell? ⟨g, o + 3, none⟩ = some (.slice ta a.to.length tc)) ∧
      W1.cell? ⟨w.heap.size, 0, none⟩ = some (.int .i64 p) ∧ W1.cell? ⟨w.heap.size, 1, none⟩ = some (.int .i64 (lvl : Int)) ∧ W1.cell? ⟨w.heap.size, 2, none⟩ = some ev ∧ W1.cell? ⟨w.heap.size, 3, none⟩ = some tv from
    ⟨⟨(hb1.cell hg).trans c0, (hb1.cell hg).trans c1, (hb1.cell hg).trans c2, (hb1.cell hg).trans c3⟩, (hb1.cell hzw).trans d0, (hb1.cell hzw).trans d1, (hb1.cell hzw).trans d2, (hb1.cell hzw).trans d3⟩)
  have HH := Lib.hid (And.intro hb hW)
  clear h he he' hf hfe hn hne hst hre hbt C c0 c1 c2 c3 d0 d1 d2 d3 e1 hb
  go_enter Tryz.func117, Tryz.ntmps117
  go_wp2_with fail
  rw [← hW]
  clear hW
  obtain ⟨Sx, hSx⟩ : ∃ Sx : World → Prop, ∀ W1, Sx W1 ↔ Below W.heap.size W W1 := ⟨_, fun _ => Iff.rfl⟩
  have HX := Lib.hid (fun (W1 : World) (hW1 : Sx W1) => HC.out W1 ((hSx W1).1 hW1))
  have HS := Lib.hid hSx
  clear hSx HC
  have hD : Sx W.drew := (HS.out _).2 (Below.refl _ _).drew
  refine region_till 99 Sx (by kernel_rfl) hD (fun hS => ?_)
  refine take_till (i := 0) (some 5) (.slice (some ⟨g, o, none⟩) 1 cap) rfl rfl (by kernel_rfl) (by kernel_rfl) (by kernel_rfl) (by kernel_rfl) (by decide) (fun _ _ _ h => h) (by rfl) (fun W hW => ?_) hS ?_
  · have hx := HX.out W hW
    clear hW
    go_simp
  simp only [Act.put, List.setIfInBounds_toArray, List.set_cons_zero, List.set_cons_succ]
  refine take_till (i := 1) (some 6) (.int .i64 1) rfl rfl (by kernel_rfl) (by kernel_rfl) (by kernel_rfl) (by kernel_rfl) (by decide) (fun _ _ _ h => h) (by rfl) (fun W hW => ?_) hS ?_
  · have hx := HX.out W hW
    clear hW
    go_simp
  simp only [Act.put, List.setIfInBounds_toArray, List.set_cons_zero, List.set_cons_succ]
  refine take_till (i := 2) (some 7) (.bool true) rfl rfl (by kernel_rfl) (by kernel_rfl) (by kernel_rfl) (by kernel_rfl) (by decide) (fun _ _ _ h => h) (by rfl) (fun W hW => ?_) hS ?_
  · have hx := HX.out W hW
    clear hW
    go_simp
  simp only [Act.put, List.setIfInBounds_toArray, List.set_cons_zero, List.set_cons_succ]
  refine take_till (i := 3) (some 8) (.bool true) rfl rfl (by kernel_rfl) (by kernel_rfl) (by kernel_rfl) (by kernel_rfl) (by decide) (fun _ _ _ h => h) (by rfl) (fun W hW => ?_) hS ?_
  · have hx := HX.out W hW
    clear hW
    go_simp
  simp only [Act.put, List.setIfInBounds_toArray, List.set_cons_zero, List.set_cons_succ]
  refine take_till (i := 4) (some 9) (.slice (some ⟨g, o, none⟩) 1 cap) rfl rfl (by kernel_rfl) (by kernel_rfl) (by kernel_rfl) (by kernel_rfl) (by decide) (fun _ _ _ h => h) (by rfl) (fun W hW => ?_) hS ?_
  · have hx := HX.out W hW
    clear hW
    go_simp
  simp only [Act.put, List.setIfInBounds_toArray, List.set_cons_zero, List.set_cons_succ]
  refine take_till (i := 5) (some 10) (.pointer (some ⟨g, o, none⟩)) rfl rfl (by kernel_rfl) (by kernel_rfl) (by kernel_rfl) (by kernel_rfl) (by decide) (fun _ _ _ h => h) (by rfl) (fun W hW => ?_) hS ?_
  · have hx := HX.out W hW
    clear hW
    go_simp
  simp only [Act.put, List.setIfInBounds_toArray, List.set_cons_zero, List.set_cons_succ]
  refine take_till (i := 6) (some 11) (ndv a.page (a.lvl : Int) (.slice ea a.ents.length ec) (.slice ta a.to.length tc)) rfl rfl (by kernel_rfl) (by kernel_rfl) (by kernel_rfl) (by kernel_rfl) (by decide) (fun _ _ _ h => h) (by rfl) (fun W hW => ?_) hS ?_
  · have hx := HX.out W hW
    clear hW
    go_simp
  simp only [Act.put, List.setIfInBounds_toArray, List.set_cons_zero, List.set_cons_succ]
  refine next_till 7 (by kernel_rfl) rfl (fun K hK => ?_)
  go_simp
  refine A1.mono ?_
  rintro e w1 ⟨rfl, hb1⟩
  have hb1' : Below W.heap.size W w1 := ⟨hb1.os, hb1.tape, hb1.output, hb1.size, hb1.block⟩
  have hS1 := (HS.out w1).2 hb1'
  refine hK.out _ _ (fun _ => hS1) ?_
  clear hK K A1 hS
  have hS := hS1
  have HB1 := Lib.hid hb1'
  clear hS1 hb1 hb1' hD
  cases lb with
  | true =>
    clear A2 A3
    refine take_till (i := 8) (some 13) (.bool true) rfl rfl (by kernel_rfl) (by kernel_rfl) (by kernel_rfl) (by kernel_rfl) (by decide) (fun _ _ _ h => h) (by rfl) (fun W hW => ?_) hS ?_
    · have hx := HX.out W hW
      clear hW
      go_simp
    simp only [Act.put, List.setIfInBounds_toArray, List.set_cons_zero, List.set_cons_succ]
    refine skip_till (i := 9) (some 14) rfl rfl (by kernel_rfl) (by kernel_rfl) (by kernel_rfl) (by kernel_rfl) (by decide) (fun _ _ _ h => h) (by rfl) hS ?_
    simp only [Act.put, List.setIfInBounds_toArray, List.set_cons_zero, List.set_cons_succ]
    refine skip_till (i := 10) (some 15) rfl rfl (by kernel_rfl) (by kernel_rfl) (by kernel_rfl) (by kernel_rfl) (by decide) (fun _ _ _ h => h) (by rfl) hS ?_
    simp only [Act.put, List.setIfInBounds_toArray, List.set_cons_zero, List.set_cons_succ]
    refine skip_till (i := 11) (some 16) rfl rfl (by kernel_rfl) (by kernel_rfl) (by kernel_rfl) (by kernel_rfl) (by decide) (fun _ _ _ h => h) (by rfl) hS ?_
    simp only [Act.put, List.setIfInBounds_toArray, List.set_cons_zero, List.set_cons_succ]
    refine skip_till (i := 12) (some 17) rfl rfl (by kernel_rfl) (by kernel_rfl) (by kernel_rfl) (by kernel_rfl) (by decide) (fun _ _ _ h => h) (by rfl) hS ?_
    simp only [Act.put, List.setIfInBounds_toArray, List.set_cons_zero, List.set_cons_succ]
    refine skip_till (i := 13) (some 18) rfl rfl (by kernel_rfl) (by kernel_rfl) (by kernel_rfl) (by kernel_rfl) (by decide) (fun _ _ _ h => h) (by rfl) hS ?_
    simp only [Act.put, List.setIfInBounds_toArray, List.set_cons_zero, List.set_cons_succ]
    refine skip_till (i := 14) (some 19) rfl rfl (by kernel_rfl) (by kernel_rfl) (by kernel_rfl) (by kernel_rfl) (by decide) (fun _ _ _ h => h) (by rfl) hS ?_
    simp only [Act.put, List.setIfInBounds_toArray, List.set_cons_zero, List.set_cons_succ]
    refine skip_till (i := 15) (some 20) rfl rfl (by kernel_rfl) (by kernel_rfl) (by kernel_rfl) (by kernel_rfl) (by decide) (fun _ _ _ h => h) (by rfl) hS ?_
    simp only [Act.put, List.setIfInBounds_toArray, List.set_cons_zero, List.set_cons_succ]
    refine take_till (i := 16) (some 21) (.bool true) rfl rfl (by kernel_rfl) (by kernel_rfl) (by kernel_rfl) (by kernel_rfl) (by decide) (fun _ _ _ h => h) (by rfl) (fun W hW => ?_) hS ?_
    · have hx := HX.out W hW
      clear hW
      go_simp
    simp only [Act.put, List.setIfInBounds_toArray, List.set_cons_zero, List.set_cons_succ]
    refine take_till (i := 17) (some 22) (.bool true) rfl rfl (by kernel_rfl) (by kernel_rfl) (by kernel_rfl) (by kernel_rfl) (by decide) (fun _ _ _ h => h) (by rfl) (fun W hW => ?_) hS ?_
    · have hx := HX.out W hW
      clear hW
      go_simp
    simp only [Act.put, List.setIfInBounds_toArray, List.set_cons_zero, List.set_cons_succ]
    refine next_till 18 (by kernel_rfl) rfl (fun K hK => ?_)
    go_simp
    refine hK.out _ _ (fun _ => hS) ?_
    clear hK K
    refine done_till (by kernel_rfl) ?_ _
    go_wp2
    go_ret
    exact ⟨rfl, HH.out.1.trans (HB1.out.mono HH.out.1.size)⟩
  | false =>
    skip
    refine take_till (i := 8) (some 13) (.bool false) rfl rfl (by kernel_rfl) (by kernel_rfl) (by kernel_rfl) (by kernel_rfl) (by decide) (fun _ _ _ h => h) (by rfl) (fun W hW => ?_) hS ?_
    · have hx := HX.out W hW
      clear hW
      go_simp
    simp only [Act.put, List.setIfInBounds_toArray, List.set_cons_zero, List.set_cons_succ]
    refine take_till (i := 9) (some 14) (.slice (some ⟨g, o, none⟩) 1 cap) rfl rfl (by kernel_rfl) (by kernel_rfl) (by kernel_rfl) (by kernel_rfl) (by decide) (fun _ _ _ h => h) (by rfl) (fun W hW => ?_) hS ?_
    · have hx := HX.out W hW
      clear hW
      go_simp
    simp only [Act.put, List.setIfInBounds_toArray, List.set_cons_zero, List.set_cons_succ]
    refine take_till (i := 10) (some 15) (.pointer (some ⟨g, o, none⟩)) rfl rfl (by kernel_rfl) (by kernel_rfl) (by kernel_rfl) (by kernel_rfl) (by decide) (fun _ _ _ h => h) (by rfl) (fun W hW => ?_) hS ?_
    · have hx := HX.out W hW
      clear hW
      go_simp
    simp only [Act.put, List.setIfInBounds_toArray, List.set_cons_zero, List.set_cons_succ]
    refine take_till (i := 11) (some 16) (ndv a.page (a.lvl : Int) (.slice ea a.ents.length ec) (.slice ta a.to.length tc)) rfl rfl (by kernel_rfl) (by kernel_rfl) (by kernel_rfl) (by kernel_rfl) (by decide) (fun _ _ _ h => h) (by rfl) (fun W hW => ?_) hS ?_
    · have hx := HX.out W hW
      clear hW
      go_simp
    simp only [Act.put, List.setIfInBounds_toArray, List.set_cons_zero, List.set_cons_succ]
    refine take_till (i := 13) (some 18) (ndv p (lvl : Int) ev tv) rfl rfl (by kernel_rfl) (by kernel_rfl) (by kernel_rfl) (by kernel_rfl) (by decide) (fun _ _ _ h => h) (by rfl) (fun W hW => ?_) hS ?_
    · have hx := HX.out W hW
      clear hW
      go_simp
    simp only [Act.put, List.setIfInBounds_toArray, List.set_cons_zero, List.set_cons_succ]
    have B2 := A2 w1 HB1.out
    clear A2
    refine next_till 12 (by kernel_rfl) rfl (fun K hK => ?_)
    go_simp
    refine B2.mono ?_
    rintro e w2 ⟨rfl, hb2⟩
    have hb2' : Below W.heap.size W w2 := HB1.out.trans (hb2.mono HB1.out.size)
    have B3 := A3 w2 hb2'
    clear A3
    have hS2 := (HS.out w2).2 hb2'
    refine hK.out _ _ (fun _ => hS2) ?_
    clear hK K B2 hS
    have HB2 := Lib.hid hb2'
    clear hS2 hb2 hb2'
    refine next_till 14 (by kernel_rfl) rfl (fun K hK => ?_)
    go_simp
    refine B3.mono ?_
    rintro e w3 ⟨rfl, hb3⟩
    have hb3' : Below W.heap.size W w3 := HB2.out.trans (hb3.mono HB2.out.size)
    have hS3 := (HS.out w3).2 hb3'
    refine hK.out _ _ (fun _ => hS3) ?_
    clear hK K B3
    have hS := hS3
    have HB3 := Lib.hid hb3'
    clear hS3 hb3 hb3'
    refine take_till (i := 15) (some 20) (.bool (decide ((x : Int) < (y : Int)))) rfl rfl (by kernel_rfl) (by kernel_rfl) (by kernel_rfl) (by kernel_rfl) (by decide) (fun _ _ _ h => h) (by rfl) (fun W hW => ?_) hS ?_
    · have hx := HX.out W hW
      clear hW
      go_simp
    simp only [Act.put, List.setIfInBounds_toArray, List.set_cons_zero, List.set_cons_succ]
    refine take_till (i := 16) (some 21) (.bool (decide ((x : Int) < (y : Int)))) rfl rfl (by kernel_rfl) (by kernel_rfl) (by kernel_rfl) (by kernel_rfl) (by decide) (fun _ _ _ h => h) (by rfl) (fun W hW => ?_) hS ?_
    · have hx := HX.out W hW
      clear hW
      go_simp
    simp only [Act.put, List.setIfInBounds_toArray, List.set_cons_zero, List.set_cons_succ]
    refine take_till (i := 17) (some 22) (.bool (decide ((x : Int) < (y : Int)))) rfl rfl (by kernel_rfl) (by kernel_rfl) (by kernel_rfl) (by kernel_rfl) (by decide) (fun _ _ _ h => h) (by rfl) (fun W hW => ?_) hS ?_
    · have hx := HX.out W hW
      clear hW
      go_simp
    simp only [Act.put, List.setIfInBounds_toArray, List.set_cons_zero, List.set_cons_succ]
    refine next_till 18 (by kernel_rfl) rfl (fun K hK => ?_)
    go_simp
    refine hK.out _ _ (fun _ => hS) ?_
    clear hK K
    refine done_till (by kernel_rfl) ?_ _
    go_wp2
    go_ret
    exact ⟨by first | rfl | simp, HH.out.1.trans (HB3.out.mono HH.out.1.size)⟩

theorem dwindled_any {lv ev tv : Value} {p : Int} {lvl : Nat} {S : Nat → Prop} {L : List Nd} {es : List En} (w : World) (h : Rd kdNd w S lv L) (he : Rd kdEn w S ev es) (hf : ∀ a ∈ L, Few a.ents ∧ a.ents.length ≤ 1000000) (hfe : Few es) (hne : es.length ≤ 1000000) :
    Calls Tryz.prog 117 #[lv, ndv p (lvl : Int) ev tv] w fun e w' => e = .returned (.bool (dwB L lvl es)) ∧ Below w.heap.size w w' := by
  by_cases hl : L.length = 1
  · obtain ⟨a, rfl⟩ := List.length_eq_one_iff.1 hl
    exact dwindled_one w h he (hf a (by simp)).1 hfe (hf a (by simp)).2 hne
  · exact dwindled_off w h hl
end Go.Proofs.YtgekeemhbnhelaaGreat
