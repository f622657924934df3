/- The step On by both devices; conditions: both lie in memory, with the same content; the picks lie elsewhere. -/
import Derived.Test.YtcgecjedgbmmkaaDevDo
import Derived.Laws.OwnMore
namespace Go.Proofs.Ytcgecjedgbmmkaa
open Go.RowKit Go.Maps

theorem int_info : (Try.prog.info? 3).map (fun i => (i.zero, i.size, i.bytes)) = some (some (.int .i64 0), 1, 8) := by kernel_rfl

theorem iv_of_row {w : World} {base : Nat} {v : Value} {l : List Int} (h : w.ownsRow base 3 1 v l.length (l.map (Value.int .i64))) (hr : ∀ u ∈ l, -9223372036854775808 ≤ u ∧ u ≤ 9223372036854775807) : Iv w v l ∧ ∃ a n c, v = .slice a n c := by
  rcases h.2 with ⟨rfl, h0⟩ | ⟨g, cap, cur, rfl, _, hh, hn, hm, _⟩
  · obtain rfl := List.eq_nil_of_length_eq_zero h0
    exact ⟨Iv.nil w, _, _, _, rfl⟩
  · refine ⟨⟨some ⟨g, 0, none⟩, cap, rfl, by unfold maxLen at hm; omega, (fun e => by cases e), fun ad had i u hu => ?_, hr⟩, _, _, _, rfl⟩
    cases had
    have hi := (List.getElem?_eq_some_iff.1 hu).1
    rw [Addr.add_lit, Nat.zero_add, h.cellAt i (by omega)]
    simp [hu]

theorem run_append_iv (w : World) (base : Nat) (ty : TypeId) {v x : Value} {l m : List Int} (hv : w.ownsRow base 3 1 v l.length (l.map (Value.int .i64))) (hl : ∀ u ∈ l, -9223372036854775808 ≤ u ∧ u ≤ 9223372036854775807) (hx : Iv w x m)
    (hn : l.length + m.length ≤ 1000000) (hbase : base ≤ w.heap.size) :
    ∃ v' w', (Builtin.append_ #[33, 33] ty #[v, x]).run Try.prog w = .ok v' w' ∧ Iv w' v' (l ++ m) ∧ (∃ a n c, v' = .slice a n c) ∧ (∀ q, v'.ownBlock = some q → base ≤ q) ∧ w.grownBy w' v.ownBlock := by
  obtain ⟨i, hi, hz, hs, hb⟩ := info_parts int_info
  obtain ⟨a, cap, rfl, h2, h3, h4, h5⟩ := hx
  have hr : ∀ u ∈ l ++ m, -9223372036854775808 ≤ u ∧ u ≤ 9223372036854775807 := fun u hu => (List.mem_append.1 hu).elim (hl u) (h5 u)
  rcases a with _ | ad
  · obtain rfl := h3 rfl
    have e : (Value.slice none ([] : List Int).length cap) = .slice none 0 cap := rfl
    have hvi := iv_of_row hv hl
    refine ⟨v, w, ?_, by simpa using hvi.1, hvi.2, fun q hq => (hv.lt q hq).1, ⟨rfl, rfl, rfl, Nat.le_refl _, fun _ _ _ => rfl⟩⟩
    exact run_append_owned_none (P := Try.prog) w base 33 ty 3 i 1 Try.underlying33 hi v l.length (l.map (Value.int .i64)) hv
  · obtain ⟨v', w', hr', ho, hg, _⟩ := run_append_own (P := Try.prog) w base 33 ty 3 i (.int .i64 0) 1 8 Try.underlying33 hi hz hs hb rfl (by decide) v l.length (l.map (Value.int .i64)) hv ad m.length cap (m.map (Value.int .i64)) (by simp)
      (fun j u hj => by
        rw [List.getElem?_map] at hj
        obtain ⟨z, hz, rfl⟩ := Option.map_eq_some_iff.1 hj
        exact h4 ad rfl j z hz) (fun u hu => by obtain ⟨z, _, rfl⟩ := List.mem_map.1 hu; rfl) (by unfold maxLen; omega) (by omega) hbase
    have ho' : w'.ownsRow base 3 1 v' (l ++ m).length ((l ++ m).map (Value.int .i64)) := by rw [List.length_append, List.map_append]; exact ho
    have hvi := iv_of_row ho' hr
    exact ⟨v', w', hr', hvi.1, hvi.2, fun q hq => (ho'.lt q hq).1, hg⟩

section
variable {w0 w : World} {b r : Nat} {D : Dv} {F G : Nat → Prop} {n : Nat} {k m c la : Int} {sh : Bool} {pv : Value}

set_option maxRecDepth 100000 in
set_option maxHeartbeats 1000000 in
theorem do_on (h : Two w0 w b r D D F G) (hu : Upto D n) (hn : n < 1000000) {l : List Int} (hv : Iv w pv l) (hl : l.length ≤ 200) (hoff : l ≠ [] → ∀ q, pv.ownBlock = some q → q < w.heap.size ∧ ¬ F q ∧ ¬ G q) :
    Calls Try.prog 11 #[ptr b, ptr r, stepV 6 k m c la sh pv] w (Does w0 b r D n) := by
  obtain ⟨h1, hc, nF, nG⟩ := boxed_two h 6 k m c la sh pv
  have hs : Small D := hu.small (by omega)
  obtain ⟨pa, pc, rfl⟩ := hv.shape
  have hbx : Below w.heap.size w (boxed w 6 k m c la sh (.slice pa l.length pc)) := (Below.refl _ _).alloc (Nat.le_refl _) _
  have HU := Lib.hid (And.intro hu (And.intro hs (And.intro hv (And.intro hl (And.intro hoff (And.intro hbx hn))))))
  have HC := Lib.hid hc
  have z1 : (boxed w 6 k m c la sh (.slice pa l.length pc)).heap.size = w.heap.size + 1 := by simp
  have HZ := Lib.hid z1
  have HF := Lib.hid (And.intro h.dev.fl h.ref.fl)
  clear h hu hc hs hv hl hoff hbx hn z1
  go_enter Try.func11, Try.ntmps11
  go_wp2_with fail
  have HX := Lib.hid (fun (W : World) (hW : W.heap[w.heap.size]? = (boxed w 6 k m c la sh (.slice pa l.length pc)).heap[w.heap.size]?) => show W.cell? ⟨w.heap.size, 6, none⟩ = some (.slice pa l.length pc) from by rw [(HC.out.kept hW).cell]; rfl)
  refine region_till 99 (fun W => W.heap[w.heap.size]? = (boxed w 6 k m c la sh (.slice pa l.length pc)).heap[w.heap.size]?) (by kernel_rfl) rfl (fun hS => ?_)
  refine take_till (i := 0) (some 133) (ptr b) rfl rfl (by kernel_rfl) (by kernel_rfl) (by kernel_rfl) (by kernel_rfl) (by decide) (fun _ _ _ h => h) (by rfl) (fun W hW => ?_) hS ?_
  · have hx := HX.out W hW
    clear hW
    go_simp
  simp only [Act.put, List.setIfInBounds_toArray, List.set_cons_zero, List.set_cons_succ]
  refine take_till (i := 2) (some 135) (.pointer (some ⟨w.heap.size, 6, none⟩)) rfl rfl (by kernel_rfl) (by kernel_rfl) (by kernel_rfl) (by kernel_rfl) (by decide) (fun _ _ _ h => h) (by rfl) (fun W hW => ?_) hS ?_
  · have hx := HX.out W hW
    clear hW
    go_simp
  simp only [Act.put, List.setIfInBounds_toArray, List.set_cons_zero, List.set_cons_succ]
  refine take_till (i := 3) (some 136) (.slice pa l.length pc) rfl rfl (by kernel_rfl) (by kernel_rfl) (by kernel_rfl) (by kernel_rfl) (by decide) (fun _ _ _ h => h) (by rfl) (fun W hW => ?_) hS ?_
  · have hx := HX.out W hW
    clear hW
    go_simp
  simp only [Act.put, List.setIfInBounds_toArray, List.set_cons_zero, List.set_cons_succ]
  refine take_till (i := 6) (some 139) (ptr r) rfl rfl (by kernel_rfl) (by kernel_rfl) (by kernel_rfl) (by kernel_rfl) (by decide) (fun _ _ _ h => h) (by rfl) (fun W hW => ?_) hS ?_
  · have hx := HX.out W hW
    clear hW
    go_simp
  simp only [Act.put, List.setIfInBounds_toArray, List.set_cons_zero, List.set_cons_succ]
  refine take_till (i := 7) (some 140) (.pointer (some ⟨w.heap.size, 6, none⟩)) rfl rfl (by kernel_rfl) (by kernel_rfl) (by kernel_rfl) (by kernel_rfl) (by decide) (fun _ _ _ h => h) (by rfl) (fun W hW => ?_) hS ?_
  · have hx := HX.out W hW
    clear hW
    go_simp
  simp only [Act.put, List.setIfInBounds_toArray, List.set_cons_zero, List.set_cons_succ]
  refine take_till (i := 8) (some 141) (.slice pa l.length pc) rfl rfl (by kernel_rfl) (by kernel_rfl) (by kernel_rfl) (by kernel_rfl) (by decide) (fun _ _ _ h => h) (by rfl) (fun W hW => ?_) hS ?_
  · have hx := HX.out W hW
    clear hW
    go_simp
  simp only [Act.put, List.setIfInBounds_toArray, List.set_cons_zero, List.set_cons_succ]
  clear hS
  refine next_till 1 (by kernel_rfl) rfl (fun K hK => ?_)
  go_simp
  have hb0 : Below (w.heap.size + 1) (boxed w 6 k m c la sh (.slice pa l.length pc)) ((boxed w 6 k m c la sh (.slice pa l.length pc)).alloc (.cells #[] 3)).drew := by
    have hb : Below (w.heap.size + 1) (boxed w 6 k m c la sh (.slice pa l.length pc)) ((boxed w 6 k m c la sh (.slice pa l.length pc)).alloc (.cells #[] 3)) := (Below.refl _ _).alloc (by rw [HZ.out]; exact Nat.le_refl _) _
    exact ⟨hb.os, hb.tape, hb.output, hb.size, hb.block⟩
  have own0 : ((boxed w 6 k m c la sh (.slice pa l.length pc)).alloc (.cells #[] 3)).drew.ownsRow (w.heap.size + 1) 3 1 (.slice (some ⟨w.heap.size + 1, 0, none⟩) ([] : List Int).length 0) ([] : List Int).length (([] : List Int).map (Value.int .i64)) := by
    have := World.ownsRow_made (w := boxed w 6 k m c la sh (.slice pa l.length pc)) (base := w.heap.size + 1) (e := 3) (size := 1) #[] 0 (by rw [HZ.out]; exact Nat.le_refl _) (by decide) rfl
    rw [HZ.out] at this
    exact this
  have hivB : Iv ((boxed w 6 k m c la sh (.slice pa l.length pc)).alloc (.cells #[] 3)).drew (.slice pa l.length pc) l := HU.out.2.2.1.kept fun q _ _ hq => (hb0.block q (by omega)).trans (HU.out.2.2.2.2.2.1.block q hq)
  have hsz0 : w.heap.size + 1 ≤ ((boxed w 6 k m c la sh (.slice pa l.length pc)).alloc (.cells #[] 3)).drew.heap.size := by rw [← HZ.out]; exact hb0.size
  obtain ⟨v', w4, hrun, hiv, ⟨va, vn, vc, rfl⟩, hloc, hg⟩ := run_append_iv _ (w.heap.size + 1) 33 own0 (by simp) hivB (by have := HU.out.2.2.2.1; simp; omega) hsz0
  have hb4 : Below (w.heap.size + 1) (boxed w 6 k m c la sh (.slice pa l.length pc)) w4 := hb0.grown hg hsz0 (fun q e => by cases e; exact Nat.le_refl _)
  have hb4' : Below (boxed w 6 k m c la sh (.slice pa l.length pc)).heap.size (boxed w 6 k m c la sh (.slice pa l.length pc)) w4 := by rw [HZ.out]; exact hb4
  have h4 := h1.later hb4'
  have k0 : ((boxed w 6 k m c la sh (.slice pa l.length pc)).alloc (.cells #[] 3)).drew.heap[w.heap.size]? = (boxed w 6 k m c la sh (.slice pa l.length pc)).heap[w.heap.size]? := hb0.block _ (by omega)
  have k4 : w4.heap[w.heap.size]? = (boxed w 6 k m c la sh (.slice pa l.length pc)).heap[w.heap.size]? := hb4.block _ (by omega)
  have hiv4 : Iv w4 (.slice pa l.length pc) l := HU.out.2.2.1.kept fun q _ _ hq => (hb4.block q (by omega)).trans (HU.out.2.2.2.2.2.1.block q hq)
  rw [List.nil_append] at hiv
  have hrun' : (Builtin.append_ #[33, 33] 33 #[.slice (some ⟨w.heap.size + 1, 0, none⟩) 0 0, .slice pa l.length pc]).run Try.prog ((boxed w 6 k m c la sh (.slice pa l.length pc)).alloc (.cells #[] 3)).drew = .ok (.slice va vn vc) w4 := hrun
  clear own0 hivB hg hb0 hrun h1
  refine hK.out _ _ (fun _ => k0) ?_
  clear hK K
  refine next_till 4 (by kernel_rfl) rfl (fun K hK => ?_)
  rw [if_pos (by rfl)]
  refine wp_append_run (.tmp 134) (.tmp 136) 33 rfl rfl rfl hrun' ?_
  refine hK.out _ _ (fun _ => k4) ?_
  simp only [Act.put, List.setIfInBounds_toArray]
  clear hK K hrun'
  refine next_till 5 (by kernel_rfl) rfl (fun K hK => ?_)
  go_simp
  refine (don_any h4.dev HU.out.2.1 hiv (fun _ q hq hf => by have := hloc q hq; have := HF.out.1 q hf; omega)).mono ?_
  rintro e w5 ⟨rfl, hd, ho⟩
  have h5 := h4.dstep hd ho
  have k5 : w5.heap[w.heap.size]? = (boxed w 6 k m c la sh (.slice pa l.length pc)).heap[w.heap.size]? := (ho.block _ (HC.out.kept k4).lt nF).trans k4
  have hiv5 : Iv w5 (.slice pa l.length pc) l := hiv4.kept fun q hq hl hlt => ho.block q hlt (HU.out.2.2.2.2.1 hl q hq).2.1
  refine hK.out _ _ (fun _ => k5) ?_
  clear hK K h4 hd ho hiv hiv4 hloc
  refine next_till 9 (by kernel_rfl) rfl (fun K hK => ?_)
  go_simp
  refine (ron_any h5.ref HU.out.2.1 hiv5 (fun hl q hq => (HU.out.2.2.2.2.1 hl q hq).2.2)).mono ?_
  rintro e w6 ⟨rfl, hr, hor⟩
  have h6 := h5.rstep hr hor
  have k6 : w6.heap[w.heap.size]? = (boxed w 6 k m c la sh (.slice pa l.length pc)).heap[w.heap.size]? := (hor.block _ (HC.out.kept k5).lt nG).trans k5
  refine hK.out _ _ (fun _ => k6) ?_
  clear hK K h5 hr hor hiv5
  refine next_till 10 (by kernel_rfl) rfl (fun K hK => ?_)
  go_simp
  refine hK.out _ _ (fun _ => k6) ?_
  clear hK K
  refine next_till 11 (by kernel_rfl) rfl (fun K hK => ?_)
  go_simp
  refine hK.out _ _ (fun _ => k6) ?_
  clear hK K
  refine done_till (by kernel_rfl) ?_ _
  go_wp2
  go_ret
  exact ⟨rfl, _, _, _, h6, ndev_upto HU.out.1 l⟩
end
end Go.Proofs.Ytcgecjedgbmmkaa
