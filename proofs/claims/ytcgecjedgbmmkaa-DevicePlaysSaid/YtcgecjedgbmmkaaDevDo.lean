/- A step by both devices: Flush, Off, Arm, and what is none; conditions: both lie in memory, with the same content. -/
import Derived.Test.YtcgecjedgbmmkaaDevStep
namespace Go.Proofs.Ytcgecjedgbmmkaa
open Go.RowKit Go.Maps

/-- Both answer alike, and have the same content. -/
def Does (w0 : World) (b r : Nat) (D : Dv) (n : Nat) (e : Ending) (w' : World) : Prop :=
  e = .returned (.bool true) ∧ ∃ D' F' G', Two w0 w' b r D' D' F' G' ∧ Upto D' (n + 1) ∧ D'.bk.length = D.bk.length

/-- A step, as it is handed in. -/
abbrev stepV (o k m c la : Int) (sh : Bool) (pv : Value) : Value := .agg #[.int .i64 o, .int .i64 k, .int .i64 m, .int .u8 c, .int .u8 la, .bool sh, pv]
abbrev stepL (o k m c la : Int) (sh : Bool) (pv : Value) : List Value := [.int .i64 o, .int .i64 k, .int .i64 m, .int .u8 c, .int .u8 la, .bool sh, pv]
abbrev boxed (w : World) (o k m c la : Int) (sh : Bool) (pv : Value) : World := w.alloc (.cells #[.int .i64 o, .int .i64 k, .int .i64 m, .int .u8 c, .int .u8 la, .bool sh, pv] 35)

section
variable {w0 w : World} {b r : Nat} {D : Dv} {F G : Nat → Prop} {n : Nat} {k m c la : Int} {sh : Bool} {pv : Value}

theorem boxed_two (h : Two w0 w b r D D F G) (o k m c la : Int) (sh : Bool) (pv : Value) : Two w0 (boxed w o k m c la sh pv) b r D D F G ∧ Cel (boxed w o k m c la sh pv) w.heap.size (stepL o k m c la sh pv) 35 ∧ ¬ F w.heap.size ∧ ¬ G w.heap.size :=
  ⟨h.later ((Below.refl _ _).alloc (Nat.le_refl _) _), Cel.new w _ _, (fun hf => by have := h.dev.fl _ hf; omega), fun hf => by have := h.ref.fl _ hf; omega⟩

set_option maxRecDepth 100000 in
theorem do_flush (h : Two w0 w b r D D F G) (hu : Upto D n) (hn : n < 1000000) : Calls Try.prog 11 #[ptr b, ptr r, stepV 2 k m c la sh pv] w (Does w0 b r D n) := by
  have h1 := (boxed_two h 2 k m c la sh pv).1
  have hs : Small D := hu.small (by omega)
  have HU := Lib.hid hu
  clear h hu
  go_enter Try.func11, Try.ntmps11
  go_wp2_with fail
  refine (dflush_any h1.dev hs).mono ?_
  rintro e w2 ⟨rfl, hd, ho⟩
  have h2 := h1.dstep hd ho
  clear h1 hd ho
  go_wp2_with fail
  refine (rflush_any h2.ref).mono ?_
  rintro e w3 ⟨rfl, hr, hor⟩
  have h3 := h2.rstep hr hor
  clear h2 hr hor
  go_wp2
  go_ret
  exact ⟨rfl, _, _, _, h3, fdev_upto HU.out⟩

set_option maxRecDepth 100000 in
theorem do_off (h : Two w0 w b r D D F G) (hu : Upto D n) : Calls Try.prog 11 #[ptr b, ptr r, stepV 5 k m c la sh pv] w (Does w0 b r D n) := by
  have h1 := (boxed_two h 5 k m c la sh pv).1
  have HU := Lib.hid hu
  clear h hu
  go_enter Try.func11, Try.ntmps11
  go_wp2_with fail
  refine (doff_any h1.dev).mono ?_
  rintro e w2 ⟨rfl, hd, ho⟩
  have h2 := h1.dstep hd ho
  clear h1 hd ho
  go_wp2_with fail
  refine (roff_any h2.ref).mono ?_
  rintro e w3 ⟨rfl, hr, hor⟩
  have h3 := h2.rstep hr hor
  clear h2 hr hor
  go_wp2
  go_ret
  exact ⟨rfl, _, _, _, h3, odev_upto HU.out⟩

set_option maxRecDepth 100000 in
theorem do_none (h : Two w0 w b r D D F G) (hu : Upto D n) {o : Int} (h1 : o ≠ 1) (h2 : o ≠ 2) (h3 : o ≠ 3) (h4 : o ≠ 4) (h5 : o ≠ 5) (h6 : o ≠ 6) : Calls Try.prog 11 #[ptr b, ptr r, stepV o k m c la sh pv] w (Does w0 b r D n) := by
  have hb := (boxed_two h o k m c la sh pv).1
  have HU := Lib.hid (And.intro hu hb)
  have e1 : (o == 1) = false := by simpa using h1
  have e2 : (o == 2) = false := by simpa using h2
  have e3 : (o == 3) = false := by simpa using h3
  have e4 : (o == 4) = false := by simpa using h4
  have e5 : (o == 5) = false := by simpa using h5
  have e6 : (o == 6) = false := by simpa using h6
  clear h hu hb h1 h2 h3 h4 h5 h6
  go_enter Try.func11, Try.ntmps11
  go_wp2
  go_ret
  exact ⟨rfl, _, _, _, HU.out.2, HU.out.1.more (by omega), rfl⟩

set_option maxRecDepth 100000 in
theorem do_arm (h : Two w0 w b r D D F G) (hu : Upto D n) (hm : m ≤ 9223372036854775807) : Calls Try.prog 11 #[ptr b, ptr r, stepV 4 k m c la sh pv] w (Does w0 b r D n) := by
  obtain ⟨h1, hc, nF, nG⟩ := boxed_two h 4 k m c la sh pv
  have HU := Lib.hid hu
  have HC := Lib.hid hc
  clear h hu hc
  go_enter Try.func11, Try.ntmps11
  go_wp2_with fail
  have HX := Lib.hid (fun (W : World) (hW : W.heap[w.heap.size]? = (boxed w 4 k m c la sh pv).heap[w.heap.size]?) => show W.cell? ⟨w.heap.size, 2, none⟩ = some (.int .i64 m) from by rw [(HC.out.kept hW).cell]; rfl)
  refine region_till 99 (fun W => W.heap[w.heap.size]? = (boxed w 4 k m c la sh pv).heap[w.heap.size]?) (by kernel_rfl) rfl (fun hS => ?_)
  refine take_till (i := 0) (some 115) (ptr b) rfl rfl (by kernel_rfl) (by kernel_rfl) (by kernel_rfl) (by kernel_rfl) (by decide) (fun _ _ _ h => h) (by rfl) (fun W hW => ?_) hS ?_
  · have hx := HX.out W hW
    clear hW
    go_simp
  simp only [Act.put, List.setIfInBounds_toArray, List.set_cons_zero, List.set_cons_succ]
  refine take_till (i := 1) (some 116) (.pointer (some ⟨w.heap.size, 2, none⟩)) rfl rfl (by kernel_rfl) (by kernel_rfl) (by kernel_rfl) (by kernel_rfl) (by decide) (fun _ _ _ h => h) (by rfl) (fun W hW => ?_) hS ?_
  · have hx := HX.out W hW
    clear hW
    go_simp
  simp only [Act.put, List.setIfInBounds_toArray, List.set_cons_zero, List.set_cons_succ]
  refine take_till (i := 2) (some 117) (.int .i64 m) rfl rfl (by kernel_rfl) (by kernel_rfl) (by kernel_rfl) (by kernel_rfl) (by decide) (fun _ _ _ h => h) (by rfl) (fun W hW => ?_) hS ?_
  · have hx := HX.out W hW
    clear hW
    go_simp
  simp only [Act.put, List.setIfInBounds_toArray, List.set_cons_zero, List.set_cons_succ]
  refine take_till (i := 4) (some 119) (ptr r) rfl rfl (by kernel_rfl) (by kernel_rfl) (by kernel_rfl) (by kernel_rfl) (by decide) (fun _ _ _ h => h) (by rfl) (fun W hW => ?_) hS ?_
  · have hx := HX.out W hW
    clear hW
    go_simp
  simp only [Act.put, List.setIfInBounds_toArray, List.set_cons_zero, List.set_cons_succ]
  refine take_till (i := 5) (some 120) (.pointer (some ⟨w.heap.size, 2, none⟩)) rfl rfl (by kernel_rfl) (by kernel_rfl) (by kernel_rfl) (by kernel_rfl) (by decide) (fun _ _ _ h => h) (by rfl) (fun W hW => ?_) hS ?_
  · have hx := HX.out W hW
    clear hW
    go_simp
  simp only [Act.put, List.setIfInBounds_toArray, List.set_cons_zero, List.set_cons_succ]
  refine take_till (i := 6) (some 121) (.int .i64 m) rfl rfl (by kernel_rfl) (by kernel_rfl) (by kernel_rfl) (by kernel_rfl) (by decide) (fun _ _ _ h => h) (by rfl) (fun W hW => ?_) hS ?_
  · have hx := HX.out W hW
    clear hW
    go_simp
  simp only [Act.put, List.setIfInBounds_toArray, List.set_cons_zero, List.set_cons_succ]
  clear hS
  refine next_till 3 (by kernel_rfl) rfl (fun K hK => ?_)
  go_simp
  have hD := h1.later (w' := (boxed w 4 k m c la sh pv).drew) ⟨rfl, rfl, rfl, Nat.le_refl _, fun _ _ => rfl⟩
  refine (darm_any hD.dev m hm).mono ?_
  rintro e w2 ⟨rfl, hd, ho⟩
  have h2 := hD.dstep hd ho
  have k2 : w2.heap[w.heap.size]? = (boxed w 4 k m c la sh pv).heap[w.heap.size]? := ho.block _ (by show _ < (boxed w 4 k m c la sh pv).heap.size; simp) nF
  refine hK.out _ _ (fun _ => k2) ?_
  clear hK K h1 hd ho hD
  refine next_till 7 (by kernel_rfl) rfl (fun K hK => ?_)
  go_simp
  refine (rarm_any h2.ref m hm).mono ?_
  rintro e w3 ⟨rfl, hr, hor⟩
  have h3 := h2.rstep hr hor
  have k3 : w3.heap[w.heap.size]? = (boxed w 4 k m c la sh pv).heap[w.heap.size]? := (hor.block _ (HC.out.kept k2).lt nG).trans k2
  refine hK.out _ _ (fun _ => k3) ?_
  clear hK K h2 hr hor
  refine next_till 8 (by kernel_rfl) rfl (fun K hK => ?_)
  go_simp
  refine hK.out _ _ (fun _ => k3) ?_
  clear hK K
  refine next_till 9 (by kernel_rfl) rfl (fun K hK => ?_)
  go_simp
  refine hK.out _ _ (fun _ => k3) ?_
  clear hK K
  refine done_till (by kernel_rfl) ?_ _
  go_wp2
  go_ret
  exact ⟨rfl, _, _, _, h3, adev_upto HU.out m⟩
end
end Go.Proofs.Ytcgecjedgbmmkaa
