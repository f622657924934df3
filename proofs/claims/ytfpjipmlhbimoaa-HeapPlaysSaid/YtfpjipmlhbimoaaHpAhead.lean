/- Which of two things in a heap comes ahead; condition: the second one is there. -/
import Derived.Test.YtfpjipmlhbimoaaHpMem
import Derived.Test.YtfpjipmlhbimoaaHeldLast
import Derived.Deep.CutBlock
namespace Go.Proofs.Ytfpjipmlhbimoaa
open Go.RowKit

abbrev tHeap : TypeId := 51
abbrev tThing : TypeId := 53

theorem below_set2 {B p : Nat} {w W : World} (h : Below B w W) (hp : B ≤ p) (u u' : Value) : Below B w ((W.setCell ⟨p, 0, none⟩ u).setCell ⟨p, 1, none⟩ u') := by
  exact (h.setCell hp u).setCell hp u'
theorem cel_set2 {w : World} {a g : Nat} {cs : List Value} {t : TypeId} (h : Cel w a cs t) (hn : a ≠ g) (u u' : Value) : Cel ((w.setCell ⟨g, 0, none⟩ u).setCell ⟨g, 1, none⟩ u') a cs t :=
  (h.kept (Below.heap_setCell _ _ _ _ (fun e => hn e))).kept (Below.heap_setCell _ _ _ _ (fun e => hn e))

section
variable {w : World} {b : Nat} {v : Value} {l : List Th} {F : Nat → Prop}
set_option maxRecDepth 100000 in
set_option maxHeartbeats 4000000 in
theorem ahead_any {i k : Nat} {y : Th} (h : HM tHeap tThing w b v l F) (hk : l[k]? = some y) :
    Calls Try.prog 21 #[ptr b, .int .i64 (i : Int), .int .i64 (k : Int)] w fun e w' => e = .returned (.bool (match l[i]? with
      | some x => decide (Ah x y)
      | none => false)) ∧ Below w.heap.size w w' := by
  have c0 := h.cel.cell 0
  simp only [List.getElem?_cons_zero] at c0
  obtain ⟨g, cap, rfl, k0, k1⟩ := h.row.at hk
  have hbs := h.cel.lt
  have hgs := h.row.in_heap (q := g) rfl
  by_cases hil : i < l.length
  · obtain ⟨x, hx⟩ : ∃ x, l[i]? = some x := ⟨_, List.getElem?_eq_getElem hil⟩
    obtain ⟨g', cap', e0, i0, i1⟩ := h.row.at hx
    simp only [Value.slice.injEq, Option.some.injEq, Addr.mk.injEq, and_true, true_and] at e0
    obtain ⟨rfl, rfl⟩ := e0
    have hkl := (List.getElem?_eq_some_iff.1 hk).1
    rw [hx]
    obtain ⟨r, hr⟩ : ∃ r, decide (Ah x y) = r := ⟨_, rfl⟩
    simp only
    rw [hr]
    obtain ⟨x1, x2⟩ := x
    obtain ⟨y1, y2⟩ := y
    simp only at i0 i1 k0 k1
    have hn : ∃ n, n = l.length := ⟨_, rfl⟩
    obtain ⟨n, hn⟩ := hn
    rw [← hn] at c0 hil hkl
    have hi1 : (i : Int) < (n : Int) := by omega
    have hk1 : (k : Int) < (n : Int) := by omega
    have hi0 : (0 : Int) ≤ (i : Int) := by omega
    have hk0 : (0 : Int) ≤ (k : Int) := by omega
    have hcl := fun {a : Addr} {u : Value} {W : World} (hW : Below w.heap.size w W) (hc : w.cell? a = some u) => (hW.cell (p := a) (World.block_lt_of_cell? w _ hc)).trans hc
    have HX := Lib.hid (fun (W : World) (hW : Below w.heap.size w W) => And.intro (hcl hW c0) (And.intro (hcl hW i0) (And.intro (hcl hW i1) (And.intro (hcl hW k0) (hcl hW k1)))))
    have HR := Lib.hid (And.intro hr (And.intro hx (And.intro hk (And.intro hn (And.intro hbs hgs)))))
    have hil' := hil
    clear h hk hx hr hn hbs hgs hil hkl i0 i1 k0 k1 hcl
    go_enter Try.func21, Try.ntmps21
    go_upto_region 3 with fail
    go_cut [7, 8] from 9 to 43 (fun p q wx => ∃ a c, p = ptr a ∧ q = ptr c ∧ Cel wx a [.int .i64 x1, .int .i64 x2] 53 ∧ Cel wx c [.int .i64 y1, .int .i64 y2] 53 ∧ Below w.heap.size w wx)
    case first =>
      refine region_till 99 (fun W => Below w.heap.size w W) (by kernel_rfl) (below_drewN (Below.refl _ _) 1) (fun hS => ?_)
      refine take_till (i := 0) (some 16) (.pointer (some ⟨b, 0, none⟩)) rfl rfl (by kernel_rfl) (by kernel_rfl) (by kernel_rfl) (by kernel_rfl) (by decide) (fun _ _ _ h => h) (by rfl) (fun W hW => ?_) hS ?_
      · obtain ⟨c0, i0, i1, k0, k1⟩ := HX.out W hW
        clear hW
        go_simp
      simp only [Act.put, List.setIfInBounds_toArray, List.set_cons_zero, List.set_cons_succ]
      refine take_till (i := 1) (some 17) (.pointer (some ⟨b, 0, none⟩)) rfl rfl (by kernel_rfl) (by kernel_rfl) (by kernel_rfl) (by kernel_rfl) (by decide) (fun _ _ _ h => h) (by rfl) (fun W hW => ?_) hS ?_
      · obtain ⟨c0, i0, i1, k0, k1⟩ := HX.out W hW
        clear hW
        go_simp
      simp only [Act.put, List.setIfInBounds_toArray, List.set_cons_zero, List.set_cons_succ]
      refine take_till (i := 2) (some 18) (.pointer (some ⟨b, 0, none⟩)) rfl rfl (by kernel_rfl) (by kernel_rfl) (by kernel_rfl) (by kernel_rfl) (by decide) (fun _ _ _ h => h) (by rfl) (fun W hW => ?_) hS ?_
      · obtain ⟨c0, i0, i1, k0, k1⟩ := HX.out W hW
        clear hW
        go_simp
      simp only [Act.put, List.setIfInBounds_toArray, List.set_cons_zero, List.set_cons_succ]
      refine take_till (i := 3) (some 19) (.slice (some ⟨g, 0, none⟩) n cap) rfl rfl (by kernel_rfl) (by kernel_rfl) (by kernel_rfl) (by kernel_rfl) (by decide) (fun _ _ _ h => h) (by rfl) (fun W hW => ?_) hS ?_
      · obtain ⟨c0, i0, i1, k0, k1⟩ := HX.out W hW
        clear hW
        go_simp
      simp only [Act.put, List.setIfInBounds_toArray, List.set_cons_zero, List.set_cons_succ]
      refine take_till (i := 4) (some 20) (.int .i64 (i : Int)) rfl rfl (by kernel_rfl) (by kernel_rfl) (by kernel_rfl) (by kernel_rfl) (by decide) (fun _ _ _ h => h) (by rfl) (fun W hW => ?_) hS ?_
      · obtain ⟨c0, i0, i1, k0, k1⟩ := HX.out W hW
        clear hW
        go_simp
      simp only [Act.put, List.setIfInBounds_toArray, List.set_cons_zero, List.set_cons_succ]
      refine take_till (i := 5) (some 21) (.pointer (some ⟨g, i * 2, none⟩)) rfl rfl (by kernel_rfl) (by kernel_rfl) (by kernel_rfl) (by kernel_rfl) (by decide) (fun _ _ _ h => h) (by rfl) (fun W hW => ?_) hS ?_
      · obtain ⟨c0, i0, i1, k0, k1⟩ := HX.out W hW
        clear hW
        go_simp
      simp only [Act.put, List.setIfInBounds_toArray, List.set_cons_zero, List.set_cons_succ]
      refine take_till (i := 6) (some 22) (.agg #[.int .i64 x1, .int .i64 x2]) rfl rfl (by kernel_rfl) (by kernel_rfl) (by kernel_rfl) (by kernel_rfl) (by decide) (fun _ _ _ h => h) (by rfl) (fun W hW => ?_) hS ?_
      · obtain ⟨c0, i0, i1, k0, k1⟩ := HX.out W hW
        clear hW
        go_simp
      simp only [Act.put, List.setIfInBounds_toArray, List.set_cons_zero, List.set_cons_succ]
      refine take_till (i := 7) (some 23) (.pointer (some ⟨b, 0, none⟩)) rfl rfl (by kernel_rfl) (by kernel_rfl) (by kernel_rfl) (by kernel_rfl) (by decide) (fun _ _ _ h => h) (by rfl) (fun W hW => ?_) hS ?_
      · obtain ⟨c0, i0, i1, k0, k1⟩ := HX.out W hW
        clear hW
        go_simp
      simp only [Act.put, List.setIfInBounds_toArray, List.set_cons_zero, List.set_cons_succ]
      refine take_till (i := 8) (some 24) (.pointer (some ⟨b, 0, none⟩)) rfl rfl (by kernel_rfl) (by kernel_rfl) (by kernel_rfl) (by kernel_rfl) (by decide) (fun _ _ _ h => h) (by rfl) (fun W hW => ?_) hS ?_
      · obtain ⟨c0, i0, i1, k0, k1⟩ := HX.out W hW
        clear hW
        go_simp
      simp only [Act.put, List.setIfInBounds_toArray, List.set_cons_zero, List.set_cons_succ]
      refine take_till (i := 9) (some 25) (.pointer (some ⟨b, 0, none⟩)) rfl rfl (by kernel_rfl) (by kernel_rfl) (by kernel_rfl) (by kernel_rfl) (by decide) (fun _ _ _ h => h) (by rfl) (fun W hW => ?_) hS ?_
      · obtain ⟨c0, i0, i1, k0, k1⟩ := HX.out W hW
        clear hW
        go_simp
      simp only [Act.put, List.setIfInBounds_toArray, List.set_cons_zero, List.set_cons_succ]
      refine take_till (i := 10) (some 26) (.slice (some ⟨g, 0, none⟩) n cap) rfl rfl (by kernel_rfl) (by kernel_rfl) (by kernel_rfl) (by kernel_rfl) (by decide) (fun _ _ _ h => h) (by rfl) (fun W hW => ?_) hS ?_
      · obtain ⟨c0, i0, i1, k0, k1⟩ := HX.out W hW
        clear hW
        go_simp
      simp only [Act.put, List.setIfInBounds_toArray, List.set_cons_zero, List.set_cons_succ]
      refine take_till (i := 11) (some 27) (.int .i64 (k : Int)) rfl rfl (by kernel_rfl) (by kernel_rfl) (by kernel_rfl) (by kernel_rfl) (by decide) (fun _ _ _ h => h) (by rfl) (fun W hW => ?_) hS ?_
      · obtain ⟨c0, i0, i1, k0, k1⟩ := HX.out W hW
        clear hW
        go_simp
      simp only [Act.put, List.setIfInBounds_toArray, List.set_cons_zero, List.set_cons_succ]
      refine take_till (i := 12) (some 28) (.pointer (some ⟨g, k * 2, none⟩)) rfl rfl (by kernel_rfl) (by kernel_rfl) (by kernel_rfl) (by kernel_rfl) (by decide) (fun _ _ _ h => h) (by rfl) (fun W hW => ?_) hS ?_
      · obtain ⟨c0, i0, i1, k0, k1⟩ := HX.out W hW
        clear hW
        go_simp
      simp only [Act.put, List.setIfInBounds_toArray, List.set_cons_zero, List.set_cons_succ]
      refine take_till (i := 13) (some 29) (.agg #[.int .i64 y1, .int .i64 y2]) rfl rfl (by kernel_rfl) (by kernel_rfl) (by kernel_rfl) (by kernel_rfl) (by decide) (fun _ _ _ h => h) (by rfl) (fun W hW => ?_) hS ?_
      · obtain ⟨c0, i0, i1, k0, k1⟩ := HX.out W hW
        clear hW
        go_simp
      simp only [Act.put, List.setIfInBounds_toArray, List.set_cons_zero, List.set_cons_succ]
      generalize w.drew = W at hS ⊢
      refine two_till 14 15 (by kernel_rfl) rfl rfl (fun K hK => ?_) (fun K hK => ?_)
      · go_simp
        have h1 : Below w.heap.size w (W.alloc (.cells #[.int .i64 0, .int .i64 0] 53)) := hS.alloc hS.size _
        refine hK.out _ _ (fun _ => h1) ?_
        clear hK K
        have C1 := Cel.new W #[.int .i64 0, .int .i64 0] 53
        have hz1 := hS.size
        refine next_till 15 (by kernel_rfl) rfl (fun K hK => ?_)
        go_simp
        have h2 : Below w.heap.size w ((W.alloc (.cells #[.int .i64 0, .int .i64 0] 53)).alloc (.cells #[.int .i64 0, .int .i64 0] 53)) := h1.alloc h1.size _
        refine hK.out _ _ (fun _ => h2) ?_
        clear hK K
        have C2 := Cel.new (W.alloc (.cells #[.int .i64 0, .int .i64 0] 53)) #[.int .i64 0, .int .i64 0] 53
        have C1' := C1.alloc (.cells #[.int .i64 0, .int .i64 0] 53)
        have es : (W.alloc (.cells #[.int .i64 0, .int .i64 0] 53)).heap.size = W.heap.size + 1 := by simp
        rw [es] at C2
        generalize (W.alloc (.cells #[.int .i64 0, .int .i64 0] 53)).alloc (.cells #[.int .i64 0, .int .i64 0] 53) = W2 at *
        generalize hp : W.heap.size = p at *
        clear C1 es h1
        have k0 := C1'.cell 0
        have k1 := C1'.cell 1
        have f0 := C1'.frozen 0
        have f1 := C1'.frozen 1
        have k2 := C2.cell 0
        have k3 := C2.cell 1
        have f2 := C2.frozen 0
        have f3 := C2.frozen 1
        refine next_till 16 (by kernel_rfl) rfl (fun K hK => ?_)
        go_simp
        have h3 : Below w.heap.size w ((W2.setCell ⟨p, 0, none⟩ (.int .i64 x1)).setCell ⟨p, 1, none⟩ (.int .i64 x2)) := below_set2 h2 (by omega) _ _
        refine hK.out _ _ (fun _ => h3) ?_
        clear hK K
        have CA := (C1'.set 0 (.int .i64 x1)).set 1 (.int .i64 x2)
        have CB := cel_set2 C2 (g := p) (by omega) (.int .i64 x1) (.int .i64 x2)
        generalize (W2.setCell ⟨p, 0, none⟩ (.int .i64 x1)).setCell ⟨p, 1, none⟩ (.int .i64 x2) = W3 at *
        clear k0 k1 k2 k3 f0 f1 f2 f3 C1' C2 h2
        have k0 := CB.cell 0
        have k1 := CB.cell 1
        have f0 := CB.frozen 0
        have f1 := CB.frozen 1
        refine next_till 17 (by kernel_rfl) rfl (fun K hK => ?_)
        go_simp
        have h4 : Below w.heap.size w ((W3.setCell ⟨p + 1, 0, none⟩ (.int .i64 y1)).setCell ⟨p + 1, 1, none⟩ (.int .i64 y2)) := below_set2 h3 (by omega) _ _
        refine hK.out _ _ (fun _ => h4) ?_
        clear hK K
        have CA' := cel_set2 CA (g := p + 1) (by omega) (.int .i64 y1) (.int .i64 y2)
        have CB' := (CB.set 0 (.int .i64 y1)).set 1 (.int .i64 y2)
        generalize (W3.setCell ⟨p + 1, 0, none⟩ (.int .i64 y1)).setCell ⟨p + 1, 1, none⟩ (.int .i64 y2) = W4 at *
        refine done_till (by kernel_rfl) ?_ _
        have HQ := Lib.hid (And.intro CA' (And.intro CB' h4))
        clear CA' CB' h4 CA CB h3 k0 k1 f0 f1
        go_wp2_with fail
        go_meet
        case rel => exact ⟨p, p + 1, rfl, rfl, HQ.out.1, HQ.out.2.1, HQ.out.2.2⟩
      · go_simp
        have h1 : Below w.heap.size w (W.alloc (.cells #[.int .i64 0, .int .i64 0] 53)) := hS.alloc hS.size _
        refine hK.out _ _ (fun _ => h1) ?_
        clear hK K
        have C1 := Cel.new W #[.int .i64 0, .int .i64 0] 53
        have hz1 := hS.size
        refine next_till 14 (by kernel_rfl) rfl (fun K hK => ?_)
        go_simp
        have h2 : Below w.heap.size w ((W.alloc (.cells #[.int .i64 0, .int .i64 0] 53)).alloc (.cells #[.int .i64 0, .int .i64 0] 53)) := h1.alloc h1.size _
        refine hK.out _ _ (fun _ => h2) ?_
        clear hK K
        have C2 := Cel.new (W.alloc (.cells #[.int .i64 0, .int .i64 0] 53)) #[.int .i64 0, .int .i64 0] 53
        have C1' := C1.alloc (.cells #[.int .i64 0, .int .i64 0] 53)
        have es : (W.alloc (.cells #[.int .i64 0, .int .i64 0] 53)).heap.size = W.heap.size + 1 := by simp
        rw [es] at C2
        generalize (W.alloc (.cells #[.int .i64 0, .int .i64 0] 53)).alloc (.cells #[.int .i64 0, .int .i64 0] 53) = W2 at *
        generalize hp : W.heap.size = p at *
        clear C1 es h1
        have k0 := C1'.cell 0
        have k1 := C1'.cell 1
        have f0 := C1'.frozen 0
        have f1 := C1'.frozen 1
        have k2 := C2.cell 0
        have k3 := C2.cell 1
        have f2 := C2.frozen 0
        have f3 := C2.frozen 1
        refine next_till 16 (by kernel_rfl) rfl (fun K hK => ?_)
        go_simp
        have h3 : Below w.heap.size w ((W2.setCell ⟨p + 1, 0, none⟩ (.int .i64 x1)).setCell ⟨p + 1, 1, none⟩ (.int .i64 x2)) := below_set2 h2 (by omega) _ _
        refine hK.out _ _ (fun _ => h3) ?_
        clear hK K
        have CA := (C2.set 0 (.int .i64 x1)).set 1 (.int .i64 x2)
        have CB := cel_set2 C1' (g := p + 1) (by omega) (.int .i64 x1) (.int .i64 x2)
        generalize (W2.setCell ⟨p + 1, 0, none⟩ (.int .i64 x1)).setCell ⟨p + 1, 1, none⟩ (.int .i64 x2) = W3 at *
        clear k0 k1 k2 k3 f0 f1 f2 f3 C1' C2 h2
        have k0 := CB.cell 0
        have k1 := CB.cell 1
        have f0 := CB.frozen 0
        have f1 := CB.frozen 1
        refine next_till 17 (by kernel_rfl) rfl (fun K hK => ?_)
        go_simp
        have h4 : Below w.heap.size w ((W3.setCell ⟨p, 0, none⟩ (.int .i64 y1)).setCell ⟨p, 1, none⟩ (.int .i64 y2)) := below_set2 h3 (by omega) _ _
        refine hK.out _ _ (fun _ => h4) ?_
        clear hK K
        have CA' := cel_set2 CA (g := p) (by omega) (.int .i64 y1) (.int .i64 y2)
        have CB' := (CB.set 0 (.int .i64 y1)).set 1 (.int .i64 y2)
        generalize (W3.setCell ⟨p, 0, none⟩ (.int .i64 y1)).setCell ⟨p, 1, none⟩ (.int .i64 y2) = W4 at *
        refine done_till (by kernel_rfl) ?_ _
        have HQ := Lib.hid (And.intro CA' (And.intro CB' h4))
        clear CA' CB' h4 CA CB h3 k0 k1 f0 f1
        go_wp2_with fail
        go_meet
        case rel => exact ⟨p + 1, p, rfl, rfl, HQ.out.1, HQ.out.2.1, HQ.out.2.2⟩
    case rest =>
      obtain ⟨pa, pc, rfl, rfl, A1, A2, hbw⟩ := hcut
      have HW := Lib.hid (And.intro A1 (And.intro A2 hbw))
      have hcw := fun {a : Addr} {u : Value} {W : World} (hW : Below wc.heap.size wc W) (hc : wc.cell? a = some u) => (hW.cell (p := a) (World.block_lt_of_cell? wc _ hc)).trans hc
      have a0 := A1.cell 0
      have a1 := A1.cell 1
      have a2 := A2.cell 0
      have a3 := A2.cell 1
      simp only [List.getElem?_cons_zero, List.getElem?_cons_succ] at a0 a1 a2 a3
      have HY := Lib.hid (fun (W : World) (hW : Below wc.heap.size wc W) => And.intro (hcw hW a0) (And.intro (hcw hW a1) (And.intro (hcw hW a2) (hcw hW a3))))
      clear A1 A2 hbw hcw a0 a1 a2 a3 HX
      go_wp2_with fail
      refine region_till 99 (fun W => Below wc.heap.size wc W) (by kernel_rfl) (below_drewN (Below.refl _ _) 1) (fun hS => ?_)
      refine take_till (i := 0) (some 30) (.pointer (some ⟨pa, 0, none⟩)) rfl rfl (by kernel_rfl) (by kernel_rfl) (by kernel_rfl) (by kernel_rfl) (by decide) (fun _ _ _ h => h) (by rfl) (fun W hW => ?_) hS ?_
      · obtain ⟨c0, i0, i1, k0⟩ := HY.out W hW
        clear hW
        go_simp
      simp only [Act.put, List.setIfInBounds_toArray, List.set_cons_zero, List.set_cons_succ]
      refine take_till (i := 1) (some 31) (.int .i64 x1) rfl rfl (by kernel_rfl) (by kernel_rfl) (by kernel_rfl) (by kernel_rfl) (by decide) (fun _ _ _ h => h) (by rfl) (fun W hW => ?_) hS ?_
      · obtain ⟨c0, i0, i1, k0⟩ := HY.out W hW
        clear hW
        go_simp
      simp only [Act.put, List.setIfInBounds_toArray, List.set_cons_zero, List.set_cons_succ]
      refine take_till (i := 2) (some 32) (.pointer (some ⟨pc, 0, none⟩)) rfl rfl (by kernel_rfl) (by kernel_rfl) (by kernel_rfl) (by kernel_rfl) (by decide) (fun _ _ _ h => h) (by rfl) (fun W hW => ?_) hS ?_
      · obtain ⟨c0, i0, i1, k0⟩ := HY.out W hW
        clear hW
        go_simp
      simp only [Act.put, List.setIfInBounds_toArray, List.set_cons_zero, List.set_cons_succ]
      refine take_till (i := 3) (some 33) (.int .i64 y1) rfl rfl (by kernel_rfl) (by kernel_rfl) (by kernel_rfl) (by kernel_rfl) (by decide) (fun _ _ _ h => h) (by rfl) (fun W hW => ?_) hS ?_
      · obtain ⟨c0, i0, i1, k0⟩ := HY.out W hW
        clear hW
        go_simp
      simp only [Act.put, List.setIfInBounds_toArray, List.set_cons_zero, List.set_cons_succ]
      refine take_till (i := 5) (some 35) (.pointer (some ⟨pa, 1, none⟩)) rfl rfl (by kernel_rfl) (by kernel_rfl) (by kernel_rfl) (by kernel_rfl) (by decide) (fun _ _ _ h => h) (by rfl) (fun W hW => ?_) hS ?_
      · obtain ⟨c0, i0, i1, k0⟩ := HY.out W hW
        clear hW
        go_simp
      simp only [Act.put, List.setIfInBounds_toArray, List.set_cons_zero, List.set_cons_succ]
      refine take_till (i := 6) (some 36) (.int .i64 x2) rfl rfl (by kernel_rfl) (by kernel_rfl) (by kernel_rfl) (by kernel_rfl) (by decide) (fun _ _ _ h => h) (by rfl) (fun W hW => ?_) hS ?_
      · obtain ⟨c0, i0, i1, k0⟩ := HY.out W hW
        clear hW
        go_simp
      simp only [Act.put, List.setIfInBounds_toArray, List.set_cons_zero, List.set_cons_succ]
      refine take_till (i := 7) (some 37) (.pointer (some ⟨pc, 1, none⟩)) rfl rfl (by kernel_rfl) (by kernel_rfl) (by kernel_rfl) (by kernel_rfl) (by decide) (fun _ _ _ h => h) (by rfl) (fun W hW => ?_) hS ?_
      · obtain ⟨c0, i0, i1, k0⟩ := HY.out W hW
        clear hW
        go_simp
      simp only [Act.put, List.setIfInBounds_toArray, List.set_cons_zero, List.set_cons_succ]
      refine take_till (i := 8) (some 38) (.int .i64 y2) rfl rfl (by kernel_rfl) (by kernel_rfl) (by kernel_rfl) (by kernel_rfl) (by decide) (fun _ _ _ h => h) (by rfl) (fun W hW => ?_) hS ?_
      · obtain ⟨c0, i0, i1, k0⟩ := HY.out W hW
        clear hW
        go_simp
      simp only [Act.put, List.setIfInBounds_toArray, List.set_cons_zero, List.set_cons_succ]
      generalize wc.drew = W at hS ⊢
      refine next_till 4 (by kernel_rfl) rfl (fun K hK => ?_)
      go_simp
      refine (compare64_any x1 y1 _).mono ?_
      rintro e w3 ⟨rfl, rfl⟩
      go_simp
      refine hK.out _ _ (fun _ => hS) ?_
      clear hK K
      refine next_till 9 (by kernel_rfl) rfl (fun K hK => ?_)
      go_simp
      refine (compare_any x2 y2 _).mono ?_
      rintro e w3 ⟨rfl, rfl⟩
      go_simp
      refine hK.out _ _ (fun _ => hS) ?_
      clear hK K
      refine next_till 10 (by kernel_rfl) rfl (fun K hK => ?_)
      go_simp
      have hb2 : Below wc.heap.size wc (W.alloc (.cells #[.int .i64 (cmpI x1 y1), .int .i64 (cmpI x2 y2)] 3)) := hS.alloc hS.size _
      refine hK.out _ _ (fun _ => hb2) ?_
      clear hK K
      have O := or_any (cmpI x1 y1) (cmpI x2 y2) 3 _ (Cel.new W #[.int .i64 (cmpI x1 y1), .int .i64 (cmpI x2 y2)] 3)
      generalize W.alloc (.cells #[.int .i64 (cmpI x1 y1), .int .i64 (cmpI x2 y2)] 3) = W2 at *
      refine next_till 11 (by kernel_rfl) rfl (fun K hK => ?_)
      go_simp
      refine O.mono ?_
      rintro e w3 ⟨rfl, rfl⟩
      go_simp
      refine hK.out _ _ (fun _ => hb2) ?_
      clear hK K O hS
      have hS := hb2
      generalize hor : orI (cmpI x1 y1) (cmpI x2 y2) = z at *
      have HO := Lib.hid hor
      clear hor
      obtain ⟨r2, hr2⟩ : ∃ r2, decide (z < 0) = r2 := ⟨_, rfl⟩
      refine take_till (i := 12) (some 42) (.bool r2) rfl rfl (by kernel_rfl) (by kernel_rfl) (by kernel_rfl) (by kernel_rfl) (by decide) (fun _ _ _ h => h) (by rfl) (fun W hW => ?_) hS ?_
      · obtain ⟨c0, i0, i1, k0⟩ := HY.out W hW
        clear hW
        go_simp
      simp only [Act.put, List.setIfInBounds_toArray, List.set_cons_zero, List.set_cons_succ]
      refine take_till (i := 13) (some 6) (.bool r2) rfl rfl (by kernel_rfl) (by kernel_rfl) (by kernel_rfl) (by kernel_rfl) (by decide) (fun _ _ _ h => h) (by rfl) (fun W hW => ?_) hS ?_
      · obtain ⟨c0, i0, i1, k0⟩ := HY.out W hW
        clear hW
        go_simp
      simp only [Act.put, List.setIfInBounds_toArray, List.set_cons_zero, List.set_cons_succ]
      refine done_till (by kernel_rfl) ?_ _
      go_wp2
      go_ret
      have hr := HR.out.1
      have ho := HO.out
      have hb := HW.out.2.2.trans (hS.mono HW.out.2.2.size)
      refine ⟨?_, hb⟩
      rw [← hr, ← hr2, ← ho]
      have := ahI (x1, x2) (y1, y2)
      simp only at this
      simp [this]
  · have hx : l[i]? = none := List.getElem?_eq_none (by omega)
    rw [hx]
    obtain ⟨n, hn⟩ : ∃ n, n = l.length := ⟨_, rfl⟩
    rw [← hn] at c0 hil
    have hi1 : ¬ (i : Int) < (n : Int) := by omega
    clear h hk hx hn hbs hgs k0 k1 hil
    go_enter Try.func21, Try.ntmps21
    go_wp2
    go_ret
    exact ⟨rfl, Below.refl _ _⟩
end
end Go.Proofs.Ytfpjipmlhbimoaa
