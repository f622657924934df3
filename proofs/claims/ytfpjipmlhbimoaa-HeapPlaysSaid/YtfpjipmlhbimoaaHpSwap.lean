/- Two things of a heap in each other's place; condition: both are there. -/
import Derived.Test.YtfpjipmlhbimoaaHpAhead
namespace Go.Proofs.Ytfpjipmlhbimoaa
open Go.RowKit

section
variable {w : World} {b : Nat} {v : Value} {l : List Th} {F : Nat → Prop}
set_option maxRecDepth 100000 in
set_option maxHeartbeats 4000000 in
theorem swap_any {i k : Nat} {x y : Th} (h : HM tHeap tThing w b v l F) (hi : l[i]? = some x) (hk : l[k]? = some y) :
    Calls Try.prog 22 #[ptr b, .int .i64 (i : Int), .int .i64 (k : Int)] w fun e w' => e = .returned (.int .i64 (k : Int)) ∧ HM tHeap tThing w' b v (swp l i k) F ∧ Only F w w' := by
  rw [swp_of hi hk]
  have c0 := h.cel.cell 0
  simp only [List.getElem?_cons_zero] at c0
  obtain ⟨g, cap, rfl, k0, k1⟩ := h.row.at hk
  obtain ⟨g', cap', e0, i0, i1⟩ := h.row.at hi
  simp only [Value.slice.injEq, Option.some.injEq, Addr.mk.injEq, and_true, true_and] at e0
  obtain ⟨rfl, rfl⟩ := e0
  have hil := (List.getElem?_eq_some_iff.1 hi).1
  have hkl := (List.getElem?_eq_some_iff.1 hk).1
  have hgb : g ≠ b := h.2.2.2 g rfl
  have hgF : F g := (h.2.2.1 g).2 (.inr rfl)
  have hst : ∀ (W : World) (m : List Th), HM tHeap tThing W b (.slice (some ⟨g, 0, none⟩) l.length cap) m F → m.length = l.length → ∀ (j : Nat) (z : Th), j < m.length →
      HM tHeap tThing ((W.setCell ⟨g, j * 2, none⟩ (.int .i64 z.1)).setCell ⟨g, j * 2 + 1, none⟩ (.int .i64 z.2)) b (.slice (some ⟨g, 0, none⟩) l.length cap) (m.set j z) F := by
    intro W m hm hml j z hj
    have hr := hm.row
    rw [← hml] at hr
    have h1 := hr.set hj z
    rw [hml] at h1
    exact ⟨(hm.cel.kept (Below.heap_setCell _ _ _ _ (fun e => hgb e.symm))).kept (Below.heap_setCell _ _ _ _ (fun e => hgb e.symm)), h1, hm.2.2⟩
  obtain ⟨n, hn⟩ : ∃ n, n = l.length := ⟨_, rfl⟩
  obtain ⟨x1, x2⟩ := x
  obtain ⟨y1, y2⟩ := y
  simp only at i0 i1 k0 k1
  have hfr := fun j => Row.free h.row j
  rw [← hn] at c0 hil hkl hst
  have hi1 : (i : Int) < (n : Int) := by omega
  have hk1 : (k : Int) < (n : Int) := by omega
  have hi0 : (0 : Int) ≤ (i : Int) := by omega
  have hk0 : (0 : Int) ≤ (k : Int) := by omega
  rw [← hn] at h
  have HH := Lib.hid (And.intro h (And.intro hi (And.intro hk (And.intro hn (And.intro hst (And.intro hgF (And.intro hil hkl)))))))
  have hil' := hil
  have hkl' := hkl
  clear h hi hk hn hst hgF hil hkl hgb
  go_enter Try.func22, Try.ntmps22
  go_wp2_with fail
  refine region_till 99 (fun W => W.cell? ⟨b, 0, none⟩ = some (.slice (some ⟨g, 0, none⟩) n cap)) (by kernel_rfl) c0 (fun hS => ?_)
  refine take_till (i := 0) (some 7) (.pointer (some ⟨b, 0, none⟩)) rfl rfl (by kernel_rfl) (by kernel_rfl) (by kernel_rfl) (by kernel_rfl) (by decide) (fun _ _ _ h => h) (by rfl) (fun W hW => ?_) hS ?_
  · have c0 := hW
    clear hW
    go_simp
  simp only [Act.put, List.setIfInBounds_toArray, List.set_cons_zero, List.set_cons_succ]
  refine take_till (i := 1) (some 8) (.pointer (some ⟨b, 0, none⟩)) rfl rfl (by kernel_rfl) (by kernel_rfl) (by kernel_rfl) (by kernel_rfl) (by decide) (fun _ _ _ h => h) (by rfl) (fun W hW => ?_) hS ?_
  · have c0 := hW
    clear hW
    go_simp
  simp only [Act.put, List.setIfInBounds_toArray, List.set_cons_zero, List.set_cons_succ]
  refine take_till (i := 2) (some 9) (.pointer (some ⟨b, 0, none⟩)) rfl rfl (by kernel_rfl) (by kernel_rfl) (by kernel_rfl) (by kernel_rfl) (by decide) (fun _ _ _ h => h) (by rfl) (fun W hW => ?_) hS ?_
  · have c0 := hW
    clear hW
    go_simp
  simp only [Act.put, List.setIfInBounds_toArray, List.set_cons_zero, List.set_cons_succ]
  refine take_till (i := 3) (some 10) (.slice (some ⟨g, 0, none⟩) n cap) rfl rfl (by kernel_rfl) (by kernel_rfl) (by kernel_rfl) (by kernel_rfl) (by decide) (fun _ _ _ h => h) (by rfl) (fun W hW => ?_) hS ?_
  · have c0 := hW
    clear hW
    go_simp
  simp only [Act.put, List.setIfInBounds_toArray, List.set_cons_zero, List.set_cons_succ]
  refine take_till (i := 4) (some 11) (.int .i64 (i : Int)) rfl rfl (by kernel_rfl) (by kernel_rfl) (by kernel_rfl) (by kernel_rfl) (by decide) (fun _ _ _ h => h) (by rfl) (fun W hW => ?_) hS ?_
  · have c0 := hW
    clear hW
    go_simp
  simp only [Act.put, List.setIfInBounds_toArray, List.set_cons_zero, List.set_cons_succ]
  refine take_till (i := 5) (some 12) (.pointer (some ⟨b, 0, none⟩)) rfl rfl (by kernel_rfl) (by kernel_rfl) (by kernel_rfl) (by kernel_rfl) (by decide) (fun _ _ _ h => h) (by rfl) (fun W hW => ?_) hS ?_
  · have c0 := hW
    clear hW
    go_simp
  simp only [Act.put, List.setIfInBounds_toArray, List.set_cons_zero, List.set_cons_succ]
  refine take_till (i := 6) (some 13) (.pointer (some ⟨b, 0, none⟩)) rfl rfl (by kernel_rfl) (by kernel_rfl) (by kernel_rfl) (by kernel_rfl) (by decide) (fun _ _ _ h => h) (by rfl) (fun W hW => ?_) hS ?_
  · have c0 := hW
    clear hW
    go_simp
  simp only [Act.put, List.setIfInBounds_toArray, List.set_cons_zero, List.set_cons_succ]
  refine take_till (i := 7) (some 14) (.pointer (some ⟨b, 0, none⟩)) rfl rfl (by kernel_rfl) (by kernel_rfl) (by kernel_rfl) (by kernel_rfl) (by decide) (fun _ _ _ h => h) (by rfl) (fun W hW => ?_) hS ?_
  · have c0 := hW
    clear hW
    go_simp
  simp only [Act.put, List.setIfInBounds_toArray, List.set_cons_zero, List.set_cons_succ]
  refine take_till (i := 8) (some 15) (.slice (some ⟨g, 0, none⟩) n cap) rfl rfl (by kernel_rfl) (by kernel_rfl) (by kernel_rfl) (by kernel_rfl) (by decide) (fun _ _ _ h => h) (by rfl) (fun W hW => ?_) hS ?_
  · have c0 := hW
    clear hW
    go_simp
  simp only [Act.put, List.setIfInBounds_toArray, List.set_cons_zero, List.set_cons_succ]
  refine take_till (i := 9) (some 16) (.int .i64 (k : Int)) rfl rfl (by kernel_rfl) (by kernel_rfl) (by kernel_rfl) (by kernel_rfl) (by decide) (fun _ _ _ h => h) (by rfl) (fun W hW => ?_) hS ?_
  · have c0 := hW
    clear hW
    go_simp
  simp only [Act.put, List.setIfInBounds_toArray, List.set_cons_zero, List.set_cons_succ]
  refine take_till (i := 10) (some 17) (.pointer (some ⟨b, 0, none⟩)) rfl rfl (by kernel_rfl) (by kernel_rfl) (by kernel_rfl) (by kernel_rfl) (by decide) (fun _ _ _ h => h) (by rfl) (fun W hW => ?_) hS ?_
  · have c0 := hW
    clear hW
    go_simp
  simp only [Act.put, List.setIfInBounds_toArray, List.set_cons_zero, List.set_cons_succ]
  refine take_till (i := 11) (some 18) (.pointer (some ⟨b, 0, none⟩)) rfl rfl (by kernel_rfl) (by kernel_rfl) (by kernel_rfl) (by kernel_rfl) (by decide) (fun _ _ _ h => h) (by rfl) (fun W hW => ?_) hS ?_
  · have c0 := hW
    clear hW
    go_simp
  simp only [Act.put, List.setIfInBounds_toArray, List.set_cons_zero, List.set_cons_succ]
  refine take_till (i := 12) (some 19) (.pointer (some ⟨b, 0, none⟩)) rfl rfl (by kernel_rfl) (by kernel_rfl) (by kernel_rfl) (by kernel_rfl) (by decide) (fun _ _ _ h => h) (by rfl) (fun W hW => ?_) hS ?_
  · have c0 := hW
    clear hW
    go_simp
  simp only [Act.put, List.setIfInBounds_toArray, List.set_cons_zero, List.set_cons_succ]
  refine take_till (i := 13) (some 20) (.slice (some ⟨g, 0, none⟩) n cap) rfl rfl (by kernel_rfl) (by kernel_rfl) (by kernel_rfl) (by kernel_rfl) (by decide) (fun _ _ _ h => h) (by rfl) (fun W hW => ?_) hS ?_
  · have c0 := hW
    clear hW
    go_simp
  simp only [Act.put, List.setIfInBounds_toArray, List.set_cons_zero, List.set_cons_succ]
  refine take_till (i := 14) (some 21) (.int .i64 (k : Int)) rfl rfl (by kernel_rfl) (by kernel_rfl) (by kernel_rfl) (by kernel_rfl) (by decide) (fun _ _ _ h => h) (by rfl) (fun W hW => ?_) hS ?_
  · have c0 := hW
    clear hW
    go_simp
  simp only [Act.put, List.setIfInBounds_toArray, List.set_cons_zero, List.set_cons_succ]
  refine take_till (i := 15) (some 22) (.pointer (some ⟨g, k * 2, none⟩)) rfl rfl (by kernel_rfl) (by kernel_rfl) (by kernel_rfl) (by kernel_rfl) (by decide) (fun _ _ _ h => h) (by rfl) (fun W hW => ?_) hS ?_
  · have c0 := hW
    clear hW
    go_simp
  simp only [Act.put, List.setIfInBounds_toArray, List.set_cons_zero, List.set_cons_succ]
  refine take_till (i := 17) (some 24) (.pointer (some ⟨b, 0, none⟩)) rfl rfl (by kernel_rfl) (by kernel_rfl) (by kernel_rfl) (by kernel_rfl) (by decide) (fun _ _ _ h => h) (by rfl) (fun W hW => ?_) hS ?_
  · have c0 := hW
    clear hW
    go_simp
  simp only [Act.put, List.setIfInBounds_toArray, List.set_cons_zero, List.set_cons_succ]
  refine take_till (i := 18) (some 25) (.pointer (some ⟨b, 0, none⟩)) rfl rfl (by kernel_rfl) (by kernel_rfl) (by kernel_rfl) (by kernel_rfl) (by decide) (fun _ _ _ h => h) (by rfl) (fun W hW => ?_) hS ?_
  · have c0 := hW
    clear hW
    go_simp
  simp only [Act.put, List.setIfInBounds_toArray, List.set_cons_zero, List.set_cons_succ]
  refine take_till (i := 19) (some 26) (.pointer (some ⟨b, 0, none⟩)) rfl rfl (by kernel_rfl) (by kernel_rfl) (by kernel_rfl) (by kernel_rfl) (by decide) (fun _ _ _ h => h) (by rfl) (fun W hW => ?_) hS ?_
  · have c0 := hW
    clear hW
    go_simp
  simp only [Act.put, List.setIfInBounds_toArray, List.set_cons_zero, List.set_cons_succ]
  refine take_till (i := 20) (some 27) (.slice (some ⟨g, 0, none⟩) n cap) rfl rfl (by kernel_rfl) (by kernel_rfl) (by kernel_rfl) (by kernel_rfl) (by decide) (fun _ _ _ h => h) (by rfl) (fun W hW => ?_) hS ?_
  · have c0 := hW
    clear hW
    go_simp
  simp only [Act.put, List.setIfInBounds_toArray, List.set_cons_zero, List.set_cons_succ]
  refine take_till (i := 21) (some 28) (.int .i64 (i : Int)) rfl rfl (by kernel_rfl) (by kernel_rfl) (by kernel_rfl) (by kernel_rfl) (by decide) (fun _ _ _ h => h) (by rfl) (fun W hW => ?_) hS ?_
  · have c0 := hW
    clear hW
    go_simp
  simp only [Act.put, List.setIfInBounds_toArray, List.set_cons_zero, List.set_cons_succ]
  refine take_till (i := 22) (some 29) (.pointer (some ⟨g, i * 2, none⟩)) rfl rfl (by kernel_rfl) (by kernel_rfl) (by kernel_rfl) (by kernel_rfl) (by decide) (fun _ _ _ h => h) (by rfl) (fun W hW => ?_) hS ?_
  · have c0 := hW
    clear hW
    go_simp
  simp only [Act.put, List.setIfInBounds_toArray, List.set_cons_zero, List.set_cons_succ]
  have e16 : (w.drew).cell? ⟨g, k * 2, none⟩ = some (.int .i64 y1) := k0
  have e16' : (w.drew).cell? ⟨g, k * 2 + 1, none⟩ = some (.int .i64 y2) := k1
  have e23 : (w.drew).cell? ⟨g, i * 2, none⟩ = some (.int .i64 x1) := i0
  have e23' : (w.drew).cell? ⟨g, i * 2 + 1, none⟩ = some (.int .i64 x2) := i1
  have hfr' : ∀ j, (w.drew).frozen? ⟨g, j, none⟩ = false := hfr
  have hO : Only F w w.drew := (Only.refl _ _).drew
  have hM : HM tHeap tThing w.drew b (.slice (some ⟨g, 0, none⟩) n cap) l F := HH.out.1.kept fun _ _ => rfl
  generalize w.drew = W at *
  clear c0 i0 i1 k0 k1 hfr
  refine two_till 16 23 (by kernel_rfl) rfl rfl (fun K hK => ?_) (fun K hK => ?_)
  · go_simp
    refine hK.out _ _ (fun _ => hS) ?_
    clear hK K
    refine next_till 23 (by kernel_rfl) rfl (fun K hK => ?_)
    go_simp
    refine hK.out _ _ (fun _ => hS) ?_
    clear hK K
    refine take_till (i := 24) (some 31) (.pointer (some ⟨g, i * 2, none⟩)) rfl rfl (by kernel_rfl) (by kernel_rfl) (by kernel_rfl) (by kernel_rfl) (by decide) (fun _ _ _ h => h) (by rfl) (fun W hW => ?_) hS ?_
    · have c0 := hW
      clear hW
      go_simp
    simp only [Act.put, List.setIfInBounds_toArray, List.set_cons_zero, List.set_cons_succ]
    refine next_till 25 (by kernel_rfl) rfl (fun K hK => ?_)
    go_simp
    have hM2 := HH.out.2.2.2.2.1 _ _ hM HH.out.2.2.2.1.symm i (y1, y2) (by rw [← HH.out.2.2.2.1]; exact hil')
    have hS2 := hM2.cel.cell 0
    simp only [List.getElem?_cons_zero] at hS2
    have hO2 := (hO.setCell (p := ⟨g, i * 2, none⟩) (.inl HH.out.2.2.2.2.2.1) (.int .i64 y1)).setCell (p := ⟨g, i * 2 + 1, none⟩) (.inl HH.out.2.2.2.2.2.1) (.int .i64 y2)
    refine hK.out _ _ (fun _ => hS2) ?_
    clear hK K
    have hkk : (l.set i (y1, y2))[k]? = some (y1, y2) := by
      by_cases e : k = i
      · subst e
        rw [List.getElem?_set_self (by rw [← HH.out.2.2.2.1]; exact hkl')]
      · rw [List.getElem?_set_ne (fun e' => e e'.symm)]
        exact HH.out.2.2.1
    obtain ⟨g', cap', e0, k0, k1⟩ := hM2.row.at hkk
    simp only [Value.slice.injEq, Option.some.injEq, Addr.mk.injEq, and_true, true_and] at e0
    obtain ⟨rfl, -, rfl⟩ := e0
    have hl2 : (l.set i (y1, y2)).length = n := by rw [List.length_set]; exact HH.out.2.2.2.1.symm
    have f0 := fun j => Row.free (l := l.set i (y1, y2)) (by rw [hl2]; exact hM2.row) j
    have hM3 := HH.out.2.2.2.2.1 _ _ hM2 hl2 k (x1, x2) (by rw [hl2]; exact hkl')
    have hO3 := (hO2.setCell (p := ⟨g, k * 2, none⟩) (.inl HH.out.2.2.2.2.2.1) (.int .i64 x1)).setCell (p := ⟨g, k * 2 + 1, none⟩) (.inl HH.out.2.2.2.2.2.1) (.int .i64 x2)
    have hS3 := hM3.cel.cell 0
    simp only [List.getElem?_cons_zero] at hS3
    have HM3 := Lib.hid (And.intro hM3 hO3)
    have HS3 := Lib.hid hS3
    simp only at k0 k1
    clear hM3 hO3 hM2 hO2 hO hM e16 e16' e23 e23' hfr' hkk hl2 hS hS3
    have hS := hS2
    clear hS2
    generalize (W.setCell ⟨g, i * 2, none⟩ (.int .i64 y1)).setCell ⟨g, i * 2 + 1, none⟩ (.int .i64 y2) = W2 at *
    refine take_till (i := 26) (some 32) (.pointer (some ⟨g, k * 2, none⟩)) rfl rfl (by kernel_rfl) (by kernel_rfl) (by kernel_rfl) (by kernel_rfl) (by decide) (fun _ _ _ h => h) (by rfl) (fun W hW => ?_) hS ?_
    · have c0 := hW
      clear hW
      go_simp
    simp only [Act.put, List.setIfInBounds_toArray, List.set_cons_zero, List.set_cons_succ]
    refine next_till 27 (by kernel_rfl) rfl (fun K hK => ?_)
    go_simp
    refine hK.out _ _ (fun _ => HS3.out) ?_
    clear hK K
    refine done_till (by kernel_rfl) ?_ _
    go_wp2
    go_ret
    have hm := HM3.out.1
    have hn := HH.out.2.2.2.1
    rw [← hn]
    exact ⟨rfl, hm, HM3.out.2⟩
  · go_simp
    refine hK.out _ _ (fun _ => hS) ?_
    clear hK K
    refine next_till 16 (by kernel_rfl) rfl (fun K hK => ?_)
    go_simp
    refine hK.out _ _ (fun _ => hS) ?_
    clear hK K
    refine take_till (i := 24) (some 31) (.pointer (some ⟨g, i * 2, none⟩)) rfl rfl (by kernel_rfl) (by kernel_rfl) (by kernel_rfl) (by kernel_rfl) (by decide) (fun _ _ _ h => h) (by rfl) (fun W hW => ?_) hS ?_
    · have c0 := hW
      clear hW
      go_simp
    simp only [Act.put, List.setIfInBounds_toArray, List.set_cons_zero, List.set_cons_succ]
    refine next_till 25 (by kernel_rfl) rfl (fun K hK => ?_)
    go_simp
    have hM2 := HH.out.2.2.2.2.1 _ _ hM HH.out.2.2.2.1.symm i (y1, y2) (by rw [← HH.out.2.2.2.1]; exact hil')
    have hS2 := hM2.cel.cell 0
    simp only [List.getElem?_cons_zero] at hS2
    have hO2 := (hO.setCell (p := ⟨g, i * 2, none⟩) (.inl HH.out.2.2.2.2.2.1) (.int .i64 y1)).setCell (p := ⟨g, i * 2 + 1, none⟩) (.inl HH.out.2.2.2.2.2.1) (.int .i64 y2)
    refine hK.out _ _ (fun _ => hS2) ?_
    clear hK K
    have hkk : (l.set i (y1, y2))[k]? = some (y1, y2) := by
      by_cases e : k = i
      · subst e
        rw [List.getElem?_set_self (by rw [← HH.out.2.2.2.1]; exact hkl')]
      · rw [List.getElem?_set_ne (fun e' => e e'.symm)]
        exact HH.out.2.2.1
    obtain ⟨g', cap', e0, k0, k1⟩ := hM2.row.at hkk
    simp only [Value.slice.injEq, Option.some.injEq, Addr.mk.injEq, and_true, true_and] at e0
    obtain ⟨rfl, -, rfl⟩ := e0
    have hl2 : (l.set i (y1, y2)).length = n := by rw [List.length_set]; exact HH.out.2.2.2.1.symm
    have f0 := fun j => Row.free (l := l.set i (y1, y2)) (by rw [hl2]; exact hM2.row) j
    have hM3 := HH.out.2.2.2.2.1 _ _ hM2 hl2 k (x1, x2) (by rw [hl2]; exact hkl')
    have hO3 := (hO2.setCell (p := ⟨g, k * 2, none⟩) (.inl HH.out.2.2.2.2.2.1) (.int .i64 x1)).setCell (p := ⟨g, k * 2 + 1, none⟩) (.inl HH.out.2.2.2.2.2.1) (.int .i64 x2)
    have hS3 := hM3.cel.cell 0
    simp only [List.getElem?_cons_zero] at hS3
    have HM3 := Lib.hid (And.intro hM3 hO3)
    have HS3 := Lib.hid hS3
    simp only at k0 k1
    clear hM3 hO3 hM2 hO2 hO hM e16 e16' e23 e23' hfr' hkk hl2 hS hS3
    have hS := hS2
    clear hS2
    generalize (W.setCell ⟨g, i * 2, none⟩ (.int .i64 y1)).setCell ⟨g, i * 2 + 1, none⟩ (.int .i64 y2) = W2 at *
    refine take_till (i := 26) (some 32) (.pointer (some ⟨g, k * 2, none⟩)) rfl rfl (by kernel_rfl) (by kernel_rfl) (by kernel_rfl) (by kernel_rfl) (by decide) (fun _ _ _ h => h) (by rfl) (fun W hW => ?_) hS ?_
    · have c0 := hW
      clear hW
      go_simp
    simp only [Act.put, List.setIfInBounds_toArray, List.set_cons_zero, List.set_cons_succ]
    refine next_till 27 (by kernel_rfl) rfl (fun K hK => ?_)
    go_simp
    refine hK.out _ _ (fun _ => HS3.out) ?_
    clear hK K
    refine done_till (by kernel_rfl) ?_ _
    go_wp2
    go_ret
    have hm := HM3.out.1
    have hn := HH.out.2.2.2.1
    rw [← hn]
    exact ⟨rfl, hm, HM3.out.2⟩
end
end Go.Proofs.Ytfpjipmlhbimoaa
