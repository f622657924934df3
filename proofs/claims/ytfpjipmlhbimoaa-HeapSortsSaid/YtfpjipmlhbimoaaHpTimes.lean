/- How often a thing is in a list; condition: fewer than 2^32 things. -/
import Derived.Test.YtfpjipmlhbimoaaHpRow
namespace Go.Proofs.Ytfpjipmlhbimoaa
open Go.RowKit

abbrev tRT : TypeId := 42
theorem count_take {l : List Th} {r : Nat} {y x : Th} (hy : l[r]? = some y) : (l.take (r + 1)).count x = (l.take r).count x + (if y == x then 1 else 0) := by
  rw [List.take_add_one, hy, List.count_append]
  simp [List.count_singleton]
set_option maxRecDepth 100000 in
set_option maxHeartbeats 4000000 in
theorem times_any {w : World} {S : Nat → Prop} {v : Value} {l : List Th} (h : Rd kdTh w S v l) (hn : l.length ≤ 4294967290) (k i : Int) :
    Calls Try.prog 17 #[v, .agg #[.int .i64 k, .int .i64 i]] w fun e w' => e = .returned (.int .i64 (l.count (k, i) : Nat)) ∧ Below w.heap.size w w' := by
  obtain ⟨a, cap, rfl, _⟩ := h.shape
  obtain ⟨n, hnl⟩ : ∃ n, n = l.length := ⟨_, rfl⟩
  rw [← hnl] at h ⊢
  have hnb : (n : Int) ≤ 4294967290 := by omega
  have HH := Lib.hid (And.intro h (And.intro hnl hn))
  clear h hnl hn
  have hb0 : Below w.heap.size w (w.alloc (.cells #[.int .i64 k, .int .i64 i] tRT)) := (Below.refl _ _).alloc (Nat.le_refl _) _
  have HC := Lib.hid (And.intro hb0 (Cel.new w #[.int .i64 k, .int .i64 i] tRT))
  clear hb0
  go_enter Try.func17, Try.ntmps17
  go_wp2
  generalize hwb : w.alloc (.cells #[.int .i64 k, .int .i64 i] tRT) = wb at *
  go_loopw [5, 6] (fun c j wr => ∃ r : Nat, j = .int .i64 (r : Int) ∧ r ≤ n ∧ c = .int .i64 ((l.take r).count (k, i) : Nat) ∧ Below wb.heap.size wb wr) (fun _ j _ => n - (intOf j).toNat)
  case atStart => exact ⟨0, rfl, Nat.zero_le _, by simp, Below.refl _ _⟩
  case round =>
    obtain ⟨r, rfl, hr, rfl, hb⟩ := hrel
    obtain ⟨h, hnl, hn⟩ := HH.out
    have hcb := HC.out.1.trans (hb.mono HC.out.1.size)
    by_cases hlt : r < n
    · obtain ⟨y, hy⟩ : ∃ y, l[r]? = some y := ⟨_, List.getElem?_eq_getElem (by omega)⟩
      obtain ⟨g, o, cap', e0, k0, k1⟩ := (h.step (Step.of_below hcb S)).th hy
      rw [← hnl] at e0
      simp only [Value.slice.injEq] at e0
      obtain ⟨rfl, -, rfl⟩ := e0
      have hct := count_take hy (x := (k, i))
      have x0 := ((HC.out.2.below hb HC.out.2.lt)).cell 0
      have x1 := ((HC.out.2.below hb HC.out.2.lt)).cell 1
      simp only [List.getElem?_cons_zero, List.getElem?_cons_succ] at x0 x1
      have hil : (r : Int) < (n : Int) := by omega
      have hr0 : (0 : Int) ≤ (r : Int) := by omega
      obtain ⟨y1, y2⟩ := y
      simp only at k0 k1
      have hcl := fun {a : Addr} {u : Value} {W : World} (hW : Below wr.heap.size wr W) (hc : wr.cell? a = some u) => (hW.cell (p := a) (World.block_lt_of_cell? wr _ hc)).trans hc
      have HX := Lib.hid (fun (W : World) (hW : Below wr.heap.size wr W) => And.intro (hcl hW k0) (And.intro (hcl hW k1) (And.intro (hcl hW x0) (hcl hW x1))))
      obtain ⟨cn, hcn⟩ : ∃ cn, (l.take r).count (k, i) = cn := ⟨_, rfl⟩
      have hcl2 : cn ≤ n := by
        have := List.count_le_length (a := (k, i)) (l := l.take r)
        rw [List.length_take] at this
        omega
      have hc1 : (cn : Int) ≤ 4294967290 := by omega
      have hc0 : (0 : Int) ≤ (cn : Int) := by omega
      rw [hcn] at hct ⊢
      have HP := Lib.hid (And.intro hlt (And.intro hct hb))
      clear h hnl hn hcb hlt hct hb hy k0 k1 x0 x1 hcl hcn hcl2 hr
      go_wp2_with fail
      refine region_till 99 (fun W => Below wr.heap.size wr W) (by kernel_rfl) (below_drewN (Below.refl _ _) 1) (fun hS => ?_)
      refine take_till (i := 0) (some 13) (.slice (some ⟨g, o, none⟩) n cap) rfl rfl (by kernel_rfl) (by kernel_rfl) (by kernel_rfl) (by kernel_rfl) (by decide) (fun _ _ _ h => h) (by rfl) (fun W hW => ?_) hS ?_
      · obtain ⟨k0, k1, x0, x1⟩ := HX.out W hW
        clear hW
        go_simp
      simp only [Act.put, List.setIfInBounds_toArray, List.set_cons_zero, List.set_cons_succ]
      refine take_till (i := 1) (some 14) (.int .i64 (r : Int)) rfl rfl (by kernel_rfl) (by kernel_rfl) (by kernel_rfl) (by kernel_rfl) (by decide) (fun _ _ _ h => h) (by rfl) (fun W hW => ?_) hS ?_
      · obtain ⟨k0, k1, x0, x1⟩ := HX.out W hW
        clear hW
        go_simp
      simp only [Act.put, List.setIfInBounds_toArray, List.set_cons_zero, List.set_cons_succ]
      refine take_till (i := 2) (some 15) (.pointer (some ⟨g, o + r * 2, none⟩)) rfl rfl (by kernel_rfl) (by kernel_rfl) (by kernel_rfl) (by kernel_rfl) (by decide) (fun _ _ _ h => h) (by rfl) (fun W hW => ?_) hS ?_
      · obtain ⟨k0, k1, x0, x1⟩ := HX.out W hW
        clear hW
        go_simp
      simp only [Act.put, List.setIfInBounds_toArray, List.set_cons_zero, List.set_cons_succ]
      refine take_till (i := 3) (some 16) (.agg #[.int .i64 y1, .int .i64 y2]) rfl rfl (by kernel_rfl) (by kernel_rfl) (by kernel_rfl) (by kernel_rfl) (by decide) (fun _ _ _ h => h) (by rfl) (fun W hW => ?_) hS ?_
      · obtain ⟨k0, k1, x0, x1⟩ := HX.out W hW
        clear hW
        go_simp
      simp only [Act.put, List.setIfInBounds_toArray, List.set_cons_zero, List.set_cons_succ]
      refine take_till (i := 4) (some 17) (.agg #[.int .i64 k, .int .i64 i]) rfl rfl (by kernel_rfl) (by kernel_rfl) (by kernel_rfl) (by kernel_rfl) (by decide) (fun _ _ _ h => h) (by rfl) (fun W hW => ?_) hS ?_
      · obtain ⟨k0, k1, x0, x1⟩ := HX.out W hW
        clear hW
        go_simp
      simp only [Act.put, List.setIfInBounds_toArray, List.set_cons_zero, List.set_cons_succ]
      by_cases he : (y1, y2) = (k, i)
      · cases he
        skip
        refine take_till (i := 5) (some 18) (.bool true) rfl rfl (by kernel_rfl) (by kernel_rfl) (by kernel_rfl) (by kernel_rfl) (by decide) (fun _ _ _ h => h) (by rfl) (fun W hW => ?_) hS ?_
        · obtain ⟨k0, k1, x0, x1⟩ := HX.out W hW
          clear hW
          go_simp
        simp only [Act.put, List.setIfInBounds_toArray, List.set_cons_zero, List.set_cons_succ]
        refine done_till (by kernel_rfl) ?_ _
        go_wp2
        go_roundw
        case rel => exact ⟨r + 1, by go_num, HP.out.1, by rw [HP.out.2.1]; simp, HP.out.2.2.trans (hS.mono HP.out.2.2.size)⟩
        case measure =>
          have := HP.out.1
          simp only [intOf]
          omega
      · have hne : ¬ (y1 = k ∧ y2 = i) := fun h => he (by rw [h.1, h.2])
        have hbq : ((y1, y2) == (k, i)) = false := by rw [beq_eq_false_iff_ne]; exact he
        refine take_till (i := 5) (some 18) (.bool false) rfl rfl (by kernel_rfl) (by kernel_rfl) (by kernel_rfl) (by kernel_rfl) (by decide) (fun _ _ _ h => h) (by rfl) (fun W hW => ?_) hS ?_
        · obtain ⟨k0, k1, x0, x1⟩ := HX.out W hW
          clear hW
          go_simp
          exact fun h1 h2 => hne ⟨h1, h2⟩
        simp only [Act.put, List.setIfInBounds_toArray, List.set_cons_zero, List.set_cons_succ]
        refine done_till (by kernel_rfl) ?_ _
        go_wp2
        go_roundw
        case rel => exact ⟨r + 1, by go_num, HP.out.1, by rw [HP.out.2.1, hbq]; simp, HP.out.2.2.trans (hS.mono HP.out.2.2.size)⟩
        case measure =>
          have := HP.out.1
          simp only [intOf]
          omega
    · obtain rfl : r = n := by omega
      have hil : ¬ (r : Int) < (r : Int) := by omega
      have ht : l.take r = l := List.take_of_length_le (by omega)
      rw [ht]
      clear h hnl hn hr hlt ht
      go_wp2
      go_ret
      exact ⟨rfl, hcb⟩
end Go.Proofs.Ytfpjipmlhbimoaa
