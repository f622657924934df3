/- The walk of PagesKeeps: it returns true and writes nothing that was there; no condition. -/
import Derived.Test.YtdmcknankcbjiaaPgKept
import Derived.Test.YtdmcknankcbjiaaHeldLast
import Derived.Deep.QuietTactic
import Derived.BigQuiet
namespace Go.Proofs.Ytdmcknankcbjiaa
open Go.RowKit

section
variable {l : List Pg} {k : Nat} {x : Pg}

theorem map_set_same {α β : Type} {f : α → β} {l : List α} {k : Nat} {x y : α} (hx : l[k]? = some x) (h : f y = f x) : (l.set k y).map f = l.map f := by
  apply List.ext_getElem?
  intro i
  rw [List.getElem?_map, List.getElem?_map, List.getElem?_set]
  split
  · rename_i e
    subst e
    have := (List.getElem?_eq_some_iff.1 hx).1
    rw [if_pos this, hx]
    simp [h]
  · rfl
theorem set_self {α : Type} {l : List α} {k : Nat} {x : α} (hx : l[k]? = some x) : l.set k x = l := by
  obtain ⟨hl, e⟩ := List.getElem?_eq_some_iff.1 hx
  rw [← e]
  exact List.set_getElem_self hl

/-- What Use makes of a page that is free or old. -/
theorem use_even (hx : l[k]? = some x) (he : x.1 = x.2) : ucode l (k : Int) = (if x.1 = true then 3 else 0) ∧ udone l (k : Int) = l.set k (true, true) := by
  unfold ucode udone
  rw [pgAt_nat, hx]
  rcases x with ⟨_ | _, _ | _⟩ <;> simp [pnum] at he ⊢
  exact (set_self hx).symm
theorem even_set (h : ∀ x ∈ l, x.1 = x.2) (k : Nat) : ∀ x ∈ l.set k (true, true), x.1 = x.2 := by
  intro x hx
  rcases List.mem_or_eq_of_mem_set hx with h1 | h1
  · exact h x h1
  · rw [h1]
end

section
variable {w0 w : World} {b tb nb : Nat} {l : List Pg} {k : Nat} {x : Pg}

theorem Kq.drew (h : Kq w0 w b tb nb l) : Kq w0 w.drew b tb nb l := ⟨h.1.drew, h.2⟩
theorem Kq.bel (h : Kq w0 w b tb nb l) : Below w0.heap.size w0 w := h.1.bel
theorem Kq.cells (h : Kq w0 w b tb nb l) (hx : l[k]? = some x) : w.cell? ⟨tb, k, none⟩ = some (.bool x.1) ∧ w.frozen? ⟨tb, k, none⟩ = false ∧ w.cell? ⟨nb, k, none⟩ = some (.bool (tkn x)) ∧ w.frozen? ⟨nb, k, none⟩ = false := by
  have h1 := h.1.atT (k := k) (c := x.1) (by simp [hx])
  have h2 := h.1.atK (k := k) (c := tkn x) (by simp [hx])
  exact ⟨h1.1, h1.2, h2⟩

/-- Use of a page that is free or old, and its mark. -/
theorem q_use (h : Kq w0 w b tb nb l) (hx : l[k]? = some x) (he : x.1 = x.2) :
    Calls Try.prog 12 #[ptr b, .int .i64 (k : Int)] w fun e w' => e = .returned (err (if x.1 = true then 3 else 0)) ∧ Kp w0 w' b tb nb (l.set k (true, true)) (l.map (·.1)) (l.map tkn) ∧
      Kq w0 (w'.setCell ⟨tb, k, none⟩ (.bool true)) b tb nb (l.set k (true, true)) := by
  obtain ⟨e1, e2⟩ := use_even hx he
  have := k_use h.1 (k : Int)
  rw [e1, e2] at this
  refine this.mono ?_
  rintro e w' ⟨rfl, hk⟩
  refine ⟨rfl, hk, ?_, by rw [List.length_set]; exact h.2⟩
  have h2 := hk.setT k true
  have m1 : (l.set k (true, true)).map tkn = l.map tkn := map_set_same hx (by rcases x with ⟨_ | _, _ | _⟩ <;> simp [tkn] at he ⊢)
  have m2 : (l.set k (true, true)).map (·.1) = (l.map (·.1)).set k true := List.map_set
  rw [m1, m2]
  exact h2
theorem Kp.drewN {th tk : List Bool} (h : Kp w0 w b tb nb l th tk) (n : Nat) : Kp w0 (w.drewN n) b tb nb l th tk :=
  let ⟨F, h1, h2, h3, h4, h5, h6, h7, h8, h9, h10⟩ := h
  ⟨F, h1.kept (fun _ _ => rfl) (Nat.le_refl _), h2, h3, h4, h5, h6, h7, h8, h9, ⟨h10.os, h10.tape, h10.output, h10.size, h10.block⟩⟩
theorem stateP_at (hx : l[k]? = some x) : stateP l (k : Int) = pnum x := by simp [stateP, pgAt_nat, hx]
theorem backP_at (hx : l[k]? = some x) : (backP l)[k]? = some (x.1, x.1) := by simp [backP, hx]
theorem q_take_none (h : Kq w0 w b tb nb l) (hn : leastFree l = none) : Calls Try.prog 10 #[ptr b] w fun e w' => e = .returned (.tuple #[.int .i64 0, err 7]) ∧ Kq w0 w' b tb nb l := by
  have := k_take h.1
  unfold tpage tcode tdone at this
  rw [hn] at this
  refine this.mono ?_
  rintro e w' ⟨rfl, hk⟩
  exact ⟨rfl, hk, h.2⟩
theorem q_take_some (h : Kq w0 w b tb nb l) (hn : leastFree l = some k) : Calls Try.prog 10 #[ptr b] w fun e w' => e = .returned (.tuple #[.int .i64 (k : Int), err 0]) ∧
    (w'.cell? ⟨tb, k, none⟩ = some (.bool false) ∧ w'.cell? ⟨nb, k, none⟩ = some (.bool false) ∧ w'.frozen? ⟨nb, k, none⟩ = false) ∧ Kq w0 (w'.setCell ⟨nb, k, none⟩ (.bool true)) b tb nb (l.set k (false, true)) := by
  have := k_take h.1
  unfold tpage tcode tdone at this
  rw [hn] at this
  refine this.mono ?_
  rintro e w' ⟨rfl, hk⟩
  obtain ⟨x, hx, h0, _⟩ := least_some hn
  obtain rfl := pnum_free.1 h0
  have a1 := hk.atT (k := k) (c := false) (by simp [hx])
  have a2 := hk.atK (k := k) (c := false) (by simp [hx, tkn])
  refine ⟨rfl, ⟨a1.1, a2⟩, ?_, by rw [List.length_set]; exact h.2⟩
  have h2 := hk.setK k true
  have m1 : (l.set k (false, true)).map (·.1) = l.map (·.1) := map_set_same hx rfl
  have m2 : (l.set k (false, true)).map tkn = (l.map tkn).set k true := List.map_set
  rw [m1, m2]
  exact h2
theorem q_drop_no (h : Kq w0 w b tb nb l) {k : Int} (hn : ∀ (n : Nat) (x : Pg), k = n → l[n]? = some x → x.2 = false) : Calls Try.prog 14 #[ptr b, .int .i64 k] w fun e w' => ∃ c : Int, e = .returned (err c) ∧ c ≠ 0 ∧ Kq w0 w' b tb nb l := by
  have := k_drop h.1 k
  unfold rcode rdone at this
  refine this.mono ?_
  rintro e w' ⟨rfl, hk⟩
  refine ⟨_, rfl, ?_, ?_, h.2⟩
  · rcases hp : pgAt l k with _ | x
    · simp
    · obtain ⟨n, e1, _, e2⟩ := pgAt_some hp
      simp [hn n x e1 e2]
  · rcases hp : pgAt l k with _ | x
    · rw [hp] at hk
      exact hk
    · obtain ⟨n, e1, _, e2⟩ := pgAt_some hp
      rw [hp] at hk
      simp only [hn n x e1 e2, Bool.false_eq_true, if_false] at hk
      exact hk
theorem q_drop_yes (h : Kq w0 w b tb nb l) (hx : l[k]? = some x) (h2 : x.2 = true) : Calls Try.prog 14 #[ptr b, .int .i64 (k : Int)] w fun e w' => e = .returned (err 0) ∧
    (∃ v, w'.cell? ⟨nb, k, none⟩ = some v ∧ w'.frozen? ⟨nb, k, none⟩ = false) ∧ Kq w0 (w'.setCell ⟨nb, k, none⟩ (.bool false)) b tb nb (l.set k (x.1, false)) := by
  have := k_drop h.1 (k : Int)
  unfold rcode rdone at this
  rw [pgAt_nat, hx] at this
  simp only [h2, if_true, Int.toNat_natCast] at this
  refine this.mono ?_
  rintro e w' ⟨rfl, hk⟩
  have a2 := hk.atK (k := k) (c := tkn x) (by simp [hx])
  refine ⟨rfl, ⟨_, a2⟩, ?_, by rw [List.length_set]; exact h.2⟩
  have h2 := hk.setK k false
  have m1 : (l.set k (x.1, false)).map (·.1) = l.map (·.1) := map_set_same hx rfl
  have m2 : (l.set k (x.1, false)).map tkn = (l.map tkn).set k false := by
    rw [List.map_set]
    simp [tkn]
  rw [m1, m2]
  exact h2
end

set_option maxRecDepth 100000 in
set_option maxHeartbeats 1000000 in
theorem pagesKeeps_any {vo vs : Value} {lo : Bytes} {ls : List Stp} (w : World) (ho : Bs w vo lo) (hs : Sv w vs ls) : Calls Try.prog 4 #[vo, vs] w (Yes w) := by
  obtain ⟨ao, co, rfl, _⟩ := ho.shape
  obtain ⟨av, cv, rfl⟩ := hs.shape
  by_cases hl : 300 < ls.length ∨ 100 < lo.length
  · have W1 := works_any w
    by_cases h1 : 300 < ls.length
    · have hd : ((300 : Int) < (ls.length : Int)) := by omega
      clear hl h1
      go_enter Try.func4, Try.ntmps4
      go_wp2_with fail
      refine W1.mono ?_
      rintro e w4 ⟨rfl, b4⟩
      go_wp2
      go_ret
      exact ⟨rfl, b4⟩
    · have hd : decide ((300 : Int) < (ls.length : Int)) = false := by simp; omega
      have hd2 : ((100 : Int) < (lo.length : Int)) := by omega
      clear hl h1
      go_enter Try.func4, Try.ntmps4
      go_wp2_with fail
      refine W1.mono ?_
      rintro e w4 ⟨rfl, b4⟩
      go_wp2
      go_ret
      exact ⟨rfl, b4⟩
  · have hd : decide ((300 : Int) < (ls.length : Int)) = false := by simp; omega
    have hd2 : decide ((100 : Int) < (lo.length : Int)) = false := by simp; omega
    have HH := Lib.hid (And.intro ho (And.intro hs (show ls.length ≤ 300 ∧ lo.length ≤ 100 by omega)))
    clear ho hs hl
    go_enter Try.func4, Try.ntmps4
    go_wp2_with fail
    refine (p_new 40 _ (Below.refl _ _) (by omega) (by omega)).mono ?_
    rintro e w1 ⟨b, rfl, m1⟩
    obtain ⟨w2, hm2, c2, b2⟩ := run_bools w1 .i64 .i64 40 (by omega)
    obtain ⟨w3, hm3, c3, b3⟩ := run_bools w2 .i64 .i64 40 (by omega)
    have hm2 : (Instr.makeSlice 41 (.int .i64 40) (.int .i64 40)).run Try.prog w1 = .ok (.slice (some ⟨w1.heap.size, 0, none⟩) 40 40) w2 := hm2
    have hm3 : (Instr.makeSlice 41 (.int .i64 40) (.int .i64 40)).run Try.prog w2 = .ok (.slice (some ⟨w2.heap.size, 0, none⟩) 40 40) w3 := hm3
    have hq : Kq w w3 b w1.heap.size w2.heap.size (freshP 40) := by
      obtain ⟨F, h1, h2, h3⟩ := m1
      have z1 := h3.size
      have z2 := c2.lt
      refine ⟨⟨F, (h1.below b2).below b3, c2.below b3 z2, c3, by omega, fun hf => ?_, fun hf => ?_, h2, z1, by omega, ?_⟩, rfl⟩
      · have := h1.fl _ hf; omega
      · have := h1.fl _ hf; omega
      · exact (h3.trans (b2.mono z1)).trans (b3.mono (by omega))
    have HQ := Lib.hid hq
    clear m1 c2 b2 c3 b3 hq
    generalize hvt : w1.heap.size = tb at *
    generalize hvn : w2.heap.size = nb at *
    clear hvt hvn
    go_wp2
    go_loopw [9, 10] (fun i _ wr => ∃ j : Nat, j ≤ lo.length ∧ i = .int .i64 j ∧ ∃ l, Kq w wr b tb nb l ∧ ∀ x ∈ l, x.1 = x.2) (fun i _ _ => lo.length - (intOf i).toNat)
    case atStart => exact ⟨0, Nat.zero_le _, rfl, _, HQ.out, by decide⟩
    case round =>
      clear hm2 hm3 HQ hd hd2
      obtain ⟨j, hj, rfl, l, hq, hev⟩ := hrel
      by_cases hlt : j < lo.length
      · obtain ⟨y, hy⟩ : ∃ y, lo[j]? = some y := ⟨_, List.getElem?_eq_getElem hlt⟩
        obtain ⟨g, o, cap, e, _, hg, hc⟩ := HH.out.1.open (by omega)
        simp only [Value.slice.injEq] at e
        obtain ⟨rfl, _, rfl⟩ := e
        have c0 : wr.cell? ⟨g, o + j, none⟩ = some (.int .u8 (y.toNat : Int)) := (World.cell?_of_block (w := w) (a := ⟨g, o + j, none⟩) (hq.bel.block g hg)).trans (hc j y hy)
        have hil : (j : Int) < (lo.length : Int) := by omega
        have hlb := HH.out.2.2.2
        obtain ⟨a, ha, ha40⟩ : ∃ a : Nat, (y.toNat : Int) % 40 = (a : Int) ∧ a < 40 := ⟨y.toNat % 40, by omega, by omega⟩
        obtain ⟨x, hx⟩ : ∃ x, l[a]? = some x := ⟨_, List.getElem?_eq_getElem (by have := hq.2; omega)⟩
        have hxe := hev x (List.mem_of_getElem? hx)
        have K1 := Lib.hid (q_use hq.drew hx hxe)
        have f0 := Lib.hid (hq.cells hx)
        have EV := Lib.hid (even_set hev a)
        have hy8 : y.toNat < 256 := y.toNat_lt
        generalize y.toNat = yn at *
        have hai : (a : Int) < 40 := by omega
        have hai0 : (0 : Int) ≤ (a : Int) := by omega
        have HX1 := Lib.hid (show (l.map (·.1))[a]? = some x.1 by simp [hx])
        clear hy hc hq hev hx hxe
        have F0 := Lib.hid f0.out.1
        clear f0
        generalize x.1 = t at *
        rcases t with _ | _
        · go_wp2_with fail
          have HX := Lib.hid (fun (W : World) (hW : W.cell? ⟨tb, a, none⟩ = some (.bool false)) => And.intro hW (And.intro hai hai0))
          refine region_till 99 (fun W => W.cell? ⟨tb, a, none⟩ = some (.bool false)) (by kernel_rfl) F0.out (fun hS => ?_)
          refine take_till (i := 0) (some 51) (ptr b) rfl rfl (by kernel_rfl) (by kernel_rfl) (by kernel_rfl) (by kernel_rfl) (by decide) (fun _ _ _ h => h) (by rfl) (fun W hW => ?_) hS ?_
          · have hx := HX.out W hW
            clear hW
            go_simp
          simp only [Act.put, List.setIfInBounds_toArray, List.set_cons_zero, List.set_cons_succ]
          refine take_till (i := 1) (some 52) (.int .i64 (a : Int)) rfl rfl (by kernel_rfl) (by kernel_rfl) (by kernel_rfl) (by kernel_rfl) (by decide) (fun _ _ _ h => h) (by rfl) (fun W hW => ?_) hS ?_
          · have hx := HX.out W hW
            clear hW
            go_simp
          simp only [Act.put, List.setIfInBounds_toArray, List.set_cons_zero, List.set_cons_succ]
          refine take_till (i := 4) (some 55) (.slice (some ⟨tb, 0, none⟩) 40 40) rfl rfl (by kernel_rfl) (by kernel_rfl) (by kernel_rfl) (by kernel_rfl) (by decide) (fun _ _ _ h => h) (by rfl) (fun W hW => ?_) hS ?_
          · have hx := HX.out W hW
            clear hW
            go_simp
          simp only [Act.put, List.setIfInBounds_toArray, List.set_cons_zero, List.set_cons_succ]
          refine take_till (i := 5) (some 56) (.int .i64 (a : Int)) rfl rfl (by kernel_rfl) (by kernel_rfl) (by kernel_rfl) (by kernel_rfl) (by decide) (fun _ _ _ h => h) (by rfl) (fun W hW => ?_) hS ?_
          · have hx := HX.out W hW
            clear hW
            go_simp
          simp only [Act.put, List.setIfInBounds_toArray, List.set_cons_zero, List.set_cons_succ]
          refine take_till (i := 6) (some 57) (.pointer (some ⟨tb, a, none⟩)) rfl rfl (by kernel_rfl) (by kernel_rfl) (by kernel_rfl) (by kernel_rfl) (by decide) (fun _ _ _ h => h) (by rfl) (fun W hW => ?_) hS ?_
          · have hx := HX.out W hW
            clear hW
            go_simp
          simp only [Act.put, List.setIfInBounds_toArray, List.set_cons_zero, List.set_cons_succ]
          refine take_till (i := 7) (some 58) (.bool false) rfl rfl (by kernel_rfl) (by kernel_rfl) (by kernel_rfl) (by kernel_rfl) (by decide) (fun _ _ _ h => h) (by rfl) (fun W hW => ?_) hS ?_
          · have hx := HX.out W hW
            clear hW
            go_simp
          simp only [Act.put, List.setIfInBounds_toArray, List.set_cons_zero, List.set_cons_succ]
          refine next_till 2 (by kernel_rfl) rfl (fun K hK => ?_)
          go_simp
          refine K1.out.mono ?_
          rintro e w4 ⟨rfl, hkp, hkq⟩
          have f4 : w4.cell? ⟨tb, a, none⟩ = some (.bool false) := (hkp.atT HX1.out).1
          have f5 := (hkp.atT HX1.out).2
          have HQ := Lib.hid hkq
          clear hkp hkq
          refine hK.out _ _ (fun _ => f4) ?_
          clear hK K
          refine next_till 3 (by kernel_rfl) rfl (fun K hK => ?_)
          go_simp
          refine hK.out _ _ (fun _ => f4) ?_
          clear hK K
          refine next_till 8 (by kernel_rfl) rfl (fun K hK => ?_)
          go_simp
          refine hK.out _ _ (fun _ => f4) ?_
          clear hK K
          refine done_till (by kernel_rfl) ?_ _
          go_wp2
          go_roundw
          case rel => exact ⟨j + 1, by omega, by go_num, _, HQ.out, EV.out⟩
          case measure => simp [intOf]; omega
        · go_wp2_with fail
          have HX := Lib.hid (fun (W : World) (hW : W.cell? ⟨tb, a, none⟩ = some (.bool true)) => And.intro hW (And.intro hai hai0))
          refine region_till 99 (fun W => W.cell? ⟨tb, a, none⟩ = some (.bool true)) (by kernel_rfl) F0.out (fun hS => ?_)
          refine take_till (i := 0) (some 51) (ptr b) rfl rfl (by kernel_rfl) (by kernel_rfl) (by kernel_rfl) (by kernel_rfl) (by decide) (fun _ _ _ h => h) (by rfl) (fun W hW => ?_) hS ?_
          · have hx := HX.out W hW
            clear hW
            go_simp
          simp only [Act.put, List.setIfInBounds_toArray, List.set_cons_zero, List.set_cons_succ]
          refine take_till (i := 1) (some 52) (.int .i64 (a : Int)) rfl rfl (by kernel_rfl) (by kernel_rfl) (by kernel_rfl) (by kernel_rfl) (by decide) (fun _ _ _ h => h) (by rfl) (fun W hW => ?_) hS ?_
          · have hx := HX.out W hW
            clear hW
            go_simp
          simp only [Act.put, List.setIfInBounds_toArray, List.set_cons_zero, List.set_cons_succ]
          refine take_till (i := 4) (some 55) (.slice (some ⟨tb, 0, none⟩) 40 40) rfl rfl (by kernel_rfl) (by kernel_rfl) (by kernel_rfl) (by kernel_rfl) (by decide) (fun _ _ _ h => h) (by rfl) (fun W hW => ?_) hS ?_
          · have hx := HX.out W hW
            clear hW
            go_simp
          simp only [Act.put, List.setIfInBounds_toArray, List.set_cons_zero, List.set_cons_succ]
          refine take_till (i := 5) (some 56) (.int .i64 (a : Int)) rfl rfl (by kernel_rfl) (by kernel_rfl) (by kernel_rfl) (by kernel_rfl) (by decide) (fun _ _ _ h => h) (by rfl) (fun W hW => ?_) hS ?_
          · have hx := HX.out W hW
            clear hW
            go_simp
          simp only [Act.put, List.setIfInBounds_toArray, List.set_cons_zero, List.set_cons_succ]
          refine take_till (i := 6) (some 57) (.pointer (some ⟨tb, a, none⟩)) rfl rfl (by kernel_rfl) (by kernel_rfl) (by kernel_rfl) (by kernel_rfl) (by decide) (fun _ _ _ h => h) (by rfl) (fun W hW => ?_) hS ?_
          · have hx := HX.out W hW
            clear hW
            go_simp
          simp only [Act.put, List.setIfInBounds_toArray, List.set_cons_zero, List.set_cons_succ]
          refine take_till (i := 7) (some 58) (.bool true) rfl rfl (by kernel_rfl) (by kernel_rfl) (by kernel_rfl) (by kernel_rfl) (by decide) (fun _ _ _ h => h) (by rfl) (fun W hW => ?_) hS ?_
          · have hx := HX.out W hW
            clear hW
            go_simp
          simp only [Act.put, List.setIfInBounds_toArray, List.set_cons_zero, List.set_cons_succ]
          refine next_till 2 (by kernel_rfl) rfl (fun K hK => ?_)
          go_simp
          refine K1.out.mono ?_
          rintro e w4 ⟨rfl, hkp, hkq⟩
          have f4 : w4.cell? ⟨tb, a, none⟩ = some (.bool true) := (hkp.atT HX1.out).1
          have f5 := (hkp.atT HX1.out).2
          have HQ := Lib.hid hkq
          clear hkp hkq
          refine hK.out _ _ (fun _ => f4) ?_
          clear hK K
          refine next_till 3 (by kernel_rfl) rfl (fun K hK => ?_)
          go_simp
          refine hK.out _ _ (fun _ => f4) ?_
          clear hK K
          refine next_till 8 (by kernel_rfl) rfl (fun K hK => ?_)
          go_simp
          refine hK.out _ _ (fun _ => f4) ?_
          clear hK K
          refine done_till (by kernel_rfl) ?_ _
          go_wp2
          go_roundw
          case rel => exact ⟨j + 1, by omega, by go_num, _, HQ.out, EV.out⟩
          case measure => simp [intOf]; omega
      · obtain rfl : j = lo.length := by omega
        have HQ := Lib.hid hq
        clear hq hev
        go_wp2
        go_loopw [11, 12, 13, 14] (fun i _ _ _ wr => ∃ j : Nat, j ≤ ls.length ∧ i = .int .i64 j ∧ ∃ l, Kq w wr b tb nb l) (fun i _ _ _ _ => ls.length - (intOf i).toNat)
        case atStart => exact ⟨0, Nat.zero_le _, rfl, _, HQ.out⟩
        case round =>
          clear HQ hlt hj
          clear l
          obtain ⟨j, hj, rfl, l, hq⟩ := hrel
          have hlb := HH.out.2.2.1
          by_cases hlt : j < ls.length
          · obtain ⟨s, hs⟩ : ∃ s, ls[j]? = some s := ⟨_, List.getElem?_eq_getElem hlt⟩
            obtain ⟨g, o, rfl, c0, c1⟩ := HH.out.2.1.open_in hq.bel hs
            have hil : (j : Int) < (ls.length : Int) := by omega
            by_cases h1 : s.o = 1
            · rw [h1] at c0
              clear hs h1
              generalize s.k = kk at *
              rcases hn : leastFree l with _ | n
              · have K1 := q_take_none hq hn
                clear hq hn
                go_wp2_with fail
                refine K1.mono ?_
                rintro e w4 ⟨rfl, hq⟩
                have HQ := Lib.hid hq
                clear hq K1
                go_wp2
                go_roundw
                case rel => exact ⟨j + 1, by omega, by go_num, _, HQ.out⟩
                case measure => simp [intOf]; omega
              · have K1 := q_take_some hq hn
                have hn40 : n < 40 := by
                  obtain ⟨x, hx, _⟩ := least_some hn
                  have := (List.getElem?_eq_some_iff.1 hx).1
                  have := hq.2
                  omega
                have hn0 : decide ((n : Int) < 0) = false := by simp
                have hn1 : (n : Int) < 40 := by omega
                have hn2 : decide ((40 : Int) ≤ (n : Int)) = false := by simp; omega
                clear hq hn
                go_wp2_with fail
                refine K1.mono ?_
                rintro e w4 ⟨rfl, ⟨c4, c5, c6⟩, hq⟩
                have HQ := Lib.hid hq
                clear hq K1
                go_wp2
                go_roundw
                case rel => exact ⟨j + 1, by omega, by go_num, _, HQ.out⟩
                case measure => simp [intOf]; omega
            · by_cases h3 : s.o = 3
              · rw [h3] at c0
                clear hs h1 h3
                generalize s.k = kk at *
                by_cases hx : ∃ (n : Nat) (x : Pg), kk = n ∧ l[n]? = some x ∧ x.2 = true
                · obtain ⟨n, x, rfl, hx, hx2⟩ := hx
                  have K1 := q_drop_yes hq hx hx2
                  have hn40 : n < 40 := by
                    have := (List.getElem?_eq_some_iff.1 hx).1
                    have := hq.2
                    omega
                  have hn0 : decide ((n : Int) < 0) = false := by simp
                  have hn1 : (n : Int) < 40 := by omega
                  have hn2 : decide ((40 : Int) ≤ (n : Int)) = false := by simp; omega
                  clear hq hx hx2
                  go_wp2_with fail
                  refine K1.mono ?_
                  rintro e w4 ⟨rfl, ⟨v4, c4, c5⟩, hq⟩
                  have HQ := Lib.hid hq
                  clear hq K1
                  go_wp2
                  go_roundw
                  case rel => exact ⟨j + 1, by omega, by go_num, _, HQ.out⟩
                  case measure => simp [intOf]; omega
                · have K1 := q_drop_no hq (k := kk) (fun n x e1 e2 => by
                    cases h : x.2
                    · rfl
                    · exact absurd ⟨n, x, e1, e2, h⟩ hx)
                  clear hq hx
                  go_wp2_with fail
                  refine K1.mono ?_
                  rintro e w4 ⟨cc, rfl, hc, hq⟩
                  have hcb : (cc == 0) = false := by simpa using hc
                  have HQ := Lib.hid hq
                  clear hq K1
                  go_wp2
                  go_roundw
                  case rel => exact ⟨j + 1, by omega, by go_num, _, HQ.out⟩
                  case measure => simp [intOf]; omega
              · have h1b : (s.o == 1) = false := by simpa using h1
                have h3b : (s.o == 3) = false := by simpa using h3
                clear hs
                generalize s.k = kk at *
                generalize s.o = oo at *
                have HQ := Lib.hid hq
                clear hq
                go_wp2
                go_roundw
                case rel => exact ⟨j + 1, by omega, by go_num, _, HQ.out⟩
                case measure => simp [intOf]; omega
          · obtain rfl : j = ls.length := by omega
            have HQ := Lib.hid hq
            go_wp2
            go_loopw [15, 16] (fun i _ W => ∃ j : Nat, j ≤ 40 ∧ i = .int .i64 j ∧ W = wr) (fun i _ _ => 40 - (intOf i).toNat)
            case atStart => exact ⟨0, Nat.zero_le _, rfl, rfl⟩
            case round =>
              clear hq hlt hj hlb
              obtain ⟨j, hj, rfl, rfl⟩ := hrel
              by_cases hlt : j < 40
              · obtain ⟨x, hx⟩ : ∃ x, l[j]? = some x := ⟨_, List.getElem?_eq_getElem (by have := HQ.out.2; omega)⟩
                obtain ⟨c0, _, c1, _⟩ := HQ.out.cells hx
                have hil : (j : Int) < 40 := by omega
                have K1 := k_state HQ.out.1 (j : Int)
                rw [stateP_at hx] at K1
                clear hx
                rcases x with ⟨_ | _, _ | _⟩ <;> simp only [pnum, tkn, Bool.not_true, Bool.not_false, Bool.and_true, Bool.and_false] at K1 c0 c1
                all_goals
                  go_wp2_with fail
                  refine K1.mono ?_
                  rintro e w5 ⟨rfl, rfl⟩
                  clear K1
                  go_wp2
                  go_roundw
                  case rel => exact ⟨j + 1, by omega, by go_num, by trivial⟩
                  case measure => simp [intOf]; omega
              · obtain rfl : j = 40 := by omega
                have K1 := k_back HQ.out.1
                have HL := Lib.hid HQ.out.2
                clear HQ
                go_wp2_with fail
                refine K1.mono ?_
                rintro e w5 ⟨rfl, hk⟩
                have HK := Lib.hid hk
                clear K1 hk
                go_wp2
                go_loopw [17] (fun i W => ∃ j : Nat, j ≤ 40 ∧ i = .int .i64 j ∧ Kp w W b tb nb (backP l) (l.map (·.1)) (l.map tkn)) (fun i _ => 40 - (intOf i).toNat)
                case atStart => exact ⟨0, Nat.zero_le _, rfl, HK.out⟩
                case round =>
                  clear hlt hj HK
                  obtain ⟨j, hj, rfl, hk⟩ := hrel
                  by_cases hlt : j < 40
                  · obtain ⟨x, hx⟩ : ∃ x, l[j]? = some x := ⟨_, List.getElem?_eq_getElem (by have := HL.out; omega)⟩
                    obtain ⟨c0, _⟩ := hk.atT (k := j) (c := x.1) (by simp [hx])
                    have hil : (j : Int) < 40 := by omega
                    have K1 := fun n => k_state (hk.drewN n) (j : Int)
                    rw [stateP_at (backP_at hx)] at K1
                    have HK := Lib.hid hk
                    clear hx hk
                    rcases x with ⟨_ | _, x2⟩ <;> simp only [pnum] at K1 c0
                    all_goals
                      have K2 := Lib.hid K1
                      clear K1
                      go_wp2_with fail
                      go_quiet ((go_at_call 23; exact quiet_left (K2.out _)))
                      go_wp2
                      go_roundw
                      case rel => exact ⟨j + 1, by omega, by go_num, HK.out.drewN _⟩
                      case measure => simp [intOf]; omega
                  · obtain rfl : j = 40 := by omega
                    have HB := Lib.hid hk.bel
                    clear hk
                    go_wp2_with fail
                    refine (works_any _).mono ?_
                    rintro e w9 ⟨rfl, b9⟩
                    go_wp2
                    go_ret
                    exact ⟨rfl, HB.out.trans (b9.mono HB.out.size)⟩
end Go.Proofs.Ytdmcknankcbjiaa
