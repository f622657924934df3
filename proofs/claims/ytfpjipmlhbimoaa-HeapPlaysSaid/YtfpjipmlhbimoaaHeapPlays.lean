/- The statement HeapPlays: any pushes and pops: each answer, the first one, and how many there are; no condition. -/
import Derived.Test.YtfpjipmlhbimoaaHpArgs
import Derived.Test.YtfpjipmlhbimoaaHpRef2
namespace Go.Proofs.Ytfpjipmlhbimoaa
open Go.RowKit

/-- The first one, or noughts; the error; what is left. -/
noncomputable def fstT (l : List Th) : Th := if h : l ≠ [] then Classical.choose (fst_ex l h) else (0, 0)
def eT (l : List Th) : Int := if l = [] then 4 else 0
theorem fstT_is {l : List Th} (h : l ≠ []) : Fst l (fstT l) := by
  unfold fstT
  rw [dif_pos h]
  exact Classical.choose_spec (fst_ex l h)
theorem fstT_nil : fstT [] = (0, 0) := by
  unfold fstT
  rw [dif_neg (by simp)]
theorem eT_some {l : List Th} (h : l ≠ []) : eT l = 0 := by
  unfold eT
  rw [if_neg h]

section
variable {w0 w w' : World} {b c : Nat} {l m : List Th} {x : Th} {T : Res}
theorem q_popA (h : SL w0 w (Sep (RH b l) T)) (fr : Fr T) (hn : l.length ≤ 4294967290) : Calls Try.prog 12 #[ptr b] w fun e w' => e = .returned (.tuple #[.int .i64 (fstT l).1, .int .i64 (fstT l).2, err (eT l)]) ∧ SL w0 w' (Sep (RH b (l.erase (fstT l))) T) := by
  by_cases hl : l = []
  · subst hl
    rw [fstT_nil]
    exact q_pop0 h fr
  · rw [eT_some hl]
    exact q_pop h fr (fstT_is hl) hn
theorem q_peekA (h : SL w0 w (Sep (RH b l) T)) (fr : Fr T) : Calls Try.prog 14 #[ptr b] w fun e w' => e = .returned (.tuple #[.int .i64 (fstT l).1, .int .i64 (fstT l).2, err (eT l)]) ∧ SL w0 w' (Sep (RH b l) T) := by
  by_cases hl : l = []
  · subst hl
    rw [fstT_nil]
    exact q_peek0 h fr
  · rw [eT_some hl]
    exact q_peek h fr (fstT_is hl)
theorem q_rpopA (h : SL w0 w (Sep (RR c l) T)) (fr : Fr T) (hn : l.length ≤ 4294967290) : Calls Try.prog 13 #[ptr c] w fun e w' => e = .returned (.tuple #[.int .i64 (fstT l).1, .int .i64 (fstT l).2, err (eT l)]) ∧ SL w0 w' (Sep (RR c (l.erase (fstT l))) T) := by
  by_cases hl : l = []
  · subst hl
    rw [fstT_nil]
    exact h.look (RR.fr c _) fr fun _ hR => rpop0 hR
  · rw [eT_some hl]
    exact h.call fr (RR.fr c _) fun F hR => (rpop_any hR (fstT_is hl) hn).mono fun _ _ ⟨h1, h2, h3⟩ => ⟨h1, F, h2, h3⟩
theorem q_rpeekA (h : SL w0 w (Sep (RR c l) T)) (fr : Fr T) (hn : l.length ≤ 4294967290) : Calls Try.prog 15 #[ptr c] w fun e w' => e = .returned (.tuple #[.int .i64 (fstT l).1, .int .i64 (fstT l).2, err (eT l)]) ∧ SL w0 w' (Sep (RR c l) T) := by
  by_cases hl : l = []
  · subst hl
    rw [fstT_nil]
    exact h.look (RR.fr c _) fr fun _ hR => rpeek0 hR
  · rw [eT_some hl]
    exact h.look (RR.fr c _) fr fun _ hR => rpeek_any hR (fstT_is hl) hn
theorem q_rpush (h : SL w0 w (Sep (RR c l) T)) (fr : Fr T) (k i : Int) (hn : l.length ≤ 4294967290) : Calls Try.prog 11 #[ptr c, .int .i64 k, .int .i64 i] w fun e w' => e = .returned (.tuple #[]) ∧ SL w0 w' (Sep (RR c ((k, i) :: l)) T) :=
  h.call fr (RR.fr c _) fun _ hR => rpush_any hR k i hn
theorem q_len0 (h : SL w0 w (Sep (RH b l) T)) : Calls Try.prog 16 #[ptr b] w fun e w' => e = .returned (.int .i64 (l.length : Nat)) ∧ w = w' := by
  obtain ⟨F, h1, _⟩ := h.one
  exact len_any h1
theorem q_rhead (h : SL w0 w (Sep (RR c l) T)) : ∃ a cap, w.cell? ⟨c, 0, none⟩ = some (.slice a l.length cap) := by
  obtain ⟨F, ⟨v, r, h1, h2⟩, _⟩ := h.one
  obtain ⟨a, cap, rfl, _⟩ := Rw.of_own h1.row
  rw [← h2.length_eq]
  exact ⟨a, cap, h1.cel.cell 0⟩
theorem SL.newR (h : SL w0 w T) (fr : Fr T) : SL w0 (w.alloc (.cells #[.slice none 0 0] tRH)) (Sep (RR w.heap.size []) T) := by
  have hz := Cel.new w #[.slice none 0 0] tRH
  have hb : Below w.heap.size w (w.alloc (.cells #[.slice none 0 0] tRH)) := (Below.refl _ _).alloc (Nat.le_refl _) _
  have hR : RR w.heap.size [] (w.alloc (.cells #[.slice none 0 0] tRH)) (fun q => q = w.heap.size) := by
    refine ⟨_, [], ⟨hz, World.ownsRow_nil _ _ _ _, fun q => ?_, fun q hq => by cases hq⟩, List.Perm.refl _⟩
    simp [Value.ownBlock]
  exact h.add fr hb hR fun q hq => by
    have hq : q = w.heap.size := hq
    subst hq
    simp

set_option maxRecDepth 100000 in
set_option maxHeartbeats 4000000 in
theorem heapPlays_any (w : World) {sv : Value} {ss : List Sp} (hs : Stw w sv ss) : Calls Try.prog 3 #[sv] w fun e w' => e = .returned (.bool true) ∧ Below w.heap.size w w' := by
  obtain ⟨sa, sc, rfl, _⟩ := Rd.shape hs
  obtain ⟨n, hn⟩ : ∃ n, n = ss.length := ⟨_, rfl⟩
  rw [← hn] at hs ⊢
  by_cases hbig : 400 < n
  · have hb : (400 : Int) < (n : Int) := by omega
    clear hs hn
    go_enter Try.func3, Try.ntmps3
    go_wp2_with fail
    refine (works_any w).mono ?_
    rintro e w7 ⟨rfl, hb⟩
    go_wp2
    go_ret
    exact ⟨rfl, hb⟩
  have hnb : (n : Int) ≤ 400 := by omega
  have HK := Lib.hid (And.intro hs (And.intro hn hbig))
  clear hs hn hbig
  go_enter Try.func3, Try.ntmps3
  go_wp2_with fail
  refine (q_new (SL.start w) Emp.fr).mono ?_
  rintro e w1 ⟨rfl, h⟩
  generalize w.heap.size = b at *
  have hS2 := h.newR ((RH.fr _ _).sep Emp.fr)
  generalize hc : w1.heap.size = c at *
  have HS := Lib.hid hS2.rot
  clear h hS2
  go_wp2
  generalize w1.alloc (.cells #[.slice none 0 0] tRH) = w2 at *
  go_loopw [5] (fun j wr => ∃ (r : Nat) (l : List Th), j = .int .i64 (r : Int) ∧ r ≤ n ∧ l.length ≤ r ∧ SL w wr (Sep (RH b l) (Sep (RR c l) Emp))) (fun j _ => n - (intOf j).toNat)
  case atStart => exact ⟨0, [], rfl, Nat.zero_le _, Nat.le_refl _, HS.out⟩
  case round =>
    obtain ⟨r, l, rfl, hr, hl, hS⟩ := hrel
    obtain ⟨hs, hn, hbig⟩ := HK.out
    by_cases hlt : r < n
    · obtain ⟨sp, hsp⟩ : ∃ sp, ss[r]? = some sp := ⟨_, List.getElem?_eq_getElem (by omega)⟩
      rw [hn] at hs
      obtain ⟨g, o, cap, t, e0, rfl, -, -, hcell, -⟩ := hs.at hsp
      simp only [Value.slice.injEq] at e0
      obtain ⟨rfl, -, rfl⟩ := e0
      have q0 := hcell 0 _ rfl
      have q1 := hcell 1 _ rfl
      have q2 := hcell 2 _ rfl
      obtain ⟨k, i, pp⟩ := t
      simp only [kdSp, Nat.add_zero] at q0 q1 q2
      have q2 : w.cell? ⟨g, o + r * 3 + 2, none⟩ = some (.int .u8 (pp.toNat : Int)) := q2
      have hz255 : pp.toNat ≤ 255 := Nat.le_of_lt_succ pp.toNat_lt
      generalize pp.toNat = z at *
      have hz0 : (0 : Int) ≤ (z : Int) := by omega
      have hzb : (z : Int) ≤ 255 := by omega
      have hcl := fun {a : Addr} {u : Value} {W : World} (hW : Below w.heap.size w W) (hc : w.cell? a = some u) => (hW.cell (p := a) (World.block_lt_of_cell? w _ hc)).trans hc
      have HX := Lib.hid (fun (W : World) (hW : Below w.heap.size w W) => And.intro (hcl hW q0) (And.intro (hcl hW q1) (hcl hW q2)))
      have hil : (r : Int) < (n : Int) := by omega
      have hr0 : (0 : Int) ≤ (r : Int) := by omega
      have HP := Lib.hid (And.intro hlt (And.intro hl hr))
      have hbw := hS.under
      have HS1 := Lib.hid hS
      clear hs hn hbig hlt hl hr hsp hcell hcl q0 q1 q2 hS
      obtain ⟨q0, q1, q2⟩ := HX.out _ hbw
      go_upto_if 39 with fail
      go_cut [] from 34 to 65 (fun wx => ∃ l', l'.length ≤ r + 1 ∧ SL w wx (Sep (RH b l') (Sep (RR c l') Emp)))
      case first =>
        by_cases hz : z = 0
        · have hz' : (z : Int) = 0 := by omega
          clear hz q0 q1
          have frE : Fr (Sep (RR c l) Emp) := (RR.fr _ _).sep Emp.fr
          go_wp2_with fail
          refine region_till 99 (fun W => Below w.heap.size w W) (by kernel_rfl) (below_drewN hbw 1) (fun hS => ?_)
          refine take_till (i := 0) (some 40) (.pointer (some ⟨b, 0, none⟩)) rfl rfl (by kernel_rfl) (by kernel_rfl) (by kernel_rfl) (by kernel_rfl) (by decide) (fun _ _ _ h => h) (by rfl) (fun W hW => ?_) hS ?_
          · obtain ⟨q0, q1, q2⟩ := HX.out W hW
            clear hW
            go_simp
          simp only [Act.put, List.setIfInBounds_toArray, List.set_cons_zero, List.set_cons_succ]
          refine take_till (i := 1) (some 41) (.slice (some ⟨g, o, none⟩) n sc) rfl rfl (by kernel_rfl) (by kernel_rfl) (by kernel_rfl) (by kernel_rfl) (by decide) (fun _ _ _ h => h) (by rfl) (fun W hW => ?_) hS ?_
          · obtain ⟨q0, q1, q2⟩ := HX.out W hW
            clear hW
            go_simp
          simp only [Act.put, List.setIfInBounds_toArray, List.set_cons_zero, List.set_cons_succ]
          refine take_till (i := 2) (some 42) (.int .i64 (r : Int)) rfl rfl (by kernel_rfl) (by kernel_rfl) (by kernel_rfl) (by kernel_rfl) (by decide) (fun _ _ _ h => h) (by rfl) (fun W hW => ?_) hS ?_
          · obtain ⟨q0, q1, q2⟩ := HX.out W hW
            clear hW
            go_simp
          simp only [Act.put, List.setIfInBounds_toArray, List.set_cons_zero, List.set_cons_succ]
          refine take_till (i := 3) (some 43) (.pointer (some ⟨g, o + r * 3, none⟩)) rfl rfl (by kernel_rfl) (by kernel_rfl) (by kernel_rfl) (by kernel_rfl) (by decide) (fun _ _ _ h => h) (by rfl) (fun W hW => ?_) hS ?_
          · obtain ⟨q0, q1, q2⟩ := HX.out W hW
            clear hW
            go_simp
          simp only [Act.put, List.setIfInBounds_toArray, List.set_cons_zero, List.set_cons_succ]
          refine take_till (i := 4) (some 44) (.pointer (some ⟨g, o + r * 3, none⟩)) rfl rfl (by kernel_rfl) (by kernel_rfl) (by kernel_rfl) (by kernel_rfl) (by decide) (fun _ _ _ h => h) (by rfl) (fun W hW => ?_) hS ?_
          · obtain ⟨q0, q1, q2⟩ := HX.out W hW
            clear hW
            go_simp
          simp only [Act.put, List.setIfInBounds_toArray, List.set_cons_zero, List.set_cons_succ]
          refine take_till (i := 5) (some 45) (.int .i64 k) rfl rfl (by kernel_rfl) (by kernel_rfl) (by kernel_rfl) (by kernel_rfl) (by decide) (fun _ _ _ h => h) (by rfl) (fun W hW => ?_) hS ?_
          · obtain ⟨q0, q1, q2⟩ := HX.out W hW
            clear hW
            go_simp
          simp only [Act.put, List.setIfInBounds_toArray, List.set_cons_zero, List.set_cons_succ]
          refine take_till (i := 6) (some 46) (.slice (some ⟨g, o, none⟩) n sc) rfl rfl (by kernel_rfl) (by kernel_rfl) (by kernel_rfl) (by kernel_rfl) (by decide) (fun _ _ _ h => h) (by rfl) (fun W hW => ?_) hS ?_
          · obtain ⟨q0, q1, q2⟩ := HX.out W hW
            clear hW
            go_simp
          simp only [Act.put, List.setIfInBounds_toArray, List.set_cons_zero, List.set_cons_succ]
          refine take_till (i := 7) (some 47) (.int .i64 (r : Int)) rfl rfl (by kernel_rfl) (by kernel_rfl) (by kernel_rfl) (by kernel_rfl) (by decide) (fun _ _ _ h => h) (by rfl) (fun W hW => ?_) hS ?_
          · obtain ⟨q0, q1, q2⟩ := HX.out W hW
            clear hW
            go_simp
          simp only [Act.put, List.setIfInBounds_toArray, List.set_cons_zero, List.set_cons_succ]
          refine take_till (i := 8) (some 48) (.pointer (some ⟨g, o + r * 3, none⟩)) rfl rfl (by kernel_rfl) (by kernel_rfl) (by kernel_rfl) (by kernel_rfl) (by decide) (fun _ _ _ h => h) (by rfl) (fun W hW => ?_) hS ?_
          · obtain ⟨q0, q1, q2⟩ := HX.out W hW
            clear hW
            go_simp
          simp only [Act.put, List.setIfInBounds_toArray, List.set_cons_zero, List.set_cons_succ]
          refine take_till (i := 9) (some 49) (.pointer (some ⟨g, o + r * 3 + 1, none⟩)) rfl rfl (by kernel_rfl) (by kernel_rfl) (by kernel_rfl) (by kernel_rfl) (by decide) (fun _ _ _ h => h) (by rfl) (fun W hW => ?_) hS ?_
          · obtain ⟨q0, q1, q2⟩ := HX.out W hW
            clear hW
            go_simp
          simp only [Act.put, List.setIfInBounds_toArray, List.set_cons_zero, List.set_cons_succ]
          refine take_till (i := 10) (some 50) (.int .i64 i) rfl rfl (by kernel_rfl) (by kernel_rfl) (by kernel_rfl) (by kernel_rfl) (by decide) (fun _ _ _ h => h) (by rfl) (fun W hW => ?_) hS ?_
          · obtain ⟨q0, q1, q2⟩ := HX.out W hW
            clear hW
            go_simp
          simp only [Act.put, List.setIfInBounds_toArray, List.set_cons_zero, List.set_cons_succ]
          have hSd := HS1.out.later ((RH.fr _ _).sep frE) (below_drewN (Below.refl _ _) 1)
          have P := q_push hSd frE k i (by have := HP.out; omega)
          refine next_till 11 (by kernel_rfl) rfl (fun K hK => ?_)
          go_simp
          refine P.mono ?_
          rintro e w3 ⟨rfl, h3⟩
          go_simp
          refine hK.out _ _ (fun _ => h3.under) ?_
          clear hK K hS P hSd
          have hS := h3.under
          refine take_till (i := 12) (some 52) (.bool false) rfl rfl (by kernel_rfl) (by kernel_rfl) (by kernel_rfl) (by kernel_rfl) (by decide) (fun _ _ _ h => h) (by rfl) (fun W hW => ?_) hS ?_
          · obtain ⟨q0, q1, q2⟩ := HX.out W hW
            clear hW
            go_simp
          simp only [Act.put, List.setIfInBounds_toArray, List.set_cons_zero, List.set_cons_succ]
          refine done_till (by kernel_rfl) ?_ _
          have HS3 := Lib.hid h3
          clear h3
          obtain ⟨q0, q1, q2⟩ := HX.out _ hS
          go_wp2_with fail
          refine region_till 99 (fun W => Below w.heap.size w W) (by kernel_rfl) (below_drewN hS 1) (fun hS => ?_)
          clear q0 q1 q2
          refine take_till (i := 0) (some 53) (.pointer (some ⟨c, 0, none⟩)) rfl rfl (by kernel_rfl) (by kernel_rfl) (by kernel_rfl) (by kernel_rfl) (by decide) (fun _ _ _ h => h) (by rfl) (fun W hW => ?_) hS ?_
          · obtain ⟨q0, q1, q2⟩ := HX.out W hW
            clear hW
            go_simp
          simp only [Act.put, List.setIfInBounds_toArray, List.set_cons_zero, List.set_cons_succ]
          refine take_till (i := 1) (some 54) (.slice (some ⟨g, o, none⟩) n sc) rfl rfl (by kernel_rfl) (by kernel_rfl) (by kernel_rfl) (by kernel_rfl) (by decide) (fun _ _ _ h => h) (by rfl) (fun W hW => ?_) hS ?_
          · obtain ⟨q0, q1, q2⟩ := HX.out W hW
            clear hW
            go_simp
          simp only [Act.put, List.setIfInBounds_toArray, List.set_cons_zero, List.set_cons_succ]
          refine take_till (i := 2) (some 55) (.int .i64 (r : Int)) rfl rfl (by kernel_rfl) (by kernel_rfl) (by kernel_rfl) (by kernel_rfl) (by decide) (fun _ _ _ h => h) (by rfl) (fun W hW => ?_) hS ?_
          · obtain ⟨q0, q1, q2⟩ := HX.out W hW
            clear hW
            go_simp
          simp only [Act.put, List.setIfInBounds_toArray, List.set_cons_zero, List.set_cons_succ]
          refine take_till (i := 3) (some 56) (.pointer (some ⟨g, o + r * 3, none⟩)) rfl rfl (by kernel_rfl) (by kernel_rfl) (by kernel_rfl) (by kernel_rfl) (by decide) (fun _ _ _ h => h) (by rfl) (fun W hW => ?_) hS ?_
          · obtain ⟨q0, q1, q2⟩ := HX.out W hW
            clear hW
            go_simp
          simp only [Act.put, List.setIfInBounds_toArray, List.set_cons_zero, List.set_cons_succ]
          refine take_till (i := 4) (some 57) (.pointer (some ⟨g, o + r * 3, none⟩)) rfl rfl (by kernel_rfl) (by kernel_rfl) (by kernel_rfl) (by kernel_rfl) (by decide) (fun _ _ _ h => h) (by rfl) (fun W hW => ?_) hS ?_
          · obtain ⟨q0, q1, q2⟩ := HX.out W hW
            clear hW
            go_simp
          simp only [Act.put, List.setIfInBounds_toArray, List.set_cons_zero, List.set_cons_succ]
          refine take_till (i := 5) (some 58) (.int .i64 k) rfl rfl (by kernel_rfl) (by kernel_rfl) (by kernel_rfl) (by kernel_rfl) (by decide) (fun _ _ _ h => h) (by rfl) (fun W hW => ?_) hS ?_
          · obtain ⟨q0, q1, q2⟩ := HX.out W hW
            clear hW
            go_simp
          simp only [Act.put, List.setIfInBounds_toArray, List.set_cons_zero, List.set_cons_succ]
          refine take_till (i := 6) (some 59) (.slice (some ⟨g, o, none⟩) n sc) rfl rfl (by kernel_rfl) (by kernel_rfl) (by kernel_rfl) (by kernel_rfl) (by decide) (fun _ _ _ h => h) (by rfl) (fun W hW => ?_) hS ?_
          · obtain ⟨q0, q1, q2⟩ := HX.out W hW
            clear hW
            go_simp
          simp only [Act.put, List.setIfInBounds_toArray, List.set_cons_zero, List.set_cons_succ]
          refine take_till (i := 7) (some 60) (.int .i64 (r : Int)) rfl rfl (by kernel_rfl) (by kernel_rfl) (by kernel_rfl) (by kernel_rfl) (by decide) (fun _ _ _ h => h) (by rfl) (fun W hW => ?_) hS ?_
          · obtain ⟨q0, q1, q2⟩ := HX.out W hW
            clear hW
            go_simp
          simp only [Act.put, List.setIfInBounds_toArray, List.set_cons_zero, List.set_cons_succ]
          refine take_till (i := 8) (some 61) (.pointer (some ⟨g, o + r * 3, none⟩)) rfl rfl (by kernel_rfl) (by kernel_rfl) (by kernel_rfl) (by kernel_rfl) (by decide) (fun _ _ _ h => h) (by rfl) (fun W hW => ?_) hS ?_
          · obtain ⟨q0, q1, q2⟩ := HX.out W hW
            clear hW
            go_simp
          simp only [Act.put, List.setIfInBounds_toArray, List.set_cons_zero, List.set_cons_succ]
          refine take_till (i := 9) (some 62) (.pointer (some ⟨g, o + r * 3 + 1, none⟩)) rfl rfl (by kernel_rfl) (by kernel_rfl) (by kernel_rfl) (by kernel_rfl) (by decide) (fun _ _ _ h => h) (by rfl) (fun W hW => ?_) hS ?_
          · obtain ⟨q0, q1, q2⟩ := HX.out W hW
            clear hW
            go_simp
          simp only [Act.put, List.setIfInBounds_toArray, List.set_cons_zero, List.set_cons_succ]
          refine take_till (i := 10) (some 63) (.int .i64 i) rfl rfl (by kernel_rfl) (by kernel_rfl) (by kernel_rfl) (by kernel_rfl) (by decide) (fun _ _ _ h => h) (by rfl) (fun W hW => ?_) hS ?_
          · obtain ⟨q0, q1, q2⟩ := HX.out W hW
            clear hW
            go_simp
          simp only [Act.put, List.setIfInBounds_toArray, List.set_cons_zero, List.set_cons_succ]
          have hSd := HS3.out.later ((RH.fr _ _).sep frE) (below_drewN (Below.refl _ _) 1)
          have P := q_rpush hSd.rot ((RH.fr _ _).sep Emp.fr) k i (by have := HP.out; omega)
          refine next_till 11 (by kernel_rfl) rfl (fun K hK => ?_)
          go_simp
          refine P.mono ?_
          rintro e w4 ⟨rfl, h4⟩
          go_simp
          refine hK.out _ _ (fun _ => h4.under) ?_
          clear hK K hS P hSd
          refine done_till (by kernel_rfl) ?_ _
          have HS4 := Lib.hid h4.rot
          clear h4
          go_wp2_with fail
          go_meet
          case rel => exact ⟨_, by have := HP.out; simp; omega, HS4.out⟩
        · have hz' : ¬ (z : Int) = 0 := by omega
          go_wp2_with fail
          go_meet
          case rel => exact ⟨l, by have := HP.out; omega, HS1.out⟩
      case rest =>
        obtain ⟨l', hl', hS⟩ := hcut
        obtain ⟨m, hm⟩ : ∃ m, m = z % 5 := ⟨_, rfl⟩
        have hmod : (z : Int).tmod 5 = (m : Int) := by rw [Int.tmod_eq_emod_of_nonneg (by omega)]; omega
        have hm4 : (m : Int) ≤ 4 := by omega
        have hm0 : (0 : Int) ≤ (m : Int) := by omega
        have HL := Lib.hid (And.intro hl' hS)
        clear hl' hS hm q0 q1 q2 HS1 hbw
        go_wp2_with fail
        go_loopw [6] (fun kk wx => ∃ (q : Nat) (l' : List Th), kk = .int .i64 (q : Int) ∧ q ≤ m ∧ l'.length ≤ r + 1 ∧ SL w wx (Sep (RH b l') (Sep (RR c l') Emp))) (fun kk _ => m - (intOf kk).toNat)
        case atStart => exact ⟨0, l', rfl, Nat.zero_le _, HL.out.1, HL.out.2⟩
        case round =>
          obtain ⟨q, l2, rfl, hq, hl2, hS⟩ := hrel
          obtain ⟨q0, q1, q2⟩ := HX.out _ hS.under
          clear q0 q1
          have hq0 : (0 : Int) ≤ (q : Int) := by omega
          by_cases hqm : q < m
          · have hqi : (q : Int) < (m : Int) := by omega
            have P := q_popA hS ((RR.fr _ _).sep Emp.fr) (by have := HP.out; omega)
            obtain ⟨x, hx⟩ : ∃ x, fstT l2 = x := ⟨_, rfl⟩
            obtain ⟨er, her⟩ : ∃ er, eT l2 = er := ⟨_, rfl⟩
            rw [hx, her] at P
            have HQ := Lib.hid (And.intro hqm (And.intro hl2 (And.intro hx her)))
            clear hS hqm hl2 hx her hq
            go_wp2_with fail
            refine P.mono ?_
            rintro e w3 ⟨rfl, h3⟩
            clear P
            have P := q_rpopA h3.rot ((RH.fr _ _).sep Emp.fr) (by have := HP.out; have := HQ.out.2.1; omega)
            rw [HQ.out.2.2.1, HQ.out.2.2.2] at P
            clear h3 q2
            go_wp2_with fail
            refine P.mono ?_
            rintro e w4 ⟨rfl, h4⟩
            clear P
            have HS4 := Lib.hid h4.rot
            clear h4
            go_wp2
            go_roundw
            case rel => exact ⟨q + 1, l2.erase x, by go_num, HQ.out.1, by have := HQ.out.2.1; have := List.length_erase_le (a := x) (l := l2); omega, HS4.out⟩
            case measure =>
              have := HQ.out.1
              simp only [intOf]
              omega
          · have hqi : ¬ (q : Int) < (m : Int) := by omega
            have P := q_peekA hS ((RR.fr _ _).sep Emp.fr)
            obtain ⟨x, hx⟩ : ∃ x, fstT l2 = x := ⟨_, rfl⟩
            obtain ⟨er, her⟩ : ∃ er, eT l2 = er := ⟨_, rfl⟩
            rw [hx, her] at P
            have HQ := Lib.hid (And.intro hl2 (And.intro hx her))
            clear hS hqm hl2 hx her hq
            go_wp2_with fail
            refine P.mono ?_
            rintro e w3 ⟨rfl, h3⟩
            clear P
            have P := q_rpeekA h3.rot ((RH.fr _ _).sep Emp.fr) (by have := HP.out; have := HQ.out.1; omega)
            rw [HQ.out.2.1, HQ.out.2.2] at P
            clear h3 q2
            go_wp2_with fail
            refine P.mono ?_
            rintro e w4 ⟨rfl, h4⟩
            clear P
            obtain ⟨ra, rc, c0⟩ := q_rhead h4
            obtain ⟨x1, x2⟩ := x
            obtain ⟨nl, hnl⟩ : ∃ nl, nl = l2.length := ⟨_, rfl⟩
            rw [← hnl] at c0
            have HS4 := Lib.hid (And.intro h4.rot hnl)
            clear h4 hnl
            go_wp2_with fail
            refine region_till 99 (fun W => W.cell? ⟨c, 0, none⟩ = some (.slice ra nl rc)) (by kernel_rfl) c0 (fun hS => ?_)
            refine take_till (i := 0) (some 113) (.int .i64 x1) rfl rfl (by kernel_rfl) (by kernel_rfl) (by kernel_rfl) (by kernel_rfl) (by decide) (fun _ _ _ h => h) (by rfl) (fun W hW => ?_) hS ?_
            · have c0 := hW
              clear hW
              go_simp
            simp only [Act.put, List.setIfInBounds_toArray, List.set_cons_zero, List.set_cons_succ]
            refine take_till (i := 1) (some 114) (.int .i64 x1) rfl rfl (by kernel_rfl) (by kernel_rfl) (by kernel_rfl) (by kernel_rfl) (by decide) (fun _ _ _ h => h) (by rfl) (fun W hW => ?_) hS ?_
            · have c0 := hW
              clear hW
              go_simp
            simp only [Act.put, List.setIfInBounds_toArray, List.set_cons_zero, List.set_cons_succ]
            refine take_till (i := 2) (some 115) (.bool false) rfl rfl (by kernel_rfl) (by kernel_rfl) (by kernel_rfl) (by kernel_rfl) (by decide) (fun _ _ _ h => h) (by rfl) (fun W hW => ?_) hS ?_
            · have c0 := hW
              clear hW
              go_simp
            simp only [Act.put, List.setIfInBounds_toArray, List.set_cons_zero, List.set_cons_succ]
            refine take_till (i := 3) (some 116) (.bool false) rfl rfl (by kernel_rfl) (by kernel_rfl) (by kernel_rfl) (by kernel_rfl) (by decide) (fun _ _ _ h => h) (by rfl) (fun W hW => ?_) hS ?_
            · have c0 := hW
              clear hW
              go_simp
            simp only [Act.put, List.setIfInBounds_toArray, List.set_cons_zero, List.set_cons_succ]
            refine take_till (i := 4) (some 117) (.int .i64 x2) rfl rfl (by kernel_rfl) (by kernel_rfl) (by kernel_rfl) (by kernel_rfl) (by decide) (fun _ _ _ h => h) (by rfl) (fun W hW => ?_) hS ?_
            · have c0 := hW
              clear hW
              go_simp
            simp only [Act.put, List.setIfInBounds_toArray, List.set_cons_zero, List.set_cons_succ]
            refine take_till (i := 5) (some 118) (.int .i64 x2) rfl rfl (by kernel_rfl) (by kernel_rfl) (by kernel_rfl) (by kernel_rfl) (by decide) (fun _ _ _ h => h) (by rfl) (fun W hW => ?_) hS ?_
            · have c0 := hW
              clear hW
              go_simp
            simp only [Act.put, List.setIfInBounds_toArray, List.set_cons_zero, List.set_cons_succ]
            refine take_till (i := 6) (some 119) (.bool false) rfl rfl (by kernel_rfl) (by kernel_rfl) (by kernel_rfl) (by kernel_rfl) (by decide) (fun _ _ _ h => h) (by rfl) (fun W hW => ?_) hS ?_
            · have c0 := hW
              clear hW
              go_simp
            simp only [Act.put, List.setIfInBounds_toArray, List.set_cons_zero, List.set_cons_succ]
            refine take_till (i := 7) (some 120) (.bool false) rfl rfl (by kernel_rfl) (by kernel_rfl) (by kernel_rfl) (by kernel_rfl) (by decide) (fun _ _ _ h => h) (by rfl) (fun W hW => ?_) hS ?_
            · have c0 := hW
              clear hW
              go_simp
            simp only [Act.put, List.setIfInBounds_toArray, List.set_cons_zero, List.set_cons_succ]
            refine take_till (i := 8) (some 121) (.bool false) rfl rfl (by kernel_rfl) (by kernel_rfl) (by kernel_rfl) (by kernel_rfl) (by decide) (fun _ _ _ h => h) (by rfl) (fun W hW => ?_) hS ?_
            · have c0 := hW
              clear hW
              go_simp
            simp only [Act.put, List.setIfInBounds_toArray, List.set_cons_zero, List.set_cons_succ]
            refine take_till (i := 9) (some 122) (.int .i64 er) rfl rfl (by kernel_rfl) (by kernel_rfl) (by kernel_rfl) (by kernel_rfl) (by decide) (fun _ _ _ h => h) (by rfl) (fun W hW => ?_) hS ?_
            · have c0 := hW
              clear hW
              go_simp
            simp only [Act.put, List.setIfInBounds_toArray, List.set_cons_zero, List.set_cons_succ]
            refine take_till (i := 10) (some 123) (.int .i64 er) rfl rfl (by kernel_rfl) (by kernel_rfl) (by kernel_rfl) (by kernel_rfl) (by decide) (fun _ _ _ h => h) (by rfl) (fun W hW => ?_) hS ?_
            · have c0 := hW
              clear hW
              go_simp
            simp only [Act.put, List.setIfInBounds_toArray, List.set_cons_zero, List.set_cons_succ]
            refine take_till (i := 11) (some 124) (.bool false) rfl rfl (by kernel_rfl) (by kernel_rfl) (by kernel_rfl) (by kernel_rfl) (by decide) (fun _ _ _ h => h) (by rfl) (fun W hW => ?_) hS ?_
            · have c0 := hW
              clear hW
              go_simp
            simp only [Act.put, List.setIfInBounds_toArray, List.set_cons_zero, List.set_cons_succ]
            refine take_till (i := 12) (some 125) (.bool false) rfl rfl (by kernel_rfl) (by kernel_rfl) (by kernel_rfl) (by kernel_rfl) (by decide) (fun _ _ _ h => h) (by rfl) (fun W hW => ?_) hS ?_
            · have c0 := hW
              clear hW
              go_simp
            simp only [Act.put, List.setIfInBounds_toArray, List.set_cons_zero, List.set_cons_succ]
            refine take_till (i := 13) (some 126) (.bool false) rfl rfl (by kernel_rfl) (by kernel_rfl) (by kernel_rfl) (by kernel_rfl) (by decide) (fun _ _ _ h => h) (by rfl) (fun W hW => ?_) hS ?_
            · have c0 := hW
              clear hW
              go_simp
            simp only [Act.put, List.setIfInBounds_toArray, List.set_cons_zero, List.set_cons_succ]
            refine take_till (i := 14) (some 127) (.pointer (some ⟨b, 0, none⟩)) rfl rfl (by kernel_rfl) (by kernel_rfl) (by kernel_rfl) (by kernel_rfl) (by decide) (fun _ _ _ h => h) (by rfl) (fun W hW => ?_) hS ?_
            · have c0 := hW
              clear hW
              go_simp
            simp only [Act.put, List.setIfInBounds_toArray, List.set_cons_zero, List.set_cons_succ]
            refine take_till (i := 16) (some 129) (.pointer (some ⟨c, 0, none⟩)) rfl rfl (by kernel_rfl) (by kernel_rfl) (by kernel_rfl) (by kernel_rfl) (by decide) (fun _ _ _ h => h) (by rfl) (fun W hW => ?_) hS ?_
            · have c0 := hW
              clear hW
              go_simp
            simp only [Act.put, List.setIfInBounds_toArray, List.set_cons_zero, List.set_cons_succ]
            refine take_till (i := 17) (some 130) (.pointer (some ⟨c, 0, none⟩)) rfl rfl (by kernel_rfl) (by kernel_rfl) (by kernel_rfl) (by kernel_rfl) (by decide) (fun _ _ _ h => h) (by rfl) (fun W hW => ?_) hS ?_
            · have c0 := hW
              clear hW
              go_simp
            simp only [Act.put, List.setIfInBounds_toArray, List.set_cons_zero, List.set_cons_succ]
            refine take_till (i := 18) (some 131) (.pointer (some ⟨c, 0, none⟩)) rfl rfl (by kernel_rfl) (by kernel_rfl) (by kernel_rfl) (by kernel_rfl) (by decide) (fun _ _ _ h => h) (by rfl) (fun W hW => ?_) hS ?_
            · have c0 := hW
              clear hW
              go_simp
            simp only [Act.put, List.setIfInBounds_toArray, List.set_cons_zero, List.set_cons_succ]
            refine take_till (i := 19) (some 132) (.slice ra nl rc) rfl rfl (by kernel_rfl) (by kernel_rfl) (by kernel_rfl) (by kernel_rfl) (by decide) (fun _ _ _ h => h) (by rfl) (fun W hW => ?_) hS ?_
            · have c0 := hW
              clear hW
              go_simp
            simp only [Act.put, List.setIfInBounds_toArray, List.set_cons_zero, List.set_cons_succ]
            refine take_till (i := 20) (some 133) (.int .i64 (nl : Int)) rfl rfl (by kernel_rfl) (by kernel_rfl) (by kernel_rfl) (by kernel_rfl) (by decide) (fun _ _ _ h => h) (by rfl) (fun W hW => ?_) hS ?_
            · have c0 := hW
              clear hW
              go_simp
            simp only [Act.put, List.setIfInBounds_toArray, List.set_cons_zero, List.set_cons_succ]
            have hSd := HS4.out.1.later ((RH.fr _ _).sep ((RR.fr _ _).sep Emp.fr)) (below_drewN (Below.refl _ _) 1)
            have P := q_len0 hSd
            rw [← HS4.out.2] at P
            refine next_till 15 (by kernel_rfl) rfl (fun K hK => ?_)
            go_simp
            refine P.mono ?_
            rintro e w5 ⟨rfl, rfl⟩
            go_simp
            refine hK.out _ _ (fun _ => hS) ?_
            clear hK K P
            refine take_till (i := 21) (some 134) (.bool false) rfl rfl (by kernel_rfl) (by kernel_rfl) (by kernel_rfl) (by kernel_rfl) (by decide) (fun _ _ _ h => h) (by rfl) (fun W hW => ?_) hS ?_
            · have c0 := hW
              clear hW
              go_simp
            simp only [Act.put, List.setIfInBounds_toArray, List.set_cons_zero, List.set_cons_succ]
            refine take_till (i := 22) (some 135) (.bool false) rfl rfl (by kernel_rfl) (by kernel_rfl) (by kernel_rfl) (by kernel_rfl) (by decide) (fun _ _ _ h => h) (by rfl) (fun W hW => ?_) hS ?_
            · have c0 := hW
              clear hW
              go_simp
            simp only [Act.put, List.setIfInBounds_toArray, List.set_cons_zero, List.set_cons_succ]
            refine done_till (by kernel_rfl) ?_ _
            have HS5 := Lib.hid hSd
            clear hSd hS c0
            go_wp2
            go_roundw
            case rel => exact ⟨r + 1, l2, by go_num, HP.out.1, HQ.out.1, HS5.out⟩
            case measure =>
              have := HP.out.1
              simp only [intOf]
              omega
    · obtain rfl : r = n := by omega
      clear hs hn hbig hr hlt
      have hil : ¬ (r : Int) < (r : Int) := by omega
      go_wp2_with fail
      refine (works_any wr).mono ?_
      rintro e w7 ⟨rfl, hb7⟩
      go_wp2
      go_ret
      exact ⟨rfl, hS.under.trans (hb7.mono hS.under.size)⟩
end
end Go.Proofs.Ytfpjipmlhbimoaa
