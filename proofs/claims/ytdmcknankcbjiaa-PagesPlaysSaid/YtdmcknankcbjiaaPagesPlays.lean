/- The walk of PagesPlays: it returns true and writes nothing that was there; no condition. -/
import Derived.Test.YtdmcknankcbjiaaPgSteps
import Derived.Test.YtdmcknankcbjiaaHeldLast
import Derived.Deep.QuietTactic
import Derived.BigQuiet
namespace Go.Proofs.Ytdmcknankcbjiaa
open Go.RowKit

section
variable {w0 w : World} {b rb n : Nat} {l m : List Pg}
theorem PR.drewN (h : PR w0 w b rb l m) (n : Nat) : PR w0 (w.drewN n) b rb l m :=
  let ⟨F, G, h1, h2, h3, h4, h5, h6⟩ := h
  ⟨F, G, h1.kept (fun _ _ => rfl) (Nat.le_refl _), h2.kept (fun _ _ => rfl) (Nat.le_refl _), h3, h4, h5, ⟨h6.os, h6.tape, h6.output, h6.size, h6.block⟩⟩
theorem tdone_length (l : List Pg) : (tdone l).length = l.length := by unfold tdone; split <;> simp
theorem udone_length (l : List Pg) (k : Int) : (udone l k).length = l.length := by unfold udone; split <;> (try split) <;> simp
theorem rdone_length (l : List Pg) (k : Int) : (rdone l k).length = l.length := by unfold rdone; split <;> (try split) <;> simp
theorem settledP_length (l : List Pg) : (settledP l).length = l.length := by simp [settledP]
theorem backP_length (l : List Pg) : (backP l).length = l.length := by simp [backP]
/-- Both hold the same n pages. -/
def PQ (w0 w : World) (b rb n : Nat) : Prop := ∃ l, PR w0 w b rb l l ∧ l.length = n
theorem PQ.of (h : PR w0 w b rb l l) (hl : l.length = n) : PQ w0 w b rb n := ⟨l, h, hl⟩
end

set_option maxRecDepth 100000 in
set_option maxHeartbeats 1000000 in
theorem pagesPlays_any {vs : Value} {ls : List Stp} (n0 : Int) (w : World) (hs : Sv w vs ls) (_ : (Lit.int .i64 n0).wf = true) : Calls Try.prog 3 #[.int .i64 n0, vs] w (Yes w) := by
  obtain ⟨av, cv, rfl⟩ := hs.shape
  have W1 := works_any w
  by_cases hl : 300 < ls.length
  · have hd : ((300 : Int) < (ls.length : Int)) := by omega
    clear hl
    go_enter Try.func3, Try.ntmps3
    go_wp2_with fail
    refine W1.mono ?_
    rintro e w4 ⟨rfl, b4⟩
    go_wp2
    go_ret
    exact ⟨rfl, b4⟩
  have hd : decide ((300 : Int) < (ls.length : Int)) = false := by simp; omega
  by_cases hc : 60 < n0 ∧ n0 ≤ 4096
  · obtain ⟨h1, h2⟩ := hc
    clear hl
    go_enter Try.func3, Try.ntmps3
    go_wp2_with fail
    refine W1.mono ?_
    rintro e w4 ⟨rfl, b4⟩
    go_wp2
    go_ret
    exact ⟨rfl, b4⟩
  by_cases hn : n0 < 1 ∨ 4096 < n0
  · have N1 := pgnew_no n0 w hn
    have N2 := rpnew_no n0 w hn
    by_cases h1 : n0 < 1
    · have h2 : decide (60 < n0) = false := by simp; omega
      clear hl hc hn h1
      go_enter Try.func3, Try.ntmps3
      go_wp2_with fail
      refine N1.mono ?_
      rintro e w4 ⟨rfl, rfl⟩
      go_wp2_with fail
      refine N2.mono ?_
      rintro e w4 ⟨rfl, rfl⟩
      go_wp2_with fail
      refine W1.mono ?_
      rintro e w4 ⟨rfl, b4⟩
      go_wp2
      go_ret
      exact ⟨rfl, b4⟩
    · have h2 : 60 < n0 := by omega
      have h3 : decide (n0 ≤ 4096) = false := by simp; omega
      clear hl hc hn h1
      go_enter Try.func3, Try.ntmps3
      go_wp2_with fail
      refine N1.mono ?_
      rintro e w4 ⟨rfl, rfl⟩
      go_wp2_with fail
      refine N2.mono ?_
      rintro e w4 ⟨rfl, rfl⟩
      go_wp2_with fail
      refine W1.mono ?_
      rintro e w4 ⟨rfl, b4⟩
      go_wp2
      go_ret
      exact ⟨rfl, b4⟩
  obtain ⟨n, rfl⟩ : ∃ n : Nat, n0 = n := ⟨n0.toNat, by omega⟩
  have hn1 : 1 ≤ n := by omega
  have hn2 : n ≤ 60 := by omega
  have h2 : decide ((60 : Int) < (n : Int)) = false := by simp; omega
  have HH := Lib.hid (And.intro hs (show ls.length ≤ 300 by omega))
  clear hs W1 hl hc hn
  go_enter Try.func3, Try.ntmps3
  go_wp2_with fail
  refine (p_new n _ (Below.refl _ _) hn1 (by omega)).mono ?_
  rintro e w1 ⟨b, rfl, m1⟩
  go_wp2_with fail
  refine (a_new n m1 hn1 (by omega)).mono ?_
  rintro e w2 ⟨rb, rfl, m2⟩
  have HQ := Lib.hid (PQ.of (n := n) m2 (freshP_length n))
  clear m1 m2 h2 hd
  go_wp2
  go_loopw [9, 10, 11, 12, 13] (fun i _ _ _ _ wr => ∃ j : Nat, j ≤ ls.length ∧ i = .int .i64 j ∧ PQ w wr b rb n) (fun i _ _ _ _ _ => ls.length - (intOf i).toNat)
  case atStart => exact ⟨0, Nat.zero_le _, rfl, HQ.out⟩
  case round =>
    clear HQ
    obtain ⟨j, hj, rfl, l, hq, hln⟩ := hrel
    have hlb := HH.out.2
    by_cases hlt : j < ls.length
    · obtain ⟨s, hs⟩ : ∃ s, ls[j]? = some s := ⟨_, List.getElem?_eq_getElem hlt⟩
      obtain ⟨g, o, cap, e, hg, hc⟩ := HH.out.1.open hs
      simp only [Value.slice.injEq, true_and] at e
      obtain ⟨rfl, rfl⟩ := e
      have HC := Lib.hid (fun (W : World) (hW : Below w.heap.size w W) => (World.cell?_of_block (w := w) (a := ⟨g, o + j * 2 + 1, none⟩) (hW.block g hg)).trans hc.2)
      have c0 := (World.cell?_of_block (w := w) (a := ⟨g, o + j * 2, none⟩) (hq.bel.block g hg)).trans hc.1
      have hil : (j : Int) < (ls.length : Int) := by omega
      have hb := hq.bel
      have HX := Lib.hid (fun (W : World) (hW : Below w.heap.size w W) => And.intro (HC.out W hW) hil)
      have HL := Lib.hid (And.intro hq hln)
      clear hc hs hq hln
      generalize s.k = kk at *
      by_cases h1 : s.o = 1
      · rw [h1] at c0
        clear h1
        go_wp2_with fail
        refine (a_take HL.out.1).mono ?_
        rintro e w4 ⟨rfl, h4⟩
        go_wp2_with fail
        refine (d_take h4).mono ?_
        rintro e w5 ⟨rfl, h5⟩
        have HF := Lib.hid (PQ.of h5 ((tdone_length l).trans HL.out.2))
        clear h4 h5
        generalize tpage l = pp at *
        generalize tcode l = cc at *
        obtain ⟨l5, h5, hl5⟩ := HF.out
        have c5 := HC.out _ h5.bel
        have A1 := fun q => a_size (h5.drewN q)
        have A2 := fun q => a_free (h5.drewN q)
        have A3 := fun q => d_free (h5.drewN q)
        have A4 := fun q => a_state (h5.drewN q) kk
        have A5 := fun q => d_state (h5.drewN q) kk
        simp only [hl5] at A1
        have H5 := Lib.hid (And.intro h5 hl5)
        clear h5 hl5 HF
        generalize freeP l5 = fr at *
        generalize stateP l5 kk = st at *
        have HA := Lib.hid (And.intro A1 (And.intro A2 (And.intro A3 (And.intro A4 A5))))
        clear A1 A2 A3 A4 A5
        go_wp2_with fail
        go_quiet (first | (go_at_call 20; exact quiet_left (HA.out.1 _)) | (go_at_call 21; exact quiet_left (HA.out.2.1 _)) | (go_at_call 22; exact quiet_left (HA.out.2.2.1 _)) | (go_at_call 23; exact quiet_left (HA.out.2.2.2.1 _)) | (go_at_call 24; exact quiet_left (HA.out.2.2.2.2 _)))
        go_wp2
        go_roundw
        case rel => exact ⟨j + 1, by omega, by go_num, l5, H5.out.1.drewN _, H5.out.2⟩
        case measure => simp [intOf]; omega
      by_cases h2 : s.o = 2
      · rw [h2] at c0
        clear h1 h2
        go_wp2_with fail
        refine region_till 99 (fun W => Below w.heap.size w W) (by kernel_rfl) hb.drew (fun hS => ?_)
        refine take_till (i := 0) (some 83) (ptr b) rfl rfl (by kernel_rfl) (by kernel_rfl) (by kernel_rfl) (by kernel_rfl) (by decide) (fun _ _ _ h => h) (by rfl) (fun W hW => ?_) hS ?_
        · have hx := HX.out W hW
          clear hW
          go_simp
        simp only [Act.put, List.setIfInBounds_toArray, List.set_cons_zero, List.set_cons_succ]
        refine take_till (i := 1) (some 84) (.slice (some ⟨g, o, none⟩) ls.length cv) rfl rfl (by kernel_rfl) (by kernel_rfl) (by kernel_rfl) (by kernel_rfl) (by decide) (fun _ _ _ h => h) (by rfl) (fun W hW => ?_) hS ?_
        · have hx := HX.out W hW
          clear hW
          go_simp
        simp only [Act.put, List.setIfInBounds_toArray, List.set_cons_zero, List.set_cons_succ]
        refine take_till (i := 2) (some 85) (.int .i64 (j : Int)) rfl rfl (by kernel_rfl) (by kernel_rfl) (by kernel_rfl) (by kernel_rfl) (by decide) (fun _ _ _ h => h) (by rfl) (fun W hW => ?_) hS ?_
        · have hx := HX.out W hW
          clear hW
          go_simp
        simp only [Act.put, List.setIfInBounds_toArray, List.set_cons_zero, List.set_cons_succ]
        refine take_till (i := 3) (some 86) (.pointer (some ⟨g, o + j * 2, none⟩)) rfl rfl (by kernel_rfl) (by kernel_rfl) (by kernel_rfl) (by kernel_rfl) (by decide) (fun _ _ _ h => h) (by rfl) (fun W hW => ?_) hS ?_
        · have hx := HX.out W hW
          clear hW
          go_simp
        simp only [Act.put, List.setIfInBounds_toArray, List.set_cons_zero, List.set_cons_succ]
        refine take_till (i := 4) (some 87) (.pointer (some ⟨g, o + j * 2 + 1, none⟩)) rfl rfl (by kernel_rfl) (by kernel_rfl) (by kernel_rfl) (by kernel_rfl) (by decide) (fun _ _ _ h => h) (by rfl) (fun W hW => ?_) hS ?_
        · have hx := HX.out W hW
          clear hW
          go_simp
        simp only [Act.put, List.setIfInBounds_toArray, List.set_cons_zero, List.set_cons_succ]
        refine take_till (i := 5) (some 88) (.int .i64 kk) rfl rfl (by kernel_rfl) (by kernel_rfl) (by kernel_rfl) (by kernel_rfl) (by decide) (fun _ _ _ h => h) (by rfl) (fun W hW => ?_) hS ?_
        · have hx := HX.out W hW
          clear hW
          go_simp
        simp only [Act.put, List.setIfInBounds_toArray, List.set_cons_zero, List.set_cons_succ]
        refine take_till (i := 7) (some 90) (ptr rb) rfl rfl (by kernel_rfl) (by kernel_rfl) (by kernel_rfl) (by kernel_rfl) (by decide) (fun _ _ _ h => h) (by rfl) (fun W hW => ?_) hS ?_
        · have hx := HX.out W hW
          clear hW
          go_simp
        simp only [Act.put, List.setIfInBounds_toArray, List.set_cons_zero, List.set_cons_succ]
        refine take_till (i := 8) (some 91) (.slice (some ⟨g, o, none⟩) ls.length cv) rfl rfl (by kernel_rfl) (by kernel_rfl) (by kernel_rfl) (by kernel_rfl) (by decide) (fun _ _ _ h => h) (by rfl) (fun W hW => ?_) hS ?_
        · have hx := HX.out W hW
          clear hW
          go_simp
        simp only [Act.put, List.setIfInBounds_toArray, List.set_cons_zero, List.set_cons_succ]
        refine take_till (i := 9) (some 92) (.int .i64 (j : Int)) rfl rfl (by kernel_rfl) (by kernel_rfl) (by kernel_rfl) (by kernel_rfl) (by decide) (fun _ _ _ h => h) (by rfl) (fun W hW => ?_) hS ?_
        · have hx := HX.out W hW
          clear hW
          go_simp
        simp only [Act.put, List.setIfInBounds_toArray, List.set_cons_zero, List.set_cons_succ]
        refine take_till (i := 10) (some 93) (.pointer (some ⟨g, o + j * 2, none⟩)) rfl rfl (by kernel_rfl) (by kernel_rfl) (by kernel_rfl) (by kernel_rfl) (by decide) (fun _ _ _ h => h) (by rfl) (fun W hW => ?_) hS ?_
        · have hx := HX.out W hW
          clear hW
          go_simp
        simp only [Act.put, List.setIfInBounds_toArray, List.set_cons_zero, List.set_cons_succ]
        refine take_till (i := 11) (some 94) (.pointer (some ⟨g, o + j * 2 + 1, none⟩)) rfl rfl (by kernel_rfl) (by kernel_rfl) (by kernel_rfl) (by kernel_rfl) (by decide) (fun _ _ _ h => h) (by rfl) (fun W hW => ?_) hS ?_
        · have hx := HX.out W hW
          clear hW
          go_simp
        simp only [Act.put, List.setIfInBounds_toArray, List.set_cons_zero, List.set_cons_succ]
        refine take_till (i := 12) (some 95) (.int .i64 kk) rfl rfl (by kernel_rfl) (by kernel_rfl) (by kernel_rfl) (by kernel_rfl) (by decide) (fun _ _ _ h => h) (by rfl) (fun W hW => ?_) hS ?_
        · have hx := HX.out W hW
          clear hW
          go_simp
        simp only [Act.put, List.setIfInBounds_toArray, List.set_cons_zero, List.set_cons_succ]
        refine next_till 6 (by kernel_rfl) rfl (fun K hK => ?_)
        go_simp
        refine (a_use HL.out.1.drew kk).mono ?_
        rintro e w4 ⟨rfl, h4⟩
        refine hK.out _ _ (fun _ => h4.bel) ?_
        clear hK K
        refine next_till 13 (by kernel_rfl) rfl (fun K hK => ?_)
        go_simp
        refine (d_use h4 kk).mono ?_
        rintro e w5 ⟨rfl, h5⟩
        refine hK.out _ _ (fun _ => h5.bel) ?_
        clear hK K
        have hb5 := h5.bel
        have HF := Lib.hid (PQ.of h5 ((udone_length l kk).trans HL.out.2))
        clear h4 h5
        refine next_till 14 (by kernel_rfl) rfl (fun K hK => ?_)
        go_simp
        refine hK.out _ _ (fun _ => hb5) ?_
        clear hK K
        refine done_till (by kernel_rfl) ?_ _
        clear hS hb5
        generalize ucode l kk = cc at *
        obtain ⟨l5, h5, hl5⟩ := HF.out
        have c5 := HC.out _ h5.bel
        have A1 := fun q => a_size (h5.drewN q)
        have A2 := fun q => a_free (h5.drewN q)
        have A3 := fun q => d_free (h5.drewN q)
        have A4 := fun q => a_state (h5.drewN q) kk
        have A5 := fun q => d_state (h5.drewN q) kk
        simp only [hl5] at A1
        have H5 := Lib.hid (And.intro h5 hl5)
        clear h5 hl5 HF
        generalize freeP l5 = fr at *
        generalize stateP l5 kk = st at *
        have HA := Lib.hid (And.intro A1 (And.intro A2 (And.intro A3 (And.intro A4 A5))))
        clear A1 A2 A3 A4 A5
        go_wp2_with fail
        go_quiet (first | (go_at_call 20; exact quiet_left (HA.out.1 _)) | (go_at_call 21; exact quiet_left (HA.out.2.1 _)) | (go_at_call 22; exact quiet_left (HA.out.2.2.1 _)) | (go_at_call 23; exact quiet_left (HA.out.2.2.2.1 _)) | (go_at_call 24; exact quiet_left (HA.out.2.2.2.2 _)))
        go_wp2
        go_roundw
        case rel => exact ⟨j + 1, by omega, by go_num, l5, H5.out.1.drewN _, H5.out.2⟩
        case measure => simp [intOf]; omega
      by_cases h3 : s.o = 3
      · rw [h3] at c0
        clear h1 h2 h3
        go_wp2_with fail
        refine region_till 99 (fun W => Below w.heap.size w W) (by kernel_rfl) hb.drew (fun hS => ?_)
        refine take_till (i := 0) (some 100) (ptr b) rfl rfl (by kernel_rfl) (by kernel_rfl) (by kernel_rfl) (by kernel_rfl) (by decide) (fun _ _ _ h => h) (by rfl) (fun W hW => ?_) hS ?_
        · have hx := HX.out W hW
          clear hW
          go_simp
        simp only [Act.put, List.setIfInBounds_toArray, List.set_cons_zero, List.set_cons_succ]
        refine take_till (i := 1) (some 101) (.slice (some ⟨g, o, none⟩) ls.length cv) rfl rfl (by kernel_rfl) (by kernel_rfl) (by kernel_rfl) (by kernel_rfl) (by decide) (fun _ _ _ h => h) (by rfl) (fun W hW => ?_) hS ?_
        · have hx := HX.out W hW
          clear hW
          go_simp
        simp only [Act.put, List.setIfInBounds_toArray, List.set_cons_zero, List.set_cons_succ]
        refine take_till (i := 2) (some 102) (.int .i64 (j : Int)) rfl rfl (by kernel_rfl) (by kernel_rfl) (by kernel_rfl) (by kernel_rfl) (by decide) (fun _ _ _ h => h) (by rfl) (fun W hW => ?_) hS ?_
        · have hx := HX.out W hW
          clear hW
          go_simp
        simp only [Act.put, List.setIfInBounds_toArray, List.set_cons_zero, List.set_cons_succ]
        refine take_till (i := 3) (some 103) (.pointer (some ⟨g, o + j * 2, none⟩)) rfl rfl (by kernel_rfl) (by kernel_rfl) (by kernel_rfl) (by kernel_rfl) (by decide) (fun _ _ _ h => h) (by rfl) (fun W hW => ?_) hS ?_
        · have hx := HX.out W hW
          clear hW
          go_simp
        simp only [Act.put, List.setIfInBounds_toArray, List.set_cons_zero, List.set_cons_succ]
        refine take_till (i := 4) (some 104) (.pointer (some ⟨g, o + j * 2 + 1, none⟩)) rfl rfl (by kernel_rfl) (by kernel_rfl) (by kernel_rfl) (by kernel_rfl) (by decide) (fun _ _ _ h => h) (by rfl) (fun W hW => ?_) hS ?_
        · have hx := HX.out W hW
          clear hW
          go_simp
        simp only [Act.put, List.setIfInBounds_toArray, List.set_cons_zero, List.set_cons_succ]
        refine take_till (i := 5) (some 105) (.int .i64 kk) rfl rfl (by kernel_rfl) (by kernel_rfl) (by kernel_rfl) (by kernel_rfl) (by decide) (fun _ _ _ h => h) (by rfl) (fun W hW => ?_) hS ?_
        · have hx := HX.out W hW
          clear hW
          go_simp
        simp only [Act.put, List.setIfInBounds_toArray, List.set_cons_zero, List.set_cons_succ]
        refine take_till (i := 7) (some 107) (ptr rb) rfl rfl (by kernel_rfl) (by kernel_rfl) (by kernel_rfl) (by kernel_rfl) (by decide) (fun _ _ _ h => h) (by rfl) (fun W hW => ?_) hS ?_
        · have hx := HX.out W hW
          clear hW
          go_simp
        simp only [Act.put, List.setIfInBounds_toArray, List.set_cons_zero, List.set_cons_succ]
        refine take_till (i := 8) (some 108) (.slice (some ⟨g, o, none⟩) ls.length cv) rfl rfl (by kernel_rfl) (by kernel_rfl) (by kernel_rfl) (by kernel_rfl) (by decide) (fun _ _ _ h => h) (by rfl) (fun W hW => ?_) hS ?_
        · have hx := HX.out W hW
          clear hW
          go_simp
        simp only [Act.put, List.setIfInBounds_toArray, List.set_cons_zero, List.set_cons_succ]
        refine take_till (i := 9) (some 109) (.int .i64 (j : Int)) rfl rfl (by kernel_rfl) (by kernel_rfl) (by kernel_rfl) (by kernel_rfl) (by decide) (fun _ _ _ h => h) (by rfl) (fun W hW => ?_) hS ?_
        · have hx := HX.out W hW
          clear hW
          go_simp
        simp only [Act.put, List.setIfInBounds_toArray, List.set_cons_zero, List.set_cons_succ]
        refine take_till (i := 10) (some 110) (.pointer (some ⟨g, o + j * 2, none⟩)) rfl rfl (by kernel_rfl) (by kernel_rfl) (by kernel_rfl) (by kernel_rfl) (by decide) (fun _ _ _ h => h) (by rfl) (fun W hW => ?_) hS ?_
        · have hx := HX.out W hW
          clear hW
          go_simp
        simp only [Act.put, List.setIfInBounds_toArray, List.set_cons_zero, List.set_cons_succ]
        refine take_till (i := 11) (some 111) (.pointer (some ⟨g, o + j * 2 + 1, none⟩)) rfl rfl (by kernel_rfl) (by kernel_rfl) (by kernel_rfl) (by kernel_rfl) (by decide) (fun _ _ _ h => h) (by rfl) (fun W hW => ?_) hS ?_
        · have hx := HX.out W hW
          clear hW
          go_simp
        simp only [Act.put, List.setIfInBounds_toArray, List.set_cons_zero, List.set_cons_succ]
        refine take_till (i := 12) (some 112) (.int .i64 kk) rfl rfl (by kernel_rfl) (by kernel_rfl) (by kernel_rfl) (by kernel_rfl) (by decide) (fun _ _ _ h => h) (by rfl) (fun W hW => ?_) hS ?_
        · have hx := HX.out W hW
          clear hW
          go_simp
        simp only [Act.put, List.setIfInBounds_toArray, List.set_cons_zero, List.set_cons_succ]
        refine next_till 6 (by kernel_rfl) rfl (fun K hK => ?_)
        go_simp
        refine (a_drop HL.out.1.drew kk).mono ?_
        rintro e w4 ⟨rfl, h4⟩
        refine hK.out _ _ (fun _ => h4.bel) ?_
        clear hK K
        refine next_till 13 (by kernel_rfl) rfl (fun K hK => ?_)
        go_simp
        refine (d_drop h4 kk).mono ?_
        rintro e w5 ⟨rfl, h5⟩
        refine hK.out _ _ (fun _ => h5.bel) ?_
        clear hK K
        have hb5 := h5.bel
        have HF := Lib.hid (PQ.of h5 ((rdone_length l kk).trans HL.out.2))
        clear h4 h5
        refine next_till 14 (by kernel_rfl) rfl (fun K hK => ?_)
        go_simp
        refine hK.out _ _ (fun _ => hb5) ?_
        clear hK K
        refine done_till (by kernel_rfl) ?_ _
        clear hS hb5
        generalize rcode l kk = cc at *
        obtain ⟨l5, h5, hl5⟩ := HF.out
        have c5 := HC.out _ h5.bel
        have A1 := fun q => a_size (h5.drewN q)
        have A2 := fun q => a_free (h5.drewN q)
        have A3 := fun q => d_free (h5.drewN q)
        have A4 := fun q => a_state (h5.drewN q) kk
        have A5 := fun q => d_state (h5.drewN q) kk
        simp only [hl5] at A1
        have H5 := Lib.hid (And.intro h5 hl5)
        clear h5 hl5 HF
        generalize freeP l5 = fr at *
        generalize stateP l5 kk = st at *
        have HA := Lib.hid (And.intro A1 (And.intro A2 (And.intro A3 (And.intro A4 A5))))
        clear A1 A2 A3 A4 A5
        go_wp2_with fail
        go_quiet (first | (go_at_call 20; exact quiet_left (HA.out.1 _)) | (go_at_call 21; exact quiet_left (HA.out.2.1 _)) | (go_at_call 22; exact quiet_left (HA.out.2.2.1 _)) | (go_at_call 23; exact quiet_left (HA.out.2.2.2.1 _)) | (go_at_call 24; exact quiet_left (HA.out.2.2.2.2 _)))
        go_wp2
        go_roundw
        case rel => exact ⟨j + 1, by omega, by go_num, l5, H5.out.1.drewN _, H5.out.2⟩
        case measure => simp [intOf]; omega
      by_cases h4 : s.o = 4
      · rw [h4] at c0
        clear h1 h2 h3 h4
        go_wp2_with fail
        refine (d_settle HL.out.1).mono ?_
        rintro e w4 ⟨rfl, h4⟩
        go_wp2_with fail
        refine (a_settle h4).mono ?_
        rintro e w5 ⟨rfl, h5⟩
        have HF := Lib.hid (PQ.of h5 ((settledP_length l).trans HL.out.2))
        clear h4 h5
        obtain ⟨l5, h5, hl5⟩ := HF.out
        have c5 := HC.out _ h5.bel
        have A1 := fun q => a_size (h5.drewN q)
        have A2 := fun q => a_free (h5.drewN q)
        have A3 := fun q => d_free (h5.drewN q)
        have A4 := fun q => a_state (h5.drewN q) kk
        have A5 := fun q => d_state (h5.drewN q) kk
        simp only [hl5] at A1
        have H5 := Lib.hid (And.intro h5 hl5)
        clear h5 hl5 HF
        generalize freeP l5 = fr at *
        generalize stateP l5 kk = st at *
        have HA := Lib.hid (And.intro A1 (And.intro A2 (And.intro A3 (And.intro A4 A5))))
        clear A1 A2 A3 A4 A5
        go_wp2_with fail
        go_quiet (first | (go_at_call 20; exact quiet_left (HA.out.1 _)) | (go_at_call 21; exact quiet_left (HA.out.2.1 _)) | (go_at_call 22; exact quiet_left (HA.out.2.2.1 _)) | (go_at_call 23; exact quiet_left (HA.out.2.2.2.1 _)) | (go_at_call 24; exact quiet_left (HA.out.2.2.2.2 _)))
        go_wp2
        go_roundw
        case rel => exact ⟨j + 1, by omega, by go_num, l5, H5.out.1.drewN _, H5.out.2⟩
        case measure => simp [intOf]; omega
      by_cases h5 : s.o = 5
      · rw [h5] at c0
        clear h1 h2 h3 h4 h5
        go_wp2_with fail
        refine (d_back HL.out.1).mono ?_
        rintro e w4 ⟨rfl, h4⟩
        go_wp2_with fail
        refine (a_back h4).mono ?_
        rintro e w5 ⟨rfl, h5⟩
        have HF := Lib.hid (PQ.of h5 ((backP_length l).trans HL.out.2))
        clear h4 h5
        obtain ⟨l5, h5, hl5⟩ := HF.out
        have c5 := HC.out _ h5.bel
        have A1 := fun q => a_size (h5.drewN q)
        have A2 := fun q => a_free (h5.drewN q)
        have A3 := fun q => d_free (h5.drewN q)
        have A4 := fun q => a_state (h5.drewN q) kk
        have A5 := fun q => d_state (h5.drewN q) kk
        simp only [hl5] at A1
        have H5 := Lib.hid (And.intro h5 hl5)
        clear h5 hl5 HF
        generalize freeP l5 = fr at *
        generalize stateP l5 kk = st at *
        have HA := Lib.hid (And.intro A1 (And.intro A2 (And.intro A3 (And.intro A4 A5))))
        clear A1 A2 A3 A4 A5
        go_wp2_with fail
        go_quiet (first | (go_at_call 20; exact quiet_left (HA.out.1 _)) | (go_at_call 21; exact quiet_left (HA.out.2.1 _)) | (go_at_call 22; exact quiet_left (HA.out.2.2.1 _)) | (go_at_call 23; exact quiet_left (HA.out.2.2.2.1 _)) | (go_at_call 24; exact quiet_left (HA.out.2.2.2.2 _)))
        go_wp2
        go_roundw
        case rel => exact ⟨j + 1, by omega, by go_num, l5, H5.out.1.drewN _, H5.out.2⟩
        case measure => simp [intOf]; omega
      · have b1 : (s.o == 1) = false := by simpa using h1
        have b2 : (s.o == 2) = false := by simpa using h2
        have b3 : (s.o == 3) = false := by simpa using h3
        have b4 : (s.o == 4) = false := by simpa using h4
        have b5 : (s.o == 5) = false := by simpa using h5
        generalize s.o = oo at *
        have HF := Lib.hid (PQ.of HL.out.1 HL.out.2)
        obtain ⟨l5, h5, hl5⟩ := HF.out
        have c5 := HC.out _ h5.bel
        have A1 := fun q => a_size (h5.drewN q)
        have A2 := fun q => a_free (h5.drewN q)
        have A3 := fun q => d_free (h5.drewN q)
        have A4 := fun q => a_state (h5.drewN q) kk
        have A5 := fun q => d_state (h5.drewN q) kk
        simp only [hl5] at A1
        have H5 := Lib.hid (And.intro h5 hl5)
        clear h5 hl5 HF
        generalize freeP l5 = fr at *
        generalize stateP l5 kk = st at *
        have HA := Lib.hid (And.intro A1 (And.intro A2 (And.intro A3 (And.intro A4 A5))))
        clear A1 A2 A3 A4 A5
        go_wp2_with fail
        go_quiet (first | (go_at_call 20; exact quiet_left (HA.out.1 _)) | (go_at_call 21; exact quiet_left (HA.out.2.1 _)) | (go_at_call 22; exact quiet_left (HA.out.2.2.1 _)) | (go_at_call 23; exact quiet_left (HA.out.2.2.2.1 _)) | (go_at_call 24; exact quiet_left (HA.out.2.2.2.2 _)))
        go_wp2
        go_roundw
        case rel => exact ⟨j + 1, by omega, by go_num, l5, H5.out.1.drewN _, H5.out.2⟩
        case measure => simp [intOf]; omega
    · obtain rfl : j = ls.length := by omega
      have HQ := Lib.hid (And.intro hq hln)
      clear hq hln
      go_wp2
      go_loopw [14] (fun i W => ∃ j : Nat, j ≤ n + 2 ∧ i = .int .i64 ((j : Int) - 1) ∧ W = wr) (fun i _ => n + 2 - (intOf i + 1).toNat)
      case atStart => exact ⟨0, Nat.zero_le _, rfl, rfl⟩
      case round =>
        clear hlt hj hlb
        obtain ⟨j, hj, rfl, rfl⟩ := hrel
        by_cases hlt : j < n + 2
        · have hil : (j : Int) - 1 ≤ (n : Int) := by omega
          have K1 := a_state HQ.out.1 ((j : Int) - 1)
          have K2 := d_state HQ.out.1 ((j : Int) - 1)
          generalize stateP l ((j : Int) - 1) = s at *
          go_wp2_with fail
          refine K1.mono ?_
          rintro e w5 ⟨rfl, rfl⟩
          go_wp2_with fail
          refine K2.mono ?_
          rintro e w5 ⟨rfl, rfl⟩
          clear K1 K2
          go_wp2
          go_roundw
          case rel => exact ⟨j + 1, by omega, by go_num, by trivial⟩
          case measure => simp [intOf]; omega
        · obtain rfl : j = n + 2 := by omega
          have hil : ¬ ((n + 2 : Nat) : Int) - 1 ≤ (n : Int) := by omega
          have HB := Lib.hid HQ.out.1.bel
          clear HQ
          go_wp2_with fail
          refine (works_any _).mono ?_
          rintro e w9 ⟨rfl, b9⟩
          go_wp2
          go_ret
          exact ⟨rfl, HB.out.trans (b9.mono HB.out.size)⟩
end Go.Proofs.Ytdmcknankcbjiaa
