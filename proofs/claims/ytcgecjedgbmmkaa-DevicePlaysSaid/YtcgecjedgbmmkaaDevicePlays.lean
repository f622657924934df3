/- The walk of DevicePlays: it returns true and writes nothing that was there; no condition. -/
import Derived.Test.YtcgecjedgbmmkaaPlaysEdges
namespace Go.Proofs.Ytcgecjedgbmmkaa
open Go.RowKit Go.Maps Go.ChangeShapes Go.WideShapes

set_option maxRecDepth 100000 in
set_option maxHeartbeats 2000000 in
theorem plays_steps {v : Value} {ls : List Stp} (nb : Nat) (w : World) (hv : Sv w v ls) (hf' : fewB ls = true) (hnb1 : 1 ≤ nb) (hnb2 : nb ≤ 40) : Calls Try.prog 3 #[.int .i64 (nb : Int), v] w (Yes w) := by
  obtain ⟨a, cap, rfl⟩ := hv.shape
  have hfew := few_any hv
  rw [hf'] at hfew
  have hll : ls.length ≤ 200 ∧ ∀ s ∈ ls, s.picks.length ≤ 200 := by
    unfold fewB at hf'
    rw [Bool.and_eq_true, List.all_eq_true] at hf'
    exact ⟨by simpa using hf'.1, fun s hs => by simpa using hf'.2 s hs⟩
  have h40 : decide ((40 : Int) < (nb : Int)) = false := by simp; omega
  have hnew := g_new w nb hnb1 (by omega)
  have HH := Lib.hid (And.intro hv (And.intro hll hnew))
  have hl200 : ls.length ≤ 200 := hll.1
  clear hf' hv hll hnew
  go_enter Try.func3, Try.ntmps3
  go_wp2_with fail
  refine hfew.mono ?_
  rintro e w1 ⟨rfl, rfl⟩
  go_wp2_with fail
  refine HH.out.2.2.mono ?_
  rintro e w1 ⟨b, rfl, hb1, hn2⟩
  go_wp2_with fail
  refine hn2.mono ?_
  rintro e w2 ⟨r, rfl, hg⟩
  have HG := Lib.hid hg
  clear hg hb1 hn2
  go_wp2
  go_loopw [9] (fun i wr => ∃ j : Nat, j ≤ ls.length ∧ i = .int .i64 j ∧ Gone w b r nb j wr) (fun i _ => ls.length - (intOf i).toNat)
  case atStart => exact ⟨0, Nat.zero_le _, rfl, HG.out⟩
  case round =>
    obtain ⟨j, hj, rfl, hgr⟩ := hrel
    by_cases hlt : j < ls.length
    · obtain ⟨s, hs⟩ : ∃ s, ls[j]? = some s := ⟨_, List.getElem?_eq_getElem hlt⟩
      obtain ⟨g, o, cap', e, hg, hc, hi, hn⟩ := HH.out.1.open hs
      simp only [Value.slice.injEq, true_and] at e
      obtain ⟨rfl, rfl⟩ := e
      have hp := HH.out.2.1.2 s (List.mem_of_getElem? hs)
      have hil : ((j : Int) < (ls.length : Int)) := by omega
      have HD := Lib.hid (fun W (hW : Gone w b r nb j W) => g_do hW (by omega) s hi hp hn)
      have HX := Lib.hid (fun (W : World) (hW : Below w.heap.size w W) => And.intro (And.intro
        ((World.cell?_of_block (w := w) (a := ⟨g, o + j * 7, none⟩) (hW.block g hg)).trans hc.1) (And.intro
        ((World.cell?_of_block (w := w) (a := ⟨g, o + j * 7 + 1, none⟩) (hW.block g hg)).trans hc.2.1) (And.intro
        ((World.cell?_of_block (w := w) (a := ⟨g, o + j * 7 + 2, none⟩) (hW.block g hg)).trans hc.2.2.1) (And.intro
        ((World.cell?_of_block (w := w) (a := ⟨g, o + j * 7 + 3, none⟩) (hW.block g hg)).trans hc.2.2.2.1) (And.intro
        ((World.cell?_of_block (w := w) (a := ⟨g, o + j * 7 + 4, none⟩) (hW.block g hg)).trans hc.2.2.2.2.1) (And.intro
        ((World.cell?_of_block (w := w) (a := ⟨g, o + j * 7 + 5, none⟩) (hW.block g hg)).trans hc.2.2.2.2.2.1)
        ((World.cell?_of_block (w := w) (a := ⟨g, o + j * 7 + 6, none⟩) (hW.block g hg)).trans hc.2.2.2.2.2.2))))))) hil)
      have HG2 := Lib.hid hgr
      clear hs hc hi hn hp hgr
      go_wp2_with fail
      refine region_till 99 (fun W => Below w.heap.size w W) (by kernel_rfl) HG2.out.drew.under (fun hS => ?_)
      refine take_till (i := 0) (some 52) (ptr b) rfl rfl (by kernel_rfl) (by kernel_rfl) (by kernel_rfl) (by kernel_rfl) (by decide) (fun _ _ _ h => h) (by rfl) (fun W hW => ?_) hS ?_
      · have hx := HX.out W hW
        clear hW
        go_simp
      simp only [Act.put, List.setIfInBounds_toArray, List.set_cons_zero, List.set_cons_succ]
      refine take_till (i := 1) (some 53) (ptr r) rfl rfl (by kernel_rfl) (by kernel_rfl) (by kernel_rfl) (by kernel_rfl) (by decide) (fun _ _ _ h => h) (by rfl) (fun W hW => ?_) hS ?_
      · have hx := HX.out W hW
        clear hW
        go_simp
      simp only [Act.put, List.setIfInBounds_toArray, List.set_cons_zero, List.set_cons_succ]
      refine take_till (i := 2) (some 54) (.slice (some ⟨g, o, none⟩) ls.length cap) rfl rfl (by kernel_rfl) (by kernel_rfl) (by kernel_rfl) (by kernel_rfl) (by decide) (fun _ _ _ h => h) (by rfl) (fun W hW => ?_) hS ?_
      · have hx := HX.out W hW
        clear hW
        go_simp
      simp only [Act.put, List.setIfInBounds_toArray, List.set_cons_zero, List.set_cons_succ]
      refine take_till (i := 3) (some 55) (.int .i64 (j : Int)) rfl rfl (by kernel_rfl) (by kernel_rfl) (by kernel_rfl) (by kernel_rfl) (by decide) (fun _ _ _ h => h) (by rfl) (fun W hW => ?_) hS ?_
      · have hx := HX.out W hW
        clear hW
        go_simp
      simp only [Act.put, List.setIfInBounds_toArray, List.set_cons_zero, List.set_cons_succ]
      refine take_till (i := 4) (some 56) (.pointer (some ⟨g, o + j * 7, none⟩)) rfl rfl (by kernel_rfl) (by kernel_rfl) (by kernel_rfl) (by kernel_rfl) (by decide) (fun _ _ _ h => h) (by rfl) (fun W hW => ?_) hS ?_
      · have hx := HX.out W hW
        clear hW
        go_simp
      simp only [Act.put, List.setIfInBounds_toArray, List.set_cons_zero, List.set_cons_succ]
      refine take_till (i := 5) (some 57) (s.val) rfl rfl (by kernel_rfl) (by kernel_rfl) (by kernel_rfl) (by kernel_rfl) (by decide) (fun _ _ _ h => h) (by rfl) (fun W hW => ?_) hS ?_
      · have hx := HX.out W hW
        clear hW
        go_simp
      simp only [Act.put, List.setIfInBounds_toArray, List.set_cons_zero, List.set_cons_succ]
      clear hS
      refine next_till 6 (by kernel_rfl) rfl (fun K hK => ?_)
      go_simp
      refine (HD.out _ HG2.out.drew).mono ?_
      rintro e w3 ⟨rfl, hg3⟩
      obtain ⟨on, hpow, hon⟩ := g_on hg3
      refine hK.out _ _ (fun _ => hg3.under) ?_
      clear hK K
      have hm : ∀ W, (W.heap = w3.heap ∧ Gone w b r nb (j + 1) W) → Below w.heap.size w W := fun W hW => hW.2.under
      apply AnyTill.mono hm
      clear HX HD HG2 hm
      have hS : w3.heap = w3.heap ∧ Gone w b r nb (j + 1) w3 := ⟨rfl, hg3⟩
      have HX := Lib.hid (fun (W : World) (hW : W.heap = w3.heap ∧ Gone w b r nb (j + 1) W) => show W.cell? ⟨r, 2, none⟩ = some (.bool on) from (World.cell?_of_block (w := w3) (a := ⟨r, 2, none⟩) (by rw [hW.1])).trans hon)
      have HG3 := Lib.hid (And.intro hg3 hpow)
      clear hg3 hpow hon
      refine next_till 7 (by kernel_rfl) rfl (fun K hK => ?_)
      go_simp
      refine hK.out _ _ (fun _ => hS) ?_
      clear hK K
      refine next_till 8 (by kernel_rfl) rfl (fun K hK => ?_)
      go_simp
      refine hK.out _ _ (fun _ => hS) ?_
      clear hK K
      refine take_till (i := 9) (some 61) (ptr b) rfl rfl (by kernel_rfl) (by kernel_rfl) (by kernel_rfl) (by kernel_rfl) (by decide) (fun _ _ _ h => h) (by rfl) (fun W hW => ?_) hS ?_
      · have hx := HX.out W hW
        clear hW
        go_simp
      simp only [Act.put, List.setIfInBounds_toArray, List.set_cons_zero, List.set_cons_succ]
      refine take_till (i := 11) (some 63) (ptr r) rfl rfl (by kernel_rfl) (by kernel_rfl) (by kernel_rfl) (by kernel_rfl) (by decide) (fun _ _ _ h => h) (by rfl) (fun W hW => ?_) hS ?_
      · have hx := HX.out W hW
        clear hW
        go_simp
      simp only [Act.put, List.setIfInBounds_toArray, List.set_cons_zero, List.set_cons_succ]
      refine take_till (i := 12) (some 64) (ptr r) rfl rfl (by kernel_rfl) (by kernel_rfl) (by kernel_rfl) (by kernel_rfl) (by decide) (fun _ _ _ h => h) (by rfl) (fun W hW => ?_) hS ?_
      · have hx := HX.out W hW
        clear hW
        go_simp
      simp only [Act.put, List.setIfInBounds_toArray, List.set_cons_zero, List.set_cons_succ]
      refine take_till (i := 13) (some 65) (.pointer (some ⟨r, 2, none⟩)) rfl rfl (by kernel_rfl) (by kernel_rfl) (by kernel_rfl) (by kernel_rfl) (by decide) (fun _ _ _ h => h) (by rfl) (fun W hW => ?_) hS ?_
      · have hx := HX.out W hW
        clear hW
        go_simp
      simp only [Act.put, List.setIfInBounds_toArray, List.set_cons_zero, List.set_cons_succ]
      refine take_till (i := 14) (some 66) (.bool on) rfl rfl (by kernel_rfl) (by kernel_rfl) (by kernel_rfl) (by kernel_rfl) (by decide) (fun _ _ _ h => h) (by rfl) (fun W hW => ?_) hS ?_
      · have hx := HX.out W hW
        clear hW
        go_simp
      simp only [Act.put, List.setIfInBounds_toArray, List.set_cons_zero, List.set_cons_succ]
      refine next_till 10 (by kernel_rfl) rfl (fun K hK => ?_)
      go_simp
      refine (HG3.out.2 w3 rfl).mono ?_
      rintro e w4 ⟨rfl, rfl⟩
      refine hK.out _ _ (fun _ => hS) ?_
      clear hK K
      refine next_till 15 (by kernel_rfl) rfl (fun K hK => ?_)
      go_simp
      refine hK.out _ _ (fun _ => hS) ?_
      clear hK K
      refine next_till 16 (by kernel_rfl) rfl (fun K hK => ?_)
      go_simp
      refine hK.out _ _ (fun _ => hS) ?_
      clear hK K
      refine done_till (by kernel_rfl) ?_ _
      clear hS HX
      go_wp2
      go_roundw
      case rel => exact ⟨j + 1, by omega, by go_num, HG3.out.1⟩
      case measure => simp [intOf]; omega
    · have HG2 := Lib.hid hgr
      clear hgr
      go_wp2
      go_loopw [10] (fun i wr => ∃ z : Int, i = .int .i64 z ∧ -1 ≤ z ∧ z ≤ (nb : Int) + 1 ∧ ∃ n : Nat, (n : Int) ≤ 201 + z ∧ Gone w b r nb n wr) (fun i _ => ((nb : Int) + 1 - intOf i).toNat)
      case atStart => exact ⟨-1, rfl, by omega, by omega, j, by omega, HG2.out⟩
      case round =>
        obtain ⟨z, rfl, hz1, hz2, n, hn, hgn⟩ := hrel
        by_cases hz : z ≤ (nb : Int)
        · have HG4 := Lib.hid hgn
          clear hgn
          go_wp2_with fail
          refine (g_read HG4.out z).mono ?_
          rintro e w5 ⟨rfl, hg5⟩
          have HG5 := Lib.hid hg5
          clear hg5
          go_wp2
          go_roundw
          case rel => exact ⟨z + 1, by go_num, by omega, by omega, n + 1, by omega, HG5.out⟩
          case measure => simp [intOf]; omega
        · have hzd : decide (z ≤ (nb : Int)) = false := by simp; omega
          have HG4 := Lib.hid hgn
          clear hgn hz
          go_wp2_with fail
          refine (g_size HG4.out).mono ?_
          rintro e w5 ⟨rfl, rfl⟩
          go_wp2_with fail
          refine (works_any _).mono ?_
          rintro e w6 ⟨rfl, hb6⟩
          have HB6 := Lib.hid hb6
          clear hb6
          go_wp2
          go_ret
          exact ⟨rfl, HG4.out.under.trans (HB6.out.mono HG4.out.under.size)⟩

theorem devicePlays_any {v : Value} {ls : List Stp} (nbl : Int) (w : World) (hv : Sv w v ls) (_ : (Lit.int .i64 nbl).wf = true) : Calls Try.prog 3 #[.int .i64 nbl, v] w (Yes w) := by
  by_cases hok : fewB ls = true ∧ 1 ≤ nbl ∧ nbl ≤ 40
  · obtain ⟨h1, h2, h3⟩ := hok
    obtain ⟨nb, rfl⟩ : ∃ nb : Nat, nbl = (nb : Int) := ⟨nbl.toNat, by omega⟩
    exact plays_steps nb w hv h1 (by omega) (by omega)
  · exact plays_edges nbl w hv hok
end Go.Proofs.Ytcgecjedgbmmkaa
