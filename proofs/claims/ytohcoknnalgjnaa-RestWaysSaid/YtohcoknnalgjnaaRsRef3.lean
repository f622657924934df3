/- Whether arcs are a way, and pushes along it: the document's; condition: a net that is right; of at most 2000 edges. -/
import Derived.Test.YtohcoknnalgjnaaRsRef2
namespace Go.Proofs.Ytohcoknnalgjnaa
open Go.RowKit

set_option maxRecDepth 100000 in
set_option maxHeartbeats 16000000 in
theorem rway_any (n : Int) (es : List Ed) (arcs : List Int) (w : World) {v y : Value} (he : Es w v es) (hy : Fs w y arcs) (hr : RightP n es) :
    Calls Try.prog 41 #[netV n v, y] w fun e w' => e = .returned (.bool (decide (WayP es arcs))) ∧ Below w.heap.size w w' := by
  obtain ⟨va, vc, rfl, -, -⟩ := he.shape
  obtain ⟨ya, yc, rfl, -, -⟩ := hy.shape
  have hK := NQ.box n he (fls := [(.slice ya arcs.length yc, arcs)]) (fun p hp => by rw [List.mem_singleton.1 hp]; exact hy)
  have hyl := hy.len
  clear he hy
  obtain ⟨b, hbv⟩ : ∃ b, b = decide (WayP es arcs) := ⟨_, rfl⟩
  have hT : WayP es arcs → b = true := fun h => by rw [hbv]; exact decide_eq_true h
  have hF : ¬ WayP es arcs → b = false := fun h => by rw [hbv]; exact decide_eq_false h
  rw [← hbv]
  clear hbv
  obtain ⟨M, hM⟩ : ∃ M, M = arcs.length := ⟨_, rfl⟩
  have HR := Lib.hid hr
  have HB := Lib.hid (And.intro hT (And.intro hF hM))
  rw [← hM] at hK hyl ⊢
  clear hT hF hM hr
  go_enter Try.func41, Try.ntmps41
  go_wp2
  have HK := Lib.hid hK
  generalize w.alloc (.cells #[.int .i64 n, .slice va es.length vc] 24) = w1 at *
  clear hK
  go_loopw [5] (fun j wr => ∃ k : Nat, j = .int .i64 (k : Int) ∧ k ≤ M ∧ wayTo es arcs k = true ∧ NQ w w.heap.size n (.slice va es.length vc) es [(.slice ya M yc, arcs)] wr) (fun j _ => M - (intOf j).toNat)
  case atStart => exact ⟨0, rfl, Nat.zero_le _, rfl, HK.out⟩
  case round =>
    obtain ⟨k, rfl, hk, hway, hq⟩ := hrel
    clear HK
    rcases Nat.lt_or_ge k M with hlt | hge
    · obtain ⟨a, hy⟩ : ∃ a, arcs[k]? = some a := ⟨_, List.getElem?_eq_getElem (by have := HB.out.2.2; omega)⟩
      obtain ⟨g, o, cap, e0, hg, f0⟩ := fs_at (hq.fl (.slice ya M yc, arcs) (by simp)) hy
      simp only [Value.slice.injEq] at e0
      obtain ⟨rfl, -, rfl⟩ := e0
      have hD : arcs.getD k 0 = a := by rw [List.getD_eq_getElem?_getD, hy]; rfl
      have hki : (k : Int) < (M : Int) := by omega
      have hk1 : (k : Int) ≤ 9223372036854775806 := by omega
      have hk0 : (0 : Int) ≤ (k : Int) := by omega
      have HX := Lib.hid (show ∀ W, NQ w w.heap.size n (.slice va es.length vc) es [(.slice (some ⟨g, o, none⟩) M yc, arcs)] W → W.cell? ⟨w.heap.size, 0, none⟩ = some (.int .i64 n) ∧ W.cell? ⟨w.heap.size, 1, none⟩ = some (.slice va es.length vc) from fun W h => h.net.net)
      have HY0 := Lib.hid (show ∀ i c, arcs[i]? = some c → ∀ W, NQ w w.heap.size n (.slice va es.length vc) es [(.slice (some ⟨g, o, none⟩) M yc, arcs)] W → W.cell? ⟨g, o + i, none⟩ = some (.int .i64 c) from fun i c hc W hW => by
        obtain ⟨g', o', cp', e0, -, f0⟩ := fs_at (hW.fl (.slice (some ⟨g, o, none⟩) M yc, arcs) (by simp)) hc
        simp only [Value.slice.injEq, Option.some.injEq, Addr.mk.injEq] at e0
        obtain ⟨⟨rfl, rfl, -⟩, -, -⟩ := e0
        exact f0)
      have HY := Lib.hid (HY0.out k a hy)
      have hL : es.length ≤ 2000 := by have := HR.out.2.2.1; omega
      have HH := Lib.hid (fun W (h : NQ w w.heap.size n (.slice va es.length vc) es [(.slice (some ⟨g, o, none⟩) M yc, arcs)] W) => rhas_any n es a W h.es hL)
      have HE := Lib.hid (fun W (h : NQ w w.heap.size n (.slice va es.length vc) es [(.slice (some ⟨g, o, none⟩) M yc, arcs)] W) (hh : HasP es a) => (show Calls Try.prog 14 #[netV n (.slice va es.length vc), .int .i64 a] W fun e w' => e = .returned (.tuple #[.int .i64 (frA es a), .int .i64 (toA es a), .int .i64 (coA es a)]) ∧ Below W.heap.size W w' from by have k := rends_any n es a W h.es hL; rw [endsP_pos HR.out hh] at k; exact k))
      have hmore := wayTo_more es arcs k
      rw [hway, Bool.true_and] at hmore
      have hS0 := hq.go ((Below.refl wr.heap.size wr).drew)
      by_cases hh : HasP es a
      case neg =>
        have hbf := HB.out.2.1 (fun h => hh (by have := h.at (i := k) (by have := HB.out.2.2; omega); unfold wayT at this; rw [hD] at this; simp only [Bool.and_eq_true, decide_eq_true_eq] at this; exact this.1))
        have HHn := Lib.hid (fun W (h : NQ w w.heap.size n (.slice va es.length vc) es [(.slice (some ⟨g, o, none⟩) M yc, arcs)] W) => (show Calls Try.prog 34 #[netV n (.slice va es.length vc), .int .i64 a] W fun e w' => e = .returned (.bool false) ∧ Below W.heap.size W w' from by have k := HH.out W h; rwa [decide_eq_false hh] at k))
        subst hbf
        clear hq hlt hk hway hy hmore hg hD hh HE hL f0
        go_wp2
        refine region_till 99 (fun W => NQ w w.heap.size n (.slice va es.length vc) es [(.slice (some ⟨g, o, none⟩) M yc, arcs)] W) (by kernel_rfl) hS0 (fun hS => ?_)
        clear hS0
        skip
        refine take_till (i := 0) (some 18) (.agg #[.int .i64 n, .slice va es.length vc]) rfl rfl (by kernel_rfl) (by kernel_rfl) (by kernel_rfl) (by kernel_rfl) (by decide) (fun _ _ _ h => h) (by rfl) (fun W hW => ?_) hS ?_
        · obtain ⟨x0, x1⟩ := HX.out W hW; have x2 := HY.out W hW
          clear hW
          go_simp
        simp only [Act.put, List.setIfInBounds_toArray, List.set_cons_zero, List.set_cons_succ]
        refine take_till (i := 1) (some 19) (.slice (some ⟨g, o, none⟩) M yc) rfl rfl (by kernel_rfl) (by kernel_rfl) (by kernel_rfl) (by kernel_rfl) (by decide) (fun _ _ _ h => h) (by rfl) (fun W hW => ?_) hS ?_
        · obtain ⟨x0, x1⟩ := HX.out W hW; have x2 := HY.out W hW
          clear hW
          go_simp
        simp only [Act.put, List.setIfInBounds_toArray, List.set_cons_zero, List.set_cons_succ]
        refine take_till (i := 2) (some 20) (.int .i64 (k : Int)) rfl rfl (by kernel_rfl) (by kernel_rfl) (by kernel_rfl) (by kernel_rfl) (by decide) (fun _ _ _ h => h) (by rfl) (fun W hW => ?_) hS ?_
        · obtain ⟨x0, x1⟩ := HX.out W hW; have x2 := HY.out W hW
          clear hW
          go_simp
        simp only [Act.put, List.setIfInBounds_toArray, List.set_cons_zero, List.set_cons_succ]
        refine take_till (i := 3) (some 21) (.pointer (some ⟨g, o + k, none⟩)) rfl rfl (by kernel_rfl) (by kernel_rfl) (by kernel_rfl) (by kernel_rfl) (by decide) (fun _ _ _ h => h) (by rfl) (fun W hW => ?_) hS ?_
        · obtain ⟨x0, x1⟩ := HX.out W hW; have x2 := HY.out W hW
          clear hW
          go_simp
        simp only [Act.put, List.setIfInBounds_toArray, List.set_cons_zero, List.set_cons_succ]
        refine take_till (i := 4) (some 22) (.int .i64 a) rfl rfl (by kernel_rfl) (by kernel_rfl) (by kernel_rfl) (by kernel_rfl) (by decide) (fun _ _ _ h => h) (by rfl) (fun W hW => ?_) hS ?_
        · obtain ⟨x0, x1⟩ := HX.out W hW; have x2 := HY.out W hW
          clear hW
          go_simp
        simp only [Act.put, List.setIfInBounds_toArray, List.set_cons_zero, List.set_cons_succ]
        refine next_till 5 (by kernel_rfl) rfl (fun K hK => ?_)
        go_simp
        refine (HHn.out _ hS).mono ?_
        rintro _ a1 ⟨rfl, bl⟩
        have hT := hS.go bl
        clear bl hS
        have hS := hT
        clear hT
        go_simp
        refine hK.out _ _ (fun _ => hS) ?_
        clear hK K
        refine take_till (i := 6) (some 24) (.bool true) rfl rfl (by kernel_rfl) (by kernel_rfl) (by kernel_rfl) (by kernel_rfl) (by decide) (fun _ _ _ h => h) (by rfl) (fun W hW => ?_) hS ?_
        · obtain ⟨x0, x1⟩ := HX.out W hW; have x2 := HY.out W hW
          clear hW
          go_simp
        simp only [Act.put, List.setIfInBounds_toArray, List.set_cons_zero, List.set_cons_succ]

        refine done_till (by kernel_rfl) ?_ _
        have HQ := Lib.hid hS
        clear hS
        go_wp2
        go_ret
        exact ⟨rfl, HQ.out.under⟩
      have HHp := Lib.hid (fun W (h : NQ w w.heap.size n (.slice va es.length vc) es [(.slice (some ⟨g, o, none⟩) M yc, arcs)] W) => (show Calls Try.prog 34 #[netV n (.slice va es.length vc), .int .i64 a] W fun e w' => e = .returned (.bool true) ∧ Below W.heap.size W w' from by have k := HH.out W h; rwa [decide_eq_true hh] at k))
      have HEp := Lib.hid (fun W (h : NQ w w.heap.size n (.slice va es.length vc) es [(.slice (some ⟨g, o, none⟩) M yc, arcs)] W) => HE.out W h hh)
      have HZ := Lib.hid (And.intro hlt (And.intro hmore (And.intro hy (And.intro hD hh))))
      have HZ2 := Lib.hid hway
      clear hq hlt hk hway hy hmore hg hD hh hL f0 HE HH
      go_wp2
      refine region_till 99 (fun W => NQ w w.heap.size n (.slice va es.length vc) es [(.slice (some ⟨g, o, none⟩) M yc, arcs)] W) (by kernel_rfl) hS0 (fun hS => ?_)
      clear hS0
      skip
      refine take_till (i := 0) (some 18) (.agg #[.int .i64 n, .slice va es.length vc]) rfl rfl (by kernel_rfl) (by kernel_rfl) (by kernel_rfl) (by kernel_rfl) (by decide) (fun _ _ _ h => h) (by rfl) (fun W hW => ?_) hS ?_
      · obtain ⟨x0, x1⟩ := HX.out W hW; have x2 := HY.out W hW
        clear hW
        go_simp
      simp only [Act.put, List.setIfInBounds_toArray, List.set_cons_zero, List.set_cons_succ]
      refine take_till (i := 1) (some 19) (.slice (some ⟨g, o, none⟩) M yc) rfl rfl (by kernel_rfl) (by kernel_rfl) (by kernel_rfl) (by kernel_rfl) (by decide) (fun _ _ _ h => h) (by rfl) (fun W hW => ?_) hS ?_
      · obtain ⟨x0, x1⟩ := HX.out W hW; have x2 := HY.out W hW
        clear hW
        go_simp
      simp only [Act.put, List.setIfInBounds_toArray, List.set_cons_zero, List.set_cons_succ]
      refine take_till (i := 2) (some 20) (.int .i64 (k : Int)) rfl rfl (by kernel_rfl) (by kernel_rfl) (by kernel_rfl) (by kernel_rfl) (by decide) (fun _ _ _ h => h) (by rfl) (fun W hW => ?_) hS ?_
      · obtain ⟨x0, x1⟩ := HX.out W hW; have x2 := HY.out W hW
        clear hW
        go_simp
      simp only [Act.put, List.setIfInBounds_toArray, List.set_cons_zero, List.set_cons_succ]
      refine take_till (i := 3) (some 21) (.pointer (some ⟨g, o + k, none⟩)) rfl rfl (by kernel_rfl) (by kernel_rfl) (by kernel_rfl) (by kernel_rfl) (by decide) (fun _ _ _ h => h) (by rfl) (fun W hW => ?_) hS ?_
      · obtain ⟨x0, x1⟩ := HX.out W hW; have x2 := HY.out W hW
        clear hW
        go_simp
      simp only [Act.put, List.setIfInBounds_toArray, List.set_cons_zero, List.set_cons_succ]
      refine take_till (i := 4) (some 22) (.int .i64 a) rfl rfl (by kernel_rfl) (by kernel_rfl) (by kernel_rfl) (by kernel_rfl) (by decide) (fun _ _ _ h => h) (by rfl) (fun W hW => ?_) hS ?_
      · obtain ⟨x0, x1⟩ := HX.out W hW; have x2 := HY.out W hW
        clear hW
        go_simp
      simp only [Act.put, List.setIfInBounds_toArray, List.set_cons_zero, List.set_cons_succ]
      refine next_till 5 (by kernel_rfl) rfl (fun K hK => ?_)
      go_simp
      refine (HHp.out _ hS).mono ?_
      rintro _ b1 ⟨rfl, bl⟩
      have hT := hS.go bl
      clear bl hS
      have hS := hT
      clear hT
      go_simp
      refine hK.out _ _ (fun _ => hS) ?_
      clear hK K
      refine take_till (i := 6) (some 24) (.bool false) rfl rfl (by kernel_rfl) (by kernel_rfl) (by kernel_rfl) (by kernel_rfl) (by decide) (fun _ _ _ h => h) (by rfl) (fun W hW => ?_) hS ?_
      · obtain ⟨x0, x1⟩ := HX.out W hW; have x2 := HY.out W hW
        clear hW
        go_simp
      simp only [Act.put, List.setIfInBounds_toArray, List.set_cons_zero, List.set_cons_succ]

      refine done_till (by kernel_rfl) ?_ _
      have hS0 := hS.go ((Below.refl b1.heap.size b1).drew)
      clear hS
      obtain ⟨fA, hfA⟩ : ∃ fA, fA = frA es a := ⟨_, rfl⟩
      rw [← hfA] at HEp
      generalize toA es a = tA at *
      generalize coA es a = cA at *
      go_wp2
      refine region_till 99 (fun W => NQ w w.heap.size n (.slice va es.length vc) es [(.slice (some ⟨g, o, none⟩) M yc, arcs)] W) (by kernel_rfl) hS0 (fun hS => ?_)
      clear hS0
      skip
      refine take_till (i := 0) (some 26) (.agg #[.int .i64 n, .slice va es.length vc]) rfl rfl (by kernel_rfl) (by kernel_rfl) (by kernel_rfl) (by kernel_rfl) (by decide) (fun _ _ _ h => h) (by rfl) (fun W hW => ?_) hS ?_
      · obtain ⟨x0, x1⟩ := HX.out W hW; have x2 := HY.out W hW
        clear hW
        go_simp
      simp only [Act.put, List.setIfInBounds_toArray, List.set_cons_zero, List.set_cons_succ]
      refine take_till (i := 1) (some 27) (.slice (some ⟨g, o, none⟩) M yc) rfl rfl (by kernel_rfl) (by kernel_rfl) (by kernel_rfl) (by kernel_rfl) (by decide) (fun _ _ _ h => h) (by rfl) (fun W hW => ?_) hS ?_
      · obtain ⟨x0, x1⟩ := HX.out W hW; have x2 := HY.out W hW
        clear hW
        go_simp
      simp only [Act.put, List.setIfInBounds_toArray, List.set_cons_zero, List.set_cons_succ]
      refine take_till (i := 2) (some 28) (.int .i64 (k : Int)) rfl rfl (by kernel_rfl) (by kernel_rfl) (by kernel_rfl) (by kernel_rfl) (by decide) (fun _ _ _ h => h) (by rfl) (fun W hW => ?_) hS ?_
      · obtain ⟨x0, x1⟩ := HX.out W hW; have x2 := HY.out W hW
        clear hW
        go_simp
      simp only [Act.put, List.setIfInBounds_toArray, List.set_cons_zero, List.set_cons_succ]
      refine take_till (i := 3) (some 29) (.pointer (some ⟨g, o + k, none⟩)) rfl rfl (by kernel_rfl) (by kernel_rfl) (by kernel_rfl) (by kernel_rfl) (by decide) (fun _ _ _ h => h) (by rfl) (fun W hW => ?_) hS ?_
      · obtain ⟨x0, x1⟩ := HX.out W hW; have x2 := HY.out W hW
        clear hW
        go_simp
      simp only [Act.put, List.setIfInBounds_toArray, List.set_cons_zero, List.set_cons_succ]
      refine take_till (i := 4) (some 30) (.int .i64 a) rfl rfl (by kernel_rfl) (by kernel_rfl) (by kernel_rfl) (by kernel_rfl) (by decide) (fun _ _ _ h => h) (by rfl) (fun W hW => ?_) hS ?_
      · obtain ⟨x0, x1⟩ := HX.out W hW; have x2 := HY.out W hW
        clear hW
        go_simp
      simp only [Act.put, List.setIfInBounds_toArray, List.set_cons_zero, List.set_cons_succ]
      refine next_till 5 (by kernel_rfl) rfl (fun K hK => ?_)
      go_simp
      refine (HEp.out _ hS).mono ?_
      rintro _ c1 ⟨rfl, bl⟩
      have hT := hS.go bl
      clear bl hS
      have hS := hT
      clear hT
      go_simp
      refine hK.out _ _ (fun _ => hS) ?_
      clear hK K
      refine take_till (i := 6) (some 25) (.tuple #[.int .i64 fA, .int .i64 tA, .int .i64 cA]) rfl rfl (by kernel_rfl) (by kernel_rfl) (by kernel_rfl) (by kernel_rfl) (by decide) (fun _ _ _ h => h) (by rfl) (fun W hW => ?_) hS ?_
      · obtain ⟨x0, x1⟩ := HX.out W hW; have x2 := HY.out W hW
        clear hW
        go_simp
      simp only [Act.put, List.setIfInBounds_toArray, List.set_cons_zero, List.set_cons_succ]
      refine take_till (i := 7) (some 32) (.int .i64 fA) rfl rfl (by kernel_rfl) (by kernel_rfl) (by kernel_rfl) (by kernel_rfl) (by decide) (fun _ _ _ h => h) (by rfl) (fun W hW => ?_) hS ?_
      · obtain ⟨x0, x1⟩ := HX.out W hW; have x2 := HY.out W hW
        clear hW
        go_simp
      simp only [Act.put, List.setIfInBounds_toArray, List.set_cons_zero, List.set_cons_succ]
      refine take_till (i := 8) (some 33) (.int .i64 tA) rfl rfl (by kernel_rfl) (by kernel_rfl) (by kernel_rfl) (by kernel_rfl) (by decide) (fun _ _ _ h => h) (by rfl) (fun W hW => ?_) hS ?_
      · obtain ⟨x0, x1⟩ := HX.out W hW; have x2 := HY.out W hW
        clear hW
        go_simp
      simp only [Act.put, List.setIfInBounds_toArray, List.set_cons_zero, List.set_cons_succ]
      refine take_till (i := 9) (some 34) (.int .i64 cA) rfl rfl (by kernel_rfl) (by kernel_rfl) (by kernel_rfl) (by kernel_rfl) (by decide) (fun _ _ _ h => h) (by rfl) (fun W hW => ?_) hS ?_
      · obtain ⟨x0, x1⟩ := HX.out W hW; have x2 := HY.out W hW
        clear hW
        go_simp
      simp only [Act.put, List.setIfInBounds_toArray, List.set_cons_zero, List.set_cons_succ]
      refine take_till (i := 10) (some 6) (.int .i64 fA) rfl rfl (by kernel_rfl) (by kernel_rfl) (by kernel_rfl) (by kernel_rfl) (by decide) (fun _ _ _ h => h) (by rfl) (fun W hW => ?_) hS ?_
      · obtain ⟨x0, x1⟩ := HX.out W hW; have x2 := HY.out W hW
        clear hW
        go_simp
      simp only [Act.put, List.setIfInBounds_toArray, List.set_cons_zero, List.set_cons_succ]
      refine take_till (i := 11) (some 7) (.int .i64 tA) rfl rfl (by kernel_rfl) (by kernel_rfl) (by kernel_rfl) (by kernel_rfl) (by decide) (fun _ _ _ h => h) (by rfl) (fun W hW => ?_) hS ?_
      · obtain ⟨x0, x1⟩ := HX.out W hW; have x2 := HY.out W hW
        clear hW
        go_simp
      simp only [Act.put, List.setIfInBounds_toArray, List.set_cons_zero, List.set_cons_succ]
      refine take_till (i := 12) (some 8) (.int .i64 cA) rfl rfl (by kernel_rfl) (by kernel_rfl) (by kernel_rfl) (by kernel_rfl) (by decide) (fun _ _ _ h => h) (by rfl) (fun W hW => ?_) hS ?_
      · obtain ⟨x0, x1⟩ := HX.out W hW; have x2 := HY.out W hW
        clear hW
        go_simp
      simp only [Act.put, List.setIfInBounds_toArray, List.set_cons_zero, List.set_cons_succ]

      refine done_till (by kernel_rfl) ?_ _
      obtain ⟨hlt, hmore, hy, hD, hh⟩ := HZ.out
      unfold wayT at hmore
      rw [hD, decide_eq_true hh, Bool.true_and, ← hfA] at hmore
      by_cases hk2 : k = 0
      · subst hk2
        have HQ := Lib.hid (And.intro hS (And.intro hlt hmore))
        clear hS hlt hmore hy hD hh hfA
        go_wp2
        go_roundw
        case rel =>
          obtain ⟨hS, hlt, hmore⟩ := HQ.out
          exact ⟨1, by go_num, hlt, by rw [hmore]; simp, hS⟩
        case measure =>
          have := HQ.out.2.1
          simp only [intOf]
          omega
      · have hk3 : (0 : Int) < (k : Int) := by omega
        have hbeq : (k == 0) = false := by simpa using hk2
        rw [hbeq, Bool.false_or] at hmore
        obtain ⟨k1, hk1'⟩ : ∃ k1, k - 1 = k1 := ⟨_, rfl⟩
        obtain ⟨c, hc⟩ : ∃ c, arcs[k1]? = some c := ⟨_, List.getElem?_eq_getElem (by have := HB.out.2.2; omega)⟩
        have hDc : arcs.getD (k - 1) 0 = c := by rw [hk1', List.getD_eq_getElem?_getD, hc]; rfl
        rw [hDc] at hmore
        have hhc : HasP es c := by
          have h1 := List.all_eq_true.1 HZ2.out k1 (List.mem_range.2 (by omega))
          unfold wayT at h1
          rw [← hk1', hDc] at h1
          simp only [Bool.and_eq_true, decide_eq_true_eq] at h1
          exact h1.1
        have HYc := Lib.hid (HY0.out k1 c hc)
        have hkk : (k : Int) - 1 = (k1 : Int) := by omega
        have hkw : wrap64 ((k : Int) - 1) = (k1 : Int) := by rw [hkk]; unfold wrap64; omega
        have hkW : IntKind.i64.wrap ((k : Int) - 1) = (k1 : Int) := by rw [IntWalk.i64_left]; exact hkw
        have hk1l : (k1 : Int) < (M : Int) := by omega
        have hk10 : (0 : Int) ≤ (k1 : Int) := by omega
        have hS0 := hS.go ((Below.refl c1.heap.size c1).drew)
        have HEc := Lib.hid (fun W (h : NQ w w.heap.size n (.slice va es.length vc) es [(.slice (some ⟨g, o, none⟩) M yc, arcs)] W) => (show Calls Try.prog 14 #[netV n (.slice va es.length vc), .int .i64 c] W fun e w' => e = .returned (.tuple #[.int .i64 (frA es c), .int .i64 (toA es c), .int .i64 (coA es c)]) ∧ Below W.heap.size W w' from by
          have HWc : HasP es c := hhc
          have k := rends_any n es c W h.es (by have := HR.out.2.2.1; omega)
          rw [endsP_pos HR.out HWc] at k
          exact k))
        have HQ := Lib.hid (And.intro hlt hmore)
        clear hS hlt hmore hy hD hh hfA hc hDc hk1' hhc hk2 hbeq hkk
        generalize frA es c = fC at *
        generalize coA es c = cC at *
        obtain ⟨tC, htC⟩ : ∃ tC, tC = toA es c := ⟨_, rfl⟩
        rw [← htC] at HEc HQ
        clear htC
        go_wp2
        refine region_till 99 (fun W => NQ w w.heap.size n (.slice va es.length vc) es [(.slice (some ⟨g, o, none⟩) M yc, arcs)] W) (by kernel_rfl) hS0 (fun hS => ?_)
        clear hS0
        skip
        refine take_till (i := 0) (some 38) (.agg #[.int .i64 n, .slice va es.length vc]) rfl rfl (by kernel_rfl) (by kernel_rfl) (by kernel_rfl) (by kernel_rfl) (by decide) (fun _ _ _ h => h) (by rfl) (fun W hW => ?_) hS ?_
        · obtain ⟨x0, x1⟩ := HX.out W hW; have x2 := HYc.out W hW
          clear hW
          go_simp
        simp only [Act.put, List.setIfInBounds_toArray, List.set_cons_zero, List.set_cons_succ]
        refine take_till (i := 1) (some 39) (.slice (some ⟨g, o, none⟩) M yc) rfl rfl (by kernel_rfl) (by kernel_rfl) (by kernel_rfl) (by kernel_rfl) (by decide) (fun _ _ _ h => h) (by rfl) (fun W hW => ?_) hS ?_
        · obtain ⟨x0, x1⟩ := HX.out W hW; have x2 := HYc.out W hW
          clear hW
          go_simp
        simp only [Act.put, List.setIfInBounds_toArray, List.set_cons_zero, List.set_cons_succ]
        refine take_till (i := 2) (some 40) (.int .i64 (k : Int)) rfl rfl (by kernel_rfl) (by kernel_rfl) (by kernel_rfl) (by kernel_rfl) (by decide) (fun _ _ _ h => h) (by rfl) (fun W hW => ?_) hS ?_
        · obtain ⟨x0, x1⟩ := HX.out W hW; have x2 := HYc.out W hW
          clear hW
          go_simp
        simp only [Act.put, List.setIfInBounds_toArray, List.set_cons_zero, List.set_cons_succ]
        refine take_till (i := 3) (some 41) (.int .i64 (k1 : Int)) rfl rfl (by kernel_rfl) (by kernel_rfl) (by kernel_rfl) (by kernel_rfl) (by decide) (fun _ _ _ h => h) (by rfl) (fun W hW => ?_) hS ?_
        · obtain ⟨x0, x1⟩ := HX.out W hW; have x2 := HYc.out W hW
          clear hW
          go_simp
        simp only [Act.put, List.setIfInBounds_toArray, List.set_cons_zero, List.set_cons_succ]
        refine take_till (i := 4) (some 42) (.pointer (some ⟨g, o + k1, none⟩)) rfl rfl (by kernel_rfl) (by kernel_rfl) (by kernel_rfl) (by kernel_rfl) (by decide) (fun _ _ _ h => h) (by rfl) (fun W hW => ?_) hS ?_
        · obtain ⟨x0, x1⟩ := HX.out W hW; have x2 := HYc.out W hW
          clear hW
          go_simp
        simp only [Act.put, List.setIfInBounds_toArray, List.set_cons_zero, List.set_cons_succ]
        refine take_till (i := 5) (some 43) (.int .i64 c) rfl rfl (by kernel_rfl) (by kernel_rfl) (by kernel_rfl) (by kernel_rfl) (by decide) (fun _ _ _ h => h) (by rfl) (fun W hW => ?_) hS ?_
        · obtain ⟨x0, x1⟩ := HX.out W hW; have x2 := HYc.out W hW
          clear hW
          go_simp
        simp only [Act.put, List.setIfInBounds_toArray, List.set_cons_zero, List.set_cons_succ]
        refine next_till 6 (by kernel_rfl) rfl (fun K hK => ?_)
        go_simp
        refine (HEc.out _ hS).mono ?_
        rintro _ d1 ⟨rfl, bl⟩
        have hT := hS.go bl
        clear bl hS
        have hS := hT
        clear hT
        go_simp
        refine hK.out _ _ (fun _ => hS) ?_
        clear hK K
        refine take_till (i := 7) (some 37) (.tuple #[.int .i64 fC, .int .i64 tC, .int .i64 cC]) rfl rfl (by kernel_rfl) (by kernel_rfl) (by kernel_rfl) (by kernel_rfl) (by decide) (fun _ _ _ h => h) (by rfl) (fun W hW => ?_) hS ?_
        · obtain ⟨x0, x1⟩ := HX.out W hW; have x2 := HYc.out W hW
          clear hW
          go_simp
        simp only [Act.put, List.setIfInBounds_toArray, List.set_cons_zero, List.set_cons_succ]
        refine take_till (i := 8) (some 45) (.int .i64 fC) rfl rfl (by kernel_rfl) (by kernel_rfl) (by kernel_rfl) (by kernel_rfl) (by decide) (fun _ _ _ h => h) (by rfl) (fun W hW => ?_) hS ?_
        · obtain ⟨x0, x1⟩ := HX.out W hW; have x2 := HYc.out W hW
          clear hW
          go_simp
        simp only [Act.put, List.setIfInBounds_toArray, List.set_cons_zero, List.set_cons_succ]
        refine take_till (i := 9) (some 46) (.int .i64 tC) rfl rfl (by kernel_rfl) (by kernel_rfl) (by kernel_rfl) (by kernel_rfl) (by decide) (fun _ _ _ h => h) (by rfl) (fun W hW => ?_) hS ?_
        · obtain ⟨x0, x1⟩ := HX.out W hW; have x2 := HYc.out W hW
          clear hW
          go_simp
        simp only [Act.put, List.setIfInBounds_toArray, List.set_cons_zero, List.set_cons_succ]
        refine take_till (i := 10) (some 47) (.int .i64 cC) rfl rfl (by kernel_rfl) (by kernel_rfl) (by kernel_rfl) (by kernel_rfl) (by decide) (fun _ _ _ h => h) (by rfl) (fun W hW => ?_) hS ?_
        · obtain ⟨x0, x1⟩ := HX.out W hW; have x2 := HYc.out W hW
          clear hW
          go_simp
        simp only [Act.put, List.setIfInBounds_toArray, List.set_cons_zero, List.set_cons_succ]
        refine take_till (i := 11) (some 9) (.int .i64 fC) rfl rfl (by kernel_rfl) (by kernel_rfl) (by kernel_rfl) (by kernel_rfl) (by decide) (fun _ _ _ h => h) (by rfl) (fun W hW => ?_) hS ?_
        · obtain ⟨x0, x1⟩ := HX.out W hW; have x2 := HYc.out W hW
          clear hW
          go_simp
        simp only [Act.put, List.setIfInBounds_toArray, List.set_cons_zero, List.set_cons_succ]
        refine take_till (i := 12) (some 10) (.int .i64 tC) rfl rfl (by kernel_rfl) (by kernel_rfl) (by kernel_rfl) (by kernel_rfl) (by decide) (fun _ _ _ h => h) (by rfl) (fun W hW => ?_) hS ?_
        · obtain ⟨x0, x1⟩ := HX.out W hW; have x2 := HYc.out W hW
          clear hW
          go_simp
        simp only [Act.put, List.setIfInBounds_toArray, List.set_cons_zero, List.set_cons_succ]
        refine take_till (i := 13) (some 11) (.int .i64 cC) rfl rfl (by kernel_rfl) (by kernel_rfl) (by kernel_rfl) (by kernel_rfl) (by decide) (fun _ _ _ h => h) (by rfl) (fun W hW => ?_) hS ?_
        · obtain ⟨x0, x1⟩ := HX.out W hW; have x2 := HYc.out W hW
          clear hW
          go_simp
        simp only [Act.put, List.setIfInBounds_toArray, List.set_cons_zero, List.set_cons_succ]

        refine done_till (by kernel_rfl) ?_ _
        obtain ⟨hlt, hmore⟩ := HQ.out
        by_cases hz : fA = tC
        · subst hz
          have HQ := Lib.hid (And.intro hS (And.intro hlt hmore))
          clear hS hlt hmore
          have hq : (fA != fA) = false := by simp
          go_wp2
          go_roundw
          case rel =>
            obtain ⟨hS, hlt, hmore⟩ := HQ.out
            exact ⟨k + 1, by go_num, hlt, by rw [hmore]; simp, hS⟩
          case measure =>
            have := HQ.out.2.1
            simp only [intOf]
            omega
        · obtain rfl := HB.out.2.1 (fun h => by
            have := wayTo_le h.2 (j := k + 1) (by have := HB.out.2.2; omega)
            rw [hmore] at this
            exact hz (by simpa using this))
          have hq : (tC != fA) = true := by simpa using fun h => hz h.symm
          have HQ := Lib.hid hS
          clear hS hlt hmore hz
          go_wp2
          go_ret
          exact ⟨rfl, HQ.out.under⟩
    · obtain rfl : k = M := by omega
      have hki : ¬ (k : Int) < (k : Int) := by omega
      have HQ := Lib.hid hq
      by_cases h0 : k = 0
      · subst h0
        obtain rfl := HB.out.2.1 (fun h => h.1 (List.eq_nil_of_length_eq_zero HB.out.2.2.symm))
        clear hge hk hway hq
        go_wp2
        go_ret
        exact ⟨rfl, HQ.out.under⟩
      · obtain rfl := HB.out.1 ⟨fun h => h0 (by rw [HB.out.2.2, h]; rfl), by rw [← HB.out.2.2]; exact hway⟩
        have H0 := Lib.hid h0
        clear hge hk hway hq h0
        go_wp2
        go_ret
        exact ⟨congrArg (fun z => Ending.returned (.bool z)) (decide_eq_true (by have := H0.out; omega)), HQ.out.under⟩
end Go.Proofs.Ytohcoknnalgjnaa
