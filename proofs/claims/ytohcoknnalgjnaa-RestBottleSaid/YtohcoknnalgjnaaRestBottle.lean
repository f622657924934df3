/- The statement RestBottle: as much as Bottle says may be pushed along a way, and no more; no condition. -/
import Derived.Test.YtohcoknnalgjnaaRsWorks
import Derived.Test.YtohcoknnalgjnaaRsLawP
namespace Go.Proofs.Ytohcoknnalgjnaa
open Go.RowKit

set_option maxRecDepth 100000 in
set_option maxHeartbeats 16000000 in
theorem restBottle_any (n : Int) (w : World) {v x y : Value} {es : List Ed} {fl arcs : List Int} (he : Es w v es) (hf : Fs w x fl) (hy : Fs w y arcs) : Calls Try.prog 7 #[netV n v, x, y] w fun e w' => e = .returned (.bool true) ∧ Below w.heap.size w w' := by
  obtain ⟨va, vc, rfl, -, -⟩ := he.shape
  obtain ⟨xa, xc, rfl, -, -⟩ := hf.shape
  obtain ⟨ya, yc, rfl, -, -⟩ := hy.shape
  have hyl := hy.len
  have hK := NQ.box n he (fls := [(.slice xa fl.length xc, fl), (.slice ya arcs.length yc, arcs)]) (fun p hp => by
    rcases List.mem_cons.1 hp with rfl | hp
    · exact hf
    · rw [List.mem_singleton.1 hp]; exact hy)
  clear he hf hy
  obtain ⟨n0, n1⟩ := hK.net.net
  have P := vast_any n es fl _ hK.es (hK.fl (.slice xa fl.length xc, fl) (by simp))
  have HK := Lib.hid hK
  clear hK
  go_enter Try.func7, Try.ntmps7
  go_wp2_with fail
  generalize w.alloc (.cells #[.int .i64 n, .slice va es.length vc] 24) = w1 at *
  refine P.mono ?_
  rintro e w2 ⟨rfl, bl⟩
  have h2 := HK.out.go bl
  clear P HK bl n0 n1
  by_cases hv : 2000 < es.length ∨ 2000 < fl.length
  case pos =>
    rw [decide_eq_true hv]
    have HV := Lib.hid (And.intro hv h2)
    clear hv h2
    go_wp2_with fail
    refine (works12_any w2).mono ?_
    rintro e w3 ⟨rfl, bl⟩
    go_wp2
    go_ret
    exact ⟨rfl, (HV.out.2.go bl).under⟩
  rw [decide_eq_false hv]
  by_cases hal : 60 < arcs.length
  case pos =>
    have hal' : (60 : Int) < (arcs.length : Int) := by omega
    have HV := Lib.hid h2
    clear hv h2 hal
    go_wp2_with fail
    refine (works12_any w2).mono ?_
    rintro _ w3 ⟨rfl, bl⟩
    go_wp2
    go_ret
    exact ⟨rfl, (HV.out.go bl).under⟩
  have hal' : ¬ (60 : Int) < (arcs.length : Int) := by omega
  have P := bottle_any n es fl arcs w2 h2.es (h2.fl (.slice xa fl.length xc, fl) (by simp)) (h2.fl (.slice ya arcs.length yc, arcs) (by simp))
  obtain ⟨n0, n1⟩ := h2.net.net
  have HK := Lib.hid h2
  clear h2 hv hal
  go_wp2_with fail
  refine P.mono ?_
  rintro _ w3 ⟨rfl, bl⟩
  have h3 := HK.out.go bl
  clear P HK bl n0 n1
  have P := along_any n es fl arcs 0 w3 h3.es (h3.fl (.slice xa fl.length xc, fl) (by simp)) (h3.fl (.slice ya arcs.length yc, arcs) (by simp))
  by_cases hok : WithinP n es fl ∧ WayP es arcs
  case neg =>
    rw [along_none_code hok] at P
    rw [bottle_none hok]
    obtain ⟨n0, n1⟩ := h3.net.net
    have HK := Lib.hid h3
    clear h3 hok
    go_wp2_with fail
    refine P.mono ?_
    rintro _ w4 ⟨r, rfl, -, bl, -⟩
    have h4 := HK.out.go bl
    have HK := Lib.hid h4
    clear P h4 bl n0 n1
    go_wp2_with fail
    refine (works12_any w4).mono ?_
    rintro _ w5 ⟨rfl, bl⟩
    go_wp2
    go_ret
    exact ⟨rfl, (HK.out.go bl).under⟩
  obtain ⟨hw, hj⟩ := hok
  obtain ⟨hc0, hc1, hc2⟩ := bottle_code hw hj
  obtain ⟨a, hay⟩ : ∃ a, arcs[0]? = some a := ⟨_, List.getElem?_eq_getElem (List.length_pos_iff.2 hj.1)⟩
  have hfst := bottle_first hw hj hay
  have hble := bottle_le (n := n) (es := es) (fl := fl) (arcs := arcs)
  have P1 := fun W (h : NQ w w.heap.size n (.slice va es.length vc) es [(.slice xa fl.length xc, fl), (.slice ya arcs.length yc, arcs)] W) => along_any n es fl arcs (bottleP n es fl arcs) W h.es (h.fl (.slice xa fl.length xc, fl) (by simp)) (h.fl (.slice ya arcs.length yc, arcs) (by simp))
  have P2 := fun W (h : NQ w w.heap.size n (.slice va es.length vc) es [(.slice xa fl.length xc, fl), (.slice ya arcs.length yc, arcs)] W) => along_any n es fl arcs (bottleP n es fl arcs + 1) W h.es (h.fl (.slice xa fl.length xc, fl) (by simp)) (h.fl (.slice ya arcs.length yc, arcs) (by simp))
  rw [hc0] at P
  rw [hc1] at P1
  rw [hc2] at P2
  generalize bottleP n es fl arcs = BO at *
  have hwr : wrap64 (BO + 1) = BO + 1 := by unfold wrap64; omega
  obtain ⟨n0, n1⟩ := h3.net.net
  have HK := Lib.hid (And.intro h3 (And.intro hw (And.intro hj (And.intro hay (And.intro hfst (And.intro hble hwr))))))
  have HP := Lib.hid (And.intro P1 P2)
  clear h3 hw hj hc0 hc1 hc2 hay hfst hble P1 P2
  go_wp2_with fail
  refine P.mono ?_
  rintro _ w4 ⟨r, rfl, -, bl, -⟩
  obtain ⟨h3, hw, hj, hay, hfst, hble, hwr⟩ := HK.out
  have h4 := h3.go bl
  have P := HP.out.1 _ h4
  obtain ⟨n0, n1⟩ := h4.net.net
  have HK := Lib.hid (And.intro h4 (And.intro hw (And.intro hj (And.intro hay (And.intro hfst (And.intro hble hwr))))))
  clear h3 h4 hw hj hay hfst hble bl
  go_wp2_with fail
  refine P.mono ?_
  rintro _ w5 ⟨r2, rfl, -, bl, -⟩
  obtain ⟨h4, hw, hj, hay, hfst, hble, hwr⟩ := HK.out
  have h5 := h4.go bl
  have P := HP.out.2 _ h5
  obtain ⟨n0, n1⟩ := h5.net.net
  have HK := Lib.hid (And.intro h5 (And.intro hw (And.intro hj (And.intro hay (And.intro hfst hble)))))
  clear h4 h5 hw hj hay hfst hble bl
  go_wp2_with fail
  refine P.mono ?_
  rintro _ w6 ⟨r3, rfl, -, bl, -⟩
  obtain ⟨h5, hw, hj, hay, hfst, hble⟩ := HK.out
  have h6 := h5.go bl
  have hh := hj.has hay
  obtain ⟨g3, o3, cp3, e0, -, -⟩ := fs_at (h6.fl (.slice ya arcs.length yc, arcs) (by simp)) hay
  simp only [Value.slice.injEq] at e0
  obtain ⟨rfl, -, rfl⟩ := e0
  obtain ⟨M, hM⟩ : ∃ M, M = arcs.length := ⟨_, rfl⟩
  rw [← hM] at h6 ⊢
  have hM0 : 0 < M := by have := (List.getElem?_eq_some_iff.1 hay).1; omega
  have PR := fun W (h : NQ w w.heap.size n (.slice va es.length vc) es [(.slice xa fl.length xc, fl), (.slice (some ⟨g3, o3, none⟩) M yc, arcs)] W) => room_any n es fl a W h.es (h.fl (.slice xa fl.length xc, fl) (by simp))
  rw [roomP_pos hw hh] at PR
  have HX := Lib.hid (show ∀ W, NQ w w.heap.size n (.slice va es.length vc) es [(.slice xa fl.length xc, fl), (.slice (some ⟨g3, o3, none⟩) M yc, arcs)] W → (W.cell? ⟨w.heap.size, 0, none⟩ = some (.int .i64 n) ∧ W.cell? ⟨w.heap.size, 1, none⟩ = some (.slice va es.length vc)) ∧ W.cell? ⟨g3, o3, none⟩ = some (.int .i64 a) from fun W hW => by
    obtain ⟨g', o', cp', e0, -, f0⟩ := fs_at (hW.fl (.slice (some ⟨g3, o3, none⟩) M yc, arcs) (by simp)) hay
    rw [← hM] at e0
    simp only [Value.slice.injEq, Option.some.injEq, Addr.mk.injEq] at e0
    obtain ⟨⟨rfl, rfl, -⟩, -, -⟩ := e0
    exact ⟨hW.net.net, f0⟩)
  generalize roomL es fl a = RO at *
  have hMi : (0 : Int) < (M : Int) := by omega
  have HK := Lib.hid (And.intro h6 (And.intro hfst hble))
  have HPR := Lib.hid PR
  clear h5 h6 hw hj hay hfst hble bl hh PR P n0 n1 HP hM hM0 hwr hal'
  go_wp2
  go_loopw [15, 14] (fun j q wr => ∃ k : Nat, j = .int .i64 (k : Int) ∧ k ≤ 1 ∧ q = .int .i64 (if k = 0 then BO else RO) ∧ NQ w w.heap.size n (.slice va es.length vc) es [(.slice xa fl.length xc, fl), (.slice (some ⟨g3, o3, none⟩) M yc, arcs)] wr) (fun j _ _ => 1 - (intOf j).toNat)
  case atStart => exact ⟨0, rfl, Nat.zero_le _, rfl, HK.out.1⟩
  case round =>
    obtain ⟨k, rfl, hk, rfl, hq⟩ := hrel
    obtain rfl | rfl : k = 0 ∨ k = 1 := by omega
    · rw [if_pos rfl]
      simp only [Int.natCast_zero] at *
      have hS0 := hq.go ((Below.refl wr.heap.size wr).drew)
      have HF := Lib.hid HK.out.2
      clear hq hk
      go_wp2
      refine region_till 99 (fun W => NQ w w.heap.size n (.slice va es.length vc) es [(.slice xa fl.length xc, fl), (.slice (some ⟨g3, o3, none⟩) M yc, arcs)] W) (by kernel_rfl) hS0 (fun hS => ?_)
      clear hS0
      skip
      refine take_till (i := 0) (some 71) (.agg #[.int .i64 n, .slice va es.length vc]) rfl rfl (by kernel_rfl) (by kernel_rfl) (by kernel_rfl) (by kernel_rfl) (by decide) (fun _ _ _ h => h) (by rfl) (fun W hW => ?_) hS ?_
      · obtain ⟨⟨x0, x1⟩, x2⟩ := HX.out W hW
        clear hW
        go_simp
      simp only [Act.put, List.setIfInBounds_toArray, List.set_cons_zero, List.set_cons_succ]
      refine take_till (i := 1) (some 72) (.slice xa fl.length xc) rfl rfl (by kernel_rfl) (by kernel_rfl) (by kernel_rfl) (by kernel_rfl) (by decide) (fun _ _ _ h => h) (by rfl) (fun W hW => ?_) hS ?_
      · obtain ⟨⟨x0, x1⟩, x2⟩ := HX.out W hW
        clear hW
        go_simp
      simp only [Act.put, List.setIfInBounds_toArray, List.set_cons_zero, List.set_cons_succ]
      refine take_till (i := 2) (some 73) (.slice (some ⟨g3, o3, none⟩) M yc) rfl rfl (by kernel_rfl) (by kernel_rfl) (by kernel_rfl) (by kernel_rfl) (by decide) (fun _ _ _ h => h) (by rfl) (fun W hW => ?_) hS ?_
      · obtain ⟨⟨x0, x1⟩, x2⟩ := HX.out W hW
        clear hW
        go_simp
      simp only [Act.put, List.setIfInBounds_toArray, List.set_cons_zero, List.set_cons_succ]
      refine take_till (i := 3) (some 74) (.int .i64 0) rfl rfl (by kernel_rfl) (by kernel_rfl) (by kernel_rfl) (by kernel_rfl) (by decide) (fun _ _ _ h => h) (by rfl) (fun W hW => ?_) hS ?_
      · obtain ⟨⟨x0, x1⟩, x2⟩ := HX.out W hW
        clear hW
        go_simp
      simp only [Act.put, List.setIfInBounds_toArray, List.set_cons_zero, List.set_cons_succ]
      refine take_till (i := 4) (some 75) (.pointer (some ⟨g3, o3, none⟩)) rfl rfl (by kernel_rfl) (by kernel_rfl) (by kernel_rfl) (by kernel_rfl) (by decide) (fun _ _ _ h => h) (by rfl) (fun W hW => ?_) hS ?_
      · obtain ⟨⟨x0, x1⟩, x2⟩ := HX.out W hW
        clear hW
        go_simp
      simp only [Act.put, List.setIfInBounds_toArray, List.set_cons_zero, List.set_cons_succ]
      refine take_till (i := 5) (some 76) (.int .i64 a) rfl rfl (by kernel_rfl) (by kernel_rfl) (by kernel_rfl) (by kernel_rfl) (by decide) (fun _ _ _ h => h) (by rfl) (fun W hW => ?_) hS ?_
      · obtain ⟨⟨x0, x1⟩, x2⟩ := HX.out W hW
        clear hW
        go_simp
      simp only [Act.put, List.setIfInBounds_toArray, List.set_cons_zero, List.set_cons_succ]
      refine next_till 6 (by kernel_rfl) rfl (fun K hK => ?_)
      go_simp
      refine (HPR.out _ hS).mono ?_
      rintro _ z1 ⟨rfl, bl⟩
      have hT := hS.go bl
      clear bl hS
      have hS := hT
      clear hT
      go_simp
      refine hK.out _ _ (fun _ => hS) ?_
      clear hK K
      refine take_till (i := 7) (some 14) (.int .i64 RO) rfl rfl (by kernel_rfl) (by kernel_rfl) (by kernel_rfl) (by kernel_rfl) (by decide) (fun _ _ _ h => h) (by rfl) (fun W hW => ?_) hS ?_
      · obtain ⟨⟨x0, x1⟩, x2⟩ := HX.out W hW
        clear hW
        go_simp
      simp only [Act.put, List.setIfInBounds_toArray, List.set_cons_zero, List.set_cons_succ]

      refine done_till (by kernel_rfl) ?_ _
      have HZ := Lib.hid hS
      clear hS
      go_wp2
      go_roundw
      case rel => exact ⟨1, by go_num, Nat.le_refl _, rfl, HZ.out⟩
      case measure => simp only [intOf]; omega
    · rw [if_neg (by omega)]
      have HZ := Lib.hid hq
      obtain ⟨h1, h2⟩ := HK.out.2
      have h3 := h2.1
      clear hq hk h2
      by_cases h1M : (1 : Int) < (M : Int)
      · skip
        go_wp2_with fail
        refine (works12_any _).mono ?_
        rintro _ w7 ⟨rfl, bl⟩
        go_wp2
        go_ret
        exact ⟨rfl, (HZ.out.go bl).under⟩
      · skip
        go_wp2_with fail
        refine (works12_any _).mono ?_
        rintro _ w7 ⟨rfl, bl⟩
        go_wp2
        go_ret
        exact ⟨rfl, (HZ.out.go bl).under⟩
end Go.Proofs.Ytohcoknnalgjnaa
