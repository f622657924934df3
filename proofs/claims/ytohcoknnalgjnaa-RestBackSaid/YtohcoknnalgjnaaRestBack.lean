/- The statement RestBack: what is pushed on an arc can be pushed back on the other one of its edge; no condition. -/
import Derived.Test.YtohcoknnalgjnaaRsWorks
import Derived.Test.YtohcoknnalgjnaaRsBackP
import Derived.Test.YtohcoknnalgjnaaRsWayP
namespace Go.Proofs.Ytohcoknnalgjnaa
open Go.RowKit

theorem roomed {n : Int} {es : List Ed} {v : Value} {w : World} {W : World} {c : Nat} {fls : List (Value × List Int)} (h : NQ w c n v es fls W) : W.cell? ⟨c, 0, none⟩ = some (.int .i64 n) ∧ W.cell? ⟨c, 1, none⟩ = some v := h.net.net

set_option maxRecDepth 100000 in
set_option maxHeartbeats 16000000 in
theorem restBack_any (n a b : Int) (w : World) {v x : Value} {es : List Ed} {fl : List Int} (he : Es w v es) (hf : Fs w x fl) : Calls Try.prog 5 #[netV n v, x, .int .i64 a, .int .i64 b] w fun e w' => e = .returned (.bool true) ∧ Below w.heap.size w w' := by
  obtain ⟨va, vc, rfl, -, -⟩ := he.shape
  obtain ⟨xa, xc, rfl, -, -⟩ := hf.shape
  have hK := NQ.box n he (fls := [(.slice xa fl.length xc, fl)]) (fun p hp => by rw [List.mem_singleton.1 hp]; exact hf)
  clear he hf
  obtain ⟨n0, n1⟩ := hK.net.net
  have P := vast_any n es fl _ hK.es (hK.fl (.slice xa fl.length xc, fl) (by simp))
  have HK := Lib.hid hK
  clear hK
  go_enter Try.func5, Try.ntmps5
  go_wp2_with fail
  generalize w.alloc (.cells #[.int .i64 n, .slice va es.length vc] 24) = w1 at *
  refine P.mono ?_
  rintro e w2 ⟨rfl, bl⟩
  have h2 := HK.out.go bl
  clear P HK bl n0 n1
  by_cases hv : 2000 < es.length ∨ 2000 < fl.length
  case pos =>
    rw [decide_eq_true hv]
    have HV := Lib.hid (And.intro hv h2)
    clear hv h2
    go_wp2_with fail
    refine (works12_any w2).mono ?_
    rintro e w3 ⟨rfl, bl⟩
    go_wp2
    go_ret
    exact ⟨rfl, (HV.out.2.go bl).under⟩
  rw [decide_eq_false hv]
  clear hv
  have P := within_any n es fl w2 h2.es (h2.fl (.slice xa fl.length xc, fl) (by simp))
  obtain ⟨n0, n1⟩ := h2.net.net
  have HK := Lib.hid h2
  clear h2
  go_wp2_with fail
  refine P.mono ?_
  rintro e w3 ⟨rfl, bl⟩
  have h3 := HK.out.go bl
  clear P HK bl n0 n1
  by_cases hw : WithinP n es fl
  case neg =>
    rw [decide_eq_false hw]
    have HV := Lib.hid (And.intro hw h3)
    clear hw h3
    go_wp2_with fail
    refine (works12_any w3).mono ?_
    rintro e w4 ⟨rfl, bl⟩
    go_wp2
    go_ret
    exact ⟨rfl, (HV.out.2.go bl).under⟩
  rw [decide_eq_true hw]
  have hL : es.length ≤ 200 := hw.1.2.2.1
  have hLf : fl.length = es.length := hw.2.1
  obtain ⟨L, hLL⟩ : ∃ L, L = es.length := ⟨_, rfl⟩
  have hw2 : wrap64 (2 * (L : Int)) = 2 * (L : Int) := by unfold wrap64; omega
  rw [hLf, ← hLL] at h3 ⊢
  rw [← hLL] at hL
  obtain ⟨n0, n1⟩ := h3.net.net
  by_cases hh : HasP es a
  case neg =>
    have hh2 : a < 0 ∨ (¬ a < 0 ∧ 2 * (L : Int) ≤ a) := by unfold HasP at hh; omega
    have HV := Lib.hid h3
    clear hh h3 hw hL hLf hLL
    rcases hh2 with hh2 | ⟨hh2, hh3⟩
    · go_wp2_with fail
      refine (works12_any w3).mono ?_
      rintro e w4 ⟨rfl, bl⟩
      go_wp2
      go_ret
      exact ⟨rfl, (HV.out.go bl).under⟩
    · go_wp2_with fail
      refine (works12_any w3).mono ?_
      rintro e w4 ⟨rfl, bl⟩
      go_wp2
      go_ret
      exact ⟨rfl, (HV.out.go bl).under⟩
  have ha0 : 0 ≤ a := hh.1
  have hna : ¬ a < 0 := by omega
  have hnl : ¬ 2 * (L : Int) ≤ a := by have := hh.2; omega
  have hxor := arc_xor ha0 (by omega)
  have P := ends_any n es a w3 h3.es
  rw [endsP_pos hw.1 hh] at P
  have hbd := hh.ends hw.1
  have hro := hh.room hw
  have hrt := hh.oth.room hw
  have hrr := oth_room (es := es) (fl := fl) ha0
  obtain ⟨e1, e2, e3⟩ := oth_ends (es := es) ha0
  have hcap := (hh.fits hw).2.2.1
  obtain ⟨m, hm2⟩ : ∃ m : Nat, (a / 2).toNat = m := ⟨_, rfl⟩
  have hm3 : a / 2 = (m : Int) := by omega
  have hmL : (m : Int) < (L : Int) := by have := hh.lt; omega
  obtain ⟨g, o, cp, e0, -, -⟩ := es_at h3.es hh.ed
  rw [← hLL] at e0
  simp only [Value.slice.injEq] at e0
  obtain ⟨rfl, -, rfl⟩ := e0
  have HX := Lib.hid (show ∀ W, NQ w w.heap.size n (.slice (some ⟨g, o, none⟩) L vc) es [(.slice xa L xc, fl)] W → (W.cell? ⟨w.heap.size, 0, none⟩ = some (.int .i64 n) ∧ W.cell? ⟨w.heap.size, 1, none⟩ = some (.slice (some ⟨g, o, none⟩) L vc)) ∧ W.cell? ⟨g, o + m * 4 + 2, none⟩ = some (.int .i64 (edI es a).cap) from fun W hW => by
    obtain ⟨g', o', cp', e0, -, -, -, f2, -⟩ := es_at hW.es hh.ed
    rw [← hLL] at e0
    simp only [Value.slice.injEq, Option.some.injEq, Addr.mk.injEq] at e0
    obtain ⟨⟨rfl, rfl, -⟩, -, -⟩ := e0
    rw [hm2] at f2
    exact ⟨hW.net.net, f2⟩)
  have HK := Lib.hid (And.intro h3 (And.intro hw (And.intro hh (And.intro hL (And.intro hLf (And.intro hLL (And.intro hro (And.intro hrt (And.intro hrr (And.intro hcap (And.intro e1 (And.intro e2 (And.intro e3 hbd)))))))))))))
  clear h3 hw hh hL hLf hLL hro hrt hrr hcap e1 e2 e3 hbd hm2 hna hnl
  go_wp2_with fail
  refine P.mono ?_
  rintro _ w4 ⟨rfl, bl⟩
  obtain ⟨h3, hw, hh, hL, hLf, hLL, hro, hrt, hrr, hcap, e1, e2, e3, hbd⟩ := HK.out
  replace h3 := h3.go bl
  have P := ends_any n es (othA a) w4 h3.es
  rw [endsP_pos hw.1 hh.oth, e1, e2, e3] at P
  have PR := fun W (h : NQ w w.heap.size n (.slice (some ⟨g, o, none⟩) L vc) es [(.slice xa L xc, fl)] W) => room_any n es fl a W h.es (h.fl (.slice xa L xc, fl) (by simp))
  rw [roomP_pos hw hh] at PR
  have PT := fun W (h : NQ w w.heap.size n (.slice (some ⟨g, o, none⟩) L vc) es [(.slice xa L xc, fl)] W) => room_any n es fl (othA a) W h.es (h.fl (.slice xa L xc, fl) (by simp))
  rw [roomP_pos hw hh.oth] at PT
  obtain ⟨RO, hRO⟩ : ∃ RO, RO = roomL es fl a := ⟨_, rfl⟩
  obtain ⟨RT, hRT⟩ : ∃ RT, RT = roomL es fl (othA a) := ⟨_, rfl⟩
  obtain ⟨CC, hCC⟩ : ∃ CC, CC = (edI es a).cap := ⟨_, rfl⟩
  rw [← hRO] at PR hro hrr
  rw [← hRT] at PT hrt hrr
  rw [← hCC] at HX hrr hcap
  generalize frA es a = X at *
  generalize toA es a = Y at *
  generalize coA es a = C at *
  have HP := Lib.hid PT
  have hwC : wrap64 (-C) = -C := by unfold wrap64; omega
  have hwR : wrap64 (RO + RT) = CC := by unfold wrap64; omega
  have hkC : IntKind.i64.wrap (-C) = -C := IntWalk.i64_in _ (by omega)
  have hkR : IntKind.i64.wrap (RO + RT) = CC := by rw [hrr]; exact IntWalk.i64_in _ (by omega)
  have hkd : IntKind.i64.wrap (a.tdiv 2) = (m : Int) := by rw [Int.tdiv_eq_ediv_of_nonneg ha0, hm3]; exact IntWalk.i64_in _ (by omega)
  obtain ⟨n0, n1⟩ := h3.net.net
  have HK := Lib.hid (And.intro h3 (And.intro hw (And.intro hh (And.intro hL (And.intro hLf (And.intro hLL (And.intro hro (And.intro hrt (And.intro hrr (And.intro hRO hRT))))))))))
  clear h3 hw hh hL hLf hLL hro hrt hrr hcap e1 e2 e3 hbd bl hRO hRT hCC PT
  go_wp2_with fail
  refine P.mono ?_
  rintro _ w5 ⟨rfl, bl⟩
  obtain ⟨h3, hw, hh, hL, hLf, hLL, hro, hrt, hrr, hRO, hRT⟩ := HK.out
  replace h3 := h3.go bl
  have P := PR _ h3
  obtain ⟨n0, n1⟩ := h3.net.net
  have HK := Lib.hid (And.intro h3 (And.intro hw (And.intro hh (And.intro hL (And.intro hLf (And.intro hLL (And.intro hro (And.intro hrt (And.intro hrr (And.intro hRO hRT))))))))))
  clear h3 hw hh hL hLf hLL hro hrt hrr hRO hRT bl PR
  go_wp2_with fail
  refine P.mono ?_
  rintro _ w6 ⟨rfl, bl⟩
  obtain ⟨h3, hw, hh, hL, hLf, hLL, hro, hrt, hrr, hRO, hRT⟩ := HK.out
  replace h3 := h3.go bl
  have hS0 := h3.go ((Below.refl w6.heap.size w6).drew)
  have HK := Lib.hid (And.intro hw (And.intro hh (And.intro hL (And.intro hLf (And.intro hLL (And.intro hro (And.intro hrt (And.intro hrr (And.intro hRO hRT)))))))))
  clear h3 hw hh hL hLf hLL hro hrt hrr hRO hRT bl P
  go_wp2
  refine region_till 99 (fun W => NQ w w.heap.size n (.slice (some ⟨g, o, none⟩) L vc) es [(.slice xa L xc, fl)] W) (by kernel_rfl) hS0 (fun hS => ?_)
  clear hS0
  skip
  refine take_till (i := 0) (some 63) (.int .i64 Y) rfl rfl (by kernel_rfl) (by kernel_rfl) (by kernel_rfl) (by kernel_rfl) (by decide) (fun _ _ _ h => h) (by rfl) (fun W hW => ?_) hS ?_
  · obtain ⟨⟨x0, x1⟩, x2⟩ := HX.out W hW
    clear hW
    go_simp
  simp only [Act.put, List.setIfInBounds_toArray, List.set_cons_zero, List.set_cons_succ]
  refine take_till (i := 1) (some 64) (.int .i64 Y) rfl rfl (by kernel_rfl) (by kernel_rfl) (by kernel_rfl) (by kernel_rfl) (by decide) (fun _ _ _ h => h) (by rfl) (fun W hW => ?_) hS ?_
  · obtain ⟨⟨x0, x1⟩, x2⟩ := HX.out W hW
    clear hW
    go_simp
  simp only [Act.put, List.setIfInBounds_toArray, List.set_cons_zero, List.set_cons_succ]
  refine take_till (i := 2) (some 65) (.bool false) rfl rfl (by kernel_rfl) (by kernel_rfl) (by kernel_rfl) (by kernel_rfl) (by decide) (fun _ _ _ h => h) (by rfl) (fun W hW => ?_) hS ?_
  · obtain ⟨⟨x0, x1⟩, x2⟩ := HX.out W hW
    clear hW
    go_simp
  simp only [Act.put, List.setIfInBounds_toArray, List.set_cons_zero, List.set_cons_succ]
  refine take_till (i := 3) (some 66) (.bool false) rfl rfl (by kernel_rfl) (by kernel_rfl) (by kernel_rfl) (by kernel_rfl) (by decide) (fun _ _ _ h => h) (by rfl) (fun W hW => ?_) hS ?_
  · obtain ⟨⟨x0, x1⟩, x2⟩ := HX.out W hW
    clear hW
    go_simp
  simp only [Act.put, List.setIfInBounds_toArray, List.set_cons_zero, List.set_cons_succ]
  refine take_till (i := 4) (some 67) (.int .i64 X) rfl rfl (by kernel_rfl) (by kernel_rfl) (by kernel_rfl) (by kernel_rfl) (by decide) (fun _ _ _ h => h) (by rfl) (fun W hW => ?_) hS ?_
  · obtain ⟨⟨x0, x1⟩, x2⟩ := HX.out W hW
    clear hW
    go_simp
  simp only [Act.put, List.setIfInBounds_toArray, List.set_cons_zero, List.set_cons_succ]
  refine take_till (i := 5) (some 68) (.int .i64 X) rfl rfl (by kernel_rfl) (by kernel_rfl) (by kernel_rfl) (by kernel_rfl) (by decide) (fun _ _ _ h => h) (by rfl) (fun W hW => ?_) hS ?_
  · obtain ⟨⟨x0, x1⟩, x2⟩ := HX.out W hW
    clear hW
    go_simp
  simp only [Act.put, List.setIfInBounds_toArray, List.set_cons_zero, List.set_cons_succ]
  refine take_till (i := 6) (some 69) (.bool false) rfl rfl (by kernel_rfl) (by kernel_rfl) (by kernel_rfl) (by kernel_rfl) (by decide) (fun _ _ _ h => h) (by rfl) (fun W hW => ?_) hS ?_
  · obtain ⟨⟨x0, x1⟩, x2⟩ := HX.out W hW
    clear hW
    go_simp
  simp only [Act.put, List.setIfInBounds_toArray, List.set_cons_zero, List.set_cons_succ]
  refine take_till (i := 7) (some 70) (.bool false) rfl rfl (by kernel_rfl) (by kernel_rfl) (by kernel_rfl) (by kernel_rfl) (by decide) (fun _ _ _ h => h) (by rfl) (fun W hW => ?_) hS ?_
  · obtain ⟨⟨x0, x1⟩, x2⟩ := HX.out W hW
    clear hW
    go_simp
  simp only [Act.put, List.setIfInBounds_toArray, List.set_cons_zero, List.set_cons_succ]
  refine take_till (i := 8) (some 71) (.bool false) rfl rfl (by kernel_rfl) (by kernel_rfl) (by kernel_rfl) (by kernel_rfl) (by decide) (fun _ _ _ h => h) (by rfl) (fun W hW => ?_) hS ?_
  · obtain ⟨⟨x0, x1⟩, x2⟩ := HX.out W hW
    clear hW
    go_simp
  simp only [Act.put, List.setIfInBounds_toArray, List.set_cons_zero, List.set_cons_succ]
  refine take_till (i := 9) (some 72) (.int .i64 (-C)) rfl rfl (by kernel_rfl) (by kernel_rfl) (by kernel_rfl) (by kernel_rfl) (by decide) (fun _ _ _ h => h) (by rfl) (fun W hW => ?_) hS ?_
  · obtain ⟨⟨x0, x1⟩, x2⟩ := HX.out W hW
    clear hW
    go_simp
  simp only [Act.put, List.setIfInBounds_toArray, List.set_cons_zero, List.set_cons_succ]
  refine take_till (i := 10) (some 73) (.int .i64 C) rfl rfl (by kernel_rfl) (by kernel_rfl) (by kernel_rfl) (by kernel_rfl) (by decide) (fun _ _ _ h => h) (by rfl) (fun W hW => ?_) hS ?_
  · obtain ⟨⟨x0, x1⟩, x2⟩ := HX.out W hW
    clear hW
    go_simp
  simp only [Act.put, List.setIfInBounds_toArray, List.set_cons_zero, List.set_cons_succ]
  refine take_till (i := 11) (some 74) (.int .i64 (-C)) rfl rfl (by kernel_rfl) (by kernel_rfl) (by kernel_rfl) (by kernel_rfl) (by decide) (fun _ _ _ h => h) (by rfl) (fun W hW => ?_) hS ?_
  · obtain ⟨⟨x0, x1⟩, x2⟩ := HX.out W hW
    clear hW
    go_simp
  simp only [Act.put, List.setIfInBounds_toArray, List.set_cons_zero, List.set_cons_succ]
  refine take_till (i := 12) (some 75) (.bool false) rfl rfl (by kernel_rfl) (by kernel_rfl) (by kernel_rfl) (by kernel_rfl) (by decide) (fun _ _ _ h => h) (by rfl) (fun W hW => ?_) hS ?_
  · obtain ⟨⟨x0, x1⟩, x2⟩ := HX.out W hW
    clear hW
    go_simp
  simp only [Act.put, List.setIfInBounds_toArray, List.set_cons_zero, List.set_cons_succ]
  refine take_till (i := 13) (some 76) (.bool false) rfl rfl (by kernel_rfl) (by kernel_rfl) (by kernel_rfl) (by kernel_rfl) (by decide) (fun _ _ _ h => h) (by rfl) (fun W hW => ?_) hS ?_
  · obtain ⟨⟨x0, x1⟩, x2⟩ := HX.out W hW
    clear hW
    go_simp
  simp only [Act.put, List.setIfInBounds_toArray, List.set_cons_zero, List.set_cons_succ]
  refine take_till (i := 14) (some 77) (.bool false) rfl rfl (by kernel_rfl) (by kernel_rfl) (by kernel_rfl) (by kernel_rfl) (by decide) (fun _ _ _ h => h) (by rfl) (fun W hW => ?_) hS ?_
  · obtain ⟨⟨x0, x1⟩, x2⟩ := HX.out W hW
    clear hW
    go_simp
  simp only [Act.put, List.setIfInBounds_toArray, List.set_cons_zero, List.set_cons_succ]
  refine take_till (i := 15) (some 78) (.int .i64 RO) rfl rfl (by kernel_rfl) (by kernel_rfl) (by kernel_rfl) (by kernel_rfl) (by decide) (fun _ _ _ h => h) (by rfl) (fun W hW => ?_) hS ?_
  · obtain ⟨⟨x0, x1⟩, x2⟩ := HX.out W hW
    clear hW
    go_simp
  simp only [Act.put, List.setIfInBounds_toArray, List.set_cons_zero, List.set_cons_succ]
  refine take_till (i := 16) (some 79) (.agg #[.int .i64 n, .slice (some ⟨g, o, none⟩) L vc]) rfl rfl (by kernel_rfl) (by kernel_rfl) (by kernel_rfl) (by kernel_rfl) (by decide) (fun _ _ _ h => h) (by rfl) (fun W hW => ?_) hS ?_
  · obtain ⟨⟨x0, x1⟩, x2⟩ := HX.out W hW
    clear hW
    go_simp
  simp only [Act.put, List.setIfInBounds_toArray, List.set_cons_zero, List.set_cons_succ]
  refine take_till (i := 17) (some 80) (.slice xa L xc) rfl rfl (by kernel_rfl) (by kernel_rfl) (by kernel_rfl) (by kernel_rfl) (by decide) (fun _ _ _ h => h) (by rfl) (fun W hW => ?_) hS ?_
  · obtain ⟨⟨x0, x1⟩, x2⟩ := HX.out W hW
    clear hW
    go_simp
  simp only [Act.put, List.setIfInBounds_toArray, List.set_cons_zero, List.set_cons_succ]
  refine take_till (i := 18) (some 81) (.int .i64 (othA a)) rfl rfl (by kernel_rfl) (by kernel_rfl) (by kernel_rfl) (by kernel_rfl) (by decide) (fun _ _ _ h => h) (by rfl) (fun W hW => ?_) hS ?_
  · obtain ⟨⟨x0, x1⟩, x2⟩ := HX.out W hW
    clear hW
    go_simp
  simp only [Act.put, List.setIfInBounds_toArray, List.set_cons_zero, List.set_cons_succ]
  refine take_till (i := 21) (some 84) (.pointer (some ⟨w.heap.size, 1, none⟩)) rfl rfl (by kernel_rfl) (by kernel_rfl) (by kernel_rfl) (by kernel_rfl) (by decide) (fun _ _ _ h => h) (by rfl) (fun W hW => ?_) hS ?_
  · obtain ⟨⟨x0, x1⟩, x2⟩ := HX.out W hW
    clear hW
    go_simp
  simp only [Act.put, List.setIfInBounds_toArray, List.set_cons_zero, List.set_cons_succ]
  refine take_till (i := 22) (some 85) (.slice (some ⟨g, o, none⟩) L vc) rfl rfl (by kernel_rfl) (by kernel_rfl) (by kernel_rfl) (by kernel_rfl) (by decide) (fun _ _ _ h => h) (by rfl) (fun W hW => ?_) hS ?_
  · obtain ⟨⟨x0, x1⟩, x2⟩ := HX.out W hW
    clear hW
    go_simp
  simp only [Act.put, List.setIfInBounds_toArray, List.set_cons_zero, List.set_cons_succ]
  refine take_till (i := 23) (some 86) (.int .i64 a) rfl rfl (by kernel_rfl) (by kernel_rfl) (by kernel_rfl) (by kernel_rfl) (by decide) (fun _ _ _ h => h) (by rfl) (fun W hW => ?_) hS ?_
  · obtain ⟨⟨x0, x1⟩, x2⟩ := HX.out W hW
    clear hW
    go_simp
  simp only [Act.put, List.setIfInBounds_toArray, List.set_cons_zero, List.set_cons_succ]
  refine take_till (i := 24) (some 87) (.int .i64 (m : Int)) rfl rfl (by kernel_rfl) (by kernel_rfl) (by kernel_rfl) (by kernel_rfl) (by decide) (fun _ _ _ h => h) (by rfl) (fun W hW => ?_) hS ?_
  · obtain ⟨⟨x0, x1⟩, x2⟩ := HX.out W hW
    clear hW
    go_simp
  simp only [Act.put, List.setIfInBounds_toArray, List.set_cons_zero, List.set_cons_succ]
  refine take_till (i := 25) (some 88) (.pointer (some ⟨g, o + m * 4, none⟩)) rfl rfl (by kernel_rfl) (by kernel_rfl) (by kernel_rfl) (by kernel_rfl) (by decide) (fun _ _ _ h => h) (by rfl) (fun W hW => ?_) hS ?_
  · obtain ⟨⟨x0, x1⟩, x2⟩ := HX.out W hW
    clear hW
    go_simp
  simp only [Act.put, List.setIfInBounds_toArray, List.set_cons_zero, List.set_cons_succ]
  refine take_till (i := 26) (some 89) (.pointer (some ⟨g, o + m * 4 + 2, none⟩)) rfl rfl (by kernel_rfl) (by kernel_rfl) (by kernel_rfl) (by kernel_rfl) (by decide) (fun _ _ _ h => h) (by rfl) (fun W hW => ?_) hS ?_
  · obtain ⟨⟨x0, x1⟩, x2⟩ := HX.out W hW
    clear hW
    go_simp
  simp only [Act.put, List.setIfInBounds_toArray, List.set_cons_zero, List.set_cons_succ]
  refine take_till (i := 27) (some 90) (.int .i64 CC) rfl rfl (by kernel_rfl) (by kernel_rfl) (by kernel_rfl) (by kernel_rfl) (by decide) (fun _ _ _ h => h) (by rfl) (fun W hW => ?_) hS ?_
  · obtain ⟨⟨x0, x1⟩, x2⟩ := HX.out W hW
    clear hW
    go_simp
  simp only [Act.put, List.setIfInBounds_toArray, List.set_cons_zero, List.set_cons_succ]
  refine next_till 19 (by kernel_rfl) rfl (fun K hK => ?_)
  go_simp
  refine (HP.out _ hS).mono ?_
  rintro _ z1 ⟨rfl, bl⟩
  have hT := hS.go bl
  clear bl hS
  have hS := hT
  clear hT
  go_simp
  refine hK.out _ _ (fun _ => hS) ?_
  clear hK K
  refine take_till (i := 20) (some 83) (.int .i64 CC) rfl rfl (by kernel_rfl) (by kernel_rfl) (by kernel_rfl) (by kernel_rfl) (by decide) (fun _ _ _ h => h) (by rfl) (fun W hW => ?_) hS ?_
  · obtain ⟨⟨x0, x1⟩, x2⟩ := HX.out W hW
    clear hW
    go_simp
  simp only [Act.put, List.setIfInBounds_toArray, List.set_cons_zero, List.set_cons_succ]
  refine take_till (i := 28) (some 91) (.bool false) rfl rfl (by kernel_rfl) (by kernel_rfl) (by kernel_rfl) (by kernel_rfl) (by decide) (fun _ _ _ h => h) (by rfl) (fun W hW => ?_) hS ?_
  · obtain ⟨⟨x0, x1⟩, x2⟩ := HX.out W hW
    clear hW
    go_simp
  simp only [Act.put, List.setIfInBounds_toArray, List.set_cons_zero, List.set_cons_succ]
  refine take_till (i := 29) (some 92) (.bool false) rfl rfl (by kernel_rfl) (by kernel_rfl) (by kernel_rfl) (by kernel_rfl) (by decide) (fun _ _ _ h => h) (by rfl) (fun W hW => ?_) hS ?_
  · obtain ⟨⟨x0, x1⟩, x2⟩ := HX.out W hW
    clear hW
    go_simp
  simp only [Act.put, List.setIfInBounds_toArray, List.set_cons_zero, List.set_cons_succ]

  refine done_till (by kernel_rfl) ?_ _
  clear hkC hkR hkd hwC hwR hxor hm3 hmL HX HP
  obtain ⟨hw, hh, hL, hLf, hLL, hro, hrt, hrr, hRO, hRT⟩ := HK.out
  have P := push_any n es fl a b z1 hS.es (hS.fl (.slice xa L xc, fl) (by simp))
  rw [push_eq hw hh, ← hRO] at P
  obtain ⟨n0, n1⟩ := hS.net.net
  by_cases hb0 : 0 ≤ b
  case neg =>
    rw [if_neg hb0] at P
    have hnb : ¬ 0 ≤ b := hb0
    have hS2 := Lib.hid hS
    clear hS hw hh hL hLf hLL hro hrt hrr hRO hRT HK hb0
    go_wp2_with fail
    refine P.mono ?_
    rintro _ z2 ⟨r, rfl, hr, bl, -⟩
    obtain ⟨ra, rc, rfl, -, -⟩ := hr.shape
    have hS3 := hS2.out.go bl
    have HS := Lib.hid hS3
    clear hr bl hS3 hS2 P n0 n1
    simp only [List.length_nil]
    go_wp2_with fail
    refine (works12_any z2).mono ?_
    rintro _ z3 ⟨rfl, bl⟩
    go_wp2
    go_ret
    exact ⟨rfl, (HS.out.go bl).under⟩
  rw [if_pos hb0] at P
  by_cases hbr : b ≤ RO
  case neg =>
    rw [if_neg hbr] at P
    have hnb : ¬ b ≤ RO := hbr
    have hS2 := Lib.hid hS
    clear hS hw hh hL hLf hLL hro hrt hrr hRO hRT HK hbr
    go_wp2_with fail
    refine P.mono ?_
    rintro _ z2 ⟨r, rfl, hr, bl, -⟩
    obtain ⟨ra, rc, rfl, -, -⟩ := hr.shape
    have hS3 := hS2.out.go bl
    have HS := Lib.hid hS3
    clear hr bl hS3 hS2 P n0 n1
    simp only [List.length_nil]
    go_wp2_with fail
    refine (works12_any z2).mono ?_
    rintro _ z3 ⟨rfl, bl⟩
    go_wp2
    go_ret
    exact ⟨rfl, (HS.out.go bl).under⟩
  rw [if_pos hbr] at P
  have hS2 := Lib.hid (And.intro hS (And.intro hw (And.intro hh (And.intro hRO (And.intro hLf hLL)))))
  have hwb : wrap64 (RO - b) = RO - b := by unfold wrap64; omega
  clear hS hw hh hL hLf hLL hro hrt hrr hRO hRT HK
  go_wp2_with fail
  refine P.mono ?_
  rintro _ z2 ⟨r, rfl, hr, bl, -⟩
  obtain ⟨hS, hw, hh, hRO, hLf, hLL⟩ := hS2.out
  have hS3 := hS.go bl
  have hlen : (pushL fl a b).length = L := by rw [pushL_length, hLf, hLL]
  obtain ⟨ra, rc, rfl, -, -⟩ := hr.shape
  simp only [hlen] at hr ⊢
  have hw' := hw.push hh hb0 (by rw [← hRO]; exact hbr)
  obtain ⟨hr1, hr2⟩ := push_room (b := b) hh hw.2.1
  have hroo := hh.oth.room hw
  have P := push_any n es (pushL fl a b) (othA a) b z2 hS3.es hr
  rw [push_eq hw' hh.oth, if_pos hb0, if_pos (by rw [hr2]; omega), push_back hh hw.2.1] at P
  have PQ := fun W (h1 : NQ w w.heap.size n (.slice (some ⟨g, o, none⟩) L vc) es [(.slice xa L xc, fl)] W) (h2 : Fs W (.slice ra L rc) (pushL fl a b)) => room_any n es (pushL fl a b) a W h1.es h2
  rw [roomP_pos hw' hh, hr1, ← hRO] at PQ
  obtain ⟨n0, n1⟩ := hS3.net.net
  have HS := Lib.hid (And.intro hS3 (And.intro hr (And.intro hLf hLL)))
  have HPQ := Lib.hid PQ
  clear hr bl hS3 hS2 hS hw hh hRO hLf hw' hr1 hr2 hroo PQ hlen hLL
  go_wp2_with fail
  refine P.mono ?_
  rintro _ z3 ⟨r2, rfl, hr2, bl, -⟩
  obtain ⟨hS, hr, hLf, hLL⟩ := HS.out
  replace hS := hS.go bl
  replace hr := hr.below bl
  obtain ⟨sa, sc, rfl, -, -⟩ := hr2.shape
  simp only [hLf, ← hLL] at hr2 ⊢
  have P := nsame_any fl fl z3 hr2 (hS.fl (.slice xa L xc, fl) (by simp))
  rw [decide_eq_true rfl] at P
  have HS := Lib.hid (And.intro hS hr)
  clear hS hr hr2 bl hLf hLL n0 n1
  go_wp2_with fail
  refine P.mono ?_
  rintro _ z4 ⟨rfl, bl⟩
  obtain ⟨hS, hr⟩ := HS.out
  replace hS := hS.go bl
  replace hr := hr.below bl
  have P := HPQ.out z4 hS hr
  obtain ⟨n0, n1⟩ := hS.net.net
  have HS := Lib.hid hS
  clear hS hr bl
  go_wp2_with fail
  refine P.mono ?_
  rintro _ z5 ⟨rfl, bl⟩
  have hS := HS.out.go bl
  have HS := Lib.hid hS
  clear bl hS n0 n1
  go_wp2_with fail
  refine (works12_any z5).mono ?_
  rintro _ z6 ⟨rfl, bl⟩
  go_wp2
  go_ret
  exact ⟨rfl, (HS.out.go bl).under⟩
end Go.Proofs.Ytohcoknnalgjnaa
