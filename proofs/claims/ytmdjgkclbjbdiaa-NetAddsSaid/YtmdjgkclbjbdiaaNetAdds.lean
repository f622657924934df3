/- THE THEOREM OF STAGE 11, NetAdds: where two flows within come to one that is within, Over and Cost are the sums; two that flow make one that flows; no condition. -/
import Derived.Test.YtmdjgkclbjbdiaaNtKeep
import Derived.Test.YtmdjgkclbjbdiaaNtAddP
namespace Go.Proofs.Ytmdjgkclbjbdiaa
open Go.RowKit

set_option maxRecDepth 100000 in
set_option maxHeartbeats 8000000 in
theorem netAdds_any (n : Int) (w : World) {v xa xb : Value} {es : List Ed} {a b : List Int} (he : Es w v es) (ha : Fs w xa a) (hb : Fs w xb b) : Calls Try.prog 5 #[netV n v, xa, xb] w fun e w' => e = .returned (.bool true) ∧ Below w.heap.size w w' := by
  obtain ⟨va, vc, rfl, -, -⟩ := he.shape
  obtain ⟨aa, ac, rfl, -, -⟩ := ha.shape
  obtain ⟨ba, bc, rfl, -, -⟩ := hb.shape
  have hK := NQ.box n he (fls := [(.slice aa a.length ac, a), (.slice ba b.length bc, b)]) (fun p hp => by
    rcases List.mem_cons.1 hp with rfl | hp
    · exact ha
    · rw [List.mem_singleton.1 hp]; exact hb)
  have hO := Lib.hid (And.intro ha hb)
  have hE := Lib.hid he
  clear he ha hb
  obtain ⟨n0, n1⟩ := hK.net.net
  have P := vast_any n es a _ hK.es (hK.fl (.slice aa a.length ac, a) (by simp))
  have HK := Lib.hid hK
  clear hK
  go_enter Try.func5, Try.ntmps5
  go_wp2_with fail
  generalize w.alloc (.cells #[.int .i64 n, .slice va es.length vc] 24) = w1 at *
  refine P.mono ?_
  rintro e w2 ⟨rfl, bl⟩
  have h2 := HK.out.go bl
  clear P HK bl n0 n1
  by_cases hv : 2000 < es.length ∨ 2000 < a.length
  case pos =>
    rw [decide_eq_true hv]
    have HV := Lib.hid (And.intro hv h2)
    clear hv h2
    go_wp2_with fail
    refine (works_any w2).mono ?_
    rintro e wz ⟨rfl, bl⟩
    go_wp2
    go_ret
    exact ⟨rfl, (HV.out.2.go bl).under⟩
  rw [decide_eq_false hv]
  have HV1 := Lib.hid hv
  clear hv
  have P := vast_any n es b w2 h2.es (h2.fl (.slice ba b.length bc, b) (by simp))
  obtain ⟨n0, n1⟩ := h2.net.net
  have HK := Lib.hid h2
  clear h2
  go_wp2_with fail
  refine P.mono ?_
  rintro e w3 ⟨rfl, bl⟩
  have h3 := HK.out.go bl
  clear P HK bl n0 n1
  by_cases hv : 2000 < es.length ∨ 2000 < b.length
  case pos =>
    rw [decide_eq_true hv]
    have HV := Lib.hid (And.intro hv h3)
    clear hv h3
    go_wp2_with fail
    refine (works_any w3).mono ?_
    rintro e wz ⟨rfl, bl⟩
    go_wp2
    go_ret
    exact ⟨rfl, (HV.out.2.go bl).under⟩
  rw [decide_eq_false hv]
  clear hv
  have P := within_any n es a w3 h3.es (h3.fl (.slice aa a.length ac, a) (by simp))
  obtain ⟨n0, n1⟩ := h3.net.net
  have HK := Lib.hid h3
  clear h3
  go_wp2_with fail
  refine P.mono ?_
  rintro e w4 ⟨rfl, bl⟩
  have h4 := HK.out.go bl
  clear P HK bl n0 n1
  by_cases hwa : WithinP n es a
  case neg =>
    rw [decide_eq_false hwa]
    have HV := Lib.hid (And.intro hwa h4)
    clear hwa h4
    go_wp2_with fail
    refine (works_any w4).mono ?_
    rintro e wz ⟨rfl, bl⟩
    go_wp2
    go_ret
    exact ⟨rfl, (HV.out.2.go bl).under⟩
  rw [decide_eq_true hwa]
  have HA := Lib.hid hwa
  clear hwa
  have P := within_any n es b w4 h4.es (h4.fl (.slice ba b.length bc, b) (by simp))
  obtain ⟨n0, n1⟩ := h4.net.net
  have HK := Lib.hid h4
  clear h4
  go_wp2_with fail
  refine P.mono ?_
  rintro e w5 ⟨rfl, bl⟩
  have h5 := HK.out.go bl
  clear P HK bl n0 n1
  by_cases hwb : WithinP n es b
  case neg =>
    rw [decide_eq_false hwb]
    have HV := Lib.hid (And.intro hwb h5)
    clear hwb h5
    go_wp2_with fail
    refine (works_any w5).mono ?_
    rintro e wz ⟨rfl, bl⟩
    go_wp2
    go_ret
    exact ⟨rfl, (HV.out.2.go bl).under⟩
  rw [decide_eq_true hwb]
  have HB := Lib.hid hwb
  clear hwb
  have hal : a.length ≤ 2000 := by have := HV1.out; omega
  have P := copied_any a w5 (h5.fl (.slice aa a.length ac, a) (by simp)) hal
  have HK := Lib.hid h5
  clear h5 hal
  go_wp2_with fail
  refine P.mono ?_
  rintro e w6 ⟨g, cap, rfl, hrn, hcm, hgw, bl⟩
  have h6 := HK.out.go bl
  have hg0 : w.heap.size ≤ g := Nat.le_trans HK.out.under.size hgw
  obtain ⟨L, hL⟩ : ∃ L, L = a.length := ⟨_, rfl⟩
  have hlb : b.length = a.length := by rw [HA.out.2.1, HB.out.2.1]
  have hL200 : L ≤ 200 := by rw [hL, HA.out.2.1]; exact HA.out.1.2.2.1
  have ha6 : Rd kdI w6 (fun q => q = g) (.slice aa a.length ac) a := hO.out.1.wide h6.under (fun q hq => by omega)
  have hb6 : Rd kdI w6 (fun q => q = g) (.slice ba b.length bc) b := hO.out.2.wide h6.under (fun q hq => by omega)
  have he6 : Rd kdEd w6 (fun q => q = g) (.slice va es.length vc) es := hE.out.wide h6.under (fun q hq => by omega)
  have hcn : w.heap.size ≠ g := fun e => by have := HK.out.net.lt; omega
  rw [hlb] at hb6 ⊢
  rw [← hL] at ha6 hb6 ⊢
  have H6 := Lib.hid (And.intro h6 (And.intro hrn (And.intro (And.intro hcm hg0) (And.intro ha6 (And.intro hb6 (And.intro he6 (And.intro hL (And.intro hlb hcn))))))))
  clear h6 hrn hcm hgw hg0 ha6 hb6 he6 hL hlb hcn HK P bl
  go_wp2
  go_loopw [8] (fun j wr => ∃ k : Nat, j = .int .i64 (k : Int) ∧ k ≤ L ∧ Only (fun q => q = g) w6 wr ∧ Rn wr g cap (addTo a b k)) (fun j _ => L - (intOf j).toNat)
  case atStart => exact ⟨0, rfl, Nat.zero_le _, Only.refl _ _, H6.out.2.1⟩
  case round =>
    obtain ⟨k, rfl, hk, ho, hr⟩ := hrel
    obtain ⟨h6, hrn, ⟨hcm, hg0⟩, ha6, hb6, he6, hL, hlb, hcn⟩ := H6.out
    rcases Nat.lt_or_ge k L with hlt | hge
    · obtain ⟨x, hx⟩ : ∃ x, a[k]? = some x := ⟨_, List.getElem?_eq_getElem (by omega)⟩
      obtain ⟨y, hy⟩ : ∃ y, b[k]? = some y := ⟨_, List.getElem?_eq_getElem (by omega)⟩
      obtain ⟨e, hek⟩ : ∃ e, es[k]? = some e := ⟨_, List.getElem?_eq_getElem (by have := HA.out.2.1; omega)⟩
      have sx := zip_small HA.out.1.2.2.2.1 HA.out.2.2 _ (List.mem_of_getElem? (zip_get hek hx))
      have sy := zip_small HB.out.1.2.2.2.1 HB.out.2.2 _ (List.mem_of_getElem? (zip_get hek hy))
      have sx1 := sx.1
      have sx2 := sx.2.1
      have sy1 := sy.1
      have sy2 := sy.2.1
      simp only at sx1 sx2 sy1 sy2
      have c0 := hr.at (i := k) (x := x) (by rw [addTo_at, if_neg (by omega)]; exact hx)
      have c1 := hr.frozen k
      obtain ⟨g2, o2, cap2, e2, hg2, b0⟩ := fs_at (hb6.only ho) hy
      simp only [Value.slice.injEq] at e2
      obtain ⟨rfl, -, rfl⟩ := e2
      have hki : (k : Int) < (L : Int) := by omega
      have hk1 : (k : Int) ≤ 9223372036854775806 := by omega
      have hk0 : (0 : Int) ≤ (k : Int) := by omega
      have st : addTo a b (k + 1) = (addTo a b k).set k (x + y) := by
        show (addTo a b k).set k (a.getD k 0 + b.getD k 0) = _
        rw [List.getD_eq_getElem?_getD, List.getD_eq_getElem?_getD, hx, hy]
        rfl
      have hrs := hr.set (i := k) (by rw [addTo_length]; omega) (x + y)
      rw [← st] at hrs
      have HX := Lib.hid (fun (W : World) (hW : W.heap = wr.heap) => (And.intro (show W.cell? ⟨g, k, none⟩ = some (.int .i64 x) from (World.cell?_of_block (w := wr) (by rw [hW])).trans c0) (And.intro (show W.cell? ⟨g2, o2 + k, none⟩ = some (.int .i64 y) from (World.cell?_of_block (w := wr) (by rw [hW])).trans b0) (show W.frozen? ⟨g, k, none⟩ = false from (World.frozen?_of_block (w := wr) (by rw [hW])).trans c1))))
      have HR := Lib.hid (And.intro hlt (And.intro ho (And.intro hr st)))
      have hLc : L ≤ cap := by
        obtain ⟨_, _, _, h⟩ := hr
        rw [addTo_length] at h
        omega
      clear hrs hr ho hx hy hek sx sy h6 hrn ha6 hb6 he6 hL hlb st hlt hk hLc hcm hg2 c0 c1 b0 hg0 hcn
      go_wp2
      refine region_till 12 (fun W => W.heap = wr.heap) (by kernel_rfl) rfl (fun hS => ?_)
      refine take_till (i := 0) (some 51) (.slice (some ⟨g, 0, none⟩) L cap) rfl rfl (by kernel_rfl) (by kernel_rfl) (by kernel_rfl) (by kernel_rfl) (by decide) (fun _ _ _ h => h) (by rfl) (fun W hW => ?_) hS ?_
      · obtain ⟨x0, x1, x2⟩ := HX.out W hW
        clear hW
        go_simp
      simp only [Act.put, List.setIfInBounds_toArray, List.set_cons_zero, List.set_cons_succ]
      refine take_till (i := 1) (some 52) (.int .i64 (k : Int)) rfl rfl (by kernel_rfl) (by kernel_rfl) (by kernel_rfl) (by kernel_rfl) (by decide) (fun _ _ _ h => h) (by rfl) (fun W hW => ?_) hS ?_
      · obtain ⟨x0, x1, x2⟩ := HX.out W hW
        clear hW
        go_simp
      simp only [Act.put, List.setIfInBounds_toArray, List.set_cons_zero, List.set_cons_succ]
      refine take_till (i := 2) (some 53) (.slice (some ⟨g, 0, none⟩) L cap) rfl rfl (by kernel_rfl) (by kernel_rfl) (by kernel_rfl) (by kernel_rfl) (by decide) (fun _ _ _ h => h) (by rfl) (fun W hW => ?_) hS ?_
      · obtain ⟨x0, x1, x2⟩ := HX.out W hW
        clear hW
        go_simp
      simp only [Act.put, List.setIfInBounds_toArray, List.set_cons_zero, List.set_cons_succ]
      refine take_till (i := 3) (some 54) (.int .i64 (k : Int)) rfl rfl (by kernel_rfl) (by kernel_rfl) (by kernel_rfl) (by kernel_rfl) (by decide) (fun _ _ _ h => h) (by rfl) (fun W hW => ?_) hS ?_
      · obtain ⟨x0, x1, x2⟩ := HX.out W hW
        clear hW
        go_simp
      simp only [Act.put, List.setIfInBounds_toArray, List.set_cons_zero, List.set_cons_succ]
      refine take_till (i := 4) (some 55) (.pointer (some ⟨g, k, none⟩)) rfl rfl (by kernel_rfl) (by kernel_rfl) (by kernel_rfl) (by kernel_rfl) (by decide) (fun _ _ _ h => h) (by rfl) (fun W hW => ?_) hS ?_
      · obtain ⟨x0, x1, x2⟩ := HX.out W hW
        clear hW
        go_simp
      simp only [Act.put, List.setIfInBounds_toArray, List.set_cons_zero, List.set_cons_succ]
      refine take_till (i := 5) (some 56) (.int .i64 x) rfl rfl (by kernel_rfl) (by kernel_rfl) (by kernel_rfl) (by kernel_rfl) (by decide) (fun _ _ _ h => h) (by rfl) (fun W hW => ?_) hS ?_
      · obtain ⟨x0, x1, x2⟩ := HX.out W hW
        clear hW
        go_simp
      simp only [Act.put, List.setIfInBounds_toArray, List.set_cons_zero, List.set_cons_succ]
      refine take_till (i := 6) (some 57) (.slice (some ⟨g2, o2, none⟩) L bc) rfl rfl (by kernel_rfl) (by kernel_rfl) (by kernel_rfl) (by kernel_rfl) (by decide) (fun _ _ _ h => h) (by rfl) (fun W hW => ?_) hS ?_
      · obtain ⟨x0, x1, x2⟩ := HX.out W hW
        clear hW
        go_simp
      simp only [Act.put, List.setIfInBounds_toArray, List.set_cons_zero, List.set_cons_succ]
      refine take_till (i := 7) (some 58) (.int .i64 (k : Int)) rfl rfl (by kernel_rfl) (by kernel_rfl) (by kernel_rfl) (by kernel_rfl) (by decide) (fun _ _ _ h => h) (by rfl) (fun W hW => ?_) hS ?_
      · obtain ⟨x0, x1, x2⟩ := HX.out W hW
        clear hW
        go_simp
      simp only [Act.put, List.setIfInBounds_toArray, List.set_cons_zero, List.set_cons_succ]
      refine take_till (i := 8) (some 59) (.pointer (some ⟨g2, o2 + k, none⟩)) rfl rfl (by kernel_rfl) (by kernel_rfl) (by kernel_rfl) (by kernel_rfl) (by decide) (fun _ _ _ h => h) (by rfl) (fun W hW => ?_) hS ?_
      · obtain ⟨x0, x1, x2⟩ := HX.out W hW
        clear hW
        go_simp
      simp only [Act.put, List.setIfInBounds_toArray, List.set_cons_zero, List.set_cons_succ]
      refine take_till (i := 9) (some 60) (.int .i64 y) rfl rfl (by kernel_rfl) (by kernel_rfl) (by kernel_rfl) (by kernel_rfl) (by decide) (fun _ _ _ h => h) (by rfl) (fun W hW => ?_) hS ?_
      · obtain ⟨x0, x1, x2⟩ := HX.out W hW
        clear hW
        go_simp
      simp only [Act.put, List.setIfInBounds_toArray, List.set_cons_zero, List.set_cons_succ]
      refine take_till (i := 10) (some 61) (.int .i64 (x + y)) rfl rfl (by kernel_rfl) (by kernel_rfl) (by kernel_rfl) (by kernel_rfl) (by decide) (fun _ _ _ h => h) (by rfl) (fun W hW => ?_) hS ?_
      · obtain ⟨x0, x1, x2⟩ := HX.out W hW
        clear hW
        go_simp
        exact IntWalk.i64_in _ (by omega)
      simp only [Act.put, List.setIfInBounds_toArray, List.set_cons_zero, List.set_cons_succ]
      refine take_till (i := 11) (some 62) (.pointer (some ⟨g, k, none⟩)) rfl rfl (by kernel_rfl) (by kernel_rfl) (by kernel_rfl) (by kernel_rfl) (by decide) (fun _ _ _ h => h) (by rfl) (fun W hW => ?_) hS ?_
      · obtain ⟨x0, x1, x2⟩ := HX.out W hW
        clear hW
        go_simp
      simp only [Act.put, List.setIfInBounds_toArray, List.set_cons_zero, List.set_cons_succ]
      obtain ⟨x0, x1, x2⟩ := HX.out _ hS
      have HD := Lib.hid (And.intro HR.out.2.1.drew (show Rn wr.drew g cap (addTo a b k) from HR.out.2.2.1.kept rfl))
      generalize wr.drew = wd at *
      refine next_till 12 (by kernel_rfl) rfl (fun K hK => ?_)
      go_simp
      refine hK.out _ _ (fun e => absurd rfl e) ?_
      clear hK K x0 x1 x2
      refine done_till (by kernel_rfl) ?_ _
      go_wp2
      go_roundw
      case rel => exact ⟨k + 1, by go_num, HR.out.1, HD.out.1.setCell (.inl rfl) _, by
        have h := HD.out.2.set (i := k) (by rw [addTo_length, ← H6.out.2.2.2.2.2.2.1]; exact HR.out.1) (x + y)
        rw [← HR.out.2.2.2] at h
        exact h⟩
      case measure =>
        have := HR.out.1
        simp only [intOf]
        omega
    · obtain rfl : k = L := by omega
      have hki : ¬ (k : Int) < (k : Int) := by omega
      obtain ⟨C, hC⟩ : ∃ C, C = List.zipWith (· + ·) a b := ⟨_, rfl⟩
      have hCk : addTo a b k = C := by rw [hC, hL]; exact addTo_all hlb
      rw [hCk] at hr
      have hCl : C.length = k := by rw [hC, List.length_zipWith, hlb, hL]; simp
      have hfc : Fs wr (.slice (some ⟨g, 0, none⟩) k cap) C := by
        have h := hr.fs hcm
        rwa [hCl] at h
      have h7 : NQ w w.heap.size n (.slice va es.length vc) es [(.slice (some ⟨g, 0, none⟩) k cap, C), (.slice aa k ac, a), (.slice ba k bc, b)] wr := by
        refine ⟨h6.under.trans (ho.below h6.under.size (fun q hq => by omega)), h6.net.only ho hcn, (he6.only ho).free, fun p hp => ?_⟩
        rcases List.mem_cons.1 hp with rfl | hp
        · exact hfc
        rcases List.mem_cons.1 hp with rfl | hp
        · exact (ha6.only ho).free
        · rw [List.mem_singleton.1 hp]; exact (hb6.only ho).free
      have HC := Lib.hid hC
      clear h6 hrn hcm hg0 ha6 hb6 he6 hL hlb hcn H6 ho hr hCk hCl hfc hC hk hge
      have P := within_any n es C wr h7.es (h7.fl (.slice (some ⟨g, 0, none⟩) k cap, C) (by simp))
      obtain ⟨n0, n1⟩ := h7.net.net
      have HK := Lib.hid h7
      clear h7
      go_wp2_with fail
      refine P.mono ?_
      rintro e w8 ⟨rfl, bl⟩
      have h8 := HK.out.go bl
      clear P HK bl n0 n1
      by_cases hwc : WithinP n es C
      case neg =>
        rw [decide_eq_false hwc]
        have HV := Lib.hid (And.intro hwc h8)
        clear hwc h8
        go_wp2_with fail
        refine (works_any w8).mono ?_
        rintro e wz ⟨rfl, bl⟩
        go_wp2
        go_ret
        exact ⟨rfl, (HV.out.2.go bl).under⟩
      rw [decide_eq_true hwc]
      obtain ⟨m, rfl⟩ : ∃ m : Nat, n = (m : Int) := ⟨n.toNat, by have := hwc.1.1; omega⟩
      obtain ⟨Z1, hZ1⟩ : ∃ Z1, Z1 = overP m es a := ⟨_, rfl⟩
      obtain ⟨Z2, hZ2⟩ : ∃ Z2, Z2 = overP m es b := ⟨_, rfl⟩
      obtain ⟨Z3, hZ3⟩ : ∃ Z3, Z3 = overP m es C := ⟨_, rfl⟩
      have hz1 : Z1 = overL m (es.zip a) := by rw [hZ1]; unfold overP; rw [if_pos HA.out]
      have hz2 : Z2 = overL m (es.zip b) := by rw [hZ2]; unfold overP; rw [if_pos HB.out]
      have hz3 : Z3 = overL m (es.zip C) := by rw [hZ3]; unfold overP; rw [if_pos hwc]
      have HZ := Lib.hid (And.intro (show Z1.length = m from by rw [hz1, overL_length]; simp) (And.intro (show Z2.length = m from by rw [hz2, overL_length]; simp) (show Z3.length = m from by rw [hz3, overL_length]; simp)))
      have HW := Lib.hid (And.intro hwc (And.intro hz1 (And.intro hz2 hz3)))
      clear hwc hz1 hz2 hz3
      have HZD := Lib.hid (And.intro hZ1 (And.intro hZ2 hZ3))
      clear hZ1 hZ2 hZ3
      have P := over_any m es a w8 h8.es (h8.fl (.slice aa k ac, a) (by simp))
      rw [← HZD.out.1] at P
      obtain ⟨n0, n1⟩ := h8.net.net
      have HK := Lib.hid h8
      clear h8
      go_wp2_with fail
      refine P.mono ?_
      rintro e w9 ⟨r, rfl, hr, bl⟩
      have h9 := HK.out.go bl
      obtain ⟨ra1, rc1, rfl, -, -⟩ := hr.shape
      rw [HZ.out.1] at hr ⊢
      have h9 := h9.add hr
      clear P HK bl n0 n1 hr
      have P := over_any m es b w9 h9.es (h9.fl (.slice ba k bc, b) (by simp))
      rw [← HZD.out.2.1] at P
      obtain ⟨n0, n1⟩ := h9.net.net
      have HK := Lib.hid h9
      clear h9
      go_wp2_with fail
      refine P.mono ?_
      rintro e w10 ⟨r, rfl, hr, bl⟩
      have h10 := HK.out.go bl
      obtain ⟨ra2, rc2, rfl, -, -⟩ := hr.shape
      rw [HZ.out.2.1] at hr ⊢
      have h10 := h10.add hr
      clear P HK bl n0 n1 hr
      have P := over_any m es C w10 h10.es (h10.fl (.slice (some ⟨g, 0, none⟩) k cap, C) (by simp))
      rw [← HZD.out.2.2] at P
      obtain ⟨n0, n1⟩ := h10.net.net
      have HK := Lib.hid h10
      clear h10
      go_wp2_with fail
      refine P.mono ?_
      rintro e w11 ⟨r, rfl, hr, bl⟩
      have h11 := HK.out.go bl
      obtain ⟨ra3, rc3, rfl, -, -⟩ := hr.shape
      rw [HZ.out.2.2] at hr ⊢
      have h11 := h11.add hr
      clear P HK bl n0 n1 hr
      have hcC := HW.out.1.cost
      have hcost : costP m es C = costP m es a + costP m es b := by
        unfold costP
        rw [if_pos HA.out, if_pos HB.out, if_pos HW.out.1, HC.out]
        exact cost_add es a b HA.out.2.1 HB.out.2.1
      have hcb : -4611686018427387904 ≤ costP m es C ∧ costP m es C ≤ 4611686018427387904 := by
        unfold costP
        rw [if_pos HW.out.1, hcC.2.2]
        omega
      have PC := fun W (h : NQ w w.heap.size (m : Int) (.slice va es.length vc) es [(.slice ra3 m rc3, Z3), (.slice ra2 m rc2, Z2), (.slice ra1 m rc1, Z1), (.slice (some ⟨g, 0, none⟩) k cap, C), (.slice aa k ac, a), (.slice ba k bc, b)] W) =>
        And.intro (cost_any m es C W h.es (h.fl (.slice (some ⟨g, 0, none⟩) k cap, C) (by simp))) (And.intro (cost_any m es a W h.es (h.fl (.slice aa k ac, a) (by simp))) (cost_any m es b W h.es (h.fl (.slice ba k bc, b) (by simp))))
      generalize costP m es C = C3 at *
      generalize costP m es a = C1 at *
      generalize costP m es b = C2 at *
      have HPC := Lib.hid PC
      have hw12 : IntKind.i64.wrap (C1 + C2) = C1 + C2 := IntWalk.i64_in _ (by omega)
      have HX := Lib.hid (fun (W : World) (h : NQ w w.heap.size (m : Int) (.slice va es.length vc) es [(.slice ra3 m rc3, Z3), (.slice ra2 m rc2, Z2), (.slice ra1 m rc1, Z1), (.slice (some ⟨g, 0, none⟩) k cap, C), (.slice aa k ac, a), (.slice ba k bc, b)] W) => h.net.net)
      clear PC hcC hcb
      subst hcost
      have hS0 := h11.go ((Below.refl w11.heap.size w11).drew)
      obtain ⟨n0, n1⟩ := h11.net.net
      go_wp2
      refine region_till 99 (fun W => NQ w w.heap.size (m : Int) (.slice va es.length vc) es [(.slice ra3 m rc3, Z3), (.slice ra2 m rc2, Z2), (.slice ra1 m rc1, Z1), (.slice (some ⟨g, 0, none⟩) k cap, C), (.slice aa k ac, a), (.slice ba k bc, b)] W) (by kernel_rfl) hS0 (fun hS => ?_)
      clear n0 n1 h11 hS0
      skip
      refine take_till (i := 0) (some 77) (.slice ra1 m rc1) rfl rfl (by kernel_rfl) (by kernel_rfl) (by kernel_rfl) (by kernel_rfl) (by decide) (fun _ _ _ h => h) (by rfl) (fun W hW => ?_) hS ?_
      · obtain ⟨x0, x1⟩ := HX.out W hW
        clear hW
        go_simp
      simp only [Act.put, List.setIfInBounds_toArray, List.set_cons_zero, List.set_cons_succ]
      refine take_till (i := 1) (some 78) (.int .i64 (m : Int)) rfl rfl (by kernel_rfl) (by kernel_rfl) (by kernel_rfl) (by kernel_rfl) (by decide) (fun _ _ _ h => h) (by rfl) (fun W hW => ?_) hS ?_
      · obtain ⟨x0, x1⟩ := HX.out W hW
        clear hW
        go_simp
      simp only [Act.put, List.setIfInBounds_toArray, List.set_cons_zero, List.set_cons_succ]
      refine take_till (i := 2) (some 79) (.pointer (some ⟨w.heap.size, 0, none⟩)) rfl rfl (by kernel_rfl) (by kernel_rfl) (by kernel_rfl) (by kernel_rfl) (by decide) (fun _ _ _ h => h) (by rfl) (fun W hW => ?_) hS ?_
      · obtain ⟨x0, x1⟩ := HX.out W hW
        clear hW
        go_simp
      simp only [Act.put, List.setIfInBounds_toArray, List.set_cons_zero, List.set_cons_succ]
      refine take_till (i := 3) (some 80) (.int .i64 (m : Int)) rfl rfl (by kernel_rfl) (by kernel_rfl) (by kernel_rfl) (by kernel_rfl) (by decide) (fun _ _ _ h => h) (by rfl) (fun W hW => ?_) hS ?_
      · obtain ⟨x0, x1⟩ := HX.out W hW
        clear hW
        go_simp
      simp only [Act.put, List.setIfInBounds_toArray, List.set_cons_zero, List.set_cons_succ]
      refine take_till (i := 4) (some 81) (.bool false) rfl rfl (by kernel_rfl) (by kernel_rfl) (by kernel_rfl) (by kernel_rfl) (by decide) (fun _ _ _ h => h) (by rfl) (fun W hW => ?_) hS ?_
      · obtain ⟨x0, x1⟩ := HX.out W hW
        clear hW
        go_simp
      simp only [Act.put, List.setIfInBounds_toArray, List.set_cons_zero, List.set_cons_succ]
      refine take_till (i := 5) (some 82) (.bool false) rfl rfl (by kernel_rfl) (by kernel_rfl) (by kernel_rfl) (by kernel_rfl) (by decide) (fun _ _ _ h => h) (by rfl) (fun W hW => ?_) hS ?_
      · obtain ⟨x0, x1⟩ := HX.out W hW
        clear hW
        go_simp
      simp only [Act.put, List.setIfInBounds_toArray, List.set_cons_zero, List.set_cons_succ]
      refine take_till (i := 6) (some 83) (.slice ra2 m rc2) rfl rfl (by kernel_rfl) (by kernel_rfl) (by kernel_rfl) (by kernel_rfl) (by decide) (fun _ _ _ h => h) (by rfl) (fun W hW => ?_) hS ?_
      · obtain ⟨x0, x1⟩ := HX.out W hW
        clear hW
        go_simp
      simp only [Act.put, List.setIfInBounds_toArray, List.set_cons_zero, List.set_cons_succ]
      refine take_till (i := 7) (some 84) (.int .i64 (m : Int)) rfl rfl (by kernel_rfl) (by kernel_rfl) (by kernel_rfl) (by kernel_rfl) (by decide) (fun _ _ _ h => h) (by rfl) (fun W hW => ?_) hS ?_
      · obtain ⟨x0, x1⟩ := HX.out W hW
        clear hW
        go_simp
      simp only [Act.put, List.setIfInBounds_toArray, List.set_cons_zero, List.set_cons_succ]
      refine take_till (i := 8) (some 85) (.pointer (some ⟨w.heap.size, 0, none⟩)) rfl rfl (by kernel_rfl) (by kernel_rfl) (by kernel_rfl) (by kernel_rfl) (by decide) (fun _ _ _ h => h) (by rfl) (fun W hW => ?_) hS ?_
      · obtain ⟨x0, x1⟩ := HX.out W hW
        clear hW
        go_simp
      simp only [Act.put, List.setIfInBounds_toArray, List.set_cons_zero, List.set_cons_succ]
      refine take_till (i := 9) (some 86) (.int .i64 (m : Int)) rfl rfl (by kernel_rfl) (by kernel_rfl) (by kernel_rfl) (by kernel_rfl) (by decide) (fun _ _ _ h => h) (by rfl) (fun W hW => ?_) hS ?_
      · obtain ⟨x0, x1⟩ := HX.out W hW
        clear hW
        go_simp
      simp only [Act.put, List.setIfInBounds_toArray, List.set_cons_zero, List.set_cons_succ]
      refine take_till (i := 10) (some 87) (.bool false) rfl rfl (by kernel_rfl) (by kernel_rfl) (by kernel_rfl) (by kernel_rfl) (by decide) (fun _ _ _ h => h) (by rfl) (fun W hW => ?_) hS ?_
      · obtain ⟨x0, x1⟩ := HX.out W hW
        clear hW
        go_simp
      simp only [Act.put, List.setIfInBounds_toArray, List.set_cons_zero, List.set_cons_succ]
      refine take_till (i := 11) (some 88) (.bool false) rfl rfl (by kernel_rfl) (by kernel_rfl) (by kernel_rfl) (by kernel_rfl) (by decide) (fun _ _ _ h => h) (by rfl) (fun W hW => ?_) hS ?_
      · obtain ⟨x0, x1⟩ := HX.out W hW
        clear hW
        go_simp
      simp only [Act.put, List.setIfInBounds_toArray, List.set_cons_zero, List.set_cons_succ]
      refine take_till (i := 12) (some 89) (.bool false) rfl rfl (by kernel_rfl) (by kernel_rfl) (by kernel_rfl) (by kernel_rfl) (by decide) (fun _ _ _ h => h) (by rfl) (fun W hW => ?_) hS ?_
      · obtain ⟨x0, x1⟩ := HX.out W hW
        clear hW
        go_simp
      simp only [Act.put, List.setIfInBounds_toArray, List.set_cons_zero, List.set_cons_succ]
      refine take_till (i := 13) (some 90) (.slice ra3 m rc3) rfl rfl (by kernel_rfl) (by kernel_rfl) (by kernel_rfl) (by kernel_rfl) (by decide) (fun _ _ _ h => h) (by rfl) (fun W hW => ?_) hS ?_
      · obtain ⟨x0, x1⟩ := HX.out W hW
        clear hW
        go_simp
      simp only [Act.put, List.setIfInBounds_toArray, List.set_cons_zero, List.set_cons_succ]
      refine take_till (i := 14) (some 91) (.int .i64 (m : Int)) rfl rfl (by kernel_rfl) (by kernel_rfl) (by kernel_rfl) (by kernel_rfl) (by decide) (fun _ _ _ h => h) (by rfl) (fun W hW => ?_) hS ?_
      · obtain ⟨x0, x1⟩ := HX.out W hW
        clear hW
        go_simp
      simp only [Act.put, List.setIfInBounds_toArray, List.set_cons_zero, List.set_cons_succ]
      refine take_till (i := 15) (some 92) (.pointer (some ⟨w.heap.size, 0, none⟩)) rfl rfl (by kernel_rfl) (by kernel_rfl) (by kernel_rfl) (by kernel_rfl) (by decide) (fun _ _ _ h => h) (by rfl) (fun W hW => ?_) hS ?_
      · obtain ⟨x0, x1⟩ := HX.out W hW
        clear hW
        go_simp
      simp only [Act.put, List.setIfInBounds_toArray, List.set_cons_zero, List.set_cons_succ]
      refine take_till (i := 16) (some 93) (.int .i64 (m : Int)) rfl rfl (by kernel_rfl) (by kernel_rfl) (by kernel_rfl) (by kernel_rfl) (by decide) (fun _ _ _ h => h) (by rfl) (fun W hW => ?_) hS ?_
      · obtain ⟨x0, x1⟩ := HX.out W hW
        clear hW
        go_simp
      simp only [Act.put, List.setIfInBounds_toArray, List.set_cons_zero, List.set_cons_succ]
      refine take_till (i := 17) (some 94) (.bool false) rfl rfl (by kernel_rfl) (by kernel_rfl) (by kernel_rfl) (by kernel_rfl) (by decide) (fun _ _ _ h => h) (by rfl) (fun W hW => ?_) hS ?_
      · obtain ⟨x0, x1⟩ := HX.out W hW
        clear hW
        go_simp
      simp only [Act.put, List.setIfInBounds_toArray, List.set_cons_zero, List.set_cons_succ]
      refine take_till (i := 18) (some 95) (.bool false) rfl rfl (by kernel_rfl) (by kernel_rfl) (by kernel_rfl) (by kernel_rfl) (by decide) (fun _ _ _ h => h) (by rfl) (fun W hW => ?_) hS ?_
      · obtain ⟨x0, x1⟩ := HX.out W hW
        clear hW
        go_simp
      simp only [Act.put, List.setIfInBounds_toArray, List.set_cons_zero, List.set_cons_succ]
      refine take_till (i := 19) (some 96) (.bool false) rfl rfl (by kernel_rfl) (by kernel_rfl) (by kernel_rfl) (by kernel_rfl) (by decide) (fun _ _ _ h => h) (by rfl) (fun W hW => ?_) hS ?_
      · obtain ⟨x0, x1⟩ := HX.out W hW
        clear hW
        go_simp
      simp only [Act.put, List.setIfInBounds_toArray, List.set_cons_zero, List.set_cons_succ]
      refine take_till (i := 20) (some 97) (.agg #[.int .i64 (m : Int), .slice va es.length vc]) rfl rfl (by kernel_rfl) (by kernel_rfl) (by kernel_rfl) (by kernel_rfl) (by decide) (fun _ _ _ h => h) (by rfl) (fun W hW => ?_) hS ?_
      · obtain ⟨x0, x1⟩ := HX.out W hW
        clear hW
        go_simp
      simp only [Act.put, List.setIfInBounds_toArray, List.set_cons_zero, List.set_cons_succ]
      refine take_till (i := 21) (some 98) (.slice (some ⟨g, 0, none⟩) k cap) rfl rfl (by kernel_rfl) (by kernel_rfl) (by kernel_rfl) (by kernel_rfl) (by decide) (fun _ _ _ h => h) (by rfl) (fun W hW => ?_) hS ?_
      · obtain ⟨x0, x1⟩ := HX.out W hW
        clear hW
        go_simp
      simp only [Act.put, List.setIfInBounds_toArray, List.set_cons_zero, List.set_cons_succ]
      refine take_till (i := 23) (some 100) (.agg #[.int .i64 (m : Int), .slice va es.length vc]) rfl rfl (by kernel_rfl) (by kernel_rfl) (by kernel_rfl) (by kernel_rfl) (by decide) (fun _ _ _ h => h) (by rfl) (fun W hW => ?_) hS ?_
      · obtain ⟨x0, x1⟩ := HX.out W hW
        clear hW
        go_simp
      simp only [Act.put, List.setIfInBounds_toArray, List.set_cons_zero, List.set_cons_succ]
      refine take_till (i := 24) (some 101) (.slice aa k ac) rfl rfl (by kernel_rfl) (by kernel_rfl) (by kernel_rfl) (by kernel_rfl) (by decide) (fun _ _ _ h => h) (by rfl) (fun W hW => ?_) hS ?_
      · obtain ⟨x0, x1⟩ := HX.out W hW
        clear hW
        go_simp
      simp only [Act.put, List.setIfInBounds_toArray, List.set_cons_zero, List.set_cons_succ]
      refine take_till (i := 26) (some 103) (.agg #[.int .i64 (m : Int), .slice va es.length vc]) rfl rfl (by kernel_rfl) (by kernel_rfl) (by kernel_rfl) (by kernel_rfl) (by decide) (fun _ _ _ h => h) (by rfl) (fun W hW => ?_) hS ?_
      · obtain ⟨x0, x1⟩ := HX.out W hW
        clear hW
        go_simp
      simp only [Act.put, List.setIfInBounds_toArray, List.set_cons_zero, List.set_cons_succ]
      refine take_till (i := 27) (some 104) (.slice ba k bc) rfl rfl (by kernel_rfl) (by kernel_rfl) (by kernel_rfl) (by kernel_rfl) (by decide) (fun _ _ _ h => h) (by rfl) (fun W hW => ?_) hS ?_
      · obtain ⟨x0, x1⟩ := HX.out W hW
        clear hW
        go_simp
      simp only [Act.put, List.setIfInBounds_toArray, List.set_cons_zero, List.set_cons_succ]
      generalize w11.drew = wd at *
      refine next_till 22 (by kernel_rfl) rfl (fun K hK => ?_)
      go_simp
      refine (HPC.out _ hS).1.mono ?_
      rintro e v22 ⟨rfl, bl⟩
      have s22 := hS.go bl
      clear bl
      go_simp
      refine hK.out _ _ (fun _ => s22) ?_
      clear hK K
      refine next_till 25 (by kernel_rfl) rfl (fun K hK => ?_)
      go_simp
      refine (HPC.out _ s22).2.1.mono ?_
      rintro e v25 ⟨rfl, bl⟩
      have s25 := s22.go bl
      clear bl
      go_simp
      refine hK.out _ _ (fun _ => s25) ?_
      clear hK K
      refine next_till 28 (by kernel_rfl) rfl (fun K hK => ?_)
      go_simp
      refine (HPC.out _ s25).2.2.mono ?_
      rintro e v28 ⟨rfl, bl⟩
      have s28 := s25.go bl
      clear bl
      go_simp
      refine hK.out _ _ (fun _ => s28) ?_
      clear hK K
      refine next_till 29 (by kernel_rfl) rfl (fun K hK => ?_)
      go_simp
      refine hK.out _ _ (fun _ => s28) ?_
      clear hK K
      refine next_till 30 (by kernel_rfl) rfl (fun K hK => ?_)
      go_simp
      refine hK.out _ _ (fun _ => s28) ?_
      clear hK K
      refine next_till 31 (by kernel_rfl) rfl (fun K hK => ?_)
      go_simp
      refine hK.out _ _ (fun _ => s28) ?_
      clear hK K
      refine done_till (by kernel_rfl) ?_ _
      have HL := Lib.hid s28
      clear hS s22 s25 s28
      obtain ⟨n0, n1⟩ := HL.out.net.net
      go_wp2
      have hwr := HL.out
      have HQ := Lib.hid (show ∀ i : Nat, i < m → Z1[i]? = some (ovr (es.zip a) i) ∧ Z2[i]? = some (ovr (es.zip b) i) ∧ Z3[i]? = some (ovr (es.zip a) i + ovr (es.zip b) i) from fun i hi => ⟨by rw [HW.out.2.1]; exact overL_at (by omega), by rw [HW.out.2.2.1]; exact overL_at (by omega), by rw [HW.out.2.2.2, HC.out, ← ovr_add (i : Int) es a b HA.out.2.1 HB.out.2.1]; exact overL_at (by omega)⟩)
      have HBd := Lib.hid (show ∀ i : Nat, -900719925474099200 ≤ ovr (es.zip a) i ∧ ovr (es.zip a) i ≤ 900719925474099200 ∧ -900719925474099200 ≤ ovr (es.zip b) i ∧ ovr (es.zip b) i ≤ 900719925474099200 from fun i => by
        have hla : (es.zip a).length ≤ 200 := by have := HA.out.1.2.2.1; rw [List.length_zip]; omega
        have hlb : (es.zip b).length ≤ 200 := by have := HA.out.1.2.2.1; rw [List.length_zip]; omega
        have h1 := ovr_take_le (zip_small HA.out.1.2.2.2.1 HA.out.2.2) hla 200 i
        have h2 := ovr_take_le (zip_small HB.out.1.2.2.2.1 HB.out.2.2) hlb 200 i
        rw [List.take_of_length_le hla] at h1
        rw [List.take_of_length_le hlb] at h2
        exact ⟨h1.1, h1.2, h2.1, h2.2⟩)
      clear n0 n1
      go_loopw [12] (fun j wq => ∃ q : Nat, j = .int .i64 (q : Int) ∧ q ≤ m ∧ NQ w w.heap.size (m : Int) (.slice va es.length vc) es [(.slice ra3 m rc3, Z3), (.slice ra2 m rc2, Z2), (.slice ra1 m rc1, Z1), (.slice (some ⟨g, 0, none⟩) k cap, C), (.slice aa k ac, a), (.slice ba k bc, b)] wq) (fun j _ => m - (intOf j).toNat)
      case atStart => exact ⟨0, rfl, Nat.zero_le _, hwr⟩
      case round =>
        clear hwr HL
        obtain ⟨q, rfl, hq, hN⟩ := hrel
        obtain ⟨n0, n1⟩ := hN.net.net
        rcases Nat.lt_or_ge q m with hlt | hge
        · obtain ⟨z1, z2, z3⟩ := HQ.out q hlt
          obtain ⟨b1, b2, b3, b4⟩ := HBd.out q
          have p1 := hN.fl (.slice ra1 m rc1, Z1) (by simp)
          have p2 := hN.fl (.slice ra2 m rc2, Z2) (by simp)
          have p3 := hN.fl (.slice ra3 m rc3, Z3) (by simp)
          obtain ⟨g1, o1, cap1, e1, hg1, f1⟩ := fs_at p1 z1
          obtain ⟨g2, o2, cap2, e2, hg2, f2⟩ := fs_at p2 z2
          obtain ⟨g3, o3, cap3, e3, hg3, f3⟩ := fs_at p3 z3
          simp only [Value.slice.injEq] at e1 e2 e3
          obtain ⟨rfl, -, rfl⟩ := e1
          obtain ⟨rfl, -, rfl⟩ := e2
          obtain ⟨rfl, -, rfl⟩ := e3
          generalize ovr (es.zip a) q = x1 at *
          generalize ovr (es.zip b) q = x2 at *
          have hwx : wrap64 (x1 + x2) = x1 + x2 := by unfold wrap64; omega
          have hm40 : m ≤ 40 := by have := HW.out.1.1.2.1; omega
          have hqi : (q : Int) < (m : Int) := by omega
          have hq1 : (q : Int) ≤ 9223372036854775806 := by omega
          have hq0 : (0 : Int) ≤ (q : Int) := by omega
          have HK := Lib.hid (And.intro hlt hN)
          clear hlt hN hq p1 p2 p3 z1 z2 z3 hg1 hg2 hg3 hm40 b1 b2 b3 b4
          go_wp2
          go_quiet (fail)
          go_wp2
          go_roundw
          case rel => exact ⟨q + 1, by go_num, HK.out.1, HK.out.2.go (below_drewN (Below.refl _ _) _)⟩
          case measure =>
            have := HK.out.1
            simp only [intOf]
            omega
        · obtain rfl : q = m := by omega
          have hqi : ¬ (q : Int) < (q : Int) := by omega
          clear hge hq
          obtain ⟨B1, hB1⟩ : ∃ B1, B1 = decide (FlowsP q es a) := ⟨_, rfl⟩
          obtain ⟨B2, hB2⟩ : ∃ B2, B2 = decide (FlowsP q es b) := ⟨_, rfl⟩
          obtain ⟨B3, hB3⟩ : ∃ B3, B3 = decide (FlowsP q es C) := ⟨_, rfl⟩
          have hfa := flows_add HA.out HB.out (by rw [← HC.out]; exact HW.out.1)
          rw [← HC.out] at hfa
          have hr1 : B1 = true → B2 = B3 := fun h => by
            rw [hB2, hB3]
            exact decide_eq_decide.2 (hfa.1 (of_decide_eq_true (by rw [← hB1]; exact h)))
          have hr2 : B2 = true → B1 = B3 := fun h => by
            rw [hB1, hB3]
            exact decide_eq_decide.2 (hfa.2 (of_decide_eq_true (by rw [← hB2]; exact h)))
          have HF := Lib.hid (And.intro hB1 (And.intro hB2 (And.intro hB3 (And.intro hr1 hr2))))
          clear hB1 hB2 hB3 hr1 hr2 hfa n0 n1
          have P := flows_any q es a wr hN.es (hN.fl (.slice aa k ac, a) (by simp))
          rw [← HF.out.1] at P
          obtain ⟨n0, n1⟩ := hN.net.net
          have HK := Lib.hid hN
          clear hN
          go_wp2_with fail
          refine P.mono ?_
          rintro e y1 ⟨rfl, bl⟩
          have t1 := HK.out.go bl
          clear P HK bl n0 n1
          have P := flows_any q es b y1 t1.es (t1.fl (.slice ba k bc, b) (by simp))
          rw [← HF.out.2.1] at P
          obtain ⟨n0, n1⟩ := t1.net.net
          have HK := Lib.hid t1
          clear t1
          go_wp2_with fail
          refine P.mono ?_
          rintro e y2 ⟨rfl, bl⟩
          have t2 := HK.out.go bl
          clear P HK bl n0 n1
          have P := flows_any q es C y2 t2.es (t2.fl (.slice (some ⟨g, 0, none⟩) k cap, C) (by simp))
          rw [← HF.out.2.2.1] at P
          obtain ⟨n0, n1⟩ := t2.net.net
          have HK := Lib.hid t2
          clear t2
          go_wp2_with fail
          refine P.mono ?_
          rintro e y3 ⟨rfl, bl⟩
          have t3 := HK.out.go bl
          clear P HK bl n0 n1
          have HK := Lib.hid t3
          obtain ⟨hr1, hr2⟩ := HF.out.2.2.2
          clear t3 HF
          rcases B1 with _ | _ <;> rcases B2 with _ | _ <;> rcases B3 with _ | _
          all_goals
            first
            | (exfalso; simp at hr1 hr2; done)
            | (clear hr1 hr2
               go_wp2_with fail
               refine (works_any y3).mono ?_
               rintro e wz ⟨rfl, bl⟩
               go_wp2
               go_ret
               exact ⟨rfl, (HK.out.go bl).under⟩)
end Go.Proofs.Ytmdjgkclbjbdiaa
