/- The statement RestAlong: of a way that closes what is over at each node stays; the cost is more by as much as its arcs cost; no condition. -/
import Derived.Test.YtohcoknnalgjnaaRsWorks
import Derived.Test.YtohcoknnalgjnaaRsAlongP
namespace Go.Proofs.Ytohcoknnalgjnaa
open Go.RowKit

set_option maxRecDepth 100000 in
set_option maxHeartbeats 16000000 in
theorem restAlong_any (n b : Int) (w : World) {v x y : Value} {es : List Ed} {fl arcs : List Int} (he : Es w v es) (hf : Fs w x fl) (hy : Fs w y arcs) : Calls Try.prog 6 #[netV n v, x, y, .int .i64 b] w fun e w' => e = .returned (.bool true) ∧ Below w.heap.size w w' := by
  obtain ⟨va, vc, rfl, -, -⟩ := he.shape
  obtain ⟨xa, xc, rfl, -, -⟩ := hf.shape
  obtain ⟨ya, yc, rfl, -, -⟩ := hy.shape
  have hyl := hy.len
  have hK := NQ.box n he (fls := [(.slice xa fl.length xc, fl), (.slice ya arcs.length yc, arcs)]) (fun p hp => by
    rcases List.mem_cons.1 hp with rfl | hp
    · exact hf
    · rw [List.mem_singleton.1 hp]; exact hy)
  clear he hf hy
  obtain ⟨n0, n1⟩ := hK.net.net
  have P := vast_any n es fl _ hK.es (hK.fl (.slice xa fl.length xc, fl) (by simp))
  have HK := Lib.hid hK
  clear hK
  go_enter Try.func6, Try.ntmps6
  go_wp2_with fail
  generalize w.alloc (.cells #[.int .i64 n, .slice va es.length vc] 24) = w1 at *
  refine P.mono ?_
  rintro e w2 ⟨rfl, bl⟩
  have h2 := HK.out.go bl
  clear P HK bl n0 n1
  by_cases hv : 2000 < es.length ∨ 2000 < fl.length
  case pos =>
    rw [decide_eq_true hv]
    have HV := Lib.hid (And.intro hv h2)
    clear hv h2
    go_wp2_with fail
    refine (works12_any w2).mono ?_
    rintro e w3 ⟨rfl, bl⟩
    go_wp2
    go_ret
    exact ⟨rfl, (HV.out.2.go bl).under⟩
  rw [decide_eq_false hv]
  by_cases hal : 60 < arcs.length
  case pos =>
    have hal' : (60 : Int) < (arcs.length : Int) := by omega
    have HV := Lib.hid h2
    clear hv h2 hal
    go_wp2_with fail
    refine (works12_any w2).mono ?_
    rintro _ w3 ⟨rfl, bl⟩
    go_wp2
    go_ret
    exact ⟨rfl, (HV.out.go bl).under⟩
  have hal' : ¬ (60 : Int) < (arcs.length : Int) := by omega
  have P := along_any n es fl arcs b w2 h2.es (h2.fl (.slice xa fl.length xc, fl) (by simp)) (h2.fl (.slice ya arcs.length yc, arcs) (by simp))
  obtain ⟨n0, n1⟩ := h2.net.net
  by_cases hc : (alongP n es fl arcs b).2 = 0
  case neg =>
    rw [along_bad hc] at P
    have HK := Lib.hid h2
    generalize (alongP n es fl arcs b).2 = c at *
    have hcb : (c != 0) = true := by simpa using hc
    have HC := Lib.hid hc
    clear h2 hv hal hc
    go_wp2_with fail
    refine P.mono ?_
    rintro _ w3 ⟨r, rfl, hr, bl, -⟩
    obtain ⟨ra, rc, rfl, -, -⟩ := hr.shape
    have h3 := HK.out.go bl
    have HK := Lib.hid h3
    clear P h3 bl n0 n1 hr
    simp only [List.length_nil]
    go_wp2_with fail
    refine (works12_any w3).mono ?_
    rintro _ w4 ⟨rfl, bl⟩
    go_wp2
    go_ret
    exact ⟨rfl, (HK.out.go bl).under⟩
  obtain ⟨l, hok, hll, hP⟩ := along_ok hc
  rw [hP] at P
  obtain ⟨hw, hb0, hj⟩ := hok
  obtain ⟨m, rfl⟩ : ∃ m : Nat, n = (m : Int) := ⟨n.toNat, by have := hw.1.1; omega⟩
  have hwl := alongL_within hw hj.all hb0 hll
  have hbb : b ≤ 4503599627370496 := by have h1 := (along_code.1 hc).2.2.2; have := bottle_le (n := (m : Int)) (es := es) (fl := fl) (arcs := arcs); omega
  have HK := Lib.hid h2
  have HG := Lib.hid (And.intro hw (And.intro hb0 (And.intro hj (And.intro hll (And.intro hwl hbb)))))
  clear h2 hv hal hc hP hw hb0 hj hll hwl hbb
  go_wp2_with fail
  refine P.mono ?_
  rintro _ w3 ⟨r, rfl, hr, bl, -⟩
  obtain ⟨hw, hb0, hj, hll, hwl, hbb⟩ := HG.out
  obtain ⟨ra, rc, rfl, -, -⟩ := hr.shape
  have h3 := (HK.out.go bl).add hr
  obtain ⟨s, hs⟩ : ∃ s, arcs[0]? = some s := ⟨_, List.getElem?_eq_getElem (List.length_pos_iff.2 hj.1)⟩
  obtain ⟨M, hM⟩ : ∃ M, M = arcs.length := ⟨_, rfl⟩
  obtain ⟨N, hN⟩ : ∃ N, N = fl.length := ⟨_, rfl⟩
  have hlN : l.length = N := by rw [hN]; exact alongL_length hll
  obtain ⟨t, ht⟩ : ∃ t, arcs[M - 1]? = some t := ⟨_, List.getElem?_eq_getElem (by have := List.length_pos_iff.2 hj.1; omega)⟩
  obtain ⟨g3, o3, cp3, e0, -, -⟩ := fs_at (h3.fl (.slice ya arcs.length yc, arcs) (by simp)) hs
  simp only [Value.slice.injEq] at e0
  obtain ⟨rfl, -, rfl⟩ := e0
  rw [← hM, ← hN, hlN] at h3
  rw [hlN, ← hN, ← hM]
  have hh0 := hj.has hs
  have hh1 := hj.has ht
  have hM0 : 0 < M := by rw [hM]; exact List.length_pos_iff.2 hj.1
  have HX := Lib.hid (show ∀ W, NQ w w.heap.size (m : Int) (.slice va es.length vc) es [(.slice ra N rc, l), (.slice xa N xc, fl), (.slice (some ⟨g3, o3, none⟩) M yc, arcs)] W → W.cell? ⟨w.heap.size, 0, none⟩ = some (.int .i64 (m : Int)) ∧ W.cell? ⟨w.heap.size, 1, none⟩ = some (.slice va es.length vc) from fun W h => h.net.net)
  have HY := Lib.hid (show ∀ i a, arcs[i]? = some a → ∀ W, NQ w w.heap.size (m : Int) (.slice va es.length vc) es [(.slice ra N rc, l), (.slice xa N xc, fl), (.slice (some ⟨g3, o3, none⟩) M yc, arcs)] W → W.cell? ⟨g3, o3 + i, none⟩ = some (.int .i64 a) from fun i a ha W hW => by
    obtain ⟨g', o', cp', e0, -, f0⟩ := fs_at (hW.fl (.slice (some ⟨g3, o3, none⟩) M yc, arcs) (by simp)) ha
    rw [← hM] at e0
    simp only [Value.slice.injEq, Option.some.injEq, Addr.mk.injEq] at e0
    obtain ⟨⟨rfl, rfl, -⟩, -, -⟩ := e0
    exact f0)
  have HE := Lib.hid (show ∀ i a, arcs[i]? = some a → ∀ W, NQ w w.heap.size (m : Int) (.slice va es.length vc) es [(.slice ra N rc, l), (.slice xa N xc, fl), (.slice (some ⟨g3, o3, none⟩) M yc, arcs)] W → Calls Try.prog 13 #[netV (m : Int) (.slice va es.length vc), .int .i64 a] W fun e w' => e = .returned (.tuple #[.int .i64 (frA es a), .int .i64 (toA es a), .int .i64 (coA es a)]) ∧ Below W.heap.size W w' from fun i a ha W hW => by
    have h := ends_any (m : Int) es a W hW.es
    rw [endsP_pos hw.1 (hj.has ha)] at h
    exact h)
  have HY0 := Lib.hid (show ∀ W, NQ w w.heap.size (m : Int) (.slice va es.length vc) es [(.slice ra N rc, l), (.slice xa N xc, fl), (.slice (some ⟨g3, o3, none⟩) M yc, arcs)] W → W.cell? ⟨g3, o3, none⟩ = some (.int .i64 s) from HY.out 0 s hs)
  have HYM := Lib.hid (HY.out (M - 1) t ht)
  have HE0 := Lib.hid (HE.out 0 s hs)
  have HEM := Lib.hid (HE.out (M - 1) t ht)
  have hb1 := hh0.ends hw.1
  have hb2 := hh1.ends hw.1
  obtain ⟨i, hi⟩ : ∃ i : Nat, frA es s = (i : Int) := ⟨(frA es s).toNat, by omega⟩
  obtain ⟨j, hjt⟩ : ∃ j : Nat, toA es t = (j : Int) := ⟨(toA es t).toNat, by omega⟩
  rw [hi] at HE0 hb1
  rw [hjt] at HEM hb2
  have HF := Lib.hid (And.intro hs (And.intro ht (And.intro hM (And.intro hN (And.intro hlN (And.intro hb1 (And.intro hb2 (And.intro (show M ≤ 60 by omega) (And.intro hi hjt)))))))))
  have hMi : (0 : Int) < (M : Int) := by omega
  have hMz : ((M : Int) == 0) = false := by simp; omega
  have hMw : wrap64 ((M : Int) - 1) = ((M - 1 : Nat) : Int) := by
    have h0 : M ≤ 60 := by omega
    unfold wrap64
    omega
  have hMk : IntKind.i64.wrap ((M : Int) - 1) = ((M - 1 : Nat) : Int) := by
    have h0 : M ≤ 60 := by omega
    rw [show (M : Int) - 1 = ((M - 1 : Nat) : Int) by omega]
    exact IntWalk.i64_in _ (by omega)
  have hM1 : ((M - 1 : Nat) : Int) < (M : Int) := by omega
  have hM2 : (0 : Int) ≤ ((M - 1 : Nat) : Int) := by omega
  generalize hM3 : M - 1 = M1 at *
  have HM1 := Lib.hid hM3
  have P := within_any (m : Int) es l w3 h3.es (h3.fl (.slice ra N rc, l) (by simp))
  rw [decide_eq_true hwl] at P
  obtain ⟨n0, n1⟩ := h3.net.net
  have HK := Lib.hid h3
  clear h3 hr bl hw hb0 hj hll hwl hbb hs ht hM hN hlN hh0 hh1 hb1 hb2 hM0 hi hjt hyl hal' hM3
  generalize toA es s = S2 at *
  generalize coA es s = S3 at *
  generalize frA es t = T1 at *
  generalize coA es t = T3 at *
  go_wp2_with fail
  refine P.mono ?_
  rintro _ w4 ⟨rfl, bl⟩
  have hS0 := (HK.out.go bl).go ((Below.refl w4.heap.size w4).drew)
  clear P HK bl n0 n1
  go_wp2
  refine region_till 99 (fun W => NQ w w.heap.size (m : Int) (.slice va es.length vc) es [(.slice ra N rc, l), (.slice xa N xc, fl), (.slice (some ⟨g3, o3, none⟩) M yc, arcs)] W) (by kernel_rfl) hS0 (fun hS => ?_)
  clear hS0
  skip
  refine take_till (i := 0) (some 59) (.agg #[.int .i64 (m : Int), .slice va es.length vc]) rfl rfl (by kernel_rfl) (by kernel_rfl) (by kernel_rfl) (by kernel_rfl) (by decide) (fun _ _ _ h => h) (by rfl) (fun W hW => ?_) hS ?_
  · obtain ⟨x0, x1⟩ := HX.out W hW; have x2 := HY0.out W hW
    clear hW
    go_simp
  simp only [Act.put, List.setIfInBounds_toArray, List.set_cons_zero, List.set_cons_succ]
  refine take_till (i := 1) (some 60) (.slice (some ⟨g3, o3, none⟩) M yc) rfl rfl (by kernel_rfl) (by kernel_rfl) (by kernel_rfl) (by kernel_rfl) (by decide) (fun _ _ _ h => h) (by rfl) (fun W hW => ?_) hS ?_
  · obtain ⟨x0, x1⟩ := HX.out W hW; have x2 := HY0.out W hW
    clear hW
    go_simp
  simp only [Act.put, List.setIfInBounds_toArray, List.set_cons_zero, List.set_cons_succ]
  refine take_till (i := 2) (some 61) (.pointer (some ⟨g3, o3, none⟩)) rfl rfl (by kernel_rfl) (by kernel_rfl) (by kernel_rfl) (by kernel_rfl) (by decide) (fun _ _ _ h => h) (by rfl) (fun W hW => ?_) hS ?_
  · obtain ⟨x0, x1⟩ := HX.out W hW; have x2 := HY0.out W hW
    clear hW
    go_simp
    exact fun h => by omega
  simp only [Act.put, List.setIfInBounds_toArray, List.set_cons_zero, List.set_cons_succ]
  refine take_till (i := 3) (some 62) (.int .i64 s) rfl rfl (by kernel_rfl) (by kernel_rfl) (by kernel_rfl) (by kernel_rfl) (by decide) (fun _ _ _ h => h) (by rfl) (fun W hW => ?_) hS ?_
  · obtain ⟨x0, x1⟩ := HX.out W hW; have x2 := HY0.out W hW
    clear hW
    go_simp
  simp only [Act.put, List.setIfInBounds_toArray, List.set_cons_zero, List.set_cons_succ]
  refine next_till 4 (by kernel_rfl) rfl (fun K hK => ?_)
  go_simp
  refine (HE0.out _ hS).mono ?_
  rintro _ u1 ⟨rfl, bl⟩
  have hT := hS.go bl
  clear bl hS
  have hS := hT
  clear hT
  go_simp
  refine hK.out _ _ (fun _ => hS) ?_
  clear hK K
  refine take_till (i := 5) (some 58) (.tuple #[.int .i64 (i : Int), .int .i64 S2, .int .i64 S3]) rfl rfl (by kernel_rfl) (by kernel_rfl) (by kernel_rfl) (by kernel_rfl) (by decide) (fun _ _ _ h => h) (by rfl) (fun W hW => ?_) hS ?_
  · obtain ⟨x0, x1⟩ := HX.out W hW; have x2 := HY0.out W hW
    clear hW
    go_simp
  simp only [Act.put, List.setIfInBounds_toArray, List.set_cons_zero, List.set_cons_succ]
  refine take_till (i := 6) (some 64) (.int .i64 (i : Int)) rfl rfl (by kernel_rfl) (by kernel_rfl) (by kernel_rfl) (by kernel_rfl) (by decide) (fun _ _ _ h => h) (by rfl) (fun W hW => ?_) hS ?_
  · obtain ⟨x0, x1⟩ := HX.out W hW; have x2 := HY0.out W hW
    clear hW
    go_simp
  simp only [Act.put, List.setIfInBounds_toArray, List.set_cons_zero, List.set_cons_succ]
  refine take_till (i := 7) (some 65) (.int .i64 S2) rfl rfl (by kernel_rfl) (by kernel_rfl) (by kernel_rfl) (by kernel_rfl) (by decide) (fun _ _ _ h => h) (by rfl) (fun W hW => ?_) hS ?_
  · obtain ⟨x0, x1⟩ := HX.out W hW; have x2 := HY0.out W hW
    clear hW
    go_simp
  simp only [Act.put, List.setIfInBounds_toArray, List.set_cons_zero, List.set_cons_succ]
  refine take_till (i := 8) (some 66) (.int .i64 S3) rfl rfl (by kernel_rfl) (by kernel_rfl) (by kernel_rfl) (by kernel_rfl) (by decide) (fun _ _ _ h => h) (by rfl) (fun W hW => ?_) hS ?_
  · obtain ⟨x0, x1⟩ := HX.out W hW; have x2 := HY0.out W hW
    clear hW
    go_simp
  simp only [Act.put, List.setIfInBounds_toArray, List.set_cons_zero, List.set_cons_succ]
  refine take_till (i := 9) (some 11) (.int .i64 (i : Int)) rfl rfl (by kernel_rfl) (by kernel_rfl) (by kernel_rfl) (by kernel_rfl) (by decide) (fun _ _ _ h => h) (by rfl) (fun W hW => ?_) hS ?_
  · obtain ⟨x0, x1⟩ := HX.out W hW; have x2 := HY0.out W hW
    clear hW
    go_simp
  simp only [Act.put, List.setIfInBounds_toArray, List.set_cons_zero, List.set_cons_succ]
  refine take_till (i := 10) (some 12) (.int .i64 S2) rfl rfl (by kernel_rfl) (by kernel_rfl) (by kernel_rfl) (by kernel_rfl) (by decide) (fun _ _ _ h => h) (by rfl) (fun W hW => ?_) hS ?_
  · obtain ⟨x0, x1⟩ := HX.out W hW; have x2 := HY0.out W hW
    clear hW
    go_simp
  simp only [Act.put, List.setIfInBounds_toArray, List.set_cons_zero, List.set_cons_succ]
  refine take_till (i := 11) (some 13) (.int .i64 S3) rfl rfl (by kernel_rfl) (by kernel_rfl) (by kernel_rfl) (by kernel_rfl) (by decide) (fun _ _ _ h => h) (by rfl) (fun W hW => ?_) hS ?_
  · obtain ⟨x0, x1⟩ := HX.out W hW; have x2 := HY0.out W hW
    clear hW
    go_simp
  simp only [Act.put, List.setIfInBounds_toArray, List.set_cons_zero, List.set_cons_succ]

  refine done_till (by kernel_rfl) ?_ _
  have hS0 := hS.go ((Below.refl u1.heap.size u1).drew)
  clear hS
  go_wp2
  refine region_till 99 (fun W => NQ w w.heap.size (m : Int) (.slice va es.length vc) es [(.slice ra N rc, l), (.slice xa N xc, fl), (.slice (some ⟨g3, o3, none⟩) M yc, arcs)] W) (by kernel_rfl) hS0 (fun hS => ?_)
  clear hS0
  skip
  refine take_till (i := 0) (some 68) (.agg #[.int .i64 (m : Int), .slice va es.length vc]) rfl rfl (by kernel_rfl) (by kernel_rfl) (by kernel_rfl) (by kernel_rfl) (by decide) (fun _ _ _ h => h) (by rfl) (fun W hW => ?_) hS ?_
  · obtain ⟨x0, x1⟩ := HX.out W hW; have x2 := HYM.out W hW
    clear hW
    go_simp
  simp only [Act.put, List.setIfInBounds_toArray, List.set_cons_zero, List.set_cons_succ]
  refine take_till (i := 1) (some 69) (.slice (some ⟨g3, o3, none⟩) M yc) rfl rfl (by kernel_rfl) (by kernel_rfl) (by kernel_rfl) (by kernel_rfl) (by decide) (fun _ _ _ h => h) (by rfl) (fun W hW => ?_) hS ?_
  · obtain ⟨x0, x1⟩ := HX.out W hW; have x2 := HYM.out W hW
    clear hW
    go_simp
  simp only [Act.put, List.setIfInBounds_toArray, List.set_cons_zero, List.set_cons_succ]
  refine take_till (i := 2) (some 70) (.slice (some ⟨g3, o3, none⟩) M yc) rfl rfl (by kernel_rfl) (by kernel_rfl) (by kernel_rfl) (by kernel_rfl) (by decide) (fun _ _ _ h => h) (by rfl) (fun W hW => ?_) hS ?_
  · obtain ⟨x0, x1⟩ := HX.out W hW; have x2 := HYM.out W hW
    clear hW
    go_simp
  simp only [Act.put, List.setIfInBounds_toArray, List.set_cons_zero, List.set_cons_succ]
  refine take_till (i := 3) (some 71) (.int .i64 (M : Int)) rfl rfl (by kernel_rfl) (by kernel_rfl) (by kernel_rfl) (by kernel_rfl) (by decide) (fun _ _ _ h => h) (by rfl) (fun W hW => ?_) hS ?_
  · obtain ⟨x0, x1⟩ := HX.out W hW; have x2 := HYM.out W hW
    clear hW
    go_simp
  simp only [Act.put, List.setIfInBounds_toArray, List.set_cons_zero, List.set_cons_succ]
  refine take_till (i := 4) (some 72) (.int .i64 (M1 : Int)) rfl rfl (by kernel_rfl) (by kernel_rfl) (by kernel_rfl) (by kernel_rfl) (by decide) (fun _ _ _ h => h) (by rfl) (fun W hW => ?_) hS ?_
  · obtain ⟨x0, x1⟩ := HX.out W hW; have x2 := HYM.out W hW
    clear hW
    go_simp
  simp only [Act.put, List.setIfInBounds_toArray, List.set_cons_zero, List.set_cons_succ]
  refine take_till (i := 5) (some 73) (.pointer (some ⟨g3, o3 + M1, none⟩)) rfl rfl (by kernel_rfl) (by kernel_rfl) (by kernel_rfl) (by kernel_rfl) (by decide) (fun _ _ _ h => h) (by rfl) (fun W hW => ?_) hS ?_
  · obtain ⟨x0, x1⟩ := HX.out W hW; have x2 := HYM.out W hW
    clear hW
    go_simp
  simp only [Act.put, List.setIfInBounds_toArray, List.set_cons_zero, List.set_cons_succ]
  refine take_till (i := 6) (some 74) (.int .i64 t) rfl rfl (by kernel_rfl) (by kernel_rfl) (by kernel_rfl) (by kernel_rfl) (by decide) (fun _ _ _ h => h) (by rfl) (fun W hW => ?_) hS ?_
  · obtain ⟨x0, x1⟩ := HX.out W hW; have x2 := HYM.out W hW
    clear hW
    go_simp
  simp only [Act.put, List.setIfInBounds_toArray, List.set_cons_zero, List.set_cons_succ]
  refine next_till 7 (by kernel_rfl) rfl (fun K hK => ?_)
  go_simp
  refine (HEM.out _ hS).mono ?_
  rintro _ v1 ⟨rfl, bl⟩
  have hT := hS.go bl
  clear bl hS
  have hS := hT
  clear hT
  go_simp
  refine hK.out _ _ (fun _ => hS) ?_
  clear hK K
  refine take_till (i := 8) (some 67) (.tuple #[.int .i64 T1, .int .i64 (j : Int), .int .i64 T3]) rfl rfl (by kernel_rfl) (by kernel_rfl) (by kernel_rfl) (by kernel_rfl) (by decide) (fun _ _ _ h => h) (by rfl) (fun W hW => ?_) hS ?_
  · obtain ⟨x0, x1⟩ := HX.out W hW; have x2 := HYM.out W hW
    clear hW
    go_simp
  simp only [Act.put, List.setIfInBounds_toArray, List.set_cons_zero, List.set_cons_succ]
  refine take_till (i := 9) (some 76) (.int .i64 T1) rfl rfl (by kernel_rfl) (by kernel_rfl) (by kernel_rfl) (by kernel_rfl) (by decide) (fun _ _ _ h => h) (by rfl) (fun W hW => ?_) hS ?_
  · obtain ⟨x0, x1⟩ := HX.out W hW; have x2 := HYM.out W hW
    clear hW
    go_simp
  simp only [Act.put, List.setIfInBounds_toArray, List.set_cons_zero, List.set_cons_succ]
  refine take_till (i := 10) (some 77) (.int .i64 (j : Int)) rfl rfl (by kernel_rfl) (by kernel_rfl) (by kernel_rfl) (by kernel_rfl) (by decide) (fun _ _ _ h => h) (by rfl) (fun W hW => ?_) hS ?_
  · obtain ⟨x0, x1⟩ := HX.out W hW; have x2 := HYM.out W hW
    clear hW
    go_simp
  simp only [Act.put, List.setIfInBounds_toArray, List.set_cons_zero, List.set_cons_succ]
  refine take_till (i := 11) (some 78) (.int .i64 T3) rfl rfl (by kernel_rfl) (by kernel_rfl) (by kernel_rfl) (by kernel_rfl) (by decide) (fun _ _ _ h => h) (by rfl) (fun W hW => ?_) hS ?_
  · obtain ⟨x0, x1⟩ := HX.out W hW; have x2 := HYM.out W hW
    clear hW
    go_simp
  simp only [Act.put, List.setIfInBounds_toArray, List.set_cons_zero, List.set_cons_succ]
  refine take_till (i := 12) (some 14) (.int .i64 T1) rfl rfl (by kernel_rfl) (by kernel_rfl) (by kernel_rfl) (by kernel_rfl) (by decide) (fun _ _ _ h => h) (by rfl) (fun W hW => ?_) hS ?_
  · obtain ⟨x0, x1⟩ := HX.out W hW; have x2 := HYM.out W hW
    clear hW
    go_simp
  simp only [Act.put, List.setIfInBounds_toArray, List.set_cons_zero, List.set_cons_succ]
  refine take_till (i := 13) (some 15) (.int .i64 (j : Int)) rfl rfl (by kernel_rfl) (by kernel_rfl) (by kernel_rfl) (by kernel_rfl) (by decide) (fun _ _ _ h => h) (by rfl) (fun W hW => ?_) hS ?_
  · obtain ⟨x0, x1⟩ := HX.out W hW; have x2 := HYM.out W hW
    clear hW
    go_simp
  simp only [Act.put, List.setIfInBounds_toArray, List.set_cons_zero, List.set_cons_succ]
  refine take_till (i := 14) (some 16) (.int .i64 T3) rfl rfl (by kernel_rfl) (by kernel_rfl) (by kernel_rfl) (by kernel_rfl) (by decide) (fun _ _ _ h => h) (by rfl) (fun W hW => ?_) hS ?_
  · obtain ⟨x0, x1⟩ := HX.out W hW; have x2 := HYM.out W hW
    clear hW
    go_simp
  simp only [Act.put, List.setIfInBounds_toArray, List.set_cons_zero, List.set_cons_succ]

  refine done_till (by kernel_rfl) ?_ _
  have HK := Lib.hid hS
  clear hS HY0 HE0 HYM HEM hMz hMw hMk hM1 hM2
  have HL := Lib.hid hMi
  clear hMi
  go_wp2
  go_loopw [18, 17] (fun j q wr => ∃ k : Nat, j = .int .i64 (k : Int) ∧ k ≤ M ∧ (∃ z, z = wrap64 (coS es (arcs.take k) * b) ∧ q = .int .i64 z) ∧ NQ w w.heap.size (m : Int) (.slice va es.length vc) es [(.slice ra N rc, l), (.slice xa N xc, fl), (.slice (some ⟨g3, o3, none⟩) M yc, arcs)] wr) (fun j _ _ => M - (intOf j).toNat)
  case atStart => exact ⟨0, rfl, Nat.zero_le _, ⟨0, by simp [coS, wrap64], rfl⟩, HK.out⟩
  case round =>
    obtain ⟨k, rfl, hk, ⟨z, hz, rfl⟩, hq⟩ := hrel
    clear HK
    rcases Nat.lt_or_ge k M with hlt | hge
    · obtain ⟨a, hay⟩ : ∃ a, arcs[k]? = some a := ⟨_, List.getElem?_eq_getElem (by have := HF.out.2.2.1; omega)⟩
      have HYk := Lib.hid (HY.out k a hay)
      have HEk := Lib.hid (HE.out k a hay)
      have hki : (k : Int) < (M : Int) := by omega
      have hk1 : (k : Int) ≤ 9223372036854775806 := by have := HF.out.2.2.2.2.2.2.2.1; omega
      have hk0 : (0 : Int) ≤ (k : Int) := by omega
      have hcb := ((HG.out.2.2.1.has hay).ends HG.out.1.1).2.2.2.2
      have hmb := mul_bounds HG.out.2.1 HG.out.2.2.2.2.2 hcb.1 hcb.2
      have hcw : wrap64 (coA es a * b) = coA es a * b := by rw [Int.mul_comm]; unfold wrap64; omega
      have hcs := coS_wrap (es := es) hay hcw
      rw [← hz, hcw] at hcs
      have HZ := Lib.hid (And.intro hlt hcs)
      have hS0 := hq.go ((Below.refl wr.heap.size wr).drew)
      generalize frA es a = A1 at *
      generalize toA es a = A2 at *
      generalize coA es a = A3 at *
      clear hq hlt hk hcb hmb hcs hz
      go_wp2
      refine region_till 99 (fun W => NQ w w.heap.size (m : Int) (.slice va es.length vc) es [(.slice ra N rc, l), (.slice xa N xc, fl), (.slice (some ⟨g3, o3, none⟩) M yc, arcs)] W) (by kernel_rfl) hS0 (fun hS => ?_)
      clear hS0
      skip
      refine take_till (i := 0) (some 86) (.agg #[.int .i64 (m : Int), .slice va es.length vc]) rfl rfl (by kernel_rfl) (by kernel_rfl) (by kernel_rfl) (by kernel_rfl) (by decide) (fun _ _ _ h => h) (by rfl) (fun W hW => ?_) hS ?_
      · obtain ⟨x0, x1⟩ := HX.out W hW; have x2 := HYk.out W hW
        clear hW
        go_simp
      simp only [Act.put, List.setIfInBounds_toArray, List.set_cons_zero, List.set_cons_succ]
      refine take_till (i := 1) (some 87) (.slice (some ⟨g3, o3, none⟩) M yc) rfl rfl (by kernel_rfl) (by kernel_rfl) (by kernel_rfl) (by kernel_rfl) (by decide) (fun _ _ _ h => h) (by rfl) (fun W hW => ?_) hS ?_
      · obtain ⟨x0, x1⟩ := HX.out W hW; have x2 := HYk.out W hW
        clear hW
        go_simp
      simp only [Act.put, List.setIfInBounds_toArray, List.set_cons_zero, List.set_cons_succ]
      refine take_till (i := 2) (some 88) (.int .i64 (k : Int)) rfl rfl (by kernel_rfl) (by kernel_rfl) (by kernel_rfl) (by kernel_rfl) (by decide) (fun _ _ _ h => h) (by rfl) (fun W hW => ?_) hS ?_
      · obtain ⟨x0, x1⟩ := HX.out W hW; have x2 := HYk.out W hW
        clear hW
        go_simp
      simp only [Act.put, List.setIfInBounds_toArray, List.set_cons_zero, List.set_cons_succ]
      refine take_till (i := 3) (some 89) (.pointer (some ⟨g3, o3 + k, none⟩)) rfl rfl (by kernel_rfl) (by kernel_rfl) (by kernel_rfl) (by kernel_rfl) (by decide) (fun _ _ _ h => h) (by rfl) (fun W hW => ?_) hS ?_
      · obtain ⟨x0, x1⟩ := HX.out W hW; have x2 := HYk.out W hW
        clear hW
        go_simp
      simp only [Act.put, List.setIfInBounds_toArray, List.set_cons_zero, List.set_cons_succ]
      refine take_till (i := 4) (some 90) (.int .i64 a) rfl rfl (by kernel_rfl) (by kernel_rfl) (by kernel_rfl) (by kernel_rfl) (by decide) (fun _ _ _ h => h) (by rfl) (fun W hW => ?_) hS ?_
      · obtain ⟨x0, x1⟩ := HX.out W hW; have x2 := HYk.out W hW
        clear hW
        go_simp
      simp only [Act.put, List.setIfInBounds_toArray, List.set_cons_zero, List.set_cons_succ]
      refine next_till 5 (by kernel_rfl) rfl (fun K hK => ?_)
      go_simp
      refine (HEk.out _ hS).mono ?_
      rintro _ y1 ⟨rfl, bl⟩
      have hT := hS.go bl
      clear bl hS
      have hS := hT
      clear hT
      go_simp
      refine hK.out _ _ (fun _ => hS) ?_
      clear hK K
      refine take_till (i := 6) (some 85) (.tuple #[.int .i64 A1, .int .i64 A2, .int .i64 A3]) rfl rfl (by kernel_rfl) (by kernel_rfl) (by kernel_rfl) (by kernel_rfl) (by decide) (fun _ _ _ h => h) (by rfl) (fun W hW => ?_) hS ?_
      · obtain ⟨x0, x1⟩ := HX.out W hW; have x2 := HYk.out W hW
        clear hW
        go_simp
      simp only [Act.put, List.setIfInBounds_toArray, List.set_cons_zero, List.set_cons_succ]
      refine take_till (i := 7) (some 92) (.int .i64 A1) rfl rfl (by kernel_rfl) (by kernel_rfl) (by kernel_rfl) (by kernel_rfl) (by decide) (fun _ _ _ h => h) (by rfl) (fun W hW => ?_) hS ?_
      · obtain ⟨x0, x1⟩ := HX.out W hW; have x2 := HYk.out W hW
        clear hW
        go_simp
      simp only [Act.put, List.setIfInBounds_toArray, List.set_cons_zero, List.set_cons_succ]
      refine take_till (i := 8) (some 93) (.int .i64 A2) rfl rfl (by kernel_rfl) (by kernel_rfl) (by kernel_rfl) (by kernel_rfl) (by decide) (fun _ _ _ h => h) (by rfl) (fun W hW => ?_) hS ?_
      · obtain ⟨x0, x1⟩ := HX.out W hW; have x2 := HYk.out W hW
        clear hW
        go_simp
      simp only [Act.put, List.setIfInBounds_toArray, List.set_cons_zero, List.set_cons_succ]
      refine take_till (i := 9) (some 94) (.int .i64 A3) rfl rfl (by kernel_rfl) (by kernel_rfl) (by kernel_rfl) (by kernel_rfl) (by decide) (fun _ _ _ h => h) (by rfl) (fun W hW => ?_) hS ?_
      · obtain ⟨x0, x1⟩ := HX.out W hW; have x2 := HYk.out W hW
        clear hW
        go_simp
      simp only [Act.put, List.setIfInBounds_toArray, List.set_cons_zero, List.set_cons_succ]
      refine take_till (i := 10) (some 19) (.int .i64 A1) rfl rfl (by kernel_rfl) (by kernel_rfl) (by kernel_rfl) (by kernel_rfl) (by decide) (fun _ _ _ h => h) (by rfl) (fun W hW => ?_) hS ?_
      · obtain ⟨x0, x1⟩ := HX.out W hW; have x2 := HYk.out W hW
        clear hW
        go_simp
      simp only [Act.put, List.setIfInBounds_toArray, List.set_cons_zero, List.set_cons_succ]
      refine take_till (i := 11) (some 20) (.int .i64 A2) rfl rfl (by kernel_rfl) (by kernel_rfl) (by kernel_rfl) (by kernel_rfl) (by decide) (fun _ _ _ h => h) (by rfl) (fun W hW => ?_) hS ?_
      · obtain ⟨x0, x1⟩ := HX.out W hW; have x2 := HYk.out W hW
        clear hW
        go_simp
      simp only [Act.put, List.setIfInBounds_toArray, List.set_cons_zero, List.set_cons_succ]
      refine take_till (i := 12) (some 21) (.int .i64 A3) rfl rfl (by kernel_rfl) (by kernel_rfl) (by kernel_rfl) (by kernel_rfl) (by decide) (fun _ _ _ h => h) (by rfl) (fun W hW => ?_) hS ?_
      · obtain ⟨x0, x1⟩ := HX.out W hW; have x2 := HYk.out W hW
        clear hW
        go_simp
      simp only [Act.put, List.setIfInBounds_toArray, List.set_cons_zero, List.set_cons_succ]

      refine done_till (by kernel_rfl) ?_ _
      have HS := Lib.hid hS
      clear hS
      go_wp2
      go_roundw
      case rel => exact ⟨k + 1, by go_num, HZ.out.1, ⟨_, HZ.out.2, rfl⟩, HS.out⟩
      case measure =>
        have := HZ.out.1
        simp only [intOf]
        omega
    · obtain rfl : M = k := by omega
      have hki : ¬ (M : Int) < (M : Int) := by omega
      obtain ⟨hw, hb0, hj, hll, hwl, hbb⟩ := HG.out
      have hm40 : m ≤ 40 := by have := hw.1.2.1; omega
      obtain ⟨hs, ht, hM, hN, hlN, hb1, hb2, -, hi, hjt⟩ := HF.out
      have hhd : arcs.head? = some s := by rw [List.head?_eq_getElem?]; exact hs
      have hlast : arcs.getLast? = some t := by rw [List.getLast?_eq_getElem?, ← hM, HM1.out]; exact ht
      have hil : i < m := by omega
      have hjl : j < m := by omega
      have hmv := over_moved hw hj hll hhd hlast hi hjt hil hjl hb0
      have hcost := cost_moved hw hwl hj hll
      rw [hM, List.take_length] at hz
      rw [← hz] at hcost
      have hfl : i = j → decide (FlowsP (m : Int) es l) = decide (FlowsP (m : Int) es fl) := fun h => flows_same hw hwl (over_same hw hj hll hhd hlast (by rw [hi, hjt, h]) hb0)
      have hsm := zip_small hw.1.2.2.2.1 hw.2.2
      have hlen : (es.zip fl).length ≤ 200 := by have := hw.1.2.2.1; rw [List.length_zip]; omega
      have hbi := ovr_take_le hsm hlen (es.zip fl).length (i : Int)
      have hbj := ovr_take_le hsm hlen (es.zip fl).length (j : Int)
      rw [List.take_length] at hbi hbj
      have PO := over_own (m : Int) es fl wr hq.es (hq.fl (.slice xa N xc, fl) (by simp))
      have PY := fun W (h : Below wr.heap.size wr W) => over_own (m : Int) es l W (hq.go h).es ((hq.go h).fl (.slice ra N rc, l) (by simp))
      have hXi : (overL (m : Int) (es.zip fl))[i]? = some (ovr (es.zip fl) (i : Int)) := overL_at (by simpa using hil)
      have hXj : (overL (m : Int) (es.zip fl))[j]? = some (ovr (es.zip fl) (j : Int)) := overL_at (by simpa using hjl)
      have hXl : (overL (m : Int) (es.zip fl)).length = m := by rw [overL_length]; simp
      have hYl : (overL (m : Int) (es.zip l)).length = m := by rw [overL_length]; simp
      have PF1 := fun W (h : NQ w w.heap.size (m : Int) (.slice va es.length vc) es [(.slice ra N rc, l), (.slice xa N xc, fl), (.slice (some ⟨g3, o3, none⟩) M yc, arcs)] W) => flows_any (m : Int) es fl W h.es (h.fl (.slice xa N xc, fl) (by simp))
      have PF2 := fun W (h : NQ w w.heap.size (m : Int) (.slice va es.length vc) es [(.slice ra N rc, l), (.slice xa N xc, fl), (.slice (some ⟨g3, o3, none⟩) M yc, arcs)] W) => flows_any (m : Int) es l W h.es (h.fl (.slice ra N rc, l) (by simp))
      have PC1 := fun W (h : NQ w w.heap.size (m : Int) (.slice va es.length vc) es [(.slice ra N rc, l), (.slice xa N xc, fl), (.slice (some ⟨g3, o3, none⟩) M yc, arcs)] W) => cost_any (m : Int) es fl W h.es (h.fl (.slice xa N xc, fl) (by simp))
      have PC2 := fun W (h : NQ w w.heap.size (m : Int) (.slice va es.length vc) es [(.slice ra N rc, l), (.slice xa N xc, fl), (.slice (some ⟨g3, o3, none⟩) M yc, arcs)] W) => cost_any (m : Int) es l W h.es (h.fl (.slice ra N rc, l) (by simp))
      unfold overP at PO PY
      simp only [if_pos hw, if_pos hwl, Int.toNat_natCast] at PO PY
      generalize overL (m : Int) (es.zip fl) = X at *
      generalize overL (m : Int) (es.zip l) = Y at *
      generalize ovr (es.zip fl) (i : Int) = xi at *
      generalize ovr (es.zip fl) (j : Int) = xj at *
      generalize costP (m : Int) es fl = C1 at *
      generalize costP (m : Int) es l = C2 at *
      generalize decide (FlowsP (m : Int) es fl) = B1 at *
      generalize decide (FlowsP (m : Int) es l) = B2 at *
      have HP := Lib.hid (And.intro PY (And.intro PF1 (And.intro PF2 (And.intro PC1 PC2))))
      obtain ⟨n0, n1⟩ := hq.net.net
      have HV := Lib.hid (And.intro hw (And.intro hwl (And.intro hmv (And.intro hcost (And.intro hfl (And.intro hbi (And.intro hbj (And.intro hXi (And.intro hXj (And.intro hXl (And.intro hYl (And.intro hil hjl))))))))))))
      have HQ := Lib.hid hq
      have hbu : b ≤ 4503599627370496 ∧ 0 ≤ b := ⟨hbb, hb0⟩
      clear hw hwl hmv hcost hfl hbi hbj hXi hXj hXl hYl hil hjl hq hge hk hz hb0 hj hll hbb hs ht hM hN hlN hb1 hb2 hi hjt hhd hlast hsm hlen PY PF1 PF2 PC1 PC2 HX HY HE hm40
      go_wp2_with fail
      refine PO.mono ?_
      rintro _ w5 ⟨rx, rfl, -, bl1, hx⟩
      obtain ⟨gx, rfl, cx, hgx⟩ := hx HV.out.1
      have P := HP.out.1 w5 bl1
      obtain ⟨n0, n1⟩ := (HQ.out.go bl1).net.net
      have HC := Lib.hid (And.intro bl1 (And.intro cx hgx))
      clear PO hx bl1 cx hgx
      go_wp2_with fail
      refine P.mono ?_
      rintro _ w6 ⟨ry, rfl, -, bl2, hy⟩
      obtain ⟨gy, rfl, cy, hgy⟩ := hy HV.out.2.1
      obtain ⟨bl1, cx, hgx⟩ := HC.out
      have hb6 := bl1.trans (bl2.mono bl1.size)
      have cx6 := cx.below bl2 cx.lt
      have hxy : gx ≠ gy := by have := cx.lt; omega
      obtain ⟨hw, hwl, hmv, hcost, hfl, hbi, hbj, hXi, hXj, hXl, hYl, hil, hjl⟩ := HV.out
      obtain ⟨n0, n1⟩ := (HQ.out.go hb6).net.net
      have x0 : w6.cell? ⟨gx, i, none⟩ = some (.int .i64 xi) := by rw [cx6.cell]; exact ivL_at hXi
      have fx := cx6.frozen i
      have hw1 : wrap64 (xi - b) = xi - b := by unfold wrap64; omega
      have hmm : ((m : Int) != (m : Int)) = false := by simp
      have hi0 : (0 : Int) ≤ (i : Int) := by omega
      have hj0 : (0 : Int) ≤ (j : Int) := by omega
      have him : (i : Int) < (m : Int) := by omega
      have hjm : (j : Int) < (m : Int) := by omega
      have HC2 := Lib.hid (And.intro hb6 (And.intro cx6 (And.intro cy (And.intro hxy (And.intro hgx hgy)))))
      clear P hy bl1 bl2 cx hgx hgy cy hb6 cx6 hxy HC hw hwl hmv hcost hfl hXi hXj hXl hYl hil hjl
      go_upto_region 21 with fail
      obtain ⟨hb6, cx6, cy, hxy, hgx, hgy⟩ := HC2.out
      obtain ⟨hw, hwl, hmv, hcost, hfl, hbi, hbj, hXi, hXj, hXl, hYl, hil, hjl⟩ := HV.out
      have cx7 := cx6.set i (.int .i64 (xi - b))
      rw [ivL_set] at cx7
      have hb7 := hb6.setCell (p := ⟨gx, i, none⟩) hgx (.int .i64 (xi - b))
      have cy7 := cy.kept (w' := w6.setCell ⟨gx, i, none⟩ (.int .i64 (xi - b))) (Below.heap_setCell _ _ _ _ (Ne.symm hxy))
      clear x0 fx hw1 HC2 hb6 cx6 cy n0 n1
      generalize w6.setCell ⟨gx, i, none⟩ (.int .i64 (xi - b)) = w7 at *
      obtain ⟨v, hv⟩ : ∃ v, v = if i = j then xi - b else xj := ⟨_, rfl⟩
      have hvj : (X.set i (xi - b))[j]? = some v := by
        rw [List.getElem?_set, hv]
        by_cases e : i = j
        · subst e
          rw [if_pos rfl, if_pos (by omega), if_pos rfl]
        · rw [if_neg e, if_neg e, hXj]
      have y0 : w7.cell? ⟨gx, j, none⟩ = some (.int .i64 v) := by rw [cx7.cell]; exact ivL_at hvj
      have fy := cx7.frozen j
      have hw2 : wrap64 (v + b) = v + b := by
        have : -900719925474099200 - 4503599627370496 ≤ v ∧ v ≤ 900719925474099200 := by
          rw [hv]
          split <;> omega
        unfold wrap64
        omega
      have cx8 := cx7.set j (.int .i64 (v + b))
      rw [ivL_set, hv, hmv, ← hv] at cx8
      have hb8 := hb7.setCell (p := ⟨gx, j, none⟩) hgx (.int .i64 (v + b))
      have cy8 := cy7.kept (w' := w7.setCell ⟨gx, j, none⟩ (.int .i64 (v + b))) (Below.heap_setCell _ _ _ _ (Ne.symm hxy))
      have h8 := ((HQ.out.go hb8).add (fs_of_cel cy8 (by have := hw.1.2.1; omega) hYl.symm)).add (fs_of_cel cx8 (by have := hw.1.2.1; omega) hYl.symm)
      have hij : i = j ∨ ((i : Int) != (j : Int)) = true := by
        by_cases e : i = j
        · exact .inl e
        · exact .inr (by simp; omega)
      have HV := Lib.hid (And.intro h8 (And.intro hij (And.intro hfl hcost)))
      clear cx7 hb7 cy7 hvj hv cx8 hb8 cy8 h8 hij hfl hcost hw hwl hmv hbi hbj hXi hXj hXl hYl hil hjl hxy hgx hgy
      go_upto_region 22 with fail
      clear y0 fy hw2
      generalize w7.setCell ⟨gx, j, none⟩ (.int .i64 (v + b)) = w8 at *
      obtain ⟨h8, hij, hfl, hcost⟩ := HV.out
      have hS0 := h8.go ((Below.refl w8.heap.size w8).drew)
      clear h8
      have HW := Lib.hid (show ∀ W, NQ w w.heap.size (m : Int) (.slice va es.length vc) es ((.slice (some ⟨gx, 0, none⟩) m m, Y) :: (.slice (some ⟨gy, 0, none⟩) m m, Y) :: [(.slice ra N rc, l), (.slice xa N xc, fl), (.slice (some ⟨g3, o3, none⟩) M yc, arcs)]) W → NQ w w.heap.size (m : Int) (.slice va es.length vc) es [(.slice ra N rc, l), (.slice xa N xc, fl), (.slice (some ⟨g3, o3, none⟩) M yc, arcs)] W from fun W h => ⟨h.under, h.net, h.es, fun p hp => h.fl p (List.mem_cons_of_mem _ (List.mem_cons_of_mem _ hp))⟩)
      have HX5 := Lib.hid (show ∀ W, NQ w w.heap.size (m : Int) (.slice va es.length vc) es ((.slice (some ⟨gx, 0, none⟩) m m, Y) :: (.slice (some ⟨gy, 0, none⟩) m m, Y) :: [(.slice ra N rc, l), (.slice xa N xc, fl), (.slice (some ⟨g3, o3, none⟩) M yc, arcs)]) W → W.cell? ⟨w.heap.size, 0, none⟩ = some (.int .i64 (m : Int)) ∧ W.cell? ⟨w.heap.size, 1, none⟩ = some (.slice va es.length vc) from fun W h => h.net.net)
      have HS5 := Lib.hid (show ∀ W, NQ w w.heap.size (m : Int) (.slice va es.length vc) es ((.slice (some ⟨gx, 0, none⟩) m m, Y) :: (.slice (some ⟨gy, 0, none⟩) m m, Y) :: [(.slice ra N rc, l), (.slice xa N xc, fl), (.slice (some ⟨g3, o3, none⟩) M yc, arcs)]) W → Calls Try.prog 19 #[.slice (some ⟨gx, 0, none⟩) m m, .slice (some ⟨gy, 0, none⟩) m m] W fun e w' => e = .returned (.bool true) ∧ Below W.heap.size W w' from fun W h => by
        have k := nsame_any Y Y W (h.fl (.slice (some ⟨gx, 0, none⟩) m m, Y) (by simp)) (h.fl (.slice (some ⟨gy, 0, none⟩) m m, Y) (by simp))
        rwa [decide_eq_true rfl] at k)
      have hkc : IntKind.i64.wrap (C1 + z) = C2 := by rw [IntWalk.i64_left]; exact hcost
      have hkd : wrap64 (C1 + z) = C2 := hcost
      refine region_till 99 (fun W => NQ w w.heap.size (m : Int) (.slice va es.length vc) es ((.slice (some ⟨gx, 0, none⟩) m m, Y) :: (.slice (some ⟨gy, 0, none⟩) m m, Y) :: [(.slice ra N rc, l), (.slice xa N xc, fl), (.slice (some ⟨g3, o3, none⟩) M yc, arcs)]) W) (by kernel_rfl) hS0 (fun hS => ?_)
      clear hS0
      skip
      refine take_till (i := 0) (some 156) (.slice (some ⟨gx, 0, none⟩) m m) rfl rfl (by kernel_rfl) (by kernel_rfl) (by kernel_rfl) (by kernel_rfl) (by decide) (fun _ _ _ h => h) (by rfl) (fun W hW => ?_) hS ?_
      · obtain ⟨x0, x1⟩ := HX5.out W hW
        clear hW
        go_simp
      simp only [Act.put, List.setIfInBounds_toArray, List.set_cons_zero, List.set_cons_succ]
      refine take_till (i := 1) (some 157) (.slice (some ⟨gy, 0, none⟩) m m) rfl rfl (by kernel_rfl) (by kernel_rfl) (by kernel_rfl) (by kernel_rfl) (by decide) (fun _ _ _ h => h) (by rfl) (fun W hW => ?_) hS ?_
      · obtain ⟨x0, x1⟩ := HX5.out W hW
        clear hW
        go_simp
      simp only [Act.put, List.setIfInBounds_toArray, List.set_cons_zero, List.set_cons_succ]
      refine next_till 2 (by kernel_rfl) rfl (fun K hK => ?_)
      go_simp
      refine (HS5.out _ hS).mono ?_
      rintro _ r1 ⟨rfl, bl⟩
      have hT := hS.go bl
      clear bl hS
      have hS := hT
      clear hT
      go_simp
      refine hK.out _ _ (fun _ => hS) ?_
      clear hK K
      refine take_till (i := 3) (some 159) (.bool false) rfl rfl (by kernel_rfl) (by kernel_rfl) (by kernel_rfl) (by kernel_rfl) (by decide) (fun _ _ _ h => h) (by rfl) (fun W hW => ?_) hS ?_
      · obtain ⟨x0, x1⟩ := HX5.out W hW
        clear hW
        go_simp
      simp only [Act.put, List.setIfInBounds_toArray, List.set_cons_zero, List.set_cons_succ]
      refine take_till (i := 4) (some 160) (.bool false) rfl rfl (by kernel_rfl) (by kernel_rfl) (by kernel_rfl) (by kernel_rfl) (by decide) (fun _ _ _ h => h) (by rfl) (fun W hW => ?_) hS ?_
      · obtain ⟨x0, x1⟩ := HX5.out W hW
        clear hW
        go_simp
      simp only [Act.put, List.setIfInBounds_toArray, List.set_cons_zero, List.set_cons_succ]
      refine take_till (i := 5) (some 161) (.agg #[.int .i64 (m : Int), .slice va es.length vc]) rfl rfl (by kernel_rfl) (by kernel_rfl) (by kernel_rfl) (by kernel_rfl) (by decide) (fun _ _ _ h => h) (by rfl) (fun W hW => ?_) hS ?_
      · obtain ⟨x0, x1⟩ := HX5.out W hW
        clear hW
        go_simp
      simp only [Act.put, List.setIfInBounds_toArray, List.set_cons_zero, List.set_cons_succ]
      refine take_till (i := 6) (some 162) (.slice ra N rc) rfl rfl (by kernel_rfl) (by kernel_rfl) (by kernel_rfl) (by kernel_rfl) (by decide) (fun _ _ _ h => h) (by rfl) (fun W hW => ?_) hS ?_
      · obtain ⟨x0, x1⟩ := HX5.out W hW
        clear hW
        go_simp
      simp only [Act.put, List.setIfInBounds_toArray, List.set_cons_zero, List.set_cons_succ]
      refine take_till (i := 8) (some 164) (.agg #[.int .i64 (m : Int), .slice va es.length vc]) rfl rfl (by kernel_rfl) (by kernel_rfl) (by kernel_rfl) (by kernel_rfl) (by decide) (fun _ _ _ h => h) (by rfl) (fun W hW => ?_) hS ?_
      · obtain ⟨x0, x1⟩ := HX5.out W hW
        clear hW
        go_simp
      simp only [Act.put, List.setIfInBounds_toArray, List.set_cons_zero, List.set_cons_succ]
      refine take_till (i := 9) (some 165) (.slice xa N xc) rfl rfl (by kernel_rfl) (by kernel_rfl) (by kernel_rfl) (by kernel_rfl) (by decide) (fun _ _ _ h => h) (by rfl) (fun W hW => ?_) hS ?_
      · obtain ⟨x0, x1⟩ := HX5.out W hW
        clear hW
        go_simp
      simp only [Act.put, List.setIfInBounds_toArray, List.set_cons_zero, List.set_cons_succ]
      refine take_till (i := 11) (some 167) (.int .i64 z) rfl rfl (by kernel_rfl) (by kernel_rfl) (by kernel_rfl) (by kernel_rfl) (by decide) (fun _ _ _ h => h) (by rfl) (fun W hW => ?_) hS ?_
      · obtain ⟨x0, x1⟩ := HX5.out W hW
        clear hW
        go_simp
      simp only [Act.put, List.setIfInBounds_toArray, List.set_cons_zero, List.set_cons_succ]
      refine next_till 7 (by kernel_rfl) rfl (fun K hK => ?_)
      go_simp
      refine (HP.out.2.2.2.2 _ (HW.out _ hS)).mono ?_
      rintro _ r2 ⟨rfl, bl⟩
      have hT := hS.go bl
      clear bl hS
      have hS := hT
      clear hT
      go_simp
      refine hK.out _ _ (fun _ => hS) ?_
      clear hK K
      refine next_till 10 (by kernel_rfl) rfl (fun K hK => ?_)
      go_simp
      refine (HP.out.2.2.2.1 _ (HW.out _ hS)).mono ?_
      rintro _ r3 ⟨rfl, bl⟩
      have hT := hS.go bl
      clear bl hS
      have hS := hT
      clear hT
      go_simp
      refine hK.out _ _ (fun _ => hS) ?_
      clear hK K
      refine take_till (i := 12) (some 168) (.int .i64 C2) rfl rfl (by kernel_rfl) (by kernel_rfl) (by kernel_rfl) (by kernel_rfl) (by decide) (fun _ _ _ h => h) (by rfl) (fun W hW => ?_) hS ?_
      · obtain ⟨x0, x1⟩ := HX5.out W hW
        clear hW
        go_simp
      simp only [Act.put, List.setIfInBounds_toArray, List.set_cons_zero, List.set_cons_succ]
      refine take_till (i := 13) (some 169) (.bool false) rfl rfl (by kernel_rfl) (by kernel_rfl) (by kernel_rfl) (by kernel_rfl) (by decide) (fun _ _ _ h => h) (by rfl) (fun W hW => ?_) hS ?_
      · obtain ⟨x0, x1⟩ := HX5.out W hW
        clear hW
        go_simp
      simp only [Act.put, List.setIfInBounds_toArray, List.set_cons_zero, List.set_cons_succ]
      refine take_till (i := 14) (some 170) (.bool false) rfl rfl (by kernel_rfl) (by kernel_rfl) (by kernel_rfl) (by kernel_rfl) (by decide) (fun _ _ _ h => h) (by rfl) (fun W hW => ?_) hS ?_
      · obtain ⟨x0, x1⟩ := HX5.out W hW
        clear hW
        go_simp
      simp only [Act.put, List.setIfInBounds_toArray, List.set_cons_zero, List.set_cons_succ]

      refine done_till (by kernel_rfl) ?_ _
      have HS := Lib.hid hS
      clear hS hkc hkd hcost
      go_upto_region 24 with fail
      have hS0 := HS.out.go ((Below.refl r3.heap.size r3).drew)
      rcases hij with rfl | hij
      · obtain rfl := hfl rfl
        refine region_till 99 (fun W => NQ w w.heap.size (m : Int) (.slice va es.length vc) es ((.slice (some ⟨gx, 0, none⟩) m m, Y) :: (.slice (some ⟨gy, 0, none⟩) m m, Y) :: [(.slice ra N rc, l), (.slice xa N xc, fl), (.slice (some ⟨g3, o3, none⟩) M yc, arcs)]) W) (by kernel_rfl) hS0 (fun hS => ?_)
        clear hS0
        skip
        refine take_till (i := 0) (some 171) (.int .i64 (i : Int)) rfl rfl (by kernel_rfl) (by kernel_rfl) (by kernel_rfl) (by kernel_rfl) (by decide) (fun _ _ _ h => h) (by rfl) (fun W hW => ?_) hS ?_
        · obtain ⟨x0, x1⟩ := HX5.out W hW
          clear hW
          go_simp
        simp only [Act.put, List.setIfInBounds_toArray, List.set_cons_zero, List.set_cons_succ]
        refine take_till (i := 1) (some 172) (.int .i64 (i : Int)) rfl rfl (by kernel_rfl) (by kernel_rfl) (by kernel_rfl) (by kernel_rfl) (by decide) (fun _ _ _ h => h) (by rfl) (fun W hW => ?_) hS ?_
        · obtain ⟨x0, x1⟩ := HX5.out W hW
          clear hW
          go_simp
        simp only [Act.put, List.setIfInBounds_toArray, List.set_cons_zero, List.set_cons_succ]
        refine take_till (i := 2) (some 173) (.bool false) rfl rfl (by kernel_rfl) (by kernel_rfl) (by kernel_rfl) (by kernel_rfl) (by decide) (fun _ _ _ h => h) (by rfl) (fun W hW => ?_) hS ?_
        · obtain ⟨x0, x1⟩ := HX5.out W hW
          clear hW
          go_simp
        simp only [Act.put, List.setIfInBounds_toArray, List.set_cons_zero, List.set_cons_succ]
        refine take_till (i := 3) (some 174) (.bool false) rfl rfl (by kernel_rfl) (by kernel_rfl) (by kernel_rfl) (by kernel_rfl) (by decide) (fun _ _ _ h => h) (by rfl) (fun W hW => ?_) hS ?_
        · obtain ⟨x0, x1⟩ := HX5.out W hW
          clear hW
          go_simp
        simp only [Act.put, List.setIfInBounds_toArray, List.set_cons_zero, List.set_cons_succ]
        refine take_till (i := 4) (some 175) (.agg #[.int .i64 (m : Int), .slice va es.length vc]) rfl rfl (by kernel_rfl) (by kernel_rfl) (by kernel_rfl) (by kernel_rfl) (by decide) (fun _ _ _ h => h) (by rfl) (fun W hW => ?_) hS ?_
        · obtain ⟨x0, x1⟩ := HX5.out W hW
          clear hW
          go_simp
        simp only [Act.put, List.setIfInBounds_toArray, List.set_cons_zero, List.set_cons_succ]
        refine take_till (i := 5) (some 176) (.slice ra N rc) rfl rfl (by kernel_rfl) (by kernel_rfl) (by kernel_rfl) (by kernel_rfl) (by decide) (fun _ _ _ h => h) (by rfl) (fun W hW => ?_) hS ?_
        · obtain ⟨x0, x1⟩ := HX5.out W hW
          clear hW
          go_simp
        simp only [Act.put, List.setIfInBounds_toArray, List.set_cons_zero, List.set_cons_succ]
        refine take_till (i := 7) (some 178) (.agg #[.int .i64 (m : Int), .slice va es.length vc]) rfl rfl (by kernel_rfl) (by kernel_rfl) (by kernel_rfl) (by kernel_rfl) (by decide) (fun _ _ _ h => h) (by rfl) (fun W hW => ?_) hS ?_
        · obtain ⟨x0, x1⟩ := HX5.out W hW
          clear hW
          go_simp
        simp only [Act.put, List.setIfInBounds_toArray, List.set_cons_zero, List.set_cons_succ]
        refine take_till (i := 8) (some 179) (.slice xa N xc) rfl rfl (by kernel_rfl) (by kernel_rfl) (by kernel_rfl) (by kernel_rfl) (by decide) (fun _ _ _ h => h) (by rfl) (fun W hW => ?_) hS ?_
        · obtain ⟨x0, x1⟩ := HX5.out W hW
          clear hW
          go_simp
        simp only [Act.put, List.setIfInBounds_toArray, List.set_cons_zero, List.set_cons_succ]
        refine next_till 6 (by kernel_rfl) rfl (fun K hK => ?_)
        go_simp
        refine (HP.out.2.2.1 _ (HW.out _ hS)).mono ?_
        rintro _ p1 ⟨rfl, bl⟩
        have hT := hS.go bl
        clear bl hS
        have hS := hT
        clear hT
        go_simp
        refine hK.out _ _ (fun _ => hS) ?_
        clear hK K
        refine next_till 9 (by kernel_rfl) rfl (fun K hK => ?_)
        go_simp
        refine (HP.out.2.1 _ (HW.out _ hS)).mono ?_
        rintro _ p2 ⟨rfl, bl⟩
        have hT := hS.go bl
        clear bl hS
        have hS := hT
        clear hT
        go_simp
        refine hK.out _ _ (fun _ => hS) ?_
        clear hK K
        refine take_till (i := 10) (some 181) (.bool true) rfl rfl (by kernel_rfl) (by kernel_rfl) (by kernel_rfl) (by kernel_rfl) (by decide) (fun _ _ _ h => h) (by rfl) (fun W hW => ?_) hS ?_
        · obtain ⟨x0, x1⟩ := HX5.out W hW
          clear hW
          go_simp
        simp only [Act.put, List.setIfInBounds_toArray, List.set_cons_zero, List.set_cons_succ]
        refine take_till (i := 11) (some 182) (.bool true) rfl rfl (by kernel_rfl) (by kernel_rfl) (by kernel_rfl) (by kernel_rfl) (by decide) (fun _ _ _ h => h) (by rfl) (fun W hW => ?_) hS ?_
        · obtain ⟨x0, x1⟩ := HX5.out W hW
          clear hW
          go_simp
        simp only [Act.put, List.setIfInBounds_toArray, List.set_cons_zero, List.set_cons_succ]
        refine take_till (i := 12) (some 183) (.bool true) rfl rfl (by kernel_rfl) (by kernel_rfl) (by kernel_rfl) (by kernel_rfl) (by decide) (fun _ _ _ h => h) (by rfl) (fun W hW => ?_) hS ?_
        · obtain ⟨x0, x1⟩ := HX5.out W hW
          clear hW
          go_simp
        simp only [Act.put, List.setIfInBounds_toArray, List.set_cons_zero, List.set_cons_succ]
        refine next_till 13 (by kernel_rfl) rfl (fun K hK => ?_)
        go_simp
        refine (works12_any _).mono ?_
        rintro _ p3 ⟨rfl, bl⟩
        have hT := hS.go bl
        clear bl hS
        have hS := hT
        clear hT
        go_simp
        refine hK.out _ _ (fun _ => hS) ?_
        clear hK K
        refine take_till (i := 14) (some 185) (.bool true) rfl rfl (by kernel_rfl) (by kernel_rfl) (by kernel_rfl) (by kernel_rfl) (by decide) (fun _ _ _ h => h) (by rfl) (fun W hW => ?_) hS ?_
        · obtain ⟨x0, x1⟩ := HX5.out W hW
          clear hW
          go_simp
        simp only [Act.put, List.setIfInBounds_toArray, List.set_cons_zero, List.set_cons_succ]
        refine take_till (i := 15) (some 8) (.bool true) rfl rfl (by kernel_rfl) (by kernel_rfl) (by kernel_rfl) (by kernel_rfl) (by decide) (fun _ _ _ h => h) (by rfl) (fun W hW => ?_) hS ?_
        · obtain ⟨x0, x1⟩ := HX5.out W hW
          clear hW
          go_simp
        simp only [Act.put, List.setIfInBounds_toArray, List.set_cons_zero, List.set_cons_succ]

        refine done_till (by kernel_rfl) ?_ _
        have HS := Lib.hid hS
        clear hS
        go_wp2
        go_ret
        exact ⟨rfl, HS.out.under⟩
      · refine region_till 99 (fun W => NQ w w.heap.size (m : Int) (.slice va es.length vc) es ((.slice (some ⟨gx, 0, none⟩) m m, Y) :: (.slice (some ⟨gy, 0, none⟩) m m, Y) :: [(.slice ra N rc, l), (.slice xa N xc, fl), (.slice (some ⟨g3, o3, none⟩) M yc, arcs)]) W) (by kernel_rfl) hS0 (fun hS => ?_)
        clear hS0
        skip
        refine take_till (i := 0) (some 171) (.int .i64 (i : Int)) rfl rfl (by kernel_rfl) (by kernel_rfl) (by kernel_rfl) (by kernel_rfl) (by decide) (fun _ _ _ h => h) (by rfl) (fun W hW => ?_) hS ?_
        · obtain ⟨x0, x1⟩ := HX5.out W hW
          clear hW
          go_simp
        simp only [Act.put, List.setIfInBounds_toArray, List.set_cons_zero, List.set_cons_succ]
        refine take_till (i := 1) (some 172) (.int .i64 (j : Int)) rfl rfl (by kernel_rfl) (by kernel_rfl) (by kernel_rfl) (by kernel_rfl) (by decide) (fun _ _ _ h => h) (by rfl) (fun W hW => ?_) hS ?_
        · obtain ⟨x0, x1⟩ := HX5.out W hW
          clear hW
          go_simp
        simp only [Act.put, List.setIfInBounds_toArray, List.set_cons_zero, List.set_cons_succ]
        refine take_till (i := 2) (some 173) (.bool true) rfl rfl (by kernel_rfl) (by kernel_rfl) (by kernel_rfl) (by kernel_rfl) (by decide) (fun _ _ _ h => h) (by rfl) (fun W hW => ?_) hS ?_
        · obtain ⟨x0, x1⟩ := HX5.out W hW
          clear hW
          go_simp
        simp only [Act.put, List.setIfInBounds_toArray, List.set_cons_zero, List.set_cons_succ]
        refine take_till (i := 3) (some 174) (.bool true) rfl rfl (by kernel_rfl) (by kernel_rfl) (by kernel_rfl) (by kernel_rfl) (by decide) (fun _ _ _ h => h) (by rfl) (fun W hW => ?_) hS ?_
        · obtain ⟨x0, x1⟩ := HX5.out W hW
          clear hW
          go_simp
        simp only [Act.put, List.setIfInBounds_toArray, List.set_cons_zero, List.set_cons_succ]
        refine skip_till (i := 4) (some 175) rfl rfl (by kernel_rfl) (by kernel_rfl) (by kernel_rfl) (by kernel_rfl) (by decide) (fun _ _ _ h => h) (by rfl) hS ?_
        simp only [Act.put, List.setIfInBounds_toArray, List.set_cons_zero, List.set_cons_succ]
        refine skip_till (i := 5) (some 176) rfl rfl (by kernel_rfl) (by kernel_rfl) (by kernel_rfl) (by kernel_rfl) (by decide) (fun _ _ _ h => h) (by rfl) hS ?_
        simp only [Act.put, List.setIfInBounds_toArray, List.set_cons_zero, List.set_cons_succ]
        refine skip_till (i := 7) (some 178) rfl rfl (by kernel_rfl) (by kernel_rfl) (by kernel_rfl) (by kernel_rfl) (by decide) (fun _ _ _ h => h) (by rfl) hS ?_
        simp only [Act.put, List.setIfInBounds_toArray, List.set_cons_zero, List.set_cons_succ]
        refine skip_till (i := 8) (some 179) rfl rfl (by kernel_rfl) (by kernel_rfl) (by kernel_rfl) (by kernel_rfl) (by decide) (fun _ _ _ h => h) (by rfl) hS ?_
        simp only [Act.put, List.setIfInBounds_toArray, List.set_cons_zero, List.set_cons_succ]
        refine skip_till (i := 6) (some 177) rfl rfl (by kernel_rfl) (by kernel_rfl) (by kernel_rfl) (by kernel_rfl) (by decide) (fun _ _ _ h => h) (by rfl) hS ?_
        simp only [Act.put, List.setIfInBounds_toArray, List.set_cons_zero, List.set_cons_succ]
        refine skip_till (i := 9) (some 180) rfl rfl (by kernel_rfl) (by kernel_rfl) (by kernel_rfl) (by kernel_rfl) (by decide) (fun _ _ _ h => h) (by rfl) hS ?_
        simp only [Act.put, List.setIfInBounds_toArray, List.set_cons_zero, List.set_cons_succ]
        refine skip_till (i := 10) (some 181) rfl rfl (by kernel_rfl) (by kernel_rfl) (by kernel_rfl) (by kernel_rfl) (by decide) (fun _ _ _ h => h) (by rfl) hS ?_
        simp only [Act.put, List.setIfInBounds_toArray, List.set_cons_zero, List.set_cons_succ]
        refine take_till (i := 11) (some 182) (.bool true) rfl rfl (by kernel_rfl) (by kernel_rfl) (by kernel_rfl) (by kernel_rfl) (by decide) (fun _ _ _ h => h) (by rfl) (fun W hW => ?_) hS ?_
        · obtain ⟨x0, x1⟩ := HX5.out W hW
          clear hW
          go_simp
        simp only [Act.put, List.setIfInBounds_toArray, List.set_cons_zero, List.set_cons_succ]
        refine take_till (i := 12) (some 183) (.bool true) rfl rfl (by kernel_rfl) (by kernel_rfl) (by kernel_rfl) (by kernel_rfl) (by decide) (fun _ _ _ h => h) (by rfl) (fun W hW => ?_) hS ?_
        · obtain ⟨x0, x1⟩ := HX5.out W hW
          clear hW
          go_simp
        simp only [Act.put, List.setIfInBounds_toArray, List.set_cons_zero, List.set_cons_succ]
        refine next_till 13 (by kernel_rfl) rfl (fun K hK => ?_)
        go_simp
        refine (works12_any _).mono ?_
        rintro _ q1 ⟨rfl, bl⟩
        have hT := hS.go bl
        clear bl hS
        have hS := hT
        clear hT
        go_simp
        refine hK.out _ _ (fun _ => hS) ?_
        clear hK K
        refine take_till (i := 14) (some 185) (.bool true) rfl rfl (by kernel_rfl) (by kernel_rfl) (by kernel_rfl) (by kernel_rfl) (by decide) (fun _ _ _ h => h) (by rfl) (fun W hW => ?_) hS ?_
        · obtain ⟨x0, x1⟩ := HX5.out W hW
          clear hW
          go_simp
        simp only [Act.put, List.setIfInBounds_toArray, List.set_cons_zero, List.set_cons_succ]
        refine take_till (i := 15) (some 8) (.bool true) rfl rfl (by kernel_rfl) (by kernel_rfl) (by kernel_rfl) (by kernel_rfl) (by decide) (fun _ _ _ h => h) (by rfl) (fun W hW => ?_) hS ?_
        · obtain ⟨x0, x1⟩ := HX5.out W hW
          clear hW
          go_simp
        simp only [Act.put, List.setIfInBounds_toArray, List.set_cons_zero, List.set_cons_succ]

        refine done_till (by kernel_rfl) ?_ _
        have HS := Lib.hid hS
        clear hS
        go_wp2
        go_ret
        exact ⟨rfl, HS.out.under⟩
end Go.Proofs.Ytohcoknnalgjnaa
