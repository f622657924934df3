/- The statement NetPlays: whether any net is right, and what any numbers are on it, as the document has it; no condition. -/
import Derived.Test.YtmdjgkclbjbdiaaNtRefC
namespace Go.Proofs.Ytmdjgkclbjbdiaa
open Go.RowKit

/-- What stands while NetPlays goes on. -/
def NP (w : World) (d : Nat) (n : Int) (v x xf xl : Value) (es : List Ed) (fl : List Int) (W : World) : Prop := NQ w w.heap.size n v es [(xl, fl), (xf, fl)] W ∧ NQ w d n x es [] W
theorem NP.go {w : World} {d : Nat} {n : Int} {v x xf xl : Value} {es : List Ed} {fl : List Int} {W W' : World} (h : NP w d n v x xf xl es fl W) (hb : Below W.heap.size W W') : NP w d n v x xf xl es fl W' := ⟨h.1.go hb, h.2.go hb⟩

set_option maxRecDepth 100000 in
set_option maxHeartbeats 8000000 in
theorem netPlays_any (n : Int) (w : World) {v x : Value} {es : List Ed} {fl : List Int} (he : Es w v es) (hf : Fs w x fl) : Calls Try.prog 3 #[netV n v, x] w fun e w' => e = .returned (.bool true) ∧ Below w.heap.size w w' := by
  obtain ⟨va, vc, rfl, -, -⟩ := he.shape
  obtain ⟨xa, xc, rfl, -, -⟩ := hf.shape
  have hK := NQ.box n he (fls := [(.slice xa fl.length xc, fl)]) (fun p hp => by rw [List.mem_singleton.1 hp]; exact hf)
  clear he hf
  obtain ⟨n0, n1⟩ := hK.net.net
  have P := vast_any n es fl _ hK.es (hK.fl (.slice xa fl.length xc, fl) (by simp))
  have HK := Lib.hid hK
  clear hK
  go_enter Try.func3, Try.ntmps3
  go_wp2_with fail
  generalize w.alloc (.cells #[.int .i64 n, .slice va es.length vc] 24) = w1 at *
  refine P.mono ?_
  rintro e w2 ⟨rfl, bl⟩
  have h2 := HK.out.go bl
  clear P HK bl n0 n1
  by_cases hv : 2000 < es.length ∨ 2000 < fl.length
  case pos =>
    rw [decide_eq_true hv]
    have HV := Lib.hid (And.intro hv h2)
    clear hv h2
    go_wp2_with fail
    refine (works_any w2).mono ?_
    rintro e w3 ⟨rfl, bl⟩
    go_wp2
    go_ret
    exact ⟨rfl, (HV.out.2.go bl).under⟩
  rw [decide_eq_false hv]
  have P := copy_any n es w2 h2.es (by omega)
  obtain ⟨n0, n1⟩ := h2.net.net
  have HK := Lib.hid h2
  have HV := Lib.hid hv
  clear hv h2
  go_wp2_with fail
  refine P.mono ?_
  rintro e w3 ⟨mx, rfl, hmx, bl⟩
  have h3 := HK.out.go bl
  obtain ⟨pa, pc, rfl, -, -⟩ := hmx.shape
  have hA := (Below.refl w3.heap.size w3).alloc (Nat.le_refl _) (.cells #[.int .i64 n, .slice pa es.length pc] 24)
  have h4 := h3.go hA
  have hd : NQ w w3.heap.size n (.slice pa es.length pc) es [] (w3.alloc (.cells #[.int .i64 n, .slice pa es.length pc] 24)) := ⟨h4.under, Cel.new _ _ _, hmx.below hA, fun _ h => by cases h⟩
  have P := copied_any fl _ (h4.fl (.slice xa fl.length xc, fl) (by simp)) (by have := HV.out; omega)
  have HK := Lib.hid (And.intro h4 hd)
  clear bl n0 n1 h3 h4 hd hA hmx
  go_wp2_with fail
  generalize w3.alloc (.cells #[.int .i64 n, .slice pa es.length pc] 24) = w4 at *
  generalize w3.heap.size = d at *
  refine P.mono ?_
  rintro e w5 ⟨g, cap, rfl, hrn, hcm, -, bl⟩
  have h5 : NP w d n (.slice va es.length vc) (.slice pa es.length pc) (.slice xa fl.length xc) (.slice (some ⟨g, 0, none⟩) fl.length cap) es fl w5 := ⟨(HK.out.1.go bl).add (hrn.fs hcm), HK.out.2.go bl⟩
  clear HK P bl hrn hcm
  have HX := Lib.hid (fun (W : World) (h : NP w d n (.slice va es.length vc) (.slice pa es.length pc) (.slice xa fl.length xc) (.slice (some ⟨g, 0, none⟩) fl.length cap) es fl W) => And.intro h.1.net.net h.2.net.net)
  have HP := Lib.hid (fun (W : World) (h : NP w d n (.slice va es.length vc) (.slice pa es.length pc) (.slice xa fl.length xc) (.slice (some ⟨g, 0, none⟩) fl.length cap) es fl W) =>
    have f1 := h.1.fl (.slice (some ⟨g, 0, none⟩) fl.length cap, fl) (by simp)
    have f2 := h.1.fl (.slice xa fl.length xc, fl) (by simp)
    And.intro (And.intro (right_any n es W h.2.es) (rright_any n es W h.1.es)) (And.intro (And.intro (within_any n es fl W h.2.es f1) (rwithin_any n es fl W h.1.es f2)) (And.intro (And.intro (flows_any n es fl W h.2.es f1) (rflows_any n es fl W h.1.es f2)) (And.intro (cost_any n es fl W h.2.es f1) (rcost_any n es fl W h.1.es f2)))))
  have HO := Lib.hid (fun (W : World) (h : NP w d n (.slice va es.length vc) (.slice pa es.length pc) (.slice xa fl.length xc) (.slice (some ⟨g, 0, none⟩) fl.length cap) es fl W) =>
    have f1 := h.1.fl (.slice (some ⟨g, 0, none⟩) fl.length cap, fl) (by simp)
    have f2 := h.1.fl (.slice xa fl.length xc, fl) (by simp)
    And.intro (And.intro (over_any n es fl W h.2.es f1) (rover_any n es fl W h.1.es f2)) (And.intro (samenet_any n es W h.2.es h.1.es) (show Calls Try.prog 21 #[.slice (some ⟨g, 0, none⟩) fl.length cap, .slice xa fl.length xc] W fun e w' => e = .returned (.bool true) ∧ Below W.heap.size W w' from by have h := nsame_any fl fl W f1 f2; rwa [decide_eq_true rfl] at h)))
  generalize decide (RightP n es) = B1 at *
  generalize decide (WithinP n es fl) = B2 at *
  generalize decide (FlowsP n es fl) = B3 at *
  generalize costP n es fl = C at *
  generalize overP n es fl = Z at *
  have hS0 : NP w d n (.slice va es.length vc) (.slice pa es.length pc) (.slice xa fl.length xc) (.slice (some ⟨g, 0, none⟩) fl.length cap) es fl w5.drew := h5.go ((Below.refl _ _).drew)
  have hq1 : (B1 != B1) = false := by simp
  have hq2 : (B2 != B2) = false := by simp
  have hq3 : (B3 != B3) = false := by simp
  have hq4 : (C != C) = false := by simp
  go_wp2
  refine region_till 99 (fun W => NP w d n (.slice va es.length vc) (.slice pa es.length pc) (.slice xa fl.length xc) (.slice (some ⟨g, 0, none⟩) fl.length cap) es fl W) (by kernel_rfl) hS0 (fun hS => ?_)
  clear h5 hS0
  skip
  refine take_till (i := 0) (some 15) (.agg #[.int .i64 n, .slice pa es.length pc]) rfl rfl (by kernel_rfl) (by kernel_rfl) (by kernel_rfl) (by kernel_rfl) (by decide) (fun _ _ _ h => h) (by rfl) (fun W hW => ?_) hS ?_
  · obtain ⟨⟨x0, x1⟩, ⟨y0, y1⟩⟩ := HX.out W hW
    clear hW
    go_simp
  simp only [Act.put, List.setIfInBounds_toArray, List.set_cons_zero, List.set_cons_succ]
  refine take_till (i := 2) (some 17) (.agg #[.int .i64 n, .slice va es.length vc]) rfl rfl (by kernel_rfl) (by kernel_rfl) (by kernel_rfl) (by kernel_rfl) (by decide) (fun _ _ _ h => h) (by rfl) (fun W hW => ?_) hS ?_
  · obtain ⟨⟨x0, x1⟩, ⟨y0, y1⟩⟩ := HX.out W hW
    clear hW
    go_simp
  simp only [Act.put, List.setIfInBounds_toArray, List.set_cons_zero, List.set_cons_succ]
  generalize w5.drew = wd at *
  refine next_till 1 (by kernel_rfl) rfl (fun K hK => ?_)
  go_simp
  refine (HP.out _ hS).1.1.mono ?_
  rintro e z1 ⟨rfl, bl⟩
  have hT := hS.go bl
  clear bl hS
  have hS := hT
  clear hT
  go_simp
  refine hK.out _ _ (fun _ => hS) ?_
  clear hK K
  refine next_till 3 (by kernel_rfl) rfl (fun K hK => ?_)
  go_simp
  refine (HP.out _ hS).1.2.mono ?_
  rintro e z2 ⟨rfl, bl⟩
  have hT := hS.go bl
  clear bl hS
  have hS := hT
  clear hT
  go_simp
  refine hK.out _ _ (fun _ => hS) ?_
  clear hK K
  refine next_till 4 (by kernel_rfl) rfl (fun K hK => ?_)
  go_simp
  refine hK.out _ _ (fun _ => hS) ?_
  clear hK K
  refine next_till 5 (by kernel_rfl) rfl (fun K hK => ?_)
  go_simp
  refine hK.out _ _ (fun _ => hS) ?_
  clear hK K
  refine take_till (i := 6) (some 21) (.agg #[.int .i64 n, .slice pa es.length pc]) rfl rfl (by kernel_rfl) (by kernel_rfl) (by kernel_rfl) (by kernel_rfl) (by decide) (fun _ _ _ h => h) (by rfl) (fun W hW => ?_) hS ?_
  · obtain ⟨⟨x0, x1⟩, ⟨y0, y1⟩⟩ := HX.out W hW
    clear hW
    go_simp
  simp only [Act.put, List.setIfInBounds_toArray, List.set_cons_zero, List.set_cons_succ]
  refine take_till (i := 7) (some 22) (.slice (some ⟨g, 0, none⟩) fl.length cap) rfl rfl (by kernel_rfl) (by kernel_rfl) (by kernel_rfl) (by kernel_rfl) (by decide) (fun _ _ _ h => h) (by rfl) (fun W hW => ?_) hS ?_
  · obtain ⟨⟨x0, x1⟩, ⟨y0, y1⟩⟩ := HX.out W hW
    clear hW
    go_simp
  simp only [Act.put, List.setIfInBounds_toArray, List.set_cons_zero, List.set_cons_succ]
  refine take_till (i := 9) (some 24) (.agg #[.int .i64 n, .slice va es.length vc]) rfl rfl (by kernel_rfl) (by kernel_rfl) (by kernel_rfl) (by kernel_rfl) (by decide) (fun _ _ _ h => h) (by rfl) (fun W hW => ?_) hS ?_
  · obtain ⟨⟨x0, x1⟩, ⟨y0, y1⟩⟩ := HX.out W hW
    clear hW
    go_simp
  simp only [Act.put, List.setIfInBounds_toArray, List.set_cons_zero, List.set_cons_succ]
  refine take_till (i := 10) (some 25) (.slice xa fl.length xc) rfl rfl (by kernel_rfl) (by kernel_rfl) (by kernel_rfl) (by kernel_rfl) (by decide) (fun _ _ _ h => h) (by rfl) (fun W hW => ?_) hS ?_
  · obtain ⟨⟨x0, x1⟩, ⟨y0, y1⟩⟩ := HX.out W hW
    clear hW
    go_simp
  simp only [Act.put, List.setIfInBounds_toArray, List.set_cons_zero, List.set_cons_succ]
  refine next_till 8 (by kernel_rfl) rfl (fun K hK => ?_)
  go_simp
  refine (HP.out _ hS).2.1.1.mono ?_
  rintro e z3 ⟨rfl, bl⟩
  have hT := hS.go bl
  clear bl hS
  have hS := hT
  clear hT
  go_simp
  refine hK.out _ _ (fun _ => hS) ?_
  clear hK K
  refine next_till 11 (by kernel_rfl) rfl (fun K hK => ?_)
  go_simp
  refine (HP.out _ hS).2.1.2.mono ?_
  rintro e z4 ⟨rfl, bl⟩
  have hT := hS.go bl
  clear bl hS
  have hS := hT
  clear hT
  go_simp
  refine hK.out _ _ (fun _ => hS) ?_
  clear hK K
  refine next_till 12 (by kernel_rfl) rfl (fun K hK => ?_)
  go_simp
  refine hK.out _ _ (fun _ => hS) ?_
  clear hK K
  refine next_till 13 (by kernel_rfl) rfl (fun K hK => ?_)
  go_simp
  refine hK.out _ _ (fun _ => hS) ?_
  clear hK K
  refine next_till 14 (by kernel_rfl) rfl (fun K hK => ?_)
  go_simp
  refine hK.out _ _ (fun _ => hS) ?_
  clear hK K
  refine take_till (i := 15) (some 30) (.agg #[.int .i64 n, .slice pa es.length pc]) rfl rfl (by kernel_rfl) (by kernel_rfl) (by kernel_rfl) (by kernel_rfl) (by decide) (fun _ _ _ h => h) (by rfl) (fun W hW => ?_) hS ?_
  · obtain ⟨⟨x0, x1⟩, ⟨y0, y1⟩⟩ := HX.out W hW
    clear hW
    go_simp
  simp only [Act.put, List.setIfInBounds_toArray, List.set_cons_zero, List.set_cons_succ]
  refine take_till (i := 16) (some 31) (.slice (some ⟨g, 0, none⟩) fl.length cap) rfl rfl (by kernel_rfl) (by kernel_rfl) (by kernel_rfl) (by kernel_rfl) (by decide) (fun _ _ _ h => h) (by rfl) (fun W hW => ?_) hS ?_
  · obtain ⟨⟨x0, x1⟩, ⟨y0, y1⟩⟩ := HX.out W hW
    clear hW
    go_simp
  simp only [Act.put, List.setIfInBounds_toArray, List.set_cons_zero, List.set_cons_succ]
  refine take_till (i := 18) (some 33) (.agg #[.int .i64 n, .slice va es.length vc]) rfl rfl (by kernel_rfl) (by kernel_rfl) (by kernel_rfl) (by kernel_rfl) (by decide) (fun _ _ _ h => h) (by rfl) (fun W hW => ?_) hS ?_
  · obtain ⟨⟨x0, x1⟩, ⟨y0, y1⟩⟩ := HX.out W hW
    clear hW
    go_simp
  simp only [Act.put, List.setIfInBounds_toArray, List.set_cons_zero, List.set_cons_succ]
  refine take_till (i := 19) (some 34) (.slice xa fl.length xc) rfl rfl (by kernel_rfl) (by kernel_rfl) (by kernel_rfl) (by kernel_rfl) (by decide) (fun _ _ _ h => h) (by rfl) (fun W hW => ?_) hS ?_
  · obtain ⟨⟨x0, x1⟩, ⟨y0, y1⟩⟩ := HX.out W hW
    clear hW
    go_simp
  simp only [Act.put, List.setIfInBounds_toArray, List.set_cons_zero, List.set_cons_succ]
  refine next_till 17 (by kernel_rfl) rfl (fun K hK => ?_)
  go_simp
  refine (HP.out _ hS).2.2.1.1.mono ?_
  rintro e z5 ⟨rfl, bl⟩
  have hT := hS.go bl
  clear bl hS
  have hS := hT
  clear hT
  go_simp
  refine hK.out _ _ (fun _ => hS) ?_
  clear hK K
  refine next_till 20 (by kernel_rfl) rfl (fun K hK => ?_)
  go_simp
  refine (HP.out _ hS).2.2.1.2.mono ?_
  rintro e z6 ⟨rfl, bl⟩
  have hT := hS.go bl
  clear bl hS
  have hS := hT
  clear hT
  go_simp
  refine hK.out _ _ (fun _ => hS) ?_
  clear hK K
  refine next_till 21 (by kernel_rfl) rfl (fun K hK => ?_)
  go_simp
  refine hK.out _ _ (fun _ => hS) ?_
  clear hK K
  refine next_till 22 (by kernel_rfl) rfl (fun K hK => ?_)
  go_simp
  refine hK.out _ _ (fun _ => hS) ?_
  clear hK K
  refine next_till 23 (by kernel_rfl) rfl (fun K hK => ?_)
  go_simp
  refine hK.out _ _ (fun _ => hS) ?_
  clear hK K
  refine take_till (i := 24) (some 39) (.agg #[.int .i64 n, .slice pa es.length pc]) rfl rfl (by kernel_rfl) (by kernel_rfl) (by kernel_rfl) (by kernel_rfl) (by decide) (fun _ _ _ h => h) (by rfl) (fun W hW => ?_) hS ?_
  · obtain ⟨⟨x0, x1⟩, ⟨y0, y1⟩⟩ := HX.out W hW
    clear hW
    go_simp
  simp only [Act.put, List.setIfInBounds_toArray, List.set_cons_zero, List.set_cons_succ]
  refine take_till (i := 25) (some 40) (.slice (some ⟨g, 0, none⟩) fl.length cap) rfl rfl (by kernel_rfl) (by kernel_rfl) (by kernel_rfl) (by kernel_rfl) (by decide) (fun _ _ _ h => h) (by rfl) (fun W hW => ?_) hS ?_
  · obtain ⟨⟨x0, x1⟩, ⟨y0, y1⟩⟩ := HX.out W hW
    clear hW
    go_simp
  simp only [Act.put, List.setIfInBounds_toArray, List.set_cons_zero, List.set_cons_succ]
  refine take_till (i := 27) (some 42) (.agg #[.int .i64 n, .slice va es.length vc]) rfl rfl (by kernel_rfl) (by kernel_rfl) (by kernel_rfl) (by kernel_rfl) (by decide) (fun _ _ _ h => h) (by rfl) (fun W hW => ?_) hS ?_
  · obtain ⟨⟨x0, x1⟩, ⟨y0, y1⟩⟩ := HX.out W hW
    clear hW
    go_simp
  simp only [Act.put, List.setIfInBounds_toArray, List.set_cons_zero, List.set_cons_succ]
  refine take_till (i := 28) (some 43) (.slice xa fl.length xc) rfl rfl (by kernel_rfl) (by kernel_rfl) (by kernel_rfl) (by kernel_rfl) (by decide) (fun _ _ _ h => h) (by rfl) (fun W hW => ?_) hS ?_
  · obtain ⟨⟨x0, x1⟩, ⟨y0, y1⟩⟩ := HX.out W hW
    clear hW
    go_simp
  simp only [Act.put, List.setIfInBounds_toArray, List.set_cons_zero, List.set_cons_succ]
  refine next_till 26 (by kernel_rfl) rfl (fun K hK => ?_)
  go_simp
  refine (HP.out _ hS).2.2.2.1.mono ?_
  rintro e z7 ⟨rfl, bl⟩
  have hT := hS.go bl
  clear bl hS
  have hS := hT
  clear hT
  go_simp
  refine hK.out _ _ (fun _ => hS) ?_
  clear hK K
  refine next_till 29 (by kernel_rfl) rfl (fun K hK => ?_)
  go_simp
  refine (HP.out _ hS).2.2.2.2.mono ?_
  rintro e z8 ⟨rfl, bl⟩
  have hT := hS.go bl
  clear bl hS
  have hS := hT
  clear hT
  go_simp
  refine hK.out _ _ (fun _ => hS) ?_
  clear hK K
  refine next_till 30 (by kernel_rfl) rfl (fun K hK => ?_)
  go_simp
  refine hK.out _ _ (fun _ => hS) ?_
  clear hK K
  refine next_till 31 (by kernel_rfl) rfl (fun K hK => ?_)
  go_simp
  refine hK.out _ _ (fun _ => hS) ?_
  clear hK K
  refine done_till (by kernel_rfl) ?_ _
  clear HP hq1 hq2 hq3 hq4
  go_wp2
  have hS0 := hS.go ((Below.refl z8.heap.size z8).drew)
  clear hS
  refine region_till 99 (fun W => NP w d n (.slice va es.length vc) (.slice pa es.length pc) (.slice xa fl.length xc) (.slice (some ⟨g, 0, none⟩) fl.length cap) es fl W) (by kernel_rfl) hS0 (fun hS => ?_)
  clear hS0
  skip
  refine take_till (i := 0) (some 47) (.agg #[.int .i64 n, .slice pa es.length pc]) rfl rfl (by kernel_rfl) (by kernel_rfl) (by kernel_rfl) (by kernel_rfl) (by decide) (fun _ _ _ h => h) (by rfl) (fun W hW => ?_) hS ?_
  · obtain ⟨⟨x0, x1⟩, ⟨y0, y1⟩⟩ := HX.out W hW
    clear hW
    go_simp
  simp only [Act.put, List.setIfInBounds_toArray, List.set_cons_zero, List.set_cons_succ]
  refine take_till (i := 1) (some 48) (.slice (some ⟨g, 0, none⟩) fl.length cap) rfl rfl (by kernel_rfl) (by kernel_rfl) (by kernel_rfl) (by kernel_rfl) (by decide) (fun _ _ _ h => h) (by rfl) (fun W hW => ?_) hS ?_
  · obtain ⟨⟨x0, x1⟩, ⟨y0, y1⟩⟩ := HX.out W hW
    clear hW
    go_simp
  simp only [Act.put, List.setIfInBounds_toArray, List.set_cons_zero, List.set_cons_succ]
  refine take_till (i := 3) (some 50) (.agg #[.int .i64 n, .slice va es.length vc]) rfl rfl (by kernel_rfl) (by kernel_rfl) (by kernel_rfl) (by kernel_rfl) (by decide) (fun _ _ _ h => h) (by rfl) (fun W hW => ?_) hS ?_
  · obtain ⟨⟨x0, x1⟩, ⟨y0, y1⟩⟩ := HX.out W hW
    clear hW
    go_simp
  simp only [Act.put, List.setIfInBounds_toArray, List.set_cons_zero, List.set_cons_succ]
  refine take_till (i := 4) (some 51) (.slice xa fl.length xc) rfl rfl (by kernel_rfl) (by kernel_rfl) (by kernel_rfl) (by kernel_rfl) (by decide) (fun _ _ _ h => h) (by rfl) (fun W hW => ?_) hS ?_
  · obtain ⟨⟨x0, x1⟩, ⟨y0, y1⟩⟩ := HX.out W hW
    clear hW
    go_simp
  simp only [Act.put, List.setIfInBounds_toArray, List.set_cons_zero, List.set_cons_succ]
  generalize z8.drew = we at *
  refine next_till 2 (by kernel_rfl) rfl (fun K hK => ?_)
  go_simp
  refine ((HO.out _ hS).1.1).mono ?_
  rintro e u1 ⟨r1, rfl, hr1, bl⟩
  have hT := hS.go bl
  clear bl hS
  have hS := hT
  clear hT
  go_simp
  refine hK.out _ _ (fun _ => hS) ?_
  clear hK K
  refine next_till 5 (by kernel_rfl) rfl (fun K hK => ?_)
  go_simp
  refine ((HO.out _ hS).1.2).mono ?_
  rintro e u2 ⟨r2, rfl, hr2, bl⟩
  have hT := hS.go bl
  have hr1 := hr1.below bl
  clear bl hS
  have hS := hT
  clear hT
  go_simp
  refine hK.out _ _ (fun _ => hS) ?_
  clear hK K
  obtain ⟨ra, rc, rfl, -, -⟩ := hr1.shape
  obtain ⟨sa, sc, rfl, -, -⟩ := hr2.shape
  have PS := nsame_any Z Z u2 hr1 hr2
  rw [decide_eq_true rfl] at PS
  refine next_till 6 (by kernel_rfl) rfl (fun K hK => ?_)
  go_simp
  refine (PS).mono ?_
  rintro e u3 ⟨rfl, bl⟩
  have hT := hS.go bl
  clear bl hS
  have hS := hT
  clear hT
  go_simp
  refine hK.out _ _ (fun _ => hS) ?_
  clear hK K
  clear PS hr1 hr2
  refine next_till 7 (by kernel_rfl) rfl (fun K hK => ?_)
  go_simp
  refine hK.out _ _ (fun _ => hS) ?_
  clear hK K
  refine take_till (i := 8) (some 55) (.agg #[.int .i64 n, .slice pa es.length pc]) rfl rfl (by kernel_rfl) (by kernel_rfl) (by kernel_rfl) (by kernel_rfl) (by decide) (fun _ _ _ h => h) (by rfl) (fun W hW => ?_) hS ?_
  · obtain ⟨⟨x0, x1⟩, ⟨y0, y1⟩⟩ := HX.out W hW
    clear hW
    go_simp
  simp only [Act.put, List.setIfInBounds_toArray, List.set_cons_zero, List.set_cons_succ]
  refine take_till (i := 9) (some 56) (.agg #[.int .i64 n, .slice va es.length vc]) rfl rfl (by kernel_rfl) (by kernel_rfl) (by kernel_rfl) (by kernel_rfl) (by decide) (fun _ _ _ h => h) (by rfl) (fun W hW => ?_) hS ?_
  · obtain ⟨⟨x0, x1⟩, ⟨y0, y1⟩⟩ := HX.out W hW
    clear hW
    go_simp
  simp only [Act.put, List.setIfInBounds_toArray, List.set_cons_zero, List.set_cons_succ]
  refine next_till 10 (by kernel_rfl) rfl (fun K hK => ?_)
  go_simp
  refine ((HO.out _ hS).2.1).mono ?_
  rintro e u4 ⟨rfl, bl⟩
  have hT := hS.go bl
  clear bl hS
  have hS := hT
  clear hT
  go_simp
  refine hK.out _ _ (fun _ => hS) ?_
  clear hK K
  refine next_till 11 (by kernel_rfl) rfl (fun K hK => ?_)
  go_simp
  refine hK.out _ _ (fun _ => hS) ?_
  clear hK K
  refine next_till 12 (by kernel_rfl) rfl (fun K hK => ?_)
  go_simp
  refine hK.out _ _ (fun _ => hS) ?_
  clear hK K
  refine take_till (i := 13) (some 60) (.slice (some ⟨g, 0, none⟩) fl.length cap) rfl rfl (by kernel_rfl) (by kernel_rfl) (by kernel_rfl) (by kernel_rfl) (by decide) (fun _ _ _ h => h) (by rfl) (fun W hW => ?_) hS ?_
  · obtain ⟨⟨x0, x1⟩, ⟨y0, y1⟩⟩ := HX.out W hW
    clear hW
    go_simp
  simp only [Act.put, List.setIfInBounds_toArray, List.set_cons_zero, List.set_cons_succ]
  refine take_till (i := 14) (some 61) (.slice xa fl.length xc) rfl rfl (by kernel_rfl) (by kernel_rfl) (by kernel_rfl) (by kernel_rfl) (by decide) (fun _ _ _ h => h) (by rfl) (fun W hW => ?_) hS ?_
  · obtain ⟨⟨x0, x1⟩, ⟨y0, y1⟩⟩ := HX.out W hW
    clear hW
    go_simp
  simp only [Act.put, List.setIfInBounds_toArray, List.set_cons_zero, List.set_cons_succ]
  have PS := (HO.out _ hS).2.2
  refine next_till 15 (by kernel_rfl) rfl (fun K hK => ?_)
  go_simp
  refine (PS).mono ?_
  rintro e u5 ⟨rfl, bl⟩
  have hT := hS.go bl
  clear bl hS
  have hS := hT
  clear hT
  go_simp
  refine hK.out _ _ (fun _ => hS) ?_
  clear hK K
  clear PS
  refine next_till 16 (by kernel_rfl) rfl (fun K hK => ?_)
  go_simp
  refine hK.out _ _ (fun _ => hS) ?_
  clear hK K
  refine next_till 17 (by kernel_rfl) rfl (fun K hK => ?_)
  go_simp
  refine hK.out _ _ (fun _ => hS) ?_
  clear hK K
  refine next_till 18 (by kernel_rfl) rfl (fun K hK => ?_)
  go_simp
  refine (works_any _).mono ?_
  rintro e u6 ⟨rfl, bl⟩
  have hT := hS.go bl
  clear bl hS
  have hS := hT
  clear hT
  go_simp
  refine hK.out _ _ (fun _ => hS) ?_
  clear hK K
  refine next_till 19 (by kernel_rfl) rfl (fun K hK => ?_)
  go_simp
  refine hK.out _ _ (fun _ => hS) ?_
  clear hK K
  refine next_till 20 (by kernel_rfl) rfl (fun K hK => ?_)
  go_simp
  refine hK.out _ _ (fun _ => hS) ?_
  clear hK K
  refine done_till (by kernel_rfl) ?_ _
  have HE := Lib.hid hS.1.under
  clear hS HO HX
  go_wp2
  go_ret
  exact ⟨rfl, HE.out⟩
end Go.Proofs.Ytmdjgkclbjbdiaa
