/- The statement RestPlays: each arc's ends and room, and what any push answers, is the document's; what is handed in stays; no condition. -/
import Derived.Test.YtohcoknnalgjnaaRsWorks
import Derived.Test.YtohcoknnalgjnaaRsRef2
import Derived.Test.YtohcoknnalgjnaaRsAlongP
namespace Go.Proofs.Ytohcoknnalgjnaa
open Go.RowKit

theorem Rn.lenb {w : World} {g cap : Nat} {l : List Int} (h : Rn w g cap l) : l.length ≤ 4294967296 := let ⟨_, _, h1, _⟩ := h; h1

/-- What stands while RestPlays goes on: the net, its copy, rows of numbers. -/
def PP (w : World) (d : Nat) (n : Int) (v x : Value) (es : List Ed) (fls : List (Value × List Int)) (W : World) : Prop := NQ w w.heap.size n v es fls W ∧ NQ w d n x es [] W
theorem PP.go {w : World} {d : Nat} {n : Int} {v x : Value} {es : List Ed} {fls : List (Value × List Int)} {W W' : World} (h : PP w d n v x es fls W) (hb : Below W.heap.size W W') : PP w d n v x es fls W' := ⟨h.1.go hb, h.2.go hb⟩

set_option maxRecDepth 100000 in
set_option maxHeartbeats 16000000 in
theorem restPlays_any (n a b : Int) (w : World) {v x : Value} {es : List Ed} {fl : List Int} (he : Es w v es) (hf : Fs w x fl) : Calls Try.prog 3 #[netV n v, x, .int .i64 a, .int .i64 b] w fun e w' => e = .returned (.bool true) ∧ Below w.heap.size w w' := by
  obtain ⟨va, vc, rfl, -, -⟩ := he.shape
  obtain ⟨xa, xc, rfl, -, -⟩ := hf.shape
  have hK := NQ.box n he (fls := [(.slice xa fl.length xc, fl)]) (fun p hp => by rw [List.mem_singleton.1 hp]; exact hf)
  clear he hf
  obtain ⟨n0, n1⟩ := hK.net.net
  have P := vast_any n es fl _ hK.es (hK.fl (.slice xa fl.length xc, fl) (by simp))
  have HK := Lib.hid hK
  clear hK
  go_enter Try.func3, Try.ntmps3
  go_wp2_with fail
  generalize w.alloc (.cells #[.int .i64 n, .slice va es.length vc] 24) = w1 at *
  refine P.mono ?_
  rintro e w2 ⟨rfl, bl⟩
  have h2 := HK.out.go bl
  clear P HK bl n0 n1
  by_cases hv : 2000 < es.length ∨ 2000 < fl.length
  case pos =>
    rw [decide_eq_true hv]
    have HV := Lib.hid (And.intro hv h2)
    clear hv h2
    go_wp2_with fail
    refine (works12_any w2).mono ?_
    rintro e w3 ⟨rfl, bl⟩
    go_wp2
    go_ret
    exact ⟨rfl, (HV.out.2.go bl).under⟩
  rw [decide_eq_false hv]
  have P := copy_any n es w2 h2.es (by omega)
  obtain ⟨n0, n1⟩ := h2.net.net
  have HK := Lib.hid h2
  have HV := Lib.hid hv
  clear hv h2
  go_wp2_with fail
  refine P.mono ?_
  rintro e w3 ⟨mx, rfl, hmx, bl⟩
  have h3 := HK.out.go bl
  obtain ⟨pa, pc, rfl, -, -⟩ := hmx.shape
  have hA := (Below.refl w3.heap.size w3).alloc (Nat.le_refl _) (.cells #[.int .i64 n, .slice pa es.length pc] 24)
  have h4 := h3.go hA
  have hd : NQ w w3.heap.size n (.slice pa es.length pc) es [] (w3.alloc (.cells #[.int .i64 n, .slice pa es.length pc] 24)) := ⟨h4.under, Cel.new _ _ _, hmx.below hA, fun _ h => by cases h⟩
  have P := copied12_any fl _ (h4.fl (.slice xa fl.length xc, fl) (by simp)) (by have := HV.out; omega)
  have HK := Lib.hid (And.intro h4 hd)
  clear bl n0 n1 h3 h4 hd hA hmx
  go_wp2_with fail
  generalize w3.alloc (.cells #[.int .i64 n, .slice pa es.length pc] 24) = w4 at *
  generalize w3.heap.size = d at *
  refine P.mono ?_
  rintro e w5 ⟨gl, cl, rfl, hrn, hcm, -, bl⟩
  obtain ⟨L, hL⟩ : ∃ L, L = es.length := ⟨_, rfl⟩
  obtain ⟨N, hN⟩ : ∃ N, N = fl.length := ⟨_, rfl⟩
  have h5 : PP w d n (.slice va es.length vc) (.slice pa es.length pc) es [(.slice (some ⟨gl, 0, none⟩) fl.length cl, fl), (.slice xa fl.length xc, fl)] w5 := ⟨(HK.out.1.go bl).add (hrn.fs hcm), HK.out.2.go bl⟩
  rw [← hL, ← hN] at h5
  have hL2 : L ≤ 2000 := by have := HV.out; omega
  rw [← hL, ← hN]
  have hLn : es.length ≤ 2000 := by omega
  have HX := Lib.hid (show ∀ W, PP w d n (.slice va L vc) (.slice pa L pc) es [(.slice (some ⟨gl, 0, none⟩) N cl, fl), (.slice xa N xc, fl)] W → (W.cell? ⟨w.heap.size, 0, none⟩ = some (.int .i64 n) ∧ W.cell? ⟨w.heap.size, 1, none⟩ = some (.slice va L vc)) ∧ W.cell? ⟨d, 0, none⟩ = some (.int .i64 n) ∧ W.cell? ⟨d, 1, none⟩ = some (.slice pa L pc) from fun W h => ⟨h.1.net.net, h.2.net.net⟩)
  have HP := Lib.hid (And.intro (fun K W (h : PP w d n (.slice va L vc) (.slice pa L pc) es [(.slice (some ⟨gl, 0, none⟩) N cl, fl), (.slice xa N xc, fl)] W) => ends_any n es K W h.2.es) (And.intro (fun K W (h : PP w d n (.slice va L vc) (.slice pa L pc) es [(.slice (some ⟨gl, 0, none⟩) N cl, fl), (.slice xa N xc, fl)] W) => rends_any n es K W h.1.es hLn) (And.intro (fun K W (h : PP w d n (.slice va L vc) (.slice pa L pc) es [(.slice (some ⟨gl, 0, none⟩) N cl, fl), (.slice xa N xc, fl)] W) => room_any n es fl K W h.2.es (h.1.fl (.slice (some ⟨gl, 0, none⟩) N cl, fl) (by simp))) (fun K W (h : PP w d n (.slice va L vc) (.slice pa L pc) es [(.slice (some ⟨gl, 0, none⟩) N cl, fl), (.slice xa N xc, fl)] W) => rroom_any n es fl K W h.1.es (h.1.fl (.slice xa N xc, fl) (by simp)) hLn))))
  have HQ := Lib.hid (And.intro (fun W (h : PP w d n (.slice va L vc) (.slice pa L pc) es [(.slice (some ⟨gl, 0, none⟩) N cl, fl), (.slice xa N xc, fl)] W) => push_any n es fl a b W h.2.es (h.1.fl (.slice (some ⟨gl, 0, none⟩) N cl, fl) (by simp))) (fun W (h : PP w d n (.slice va L vc) (.slice pa L pc) es [(.slice (some ⟨gl, 0, none⟩) N cl, fl), (.slice xa N xc, fl)] W) => rpush_any n es fl a b W h.1.es (h.1.fl (.slice xa N xc, fl) (by simp)) hLn))
  have HAB := Lib.hid (fun (h : ¬ (alongP n es fl [a] b).2 = 0) => along_bad h)
  generalize alongP n es fl [a] b = AR at *
  have HE := Lib.hid (And.intro (show ∀ W, PP w d n (.slice va L vc) (.slice pa L pc) es [(.slice (some ⟨gl, 0, none⟩) N cl, fl), (.slice xa N xc, fl)] W → Calls Try.prog 19 #[.slice (some ⟨gl, 0, none⟩) N cl, .slice xa N xc] W fun e w' => e = .returned (.bool true) ∧ Below W.heap.size W w' from fun W h => by
    have k := nsame_any fl fl W (h.1.fl (.slice (some ⟨gl, 0, none⟩) N cl, fl) (by simp)) (h.1.fl (.slice xa N xc, fl) (by simp))
    rwa [decide_eq_true rfl] at k) (fun W (h : PP w d n (.slice va L vc) (.slice pa L pc) es [(.slice (some ⟨gl, 0, none⟩) N cl, fl), (.slice xa N xc, fl)] W) => samenet_any n es W h.2.es h.1.es))
  have HK := Lib.hid h5
  have HN := Lib.hid hN
  clear P bl hrn hcm h5 hL hN hLn HV
  go_wp2
  go_loopw [11] (fun j wr => ∃ k : Nat, j = .int .i64 ((k : Int) - 1) ∧ k ≤ 122 ∧ PP w d n (.slice va L vc) (.slice pa L pc) es [(.slice (some ⟨gl, 0, none⟩) N cl, fl), (.slice xa N xc, fl)] wr) (fun j _ => (122 - intOf j).toNat)
  case atStart => exact ⟨0, rfl, by omega, HK.out⟩
  case round =>
    obtain ⟨k, rfl, hk, hq⟩ := hrel
    clear HK
    have hw2 : wrap64 (2 * (L : Int)) = 2 * (L : Int) := by unfold wrap64; omega
    by_cases h60 : (60 : Int) < (L : Int)
    · by_cases hkb : (k : Int) - 1 ≤ 120
      · obtain ⟨⟨n0, n1⟩, m0, m1⟩ := HX.out _ hq
        have hkb2 : (k : Int) - 1 ≤ 120 := by omega
        have hkw : wrap64 ((k : Int) - 1 + 1) = (k : Int) := by rw [show (k : Int) - 1 + 1 = (k : Int) by omega]; unfold wrap64; omega
        have hkw2 : wrap64 (k : Int) = (k : Int) := by unfold wrap64; omega
        obtain ⟨K, hK⟩ : ∃ K, K = if (k : Int) - 1 < 0 then a else (k : Int) - 1 := ⟨_, rfl⟩
        have HKK := Lib.hid hK
        have HKb := Lib.hid (And.intro hk hkb2)
        have HR := Lib.hid hq
        clear hq hk hkb2 hK
        go_upto_if 43 with fail
        go_cut [12] from 43 to 44 (fun s wx => s = .int .i64 K ∧ wx = wr)
        case first =>
          by_cases hk0 : (k : Int) - 1 < 0
          · have hKe : K = a := by rw [HKK.out, if_pos hk0]
            go_wp2
            go_meet
            exact ⟨by rw [hKe], rfl⟩
          · have hKe : K = (k : Int) - 1 := by rw [HKK.out, if_neg hk0]
            go_wp2
            go_meet
            exact ⟨by rw [hKe], rfl⟩
        case rest =>
        obtain ⟨rfl, rfl⟩ := hcut
        have h0 := HR.out
        have P := HP.out.1 K _ h0
        have PA := HP.out.2.1 K
        obtain ⟨EP, hEP⟩ : ∃ EP, EP = endsP n es K := ⟨_, rfl⟩
        rw [← hEP] at P PA
        have PB := HP.out.2.2.1 K
        have PC := HP.out.2.2.2 K
        obtain ⟨RP, hRP⟩ : ∃ RP, RP = roomP n es fl K := ⟨_, rfl⟩
        rw [← hRP] at PB PC
        obtain ⟨X, Y, C⟩ := EP
        have HPK := Lib.hid (And.intro PA (And.intro PB PC))
        obtain ⟨⟨n0, n1⟩, m0, m1⟩ := HX.out _ h0
        have HR := Lib.hid h0
        clear h0 hEP hRP PA PB PC
        go_wp2_with fail
        refine P.mono ?_
        rintro _ w6 ⟨rfl, bl⟩
        have h0 := HR.out.go bl
        have P := HPK.out.1 _ h0
        obtain ⟨⟨n0, n1⟩, m0, m1⟩ := HX.out _ h0
        have HR := Lib.hid h0
        clear h0 bl
        go_wp2_with fail
        refine P.mono ?_
        rintro _ w7 ⟨rfl, bl⟩
        have hS0 := (HR.out.go bl).go ((Below.refl w7.heap.size w7).drew)
        clear bl P HR n0 n1 m0 m1
        go_wp2
        refine region_till 99 (fun W => PP w d n (.slice va L vc) (.slice pa L pc) es [(.slice (some ⟨gl, 0, none⟩) N cl, fl), (.slice xa N xc, fl)] W) (by kernel_rfl) hS0 (fun hS => ?_)
        clear hS0
        skip
        refine take_till (i := 0) (some 59) (.int .i64 X) rfl rfl (by kernel_rfl) (by kernel_rfl) (by kernel_rfl) (by kernel_rfl) (by decide) (fun _ _ _ h => h) (by rfl) (fun W hW => ?_) hS ?_
        · obtain ⟨⟨x0, x1⟩, x2, x3⟩ := HX.out W hW
          clear hW
          go_simp
        simp only [Act.put, List.setIfInBounds_toArray, List.set_cons_zero, List.set_cons_succ]
        refine take_till (i := 1) (some 60) (.int .i64 X) rfl rfl (by kernel_rfl) (by kernel_rfl) (by kernel_rfl) (by kernel_rfl) (by decide) (fun _ _ _ h => h) (by rfl) (fun W hW => ?_) hS ?_
        · obtain ⟨⟨x0, x1⟩, x2, x3⟩ := HX.out W hW
          clear hW
          go_simp
        simp only [Act.put, List.setIfInBounds_toArray, List.set_cons_zero, List.set_cons_succ]
        refine take_till (i := 2) (some 61) (.bool false) rfl rfl (by kernel_rfl) (by kernel_rfl) (by kernel_rfl) (by kernel_rfl) (by decide) (fun _ _ _ h => h) (by rfl) (fun W hW => ?_) hS ?_
        · obtain ⟨⟨x0, x1⟩, x2, x3⟩ := HX.out W hW
          clear hW
          go_simp
        simp only [Act.put, List.setIfInBounds_toArray, List.set_cons_zero, List.set_cons_succ]
        refine take_till (i := 3) (some 62) (.bool false) rfl rfl (by kernel_rfl) (by kernel_rfl) (by kernel_rfl) (by kernel_rfl) (by decide) (fun _ _ _ h => h) (by rfl) (fun W hW => ?_) hS ?_
        · obtain ⟨⟨x0, x1⟩, x2, x3⟩ := HX.out W hW
          clear hW
          go_simp
        simp only [Act.put, List.setIfInBounds_toArray, List.set_cons_zero, List.set_cons_succ]
        refine take_till (i := 4) (some 63) (.int .i64 Y) rfl rfl (by kernel_rfl) (by kernel_rfl) (by kernel_rfl) (by kernel_rfl) (by decide) (fun _ _ _ h => h) (by rfl) (fun W hW => ?_) hS ?_
        · obtain ⟨⟨x0, x1⟩, x2, x3⟩ := HX.out W hW
          clear hW
          go_simp
        simp only [Act.put, List.setIfInBounds_toArray, List.set_cons_zero, List.set_cons_succ]
        refine take_till (i := 5) (some 64) (.int .i64 Y) rfl rfl (by kernel_rfl) (by kernel_rfl) (by kernel_rfl) (by kernel_rfl) (by decide) (fun _ _ _ h => h) (by rfl) (fun W hW => ?_) hS ?_
        · obtain ⟨⟨x0, x1⟩, x2, x3⟩ := HX.out W hW
          clear hW
          go_simp
        simp only [Act.put, List.setIfInBounds_toArray, List.set_cons_zero, List.set_cons_succ]
        refine take_till (i := 6) (some 65) (.bool false) rfl rfl (by kernel_rfl) (by kernel_rfl) (by kernel_rfl) (by kernel_rfl) (by decide) (fun _ _ _ h => h) (by rfl) (fun W hW => ?_) hS ?_
        · obtain ⟨⟨x0, x1⟩, x2, x3⟩ := HX.out W hW
          clear hW
          go_simp
        simp only [Act.put, List.setIfInBounds_toArray, List.set_cons_zero, List.set_cons_succ]
        refine take_till (i := 7) (some 66) (.bool false) rfl rfl (by kernel_rfl) (by kernel_rfl) (by kernel_rfl) (by kernel_rfl) (by decide) (fun _ _ _ h => h) (by rfl) (fun W hW => ?_) hS ?_
        · obtain ⟨⟨x0, x1⟩, x2, x3⟩ := HX.out W hW
          clear hW
          go_simp
        simp only [Act.put, List.setIfInBounds_toArray, List.set_cons_zero, List.set_cons_succ]
        refine take_till (i := 8) (some 67) (.bool false) rfl rfl (by kernel_rfl) (by kernel_rfl) (by kernel_rfl) (by kernel_rfl) (by decide) (fun _ _ _ h => h) (by rfl) (fun W hW => ?_) hS ?_
        · obtain ⟨⟨x0, x1⟩, x2, x3⟩ := HX.out W hW
          clear hW
          go_simp
        simp only [Act.put, List.setIfInBounds_toArray, List.set_cons_zero, List.set_cons_succ]
        refine take_till (i := 9) (some 68) (.int .i64 C) rfl rfl (by kernel_rfl) (by kernel_rfl) (by kernel_rfl) (by kernel_rfl) (by decide) (fun _ _ _ h => h) (by rfl) (fun W hW => ?_) hS ?_
        · obtain ⟨⟨x0, x1⟩, x2, x3⟩ := HX.out W hW
          clear hW
          go_simp
        simp only [Act.put, List.setIfInBounds_toArray, List.set_cons_zero, List.set_cons_succ]
        refine take_till (i := 10) (some 69) (.int .i64 C) rfl rfl (by kernel_rfl) (by kernel_rfl) (by kernel_rfl) (by kernel_rfl) (by decide) (fun _ _ _ h => h) (by rfl) (fun W hW => ?_) hS ?_
        · obtain ⟨⟨x0, x1⟩, x2, x3⟩ := HX.out W hW
          clear hW
          go_simp
        simp only [Act.put, List.setIfInBounds_toArray, List.set_cons_zero, List.set_cons_succ]
        refine take_till (i := 11) (some 70) (.bool false) rfl rfl (by kernel_rfl) (by kernel_rfl) (by kernel_rfl) (by kernel_rfl) (by decide) (fun _ _ _ h => h) (by rfl) (fun W hW => ?_) hS ?_
        · obtain ⟨⟨x0, x1⟩, x2, x3⟩ := HX.out W hW
          clear hW
          go_simp
        simp only [Act.put, List.setIfInBounds_toArray, List.set_cons_zero, List.set_cons_succ]
        refine take_till (i := 12) (some 71) (.bool false) rfl rfl (by kernel_rfl) (by kernel_rfl) (by kernel_rfl) (by kernel_rfl) (by decide) (fun _ _ _ h => h) (by rfl) (fun W hW => ?_) hS ?_
        · obtain ⟨⟨x0, x1⟩, x2, x3⟩ := HX.out W hW
          clear hW
          go_simp
        simp only [Act.put, List.setIfInBounds_toArray, List.set_cons_zero, List.set_cons_succ]
        refine take_till (i := 13) (some 72) (.bool false) rfl rfl (by kernel_rfl) (by kernel_rfl) (by kernel_rfl) (by kernel_rfl) (by decide) (fun _ _ _ h => h) (by rfl) (fun W hW => ?_) hS ?_
        · obtain ⟨⟨x0, x1⟩, x2, x3⟩ := HX.out W hW
          clear hW
          go_simp
        simp only [Act.put, List.setIfInBounds_toArray, List.set_cons_zero, List.set_cons_succ]
        refine take_till (i := 14) (some 73) (.agg #[.int .i64 n, .slice pa L pc]) rfl rfl (by kernel_rfl) (by kernel_rfl) (by kernel_rfl) (by kernel_rfl) (by decide) (fun _ _ _ h => h) (by rfl) (fun W hW => ?_) hS ?_
        · obtain ⟨⟨x0, x1⟩, x2, x3⟩ := HX.out W hW
          clear hW
          go_simp
        simp only [Act.put, List.setIfInBounds_toArray, List.set_cons_zero, List.set_cons_succ]
        refine take_till (i := 15) (some 74) (.slice (some ⟨gl, 0, none⟩) N cl) rfl rfl (by kernel_rfl) (by kernel_rfl) (by kernel_rfl) (by kernel_rfl) (by decide) (fun _ _ _ h => h) (by rfl) (fun W hW => ?_) hS ?_
        · obtain ⟨⟨x0, x1⟩, x2, x3⟩ := HX.out W hW
          clear hW
          go_simp
        simp only [Act.put, List.setIfInBounds_toArray, List.set_cons_zero, List.set_cons_succ]
        refine take_till (i := 16) (some 75) (.int .i64 K) rfl rfl (by kernel_rfl) (by kernel_rfl) (by kernel_rfl) (by kernel_rfl) (by decide) (fun _ _ _ h => h) (by rfl) (fun W hW => ?_) hS ?_
        · obtain ⟨⟨x0, x1⟩, x2, x3⟩ := HX.out W hW
          clear hW
          go_simp
        simp only [Act.put, List.setIfInBounds_toArray, List.set_cons_zero, List.set_cons_succ]
        refine take_till (i := 18) (some 77) (.agg #[.int .i64 n, .slice va L vc]) rfl rfl (by kernel_rfl) (by kernel_rfl) (by kernel_rfl) (by kernel_rfl) (by decide) (fun _ _ _ h => h) (by rfl) (fun W hW => ?_) hS ?_
        · obtain ⟨⟨x0, x1⟩, x2, x3⟩ := HX.out W hW
          clear hW
          go_simp
        simp only [Act.put, List.setIfInBounds_toArray, List.set_cons_zero, List.set_cons_succ]
        refine take_till (i := 19) (some 78) (.slice xa N xc) rfl rfl (by kernel_rfl) (by kernel_rfl) (by kernel_rfl) (by kernel_rfl) (by decide) (fun _ _ _ h => h) (by rfl) (fun W hW => ?_) hS ?_
        · obtain ⟨⟨x0, x1⟩, x2, x3⟩ := HX.out W hW
          clear hW
          go_simp
        simp only [Act.put, List.setIfInBounds_toArray, List.set_cons_zero, List.set_cons_succ]
        refine take_till (i := 20) (some 79) (.int .i64 K) rfl rfl (by kernel_rfl) (by kernel_rfl) (by kernel_rfl) (by kernel_rfl) (by decide) (fun _ _ _ h => h) (by rfl) (fun W hW => ?_) hS ?_
        · obtain ⟨⟨x0, x1⟩, x2, x3⟩ := HX.out W hW
          clear hW
          go_simp
        simp only [Act.put, List.setIfInBounds_toArray, List.set_cons_zero, List.set_cons_succ]
        refine next_till 17 (by kernel_rfl) rfl (fun K hK => ?_)
        go_simp
        refine (HPK.out.2.1 _ hS).mono ?_
        rintro _ a1 ⟨rfl, bl⟩
        have hT := hS.go bl
        clear bl hS
        have hS := hT
        clear hT
        go_simp
        refine hK.out _ _ (fun _ => hS) ?_
        clear hK K
        refine next_till 21 (by kernel_rfl) rfl (fun K hK => ?_)
        go_simp
        refine (HPK.out.2.2 _ hS).mono ?_
        rintro _ a2 ⟨rfl, bl⟩
        have hT := hS.go bl
        clear bl hS
        have hS := hT
        clear hT
        go_simp
        refine hK.out _ _ (fun _ => hS) ?_
        clear hK K
        refine take_till (i := 22) (some 81) (.bool false) rfl rfl (by kernel_rfl) (by kernel_rfl) (by kernel_rfl) (by kernel_rfl) (by decide) (fun _ _ _ h => h) (by rfl) (fun W hW => ?_) hS ?_
        · obtain ⟨⟨x0, x1⟩, x2, x3⟩ := HX.out W hW
          clear hW
          go_simp
        simp only [Act.put, List.setIfInBounds_toArray, List.set_cons_zero, List.set_cons_succ]
        refine take_till (i := 23) (some 82) (.bool false) rfl rfl (by kernel_rfl) (by kernel_rfl) (by kernel_rfl) (by kernel_rfl) (by decide) (fun _ _ _ h => h) (by rfl) (fun W hW => ?_) hS ?_
        · obtain ⟨⟨x0, x1⟩, x2, x3⟩ := HX.out W hW
          clear hW
          go_simp
        simp only [Act.put, List.setIfInBounds_toArray, List.set_cons_zero, List.set_cons_succ]

        refine done_till (by kernel_rfl) ?_ _
        have HR := Lib.hid hS
        clear hS
        go_wp2
        go_roundw
        case rel => exact ⟨k + 1, by congr 1; omega, by have := HKb.out; omega, HR.out⟩
        case measure =>
          have := HKb.out.2
          simp only [intOf]
          omega
      · obtain ⟨⟨n0, n1⟩, m0, m1⟩ := HX.out _ hq
        have P := HQ.out.1 _ hq
        have HR := Lib.hid hq
        clear hq hk
        go_wp2_with fail
        refine P.mono ?_
        rintro _ w6 ⟨r, rfl, hr, bl, hown⟩
        have h6 := HR.out.go bl
        have P := HQ.out.2 _ h6
        obtain ⟨⟨n0, n1⟩, m0, m1⟩ := HX.out _ h6
        by_cases hc : AR.2 = 0
        · obtain ⟨g, cap, rfl, hrn, hcm, hgw⟩ := hown hc
          have hlen : AR.1.length = N := by
            obtain ⟨a', c', e1, -, -⟩ := hr.shape
            simp only [Value.slice.injEq] at e1
            rw [HN.out]
            exact e1.2.1.symm
          rw [← HN.out] at hr ⊢
          have HB := Lib.hid (And.intro HR.out (And.intro bl (And.intro hrn (And.intro hgw hlen))))
          have HH := Lib.hid h6
          have HH2 := Lib.hid hr
          rw [hc] at P ⊢
          clear h6 bl hrn hgw hlen hr hown HR hcm hc
          go_wp2_with fail
          refine P.mono ?_
          rintro _ w7 ⟨rq, rfl, hrq, bl⟩
          have P := nsame_any AR.1 AR.1 w7 (HH2.out.below bl) hrq
          rw [decide_eq_true rfl] at P
          have HB2 := Lib.hid (And.intro (HB.out.2.1.trans (bl.mono HB.out.2.1.size)) (HB.out.2.2.1.below bl))
          clear HH HH2 bl hrq n0 n1 m0 m1
          go_wp2_with fail
          refine P.mono ?_
          rintro _ w8 ⟨rfl, bl⟩
          have HC := Lib.hid (And.intro (HB2.out.1.trans (bl.mono HB2.out.1.size)) (HB2.out.2.below bl))
          clear P bl HB2
          go_wp2
          go_loopw [23] (fun j wx => ∃ (i : Nat) (l : List Int), j = .int .i64 (i : Int) ∧ i ≤ N ∧ l.length = N ∧ Below wr.heap.size wr wx ∧ Rn wx g cap l) (fun j _ => N - (intOf j).toNat)
          case atStart => exact ⟨0, AR.1, rfl, Nat.zero_le _, HB.out.2.2.2.2, HC.out⟩
          case round =>
            obtain ⟨i, l, rfl, hi, hl, hbx, hrn⟩ := hrel
            clear HC
            rcases Nat.lt_or_ge i N with hlt | hge
            · obtain ⟨x, hx⟩ : ∃ x, l[i]? = some x := ⟨_, List.getElem?_eq_getElem (by omega)⟩
              have c0 := hrn.at hx
              have fr := hrn.frozen i
              have hrs := hrn.set (i := i) (by omega) (bits .xor .i64 x 1)
              have hbs := hbx.setCell (p := ⟨g, i, none⟩) HB.out.2.2.2.1 (.int .i64 (bits .xor .i64 x 1))
              have hki : (i : Int) < (N : Int) := by omega
              have hk1 : (i : Int) ≤ 9223372036854775806 := by have := hrn.lenb; omega
              have hk0 : (0 : Int) ≤ (i : Int) := by omega
              have HZ := Lib.hid (And.intro hlt (And.intro hbs (And.intro hrs (show (l.set i (bits .xor .i64 x 1)).length = N by rw [List.length_set]; exact hl))))
              clear hi hl hbx hrn hlt hx hrs hbs
              go_wp2
              go_roundw
              case rel => exact ⟨i + 1, _, by go_num, HZ.out.1, HZ.out.2.2.2, HZ.out.2.1, HZ.out.2.2.1⟩
              case measure =>
                have := HZ.out.1
                simp only [intOf]
                omega
            · obtain rfl : i = N := by omega
              have hki : ¬ (i : Int) < (i : Int) := by omega
              have h8 := HB.out.1.go hbx
              clear hi hl hbx hrn hge
              have P := HE.out.1 _ h8
              obtain ⟨⟨n0, n1⟩, m0, m1⟩ := HX.out _ h8
              have HR := Lib.hid h8
              clear h8
              go_wp2_with fail
              refine P.mono ?_
              rintro _ w9 ⟨rfl, bl⟩
              have h9 := HR.out.go bl
              have P := HE.out.2 _ h9
              obtain ⟨⟨n0, n1⟩, m0, m1⟩ := HX.out _ h9
              have HR := Lib.hid h9
              clear h9 bl
              go_wp2_with fail
              refine P.mono ?_
              rintro _ w10 ⟨rfl, bl⟩
              have h10 := HR.out.go bl
              have HR := Lib.hid h10.1
              clear h10 bl n0 n1 m0 m1 P
              go_wp2_with fail
              refine (works12_any _).mono ?_
              rintro _ w11 ⟨rfl, bl⟩
              go_wp2
              go_ret
              exact ⟨rfl, (HR.out.go bl).under⟩
        · rw [HAB.out hc] at hr
          obtain ⟨ra, rc, rfl, -, -⟩ := hr.shape
          have HH2 := Lib.hid hr
          have HH := Lib.hid h6
          rw [HAB.out hc] at P
          have hcc : (AR.2 != AR.2) = false := by simp
          generalize AR.2 = c at *
          clear h6 bl hown HR hr
          simp only [List.length_nil]
          go_wp2_with fail
          refine P.mono ?_
          rintro _ w7 ⟨rq, rfl, hrq, bl⟩
          have P := nsame_any [] [] w7 (HH2.out.below bl) hrq
          rw [decide_eq_true rfl] at P
          have HB2 := Lib.hid (HH.out.go bl)
          clear HH HH2 bl hrq n0 n1 m0 m1
          simp only [List.length_nil] at P
          go_wp2_with fail
          refine P.mono ?_
          rintro _ w8 ⟨rfl, bl⟩
          have HC := Lib.hid (HB2.out.go bl)
          have HD := Lib.hid hc
          clear P bl HB2 hc
          go_wp2
          go_loopw [23] (fun j wx => j = .int .i64 0 ∧ wx = w8) (fun _ _ => 0)
          case atStart => exact ⟨rfl, rfl⟩
          case round =>
            obtain ⟨rfl, rfl⟩ := hrel
            have h8 := HC.out
            clear HC
            have P := HE.out.1 _ h8
            obtain ⟨⟨n0, n1⟩, m0, m1⟩ := HX.out _ h8
            have HR := Lib.hid h8
            clear h8
            go_wp2_with fail
            refine P.mono ?_
            rintro _ w9 ⟨rfl, bl⟩
            have h9 := HR.out.go bl
            have P := HE.out.2 _ h9
            obtain ⟨⟨n0, n1⟩, m0, m1⟩ := HX.out _ h9
            have HR := Lib.hid h9
            clear h9 bl
            go_wp2_with fail
            refine P.mono ?_
            rintro _ w10 ⟨rfl, bl⟩
            have h10 := HR.out.go bl
            have HR := Lib.hid h10.1
            clear h10 bl n0 n1 m0 m1 P
            go_wp2_with fail
            refine (works12_any _).mono ?_
            rintro _ w11 ⟨rfl, bl⟩
            go_wp2
            go_ret
            exact ⟨rfl, (HR.out.go bl).under⟩
    · by_cases hkb : (k : Int) - 1 ≤ 2 * (L : Int)
      · obtain ⟨⟨n0, n1⟩, m0, m1⟩ := HX.out _ hq
        have hkb2 : (k : Int) - 1 ≤ 120 := by omega
        have hkw : wrap64 ((k : Int) - 1 + 1) = (k : Int) := by rw [show (k : Int) - 1 + 1 = (k : Int) by omega]; unfold wrap64; omega
        have hkw2 : wrap64 (k : Int) = (k : Int) := by unfold wrap64; omega
        obtain ⟨K, hK⟩ : ∃ K, K = if (k : Int) - 1 < 0 then a else (k : Int) - 1 := ⟨_, rfl⟩
        have HKK := Lib.hid hK
        have HKb := Lib.hid (And.intro hk hkb2)
        have HR := Lib.hid hq
        clear hq hk hkb2 hK
        go_upto_if 43 with fail
        go_cut [12] from 43 to 44 (fun s wx => s = .int .i64 K ∧ wx = wr)
        case first =>
          by_cases hk0 : (k : Int) - 1 < 0
          · have hKe : K = a := by rw [HKK.out, if_pos hk0]
            go_wp2
            go_meet
            exact ⟨by rw [hKe], rfl⟩
          · have hKe : K = (k : Int) - 1 := by rw [HKK.out, if_neg hk0]
            go_wp2
            go_meet
            exact ⟨by rw [hKe], rfl⟩
        case rest =>
        obtain ⟨rfl, rfl⟩ := hcut
        have h0 := HR.out
        have P := HP.out.1 K _ h0
        have PA := HP.out.2.1 K
        obtain ⟨EP, hEP⟩ : ∃ EP, EP = endsP n es K := ⟨_, rfl⟩
        rw [← hEP] at P PA
        have PB := HP.out.2.2.1 K
        have PC := HP.out.2.2.2 K
        obtain ⟨RP, hRP⟩ : ∃ RP, RP = roomP n es fl K := ⟨_, rfl⟩
        rw [← hRP] at PB PC
        obtain ⟨X, Y, C⟩ := EP
        have HPK := Lib.hid (And.intro PA (And.intro PB PC))
        obtain ⟨⟨n0, n1⟩, m0, m1⟩ := HX.out _ h0
        have HR := Lib.hid h0
        clear h0 hEP hRP PA PB PC
        go_wp2_with fail
        refine P.mono ?_
        rintro _ w6 ⟨rfl, bl⟩
        have h0 := HR.out.go bl
        have P := HPK.out.1 _ h0
        obtain ⟨⟨n0, n1⟩, m0, m1⟩ := HX.out _ h0
        have HR := Lib.hid h0
        clear h0 bl
        go_wp2_with fail
        refine P.mono ?_
        rintro _ w7 ⟨rfl, bl⟩
        have hS0 := (HR.out.go bl).go ((Below.refl w7.heap.size w7).drew)
        clear bl P HR n0 n1 m0 m1
        go_wp2
        refine region_till 99 (fun W => PP w d n (.slice va L vc) (.slice pa L pc) es [(.slice (some ⟨gl, 0, none⟩) N cl, fl), (.slice xa N xc, fl)] W) (by kernel_rfl) hS0 (fun hS => ?_)
        clear hS0
        skip
        refine take_till (i := 0) (some 59) (.int .i64 X) rfl rfl (by kernel_rfl) (by kernel_rfl) (by kernel_rfl) (by kernel_rfl) (by decide) (fun _ _ _ h => h) (by rfl) (fun W hW => ?_) hS ?_
        · obtain ⟨⟨x0, x1⟩, x2, x3⟩ := HX.out W hW
          clear hW
          go_simp
        simp only [Act.put, List.setIfInBounds_toArray, List.set_cons_zero, List.set_cons_succ]
        refine take_till (i := 1) (some 60) (.int .i64 X) rfl rfl (by kernel_rfl) (by kernel_rfl) (by kernel_rfl) (by kernel_rfl) (by decide) (fun _ _ _ h => h) (by rfl) (fun W hW => ?_) hS ?_
        · obtain ⟨⟨x0, x1⟩, x2, x3⟩ := HX.out W hW
          clear hW
          go_simp
        simp only [Act.put, List.setIfInBounds_toArray, List.set_cons_zero, List.set_cons_succ]
        refine take_till (i := 2) (some 61) (.bool false) rfl rfl (by kernel_rfl) (by kernel_rfl) (by kernel_rfl) (by kernel_rfl) (by decide) (fun _ _ _ h => h) (by rfl) (fun W hW => ?_) hS ?_
        · obtain ⟨⟨x0, x1⟩, x2, x3⟩ := HX.out W hW
          clear hW
          go_simp
        simp only [Act.put, List.setIfInBounds_toArray, List.set_cons_zero, List.set_cons_succ]
        refine take_till (i := 3) (some 62) (.bool false) rfl rfl (by kernel_rfl) (by kernel_rfl) (by kernel_rfl) (by kernel_rfl) (by decide) (fun _ _ _ h => h) (by rfl) (fun W hW => ?_) hS ?_
        · obtain ⟨⟨x0, x1⟩, x2, x3⟩ := HX.out W hW
          clear hW
          go_simp
        simp only [Act.put, List.setIfInBounds_toArray, List.set_cons_zero, List.set_cons_succ]
        refine take_till (i := 4) (some 63) (.int .i64 Y) rfl rfl (by kernel_rfl) (by kernel_rfl) (by kernel_rfl) (by kernel_rfl) (by decide) (fun _ _ _ h => h) (by rfl) (fun W hW => ?_) hS ?_
        · obtain ⟨⟨x0, x1⟩, x2, x3⟩ := HX.out W hW
          clear hW
          go_simp
        simp only [Act.put, List.setIfInBounds_toArray, List.set_cons_zero, List.set_cons_succ]
        refine take_till (i := 5) (some 64) (.int .i64 Y) rfl rfl (by kernel_rfl) (by kernel_rfl) (by kernel_rfl) (by kernel_rfl) (by decide) (fun _ _ _ h => h) (by rfl) (fun W hW => ?_) hS ?_
        · obtain ⟨⟨x0, x1⟩, x2, x3⟩ := HX.out W hW
          clear hW
          go_simp
        simp only [Act.put, List.setIfInBounds_toArray, List.set_cons_zero, List.set_cons_succ]
        refine take_till (i := 6) (some 65) (.bool false) rfl rfl (by kernel_rfl) (by kernel_rfl) (by kernel_rfl) (by kernel_rfl) (by decide) (fun _ _ _ h => h) (by rfl) (fun W hW => ?_) hS ?_
        · obtain ⟨⟨x0, x1⟩, x2, x3⟩ := HX.out W hW
          clear hW
          go_simp
        simp only [Act.put, List.setIfInBounds_toArray, List.set_cons_zero, List.set_cons_succ]
        refine take_till (i := 7) (some 66) (.bool false) rfl rfl (by kernel_rfl) (by kernel_rfl) (by kernel_rfl) (by kernel_rfl) (by decide) (fun _ _ _ h => h) (by rfl) (fun W hW => ?_) hS ?_
        · obtain ⟨⟨x0, x1⟩, x2, x3⟩ := HX.out W hW
          clear hW
          go_simp
        simp only [Act.put, List.setIfInBounds_toArray, List.set_cons_zero, List.set_cons_succ]
        refine take_till (i := 8) (some 67) (.bool false) rfl rfl (by kernel_rfl) (by kernel_rfl) (by kernel_rfl) (by kernel_rfl) (by decide) (fun _ _ _ h => h) (by rfl) (fun W hW => ?_) hS ?_
        · obtain ⟨⟨x0, x1⟩, x2, x3⟩ := HX.out W hW
          clear hW
          go_simp
        simp only [Act.put, List.setIfInBounds_toArray, List.set_cons_zero, List.set_cons_succ]
        refine take_till (i := 9) (some 68) (.int .i64 C) rfl rfl (by kernel_rfl) (by kernel_rfl) (by kernel_rfl) (by kernel_rfl) (by decide) (fun _ _ _ h => h) (by rfl) (fun W hW => ?_) hS ?_
        · obtain ⟨⟨x0, x1⟩, x2, x3⟩ := HX.out W hW
          clear hW
          go_simp
        simp only [Act.put, List.setIfInBounds_toArray, List.set_cons_zero, List.set_cons_succ]
        refine take_till (i := 10) (some 69) (.int .i64 C) rfl rfl (by kernel_rfl) (by kernel_rfl) (by kernel_rfl) (by kernel_rfl) (by decide) (fun _ _ _ h => h) (by rfl) (fun W hW => ?_) hS ?_
        · obtain ⟨⟨x0, x1⟩, x2, x3⟩ := HX.out W hW
          clear hW
          go_simp
        simp only [Act.put, List.setIfInBounds_toArray, List.set_cons_zero, List.set_cons_succ]
        refine take_till (i := 11) (some 70) (.bool false) rfl rfl (by kernel_rfl) (by kernel_rfl) (by kernel_rfl) (by kernel_rfl) (by decide) (fun _ _ _ h => h) (by rfl) (fun W hW => ?_) hS ?_
        · obtain ⟨⟨x0, x1⟩, x2, x3⟩ := HX.out W hW
          clear hW
          go_simp
        simp only [Act.put, List.setIfInBounds_toArray, List.set_cons_zero, List.set_cons_succ]
        refine take_till (i := 12) (some 71) (.bool false) rfl rfl (by kernel_rfl) (by kernel_rfl) (by kernel_rfl) (by kernel_rfl) (by decide) (fun _ _ _ h => h) (by rfl) (fun W hW => ?_) hS ?_
        · obtain ⟨⟨x0, x1⟩, x2, x3⟩ := HX.out W hW
          clear hW
          go_simp
        simp only [Act.put, List.setIfInBounds_toArray, List.set_cons_zero, List.set_cons_succ]
        refine take_till (i := 13) (some 72) (.bool false) rfl rfl (by kernel_rfl) (by kernel_rfl) (by kernel_rfl) (by kernel_rfl) (by decide) (fun _ _ _ h => h) (by rfl) (fun W hW => ?_) hS ?_
        · obtain ⟨⟨x0, x1⟩, x2, x3⟩ := HX.out W hW
          clear hW
          go_simp
        simp only [Act.put, List.setIfInBounds_toArray, List.set_cons_zero, List.set_cons_succ]
        refine take_till (i := 14) (some 73) (.agg #[.int .i64 n, .slice pa L pc]) rfl rfl (by kernel_rfl) (by kernel_rfl) (by kernel_rfl) (by kernel_rfl) (by decide) (fun _ _ _ h => h) (by rfl) (fun W hW => ?_) hS ?_
        · obtain ⟨⟨x0, x1⟩, x2, x3⟩ := HX.out W hW
          clear hW
          go_simp
        simp only [Act.put, List.setIfInBounds_toArray, List.set_cons_zero, List.set_cons_succ]
        refine take_till (i := 15) (some 74) (.slice (some ⟨gl, 0, none⟩) N cl) rfl rfl (by kernel_rfl) (by kernel_rfl) (by kernel_rfl) (by kernel_rfl) (by decide) (fun _ _ _ h => h) (by rfl) (fun W hW => ?_) hS ?_
        · obtain ⟨⟨x0, x1⟩, x2, x3⟩ := HX.out W hW
          clear hW
          go_simp
        simp only [Act.put, List.setIfInBounds_toArray, List.set_cons_zero, List.set_cons_succ]
        refine take_till (i := 16) (some 75) (.int .i64 K) rfl rfl (by kernel_rfl) (by kernel_rfl) (by kernel_rfl) (by kernel_rfl) (by decide) (fun _ _ _ h => h) (by rfl) (fun W hW => ?_) hS ?_
        · obtain ⟨⟨x0, x1⟩, x2, x3⟩ := HX.out W hW
          clear hW
          go_simp
        simp only [Act.put, List.setIfInBounds_toArray, List.set_cons_zero, List.set_cons_succ]
        refine take_till (i := 18) (some 77) (.agg #[.int .i64 n, .slice va L vc]) rfl rfl (by kernel_rfl) (by kernel_rfl) (by kernel_rfl) (by kernel_rfl) (by decide) (fun _ _ _ h => h) (by rfl) (fun W hW => ?_) hS ?_
        · obtain ⟨⟨x0, x1⟩, x2, x3⟩ := HX.out W hW
          clear hW
          go_simp
        simp only [Act.put, List.setIfInBounds_toArray, List.set_cons_zero, List.set_cons_succ]
        refine take_till (i := 19) (some 78) (.slice xa N xc) rfl rfl (by kernel_rfl) (by kernel_rfl) (by kernel_rfl) (by kernel_rfl) (by decide) (fun _ _ _ h => h) (by rfl) (fun W hW => ?_) hS ?_
        · obtain ⟨⟨x0, x1⟩, x2, x3⟩ := HX.out W hW
          clear hW
          go_simp
        simp only [Act.put, List.setIfInBounds_toArray, List.set_cons_zero, List.set_cons_succ]
        refine take_till (i := 20) (some 79) (.int .i64 K) rfl rfl (by kernel_rfl) (by kernel_rfl) (by kernel_rfl) (by kernel_rfl) (by decide) (fun _ _ _ h => h) (by rfl) (fun W hW => ?_) hS ?_
        · obtain ⟨⟨x0, x1⟩, x2, x3⟩ := HX.out W hW
          clear hW
          go_simp
        simp only [Act.put, List.setIfInBounds_toArray, List.set_cons_zero, List.set_cons_succ]
        refine next_till 17 (by kernel_rfl) rfl (fun K hK => ?_)
        go_simp
        refine (HPK.out.2.1 _ hS).mono ?_
        rintro _ a1 ⟨rfl, bl⟩
        have hT := hS.go bl
        clear bl hS
        have hS := hT
        clear hT
        go_simp
        refine hK.out _ _ (fun _ => hS) ?_
        clear hK K
        refine next_till 21 (by kernel_rfl) rfl (fun K hK => ?_)
        go_simp
        refine (HPK.out.2.2 _ hS).mono ?_
        rintro _ a2 ⟨rfl, bl⟩
        have hT := hS.go bl
        clear bl hS
        have hS := hT
        clear hT
        go_simp
        refine hK.out _ _ (fun _ => hS) ?_
        clear hK K
        refine take_till (i := 22) (some 81) (.bool false) rfl rfl (by kernel_rfl) (by kernel_rfl) (by kernel_rfl) (by kernel_rfl) (by decide) (fun _ _ _ h => h) (by rfl) (fun W hW => ?_) hS ?_
        · obtain ⟨⟨x0, x1⟩, x2, x3⟩ := HX.out W hW
          clear hW
          go_simp
        simp only [Act.put, List.setIfInBounds_toArray, List.set_cons_zero, List.set_cons_succ]
        refine take_till (i := 23) (some 82) (.bool false) rfl rfl (by kernel_rfl) (by kernel_rfl) (by kernel_rfl) (by kernel_rfl) (by decide) (fun _ _ _ h => h) (by rfl) (fun W hW => ?_) hS ?_
        · obtain ⟨⟨x0, x1⟩, x2, x3⟩ := HX.out W hW
          clear hW
          go_simp
        simp only [Act.put, List.setIfInBounds_toArray, List.set_cons_zero, List.set_cons_succ]

        refine done_till (by kernel_rfl) ?_ _
        have HR := Lib.hid hS
        clear hS
        go_wp2
        go_roundw
        case rel => exact ⟨k + 1, by congr 1; omega, by have := HKb.out; omega, HR.out⟩
        case measure =>
          have := HKb.out.2
          simp only [intOf]
          omega
      · obtain ⟨⟨n0, n1⟩, m0, m1⟩ := HX.out _ hq
        have P := HQ.out.1 _ hq
        have HR := Lib.hid hq
        clear hq hk
        go_wp2_with fail
        refine P.mono ?_
        rintro _ w6 ⟨r, rfl, hr, bl, hown⟩
        have h6 := HR.out.go bl
        have P := HQ.out.2 _ h6
        obtain ⟨⟨n0, n1⟩, m0, m1⟩ := HX.out _ h6
        by_cases hc : AR.2 = 0
        · obtain ⟨g, cap, rfl, hrn, hcm, hgw⟩ := hown hc
          have hlen : AR.1.length = N := by
            obtain ⟨a', c', e1, -, -⟩ := hr.shape
            simp only [Value.slice.injEq] at e1
            rw [HN.out]
            exact e1.2.1.symm
          rw [← HN.out] at hr ⊢
          have HB := Lib.hid (And.intro HR.out (And.intro bl (And.intro hrn (And.intro hgw hlen))))
          have HH := Lib.hid h6
          have HH2 := Lib.hid hr
          rw [hc] at P ⊢
          clear h6 bl hrn hgw hlen hr hown HR hcm hc
          go_wp2_with fail
          refine P.mono ?_
          rintro _ w7 ⟨rq, rfl, hrq, bl⟩
          have P := nsame_any AR.1 AR.1 w7 (HH2.out.below bl) hrq
          rw [decide_eq_true rfl] at P
          have HB2 := Lib.hid (And.intro (HB.out.2.1.trans (bl.mono HB.out.2.1.size)) (HB.out.2.2.1.below bl))
          clear HH HH2 bl hrq n0 n1 m0 m1
          go_wp2_with fail
          refine P.mono ?_
          rintro _ w8 ⟨rfl, bl⟩
          have HC := Lib.hid (And.intro (HB2.out.1.trans (bl.mono HB2.out.1.size)) (HB2.out.2.below bl))
          clear P bl HB2
          go_wp2
          go_loopw [23] (fun j wx => ∃ (i : Nat) (l : List Int), j = .int .i64 (i : Int) ∧ i ≤ N ∧ l.length = N ∧ Below wr.heap.size wr wx ∧ Rn wx g cap l) (fun j _ => N - (intOf j).toNat)
          case atStart => exact ⟨0, AR.1, rfl, Nat.zero_le _, HB.out.2.2.2.2, HC.out⟩
          case round =>
            obtain ⟨i, l, rfl, hi, hl, hbx, hrn⟩ := hrel
            clear HC
            rcases Nat.lt_or_ge i N with hlt | hge
            · obtain ⟨x, hx⟩ : ∃ x, l[i]? = some x := ⟨_, List.getElem?_eq_getElem (by omega)⟩
              have c0 := hrn.at hx
              have fr := hrn.frozen i
              have hrs := hrn.set (i := i) (by omega) (bits .xor .i64 x 1)
              have hbs := hbx.setCell (p := ⟨g, i, none⟩) HB.out.2.2.2.1 (.int .i64 (bits .xor .i64 x 1))
              have hki : (i : Int) < (N : Int) := by omega
              have hk1 : (i : Int) ≤ 9223372036854775806 := by have := hrn.lenb; omega
              have hk0 : (0 : Int) ≤ (i : Int) := by omega
              have HZ := Lib.hid (And.intro hlt (And.intro hbs (And.intro hrs (show (l.set i (bits .xor .i64 x 1)).length = N by rw [List.length_set]; exact hl))))
              clear hi hl hbx hrn hlt hx hrs hbs
              go_wp2
              go_roundw
              case rel => exact ⟨i + 1, _, by go_num, HZ.out.1, HZ.out.2.2.2, HZ.out.2.1, HZ.out.2.2.1⟩
              case measure =>
                have := HZ.out.1
                simp only [intOf]
                omega
            · obtain rfl : i = N := by omega
              have hki : ¬ (i : Int) < (i : Int) := by omega
              have h8 := HB.out.1.go hbx
              clear hi hl hbx hrn hge
              have P := HE.out.1 _ h8
              obtain ⟨⟨n0, n1⟩, m0, m1⟩ := HX.out _ h8
              have HR := Lib.hid h8
              clear h8
              go_wp2_with fail
              refine P.mono ?_
              rintro _ w9 ⟨rfl, bl⟩
              have h9 := HR.out.go bl
              have P := HE.out.2 _ h9
              obtain ⟨⟨n0, n1⟩, m0, m1⟩ := HX.out _ h9
              have HR := Lib.hid h9
              clear h9 bl
              go_wp2_with fail
              refine P.mono ?_
              rintro _ w10 ⟨rfl, bl⟩
              have h10 := HR.out.go bl
              have HR := Lib.hid h10.1
              clear h10 bl n0 n1 m0 m1 P
              go_wp2_with fail
              refine (works12_any _).mono ?_
              rintro _ w11 ⟨rfl, bl⟩
              go_wp2
              go_ret
              exact ⟨rfl, (HR.out.go bl).under⟩
        · rw [HAB.out hc] at hr
          obtain ⟨ra, rc, rfl, -, -⟩ := hr.shape
          have HH2 := Lib.hid hr
          have HH := Lib.hid h6
          rw [HAB.out hc] at P
          have hcc : (AR.2 != AR.2) = false := by simp
          generalize AR.2 = c at *
          clear h6 bl hown HR hr
          simp only [List.length_nil]
          go_wp2_with fail
          refine P.mono ?_
          rintro _ w7 ⟨rq, rfl, hrq, bl⟩
          have P := nsame_any [] [] w7 (HH2.out.below bl) hrq
          rw [decide_eq_true rfl] at P
          have HB2 := Lib.hid (HH.out.go bl)
          clear HH HH2 bl hrq n0 n1 m0 m1
          simp only [List.length_nil] at P
          go_wp2_with fail
          refine P.mono ?_
          rintro _ w8 ⟨rfl, bl⟩
          have HC := Lib.hid (HB2.out.go bl)
          have HD := Lib.hid hc
          clear P bl HB2 hc
          go_wp2
          go_loopw [23] (fun j wx => j = .int .i64 0 ∧ wx = w8) (fun _ _ => 0)
          case atStart => exact ⟨rfl, rfl⟩
          case round =>
            obtain ⟨rfl, rfl⟩ := hrel
            have h8 := HC.out
            clear HC
            have P := HE.out.1 _ h8
            obtain ⟨⟨n0, n1⟩, m0, m1⟩ := HX.out _ h8
            have HR := Lib.hid h8
            clear h8
            go_wp2_with fail
            refine P.mono ?_
            rintro _ w9 ⟨rfl, bl⟩
            have h9 := HR.out.go bl
            have P := HE.out.2 _ h9
            obtain ⟨⟨n0, n1⟩, m0, m1⟩ := HX.out _ h9
            have HR := Lib.hid h9
            clear h9 bl
            go_wp2_with fail
            refine P.mono ?_
            rintro _ w10 ⟨rfl, bl⟩
            have h10 := HR.out.go bl
            have HR := Lib.hid h10.1
            clear h10 bl n0 n1 m0 m1 P
            go_wp2_with fail
            refine (works12_any _).mono ?_
            rintro _ w11 ⟨rfl, bl⟩
            go_wp2
            go_ret
            exact ⟨rfl, (HR.out.go bl).under⟩
end Go.Proofs.Ytohcoknnalgjnaa
