/- Pushes along a way, and how much may be pushed: the document's; condition: a net of at most 2000 edges. -/
import Derived.Test.YtohcoknnalgjnaaRsRef3
import Derived.WalkMore
namespace Go.Proofs.Ytohcoknnalgjnaa
open Go.RowKit

set_option maxRecDepth 100000 in
set_option maxHeartbeats 16000000 in
theorem ralong_any (n : Int) (es : List Ed) (fl arcs : List Int) (b : Int) (w : World) {v x y : Value} (he : Es w v es) (hf : Fs w x fl) (hy : Fs w y arcs) (hn : es.length ≤ 2000) :
    Calls Try.prog 22 #[netV n v, x, y, .int .i64 b] w fun e w' => ∃ r, e = .returned (.tuple #[r, .int .i64 (alongP n es fl arcs b).2]) ∧ Fs w' r (alongP n es fl arcs b).1 ∧ Below w.heap.size w w' := by
  obtain ⟨va, vc, rfl, -, -⟩ := he.shape
  obtain ⟨xa, xc, rfl, -, -⟩ := hf.shape
  obtain ⟨ya, yc, rfl, -, -⟩ := hy.shape
  obtain ⟨R, hR⟩ : ∃ R, R = alongP n es fl arcs b := ⟨_, rfl⟩
  have hR1 : ¬ AlongOk n es fl arcs b → R = ([], 1) := fun h => by rw [hR]; unfold alongP; rw [if_neg h]
  have hR2 : AlongOk n es fl arcs b → alongL es b arcs fl = none → R = ([], 7) := fun h h2 => by rw [hR]; unfold alongP; rw [if_pos h, h2]
  have hR3 : AlongOk n es fl arcs b → ∀ l, alongL es b arcs fl = some l → R = (l, 0) := fun h l h2 => by rw [hR]; unfold alongP; rw [if_pos h, h2]
  rw [← hR]
  clear hR
  have hyl := hy.len
  obtain ⟨M, hM⟩ : ∃ M, M = arcs.length := ⟨_, rfl⟩
  obtain ⟨N, hN⟩ : ∃ N, N = fl.length := ⟨_, rfl⟩
  rw [← hM] at hy hyl ⊢
  rw [← hN] at hf ⊢
  have hK := NQ.box n he (fls := [(.slice xa N xc, fl), (.slice ya M yc, arcs)]) (fun p hp => by
    rcases List.mem_cons.1 hp with rfl | hp
    · exact hf
    · rw [List.mem_singleton.1 hp]; exact hy)
  have HR := Lib.hid (And.intro hR1 (And.intro hR2 (And.intro hR3 (And.intro hM (And.intro hN hn)))))
  clear he hf hy hM hN hn hR1 hR2 hR3
  have P := rwithin_any n es fl _ hK.es (hK.fl (.slice xa N xc, fl) (by simp))
  have HK := Lib.hid hK
  clear hK
  go_enter Try.func22, Try.ntmps22
  go_wp2_with fail
  generalize w.alloc (.cells #[.int .i64 n, .slice va es.length vc] 24) = w1 at *
  refine P.mono ?_
  rintro _ w2 ⟨rfl, bl⟩
  have h2 := HK.out.go bl
  clear P HK bl
  by_cases hw : WithinP n es fl
  case neg =>
    rw [decide_eq_false hw]
    obtain rfl := HR.out.1 (fun h => hw h.1)
    have HB := Lib.hid h2
    clear h2 hw
    go_wp2
    go_ret2
    exact ⟨_, rfl, Rd.nil _ _ _, HB.out.under⟩
  rw [decide_eq_true hw]
  by_cases hbn : b < 0
  · obtain rfl := HR.out.1 (fun h => by have := h.2.1; omega)
    have HB := Lib.hid h2
    clear h2 hw
    go_wp2
    go_ret2
    exact ⟨_, rfl, Rd.nil _ _ _, HB.out.under⟩
  have P := rway_any n es arcs w2 h2.es (h2.fl (.slice ya M yc, arcs) (by simp)) hw.1
  obtain ⟨n0, n1⟩ := h2.net.net
  have HB := Lib.hid (And.intro h2 hw)
  clear h2 hw
  go_wp2_with fail
  refine P.mono ?_
  rintro _ w3 ⟨rfl, bl⟩
  obtain ⟨h2, hw⟩ := HB.out
  have h3 := h2.go bl
  clear P HB bl n0 n1 h2
  by_cases hj : WayP es arcs
  case neg =>
    rw [decide_eq_false hj]
    obtain rfl := HR.out.1 (fun h => hj h.2.2)
    have HB := Lib.hid h3
    clear h3 hw hj
    go_wp2
    go_ret2
    exact ⟨_, rfl, Rd.nil _ _ _, HB.out.under⟩
  rw [decide_eq_true hj]
  have hbd : decide (b < 0) = false := decide_eq_false (by omega)
  simp only [hbd]
  have hok : AlongOk n es fl arcs b := ⟨hw, by omega, hj⟩
  have HG := Lib.hid (And.intro hok (And.intro (HR.out.2.1 hok) (HR.out.2.2.1 hok)))
  have HL := Lib.hid HR.out.2.2.2
  have HC := Lib.hid h3
  obtain ⟨a0, ha0⟩ : ∃ a0, arcs[0]? = some a0 := ⟨_, List.getElem?_eq_getElem (List.length_pos_iff.2 hj.1)⟩
  obtain ⟨g, o, cap, e0, -, -⟩ := fs_at (h3.fl (.slice ya M yc, arcs) (by simp)) ha0
  simp only [Value.slice.injEq] at e0
  obtain ⟨rfl, -, rfl⟩ := e0
  have HX := Lib.hid (show ∀ W, NQ w w.heap.size n (.slice va es.length vc) es [(.slice xa N xc, fl), (.slice (some ⟨g, o, none⟩) M yc, arcs)] W → W.cell? ⟨w.heap.size, 0, none⟩ = some (.int .i64 n) ∧ W.cell? ⟨w.heap.size, 1, none⟩ = some (.slice va es.length vc) from fun W h => h.net.net)
  have HY0 := Lib.hid (show ∀ i c, arcs[i]? = some c → ∀ W, NQ w w.heap.size n (.slice va es.length vc) es [(.slice xa N xc, fl), (.slice (some ⟨g, o, none⟩) M yc, arcs)] W → W.cell? ⟨g, o + i, none⟩ = some (.int .i64 c) from fun i c hc W hW => by
    obtain ⟨g', o', cp', e0, -, f0⟩ := fs_at (hW.fl (.slice (some ⟨g, o, none⟩) M yc, arcs) (by simp)) hc
    simp only [Value.slice.injEq, Option.some.injEq, Addr.mk.injEq] at e0
    obtain ⟨⟨rfl, rfl, -⟩, -, -⟩ := e0
    exact f0)
  clear h3 hw hj hok ha0 HR hbn hbd
  go_wp2
  go_loopw [11, 10] (fun j s wr => ∃ k : Nat, j = .int .i64 (k : Int) ∧ k ≤ M ∧ ∃ l, alongL es b (arcs.take k) fl = some l ∧ Fs wr s l ∧ NQ w w.heap.size n (.slice va es.length vc) es [(.slice xa N xc, fl), (.slice (some ⟨g, o, none⟩) M yc, arcs)] wr) (fun j _ _ => M - (intOf j).toNat)
  case atStart => exact ⟨0, rfl, Nat.zero_le _, fl, rfl, HC.out.fl (.slice xa N xc, fl) (by simp), HC.out⟩
  case round =>
    obtain ⟨k, rfl, hk, l, hal, hsl, hq⟩ := hrel
    clear HC

    have hM := HL.out.1
    rcases Nat.lt_or_ge k M with hlt | hge
    · obtain ⟨a, hay⟩ : ∃ a, arcs[k]? = some a := ⟨_, List.getElem?_eq_getElem (by omega)⟩
      obtain ⟨hok, hR2, hR3⟩ := HG.out
      have hh := hok.2.2.has hay
      have hwl := alongL_within hok.1 (fun c hc => hok.2.2.all c (List.mem_of_mem_take hc)) hok.2.1 hal
      have hki : (k : Int) < (M : Int) := by omega
      have hk1 : (k : Int) ≤ 9223372036854775806 := by omega
      have hk0 : (0 : Int) ≤ (k : Int) := by omega
      have HY := Lib.hid (HY0.out k a hay)
      have hts := alongL_take (es := es) (b := b) (fl := fl) hay
      rw [hal] at hts
      simp only [Option.bind_some] at hts
      have PU := fun W (h : NQ w w.heap.size n (.slice va es.length vc) es [(.slice xa N xc, fl), (.slice (some ⟨g, o, none⟩) M yc, arcs)] W) {v : Value} (k : Fs W v l) => rpush_any n es l a b W h.es k HL.out.2.2
      rw [push_eq hwl hh, if_pos hok.2.1] at PU
      have hS0 := hq.go ((Below.refl wr.heap.size wr).drew)
      have hsl0 := hsl.below ((Below.refl wr.heap.size wr).drew)
      by_cases hbr : b ≤ roomL es l a
      case neg =>
        rw [if_neg hbr] at PU hts
        have HPU := Lib.hid @PU
        have hR := hR2 (alongL_none hts)
        subst hR
        clear hq hsl hal hh hwl hts hok hR2 hR3 hay hlt hk hbr PU HG hM
        go_wp2
        refine region_till 99 (fun W => NQ w w.heap.size n (.slice va es.length vc) es [(.slice xa N xc, fl), (.slice (some ⟨g, o, none⟩) M yc, arcs)] W) (by kernel_rfl) hS0 (fun hS => ?_)
        have hcv := hsl0
        clear hS0 hsl0
        skip
        refine take_till (i := 0) (some 36) (.agg #[.int .i64 n, .slice va es.length vc]) rfl rfl (by kernel_rfl) (by kernel_rfl) (by kernel_rfl) (by kernel_rfl) (by decide) (fun _ _ _ h => h) (by rfl) (fun W hW => ?_) hS ?_
        · obtain ⟨x0, x1⟩ := HX.out W hW; have x2 := HY.out W hW
          clear hW
          go_simp
        simp only [Act.put, List.setIfInBounds_toArray, List.set_cons_zero, List.set_cons_succ]
        refine take_till (i := 1) (some 37) (u10) rfl rfl (by kernel_rfl) (by kernel_rfl) (by kernel_rfl) (by kernel_rfl) (by decide) (fun _ _ _ h => h) (by rfl) (fun W hW => ?_) hS ?_
        · obtain ⟨x0, x1⟩ := HX.out W hW; have x2 := HY.out W hW
          clear hW
          go_simp
        simp only [Act.put, List.setIfInBounds_toArray, List.set_cons_zero, List.set_cons_succ]
        refine take_till (i := 2) (some 38) (.slice (some ⟨g, o, none⟩) M yc) rfl rfl (by kernel_rfl) (by kernel_rfl) (by kernel_rfl) (by kernel_rfl) (by decide) (fun _ _ _ h => h) (by rfl) (fun W hW => ?_) hS ?_
        · obtain ⟨x0, x1⟩ := HX.out W hW; have x2 := HY.out W hW
          clear hW
          go_simp
        simp only [Act.put, List.setIfInBounds_toArray, List.set_cons_zero, List.set_cons_succ]
        refine take_till (i := 3) (some 39) (.int .i64 (k : Int)) rfl rfl (by kernel_rfl) (by kernel_rfl) (by kernel_rfl) (by kernel_rfl) (by decide) (fun _ _ _ h => h) (by rfl) (fun W hW => ?_) hS ?_
        · obtain ⟨x0, x1⟩ := HX.out W hW; have x2 := HY.out W hW
          clear hW
          go_simp
        simp only [Act.put, List.setIfInBounds_toArray, List.set_cons_zero, List.set_cons_succ]
        refine take_till (i := 4) (some 40) (.pointer (some ⟨g, o + k, none⟩)) rfl rfl (by kernel_rfl) (by kernel_rfl) (by kernel_rfl) (by kernel_rfl) (by decide) (fun _ _ _ h => h) (by rfl) (fun W hW => ?_) hS ?_
        · obtain ⟨x0, x1⟩ := HX.out W hW; have x2 := HY.out W hW
          clear hW
          go_simp
        simp only [Act.put, List.setIfInBounds_toArray, List.set_cons_zero, List.set_cons_succ]
        refine take_till (i := 5) (some 41) (.int .i64 a) rfl rfl (by kernel_rfl) (by kernel_rfl) (by kernel_rfl) (by kernel_rfl) (by decide) (fun _ _ _ h => h) (by rfl) (fun W hW => ?_) hS ?_
        · obtain ⟨x0, x1⟩ := HX.out W hW; have x2 := HY.out W hW
          clear hW
          go_simp
        simp only [Act.put, List.setIfInBounds_toArray, List.set_cons_zero, List.set_cons_succ]
        refine take_till (i := 6) (some 42) (.int .i64 b) rfl rfl (by kernel_rfl) (by kernel_rfl) (by kernel_rfl) (by kernel_rfl) (by decide) (fun _ _ _ h => h) (by rfl) (fun W hW => ?_) hS ?_
        · obtain ⟨x0, x1⟩ := HX.out W hW; have x2 := HY.out W hW
          clear hW
          go_simp
        simp only [Act.put, List.setIfInBounds_toArray, List.set_cons_zero, List.set_cons_succ]
        refine next_till 7 (by kernel_rfl) rfl (fun K hK => ?_)
        go_simp
        refine (HPU.out _ hS hcv).mono ?_
        rintro _ a1 ⟨rf, rfl, -, bl⟩
        have hT := hS.go bl
        clear bl hS
        have hS := hT
        clear hT
        go_simp
        refine hK.out _ _ (fun _ => hS) ?_
        clear hK K
        refine take_till (i := 8) (some 35) (.tuple #[rf, .int .i64 7]) rfl rfl (by kernel_rfl) (by kernel_rfl) (by kernel_rfl) (by kernel_rfl) (by decide) (fun _ _ _ h => h) (by rfl) (fun W hW => ?_) hS ?_
        · obtain ⟨x0, x1⟩ := HX.out W hW; have x2 := HY.out W hW
          clear hW
          go_simp
        simp only [Act.put, List.setIfInBounds_toArray, List.set_cons_zero, List.set_cons_succ]
        refine take_till (i := 9) (some 44) (rf) rfl rfl (by kernel_rfl) (by kernel_rfl) (by kernel_rfl) (by kernel_rfl) (by decide) (fun _ _ _ h => h) (by rfl) (fun W hW => ?_) hS ?_
        · obtain ⟨x0, x1⟩ := HX.out W hW; have x2 := HY.out W hW
          clear hW
          go_simp
        simp only [Act.put, List.setIfInBounds_toArray, List.set_cons_zero, List.set_cons_succ]
        refine take_till (i := 10) (some 45) (.int .i64 7) rfl rfl (by kernel_rfl) (by kernel_rfl) (by kernel_rfl) (by kernel_rfl) (by decide) (fun _ _ _ h => h) (by rfl) (fun W hW => ?_) hS ?_
        · obtain ⟨x0, x1⟩ := HX.out W hW; have x2 := HY.out W hW
          clear hW
          go_simp
        simp only [Act.put, List.setIfInBounds_toArray, List.set_cons_zero, List.set_cons_succ]
        refine take_till (i := 11) (some 12) (rf) rfl rfl (by kernel_rfl) (by kernel_rfl) (by kernel_rfl) (by kernel_rfl) (by decide) (fun _ _ _ h => h) (by rfl) (fun W hW => ?_) hS ?_
        · obtain ⟨x0, x1⟩ := HX.out W hW; have x2 := HY.out W hW
          clear hW
          go_simp
        simp only [Act.put, List.setIfInBounds_toArray, List.set_cons_zero, List.set_cons_succ]
        refine take_till (i := 12) (some 13) (.int .i64 7) rfl rfl (by kernel_rfl) (by kernel_rfl) (by kernel_rfl) (by kernel_rfl) (by decide) (fun _ _ _ h => h) (by rfl) (fun W hW => ?_) hS ?_
        · obtain ⟨x0, x1⟩ := HX.out W hW; have x2 := HY.out W hW
          clear hW
          go_simp
        simp only [Act.put, List.setIfInBounds_toArray, List.set_cons_zero, List.set_cons_succ]

        refine done_till (by kernel_rfl) ?_ _
        have HQ := Lib.hid hS
        clear hS
        go_wp2
        go_ret2
        exact ⟨_, rfl, Rd.nil _ _ _, HQ.out.under⟩
      rw [if_pos hbr] at PU hts
      have HPU := Lib.hid @PU
      have HZ := Lib.hid (And.intro hts hlt)
      clear hq hsl hal hh hwl hts hok hR2 hR3 hay hlt hk hbr PU hM
      go_wp2
      refine region_till 99 (fun W => NQ w w.heap.size n (.slice va es.length vc) es [(.slice xa N xc, fl), (.slice (some ⟨g, o, none⟩) M yc, arcs)] W) (by kernel_rfl) hS0 (fun hS => ?_)
      have hcv := hsl0
      clear hS0 hsl0
      skip
      refine take_till (i := 0) (some 36) (.agg #[.int .i64 n, .slice va es.length vc]) rfl rfl (by kernel_rfl) (by kernel_rfl) (by kernel_rfl) (by kernel_rfl) (by decide) (fun _ _ _ h => h) (by rfl) (fun W hW => ?_) hS ?_
      · obtain ⟨x0, x1⟩ := HX.out W hW; have x2 := HY.out W hW
        clear hW
        go_simp
      simp only [Act.put, List.setIfInBounds_toArray, List.set_cons_zero, List.set_cons_succ]
      refine take_till (i := 1) (some 37) (u10) rfl rfl (by kernel_rfl) (by kernel_rfl) (by kernel_rfl) (by kernel_rfl) (by decide) (fun _ _ _ h => h) (by rfl) (fun W hW => ?_) hS ?_
      · obtain ⟨x0, x1⟩ := HX.out W hW; have x2 := HY.out W hW
        clear hW
        go_simp
      simp only [Act.put, List.setIfInBounds_toArray, List.set_cons_zero, List.set_cons_succ]
      refine take_till (i := 2) (some 38) (.slice (some ⟨g, o, none⟩) M yc) rfl rfl (by kernel_rfl) (by kernel_rfl) (by kernel_rfl) (by kernel_rfl) (by decide) (fun _ _ _ h => h) (by rfl) (fun W hW => ?_) hS ?_
      · obtain ⟨x0, x1⟩ := HX.out W hW; have x2 := HY.out W hW
        clear hW
        go_simp
      simp only [Act.put, List.setIfInBounds_toArray, List.set_cons_zero, List.set_cons_succ]
      refine take_till (i := 3) (some 39) (.int .i64 (k : Int)) rfl rfl (by kernel_rfl) (by kernel_rfl) (by kernel_rfl) (by kernel_rfl) (by decide) (fun _ _ _ h => h) (by rfl) (fun W hW => ?_) hS ?_
      · obtain ⟨x0, x1⟩ := HX.out W hW; have x2 := HY.out W hW
        clear hW
        go_simp
      simp only [Act.put, List.setIfInBounds_toArray, List.set_cons_zero, List.set_cons_succ]
      refine take_till (i := 4) (some 40) (.pointer (some ⟨g, o + k, none⟩)) rfl rfl (by kernel_rfl) (by kernel_rfl) (by kernel_rfl) (by kernel_rfl) (by decide) (fun _ _ _ h => h) (by rfl) (fun W hW => ?_) hS ?_
      · obtain ⟨x0, x1⟩ := HX.out W hW; have x2 := HY.out W hW
        clear hW
        go_simp
      simp only [Act.put, List.setIfInBounds_toArray, List.set_cons_zero, List.set_cons_succ]
      refine take_till (i := 5) (some 41) (.int .i64 a) rfl rfl (by kernel_rfl) (by kernel_rfl) (by kernel_rfl) (by kernel_rfl) (by decide) (fun _ _ _ h => h) (by rfl) (fun W hW => ?_) hS ?_
      · obtain ⟨x0, x1⟩ := HX.out W hW; have x2 := HY.out W hW
        clear hW
        go_simp
      simp only [Act.put, List.setIfInBounds_toArray, List.set_cons_zero, List.set_cons_succ]
      refine take_till (i := 6) (some 42) (.int .i64 b) rfl rfl (by kernel_rfl) (by kernel_rfl) (by kernel_rfl) (by kernel_rfl) (by decide) (fun _ _ _ h => h) (by rfl) (fun W hW => ?_) hS ?_
      · obtain ⟨x0, x1⟩ := HX.out W hW; have x2 := HY.out W hW
        clear hW
        go_simp
      simp only [Act.put, List.setIfInBounds_toArray, List.set_cons_zero, List.set_cons_succ]
      refine next_till 7 (by kernel_rfl) rfl (fun K hK => ?_)
      go_simp
      refine (HPU.out _ hS hcv).mono ?_
      rintro _ b1 ⟨rf, rfl, hrf, bl⟩
      have hT := hS.go bl
      clear bl hS
      have hS := hT
      clear hT
      go_simp
      refine hK.out _ _ (fun _ => hS) ?_
      clear hK K
      refine take_till (i := 8) (some 35) (.tuple #[rf, .int .i64 0]) rfl rfl (by kernel_rfl) (by kernel_rfl) (by kernel_rfl) (by kernel_rfl) (by decide) (fun _ _ _ h => h) (by rfl) (fun W hW => ?_) hS ?_
      · obtain ⟨x0, x1⟩ := HX.out W hW; have x2 := HY.out W hW
        clear hW
        go_simp
      simp only [Act.put, List.setIfInBounds_toArray, List.set_cons_zero, List.set_cons_succ]
      refine take_till (i := 9) (some 44) (rf) rfl rfl (by kernel_rfl) (by kernel_rfl) (by kernel_rfl) (by kernel_rfl) (by decide) (fun _ _ _ h => h) (by rfl) (fun W hW => ?_) hS ?_
      · obtain ⟨x0, x1⟩ := HX.out W hW; have x2 := HY.out W hW
        clear hW
        go_simp
      simp only [Act.put, List.setIfInBounds_toArray, List.set_cons_zero, List.set_cons_succ]
      refine take_till (i := 10) (some 45) (.int .i64 0) rfl rfl (by kernel_rfl) (by kernel_rfl) (by kernel_rfl) (by kernel_rfl) (by decide) (fun _ _ _ h => h) (by rfl) (fun W hW => ?_) hS ?_
      · obtain ⟨x0, x1⟩ := HX.out W hW; have x2 := HY.out W hW
        clear hW
        go_simp
      simp only [Act.put, List.setIfInBounds_toArray, List.set_cons_zero, List.set_cons_succ]
      refine take_till (i := 11) (some 12) (rf) rfl rfl (by kernel_rfl) (by kernel_rfl) (by kernel_rfl) (by kernel_rfl) (by decide) (fun _ _ _ h => h) (by rfl) (fun W hW => ?_) hS ?_
      · obtain ⟨x0, x1⟩ := HX.out W hW; have x2 := HY.out W hW
        clear hW
        go_simp
      simp only [Act.put, List.setIfInBounds_toArray, List.set_cons_zero, List.set_cons_succ]
      refine take_till (i := 12) (some 13) (.int .i64 0) rfl rfl (by kernel_rfl) (by kernel_rfl) (by kernel_rfl) (by kernel_rfl) (by decide) (fun _ _ _ h => h) (by rfl) (fun W hW => ?_) hS ?_
      · obtain ⟨x0, x1⟩ := HX.out W hW; have x2 := HY.out W hW
        clear hW
        go_simp
      simp only [Act.put, List.setIfInBounds_toArray, List.set_cons_zero, List.set_cons_succ]

      refine done_till (by kernel_rfl) ?_ _
      have HQ := Lib.hid (And.intro hS hrf)
      clear hS hrf
      go_wp2
      go_roundw
      case rel => exact ⟨k + 1, by go_num, HZ.out.2, _, HZ.out.1, HQ.out.2, HQ.out.1⟩
      case measure =>
        have := HZ.out.2
        simp only [intOf]
        omega
    · obtain rfl : M = k := by omega
      have hki : ¬ (M : Int) < (M : Int) := by omega
      have hall : alongL es b arcs fl = some l := by rw [← hal, hM, List.take_length]
      obtain rfl := HG.out.2.2 l hall
      have HB := Lib.hid (And.intro hq hsl)
      clear hge hk hal hall hq hM hsl
      go_wp2
      go_ret2
      exact ⟨_, rfl, HB.out.2, HB.out.1.under⟩
end Go.Proofs.Ytohcoknnalgjnaa
