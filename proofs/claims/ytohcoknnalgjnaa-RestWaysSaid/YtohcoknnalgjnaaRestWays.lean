/- The statement RestWays: what any pushes along any arcs answer, and how much may be pushed, is the document's; no condition. -/
import Derived.Test.YtohcoknnalgjnaaRsWorks
import Derived.Test.YtohcoknnalgjnaaRsRef5
namespace Go.Proofs.Ytohcoknnalgjnaa
open Go.RowKit

theorem int_rowsI : RowTy Try.prog kdI 39 3 := RowTy.of (z := .int .i64 0) (by' := 8) Try.underlying39 (by kernel_rfl) rfl (by decide)
/-- append([]int{}, l...): what it leaves. -/
theorem fresh_ints (l : List Int) (w : World) {va : Option Addr} {vc : Nat} (hl : Fs w (.slice va l.length vc) l) (hn : l.length ≤ 4294967296) : ∃ v w', (Builtin.append_ #[39, 39] 39 #[.slice (some ⟨w.heap.size, 0, none⟩) 0 0, .slice va l.length vc]).run Try.prog (w.alloc (.cells #[] 3)) = .ok v w' ∧ Fs w' v l ∧ Below w.heap.size w w' := by
  have hA : Below w.heap.size w (w.alloc (.cells #[] 3)) := (Below.refl _ _).alloc (Nat.le_refl _) _
  have ho : Ro kdI 3 (w.alloc (.cells #[] 3)) (fun q => w.heap.size ≤ q) (.slice (some ⟨w.heap.size, 0, none⟩) 0 0) [] :=
    ⟨[], rfl, ⟨rfl, .inr ⟨w.heap.size, 0, #[], rfl, Nat.zero_le _, by have := World.alloc_heap_new w (.cells #[] 3); exact this, Nat.le_refl _, Nat.zero_le _, rfl, rfl⟩⟩, (fun _ h => by cases h), fun q hq => by cases hq; exact Nat.le_refl _⟩
  have hx : Rd kdI (w.alloc (.cells #[] 3)) (fun q => w.heap.size ≤ q) (.slice va l.length vc) l := (hl.old (Nat.le_refl _)).only (Only.of_below hA _)
  obtain ⟨v', w', hr, o', hst, hg, hloc⟩ := run_append_ro int_rowsI 39 ho hx (by simp; omega)
  have hb : Below w.heap.size w w' := hA.grown hg (by simp) (fun k e => by cases e; exact Nat.le_refl _)
  simp only [List.nil_append] at o'
  exact ⟨v', w', hr, (o'.rd (S' := fun _ => False) (fun _ h => h.elim) (fun _ _ h => h)), hb⟩

set_option maxRecDepth 100000 in
set_option maxHeartbeats 16000000 in
theorem restWays_any (n b : Int) (w : World) {v x y : Value} {es : List Ed} {fl arcs : List Int} (he : Es w v es) (hf : Fs w x fl) (hy : Fs w y arcs) : Calls Try.prog 4 #[netV n v, x, y, .int .i64 b] w fun e w' => e = .returned (.bool true) ∧ Below w.heap.size w w' := by
  obtain ⟨va, vc, rfl, -, -⟩ := he.shape
  obtain ⟨xa, xc, rfl, -, -⟩ := hf.shape
  obtain ⟨ya, yc, rfl, -, -⟩ := hy.shape
  have hyl := hy.len
  have hK := NQ.box n he (fls := [(.slice xa fl.length xc, fl), (.slice ya arcs.length yc, arcs)]) (fun p hp => by
    rcases List.mem_cons.1 hp with rfl | hp
    · exact hf
    · rw [List.mem_singleton.1 hp]; exact hy)
  clear he hf hy
  obtain ⟨n0, n1⟩ := hK.net.net
  have P := vast_any n es fl _ hK.es (hK.fl (.slice xa fl.length xc, fl) (by simp))
  have HK := Lib.hid hK
  clear hK
  go_enter Try.func4, Try.ntmps4
  go_wp2_with fail
  generalize w.alloc (.cells #[.int .i64 n, .slice va es.length vc] 24) = w1 at *
  refine P.mono ?_
  rintro e w2 ⟨rfl, bl⟩
  have h2 := HK.out.go bl
  clear P HK bl n0 n1
  by_cases hv : 2000 < es.length ∨ 2000 < fl.length
  case pos =>
    rw [decide_eq_true hv]
    have HV := Lib.hid (And.intro hv h2)
    clear hv h2
    go_wp2_with fail
    refine (works12_any w2).mono ?_
    rintro e w3 ⟨rfl, bl⟩
    go_wp2
    go_ret
    exact ⟨rfl, (HV.out.2.go bl).under⟩
  rw [decide_eq_false hv]
  by_cases hel : 300 < es.length
  case pos =>
    have hel' : (300 : Int) < (es.length : Int) := by omega
    obtain ⟨n0, n1⟩ := h2.net.net
    have HV := Lib.hid h2
    clear hv h2 hel
    go_wp2_with fail
    refine (works12_any w2).mono ?_
    rintro _ w3 ⟨rfl, bl⟩
    go_wp2
    go_ret
    exact ⟨rfl, (HV.out.go bl).under⟩
  have hel' : ¬ (300 : Int) < (es.length : Int) := by omega
  by_cases hal : 40 < arcs.length
  case pos =>
    have hal' : (40 : Int) < (arcs.length : Int) := by omega
    obtain ⟨n0, n1⟩ := h2.net.net
    have HV := Lib.hid h2
    clear hv h2 hal hel
    go_wp2_with fail
    refine (works12_any w2).mono ?_
    rintro _ w3 ⟨rfl, bl⟩
    go_wp2
    go_ret
    exact ⟨rfl, (HV.out.go bl).under⟩
  have hal' : ¬ (40 : Int) < (arcs.length : Int) := by omega
  have P := copied12_any fl w2 (h2.fl (.slice xa fl.length xc, fl) (by simp)) (by omega)
  obtain ⟨n0, n1⟩ := h2.net.net
  have HK := Lib.hid (And.intro h2 (And.intro (show es.length ≤ 2000 by omega) (show arcs.length ≤ 40 by omega)))
  clear h2 hv hal hel
  go_wp2_with fail
  refine P.mono ?_
  rintro _ w3 ⟨gl, cl, rfl, hrn, hcm, -, bl⟩
  have h3 := (HK.out.1.go bl).add (hrn.fs hcm)
  obtain ⟨ov, w4, hap, hov, bl2⟩ := fresh_ints arcs w3 (h3.fl (.slice ya arcs.length yc, arcs) (by simp)) (by have := HK.out.2.2; omega)
  have h4 := (h3.go bl2).add hov
  obtain ⟨M, hM⟩ : ∃ M, M = arcs.length := ⟨_, rfl⟩
  have hn := HK.out.2.1
  have hM40 := HK.out.2.2
  rw [← hM] at h4 hap hal' ⊢
  have PA := fun W (h : NQ w w.heap.size n (.slice va es.length vc) es [(ov, arcs), (.slice (some ⟨gl, 0, none⟩) fl.length cl, fl), (.slice xa fl.length xc, fl), (.slice ya M yc, arcs)] W) => along_any n es fl arcs b W h.es (h.fl (.slice (some ⟨gl, 0, none⟩) fl.length cl, fl) (by simp)) (h.fl (ov, arcs) (by simp))
  have PB := fun W (h : NQ w w.heap.size n (.slice va es.length vc) es [(ov, arcs), (.slice (some ⟨gl, 0, none⟩) fl.length cl, fl), (.slice xa fl.length xc, fl), (.slice ya M yc, arcs)] W) => ralong_any n es fl arcs b W h.es (h.fl (.slice xa fl.length xc, fl) (by simp)) (h.fl (.slice ya M yc, arcs) (by simp)) hn
  have PC := fun W (h : NQ w w.heap.size n (.slice va es.length vc) es [(ov, arcs), (.slice (some ⟨gl, 0, none⟩) fl.length cl, fl), (.slice xa fl.length xc, fl), (.slice ya M yc, arcs)] W) => bottle_any n es fl arcs W h.es (h.fl (.slice (some ⟨gl, 0, none⟩) fl.length cl, fl) (by simp)) (h.fl (ov, arcs) (by simp))
  have PD := fun W (h : NQ w w.heap.size n (.slice va es.length vc) es [(ov, arcs), (.slice (some ⟨gl, 0, none⟩) fl.length cl, fl), (.slice xa fl.length xc, fl), (.slice ya M yc, arcs)] W) => rbottle_any n es fl arcs W h.es (h.fl (.slice xa fl.length xc, fl) (by simp)) (h.fl (.slice ya M yc, arcs) (by simp)) hn
  generalize alongP n es fl arcs b = AR at *
  generalize bottleP n es fl arcs = BO at *
  have PS := fun W (h : NQ w w.heap.size n (.slice va es.length vc) es [(ov, arcs), (.slice (some ⟨gl, 0, none⟩) fl.length cl, fl), (.slice xa fl.length xc, fl), (.slice ya M yc, arcs)] W) => nsame_any fl fl W (h.fl (.slice (some ⟨gl, 0, none⟩) fl.length cl, fl) (by simp)) (h.fl (.slice xa fl.length xc, fl) (by simp))
  rw [decide_eq_true rfl] at PS
  have HP := Lib.hid (And.intro PA (And.intro PB (And.intro PC (And.intro PD PS))))
  have P := PA _ h4
  obtain ⟨n2, n3⟩ := h4.net.net
  have HS := Lib.hid h4
  have HM := Lib.hid hM
  clear hrn hcm bl h3 hov bl2 h4 hn hM40 PA PB PC PD PS HK hM n0 n1
  go_wp2_with (first | (at_builtin; refine nlist_append_run rfl (.tmp 33) (.tmp 34) _ rfl rfl rfl hap ?_) | fail)
  refine P.mono ?_
  rintro _ w5 ⟨ra, rfl, hra, bl, -⟩
  have hS := HS.out.go bl
  have P := HP.out.2.1 _ hS
  obtain ⟨n0, n1⟩ := hS.net.net
  have HS := Lib.hid (And.intro hS hra)
  clear hS hra bl hap n2 n3
  go_wp2_with fail
  refine P.mono ?_
  rintro _ w6 ⟨rb, rfl, hrb, bl⟩
  have hS0 := (HS.out.1.go bl).go ((Below.refl w6.heap.size w6).drew)
  have hra0 := (HS.out.2.below bl).below ((Below.refl w6.heap.size w6).drew)
  have hrb0 := hrb.below ((Below.refl w6.heap.size w6).drew)
  clear P HS hrb bl n0 n1
  have HSM := Lib.hid (fun W {v u : Value} (h1 : Fs W v AR.1) (h2 : Fs W u AR.1) => (show Calls Try.prog 19 #[v, u] W fun e w' => e = .returned (.bool true) ∧ Below W.heap.size W w' from by have k := nsame_any AR.1 AR.1 W h1 h2; rwa [decide_eq_true rfl] at k))
  have HX := Lib.hid (show ∀ W, NQ w w.heap.size n (.slice va es.length vc) es [(ov, arcs), (.slice (some ⟨gl, 0, none⟩) fl.length cl, fl), (.slice xa fl.length xc, fl), (.slice ya M yc, arcs)] W → W.cell? ⟨w.heap.size, 0, none⟩ = some (.int .i64 n) ∧ W.cell? ⟨w.heap.size, 1, none⟩ = some (.slice va es.length vc) from fun W h => h.net.net)
  generalize AR.2 = c at *
  generalize AR.1 = al at *
  go_wp2
  refine region_till 99 (fun W => NQ w w.heap.size n (.slice va es.length vc) es [(ov, arcs), (.slice (some ⟨gl, 0, none⟩) fl.length cl, fl), (.slice xa fl.length xc, fl), (.slice ya M yc, arcs)] W) (by kernel_rfl) hS0 (fun hS => ?_)
  have hra := hra0
  have hrb := hrb0
  clear hS0 hra0 hrb0
  skip
  refine take_till (i := 0) (some 52) (ra) rfl rfl (by kernel_rfl) (by kernel_rfl) (by kernel_rfl) (by kernel_rfl) (by decide) (fun _ _ _ h => h) (by rfl) (fun W hW => ?_) hS ?_
  · obtain ⟨x0, x1⟩ := HX.out W hW
    clear hW
    go_simp
  simp only [Act.put, List.setIfInBounds_toArray, List.set_cons_zero, List.set_cons_succ]
  refine take_till (i := 1) (some 53) (rb) rfl rfl (by kernel_rfl) (by kernel_rfl) (by kernel_rfl) (by kernel_rfl) (by decide) (fun _ _ _ h => h) (by rfl) (fun W hW => ?_) hS ?_
  · obtain ⟨x0, x1⟩ := HX.out W hW
    clear hW
    go_simp
  simp only [Act.put, List.setIfInBounds_toArray, List.set_cons_zero, List.set_cons_succ]
  refine next_till 2 (by kernel_rfl) rfl (fun K hK => ?_)
  go_simp
  refine (HSM.out _ hra hrb).mono ?_
  rintro _ a1 ⟨rfl, bl⟩
  have hT := hS.go bl
  replace hra := hra.below bl
  replace hrb := hrb.below bl
  clear bl hS
  have hS := hT
  clear hT
  go_simp
  refine hK.out _ _ (fun _ => hS) ?_
  clear hK K
  refine take_till (i := 3) (some 55) (.bool false) rfl rfl (by kernel_rfl) (by kernel_rfl) (by kernel_rfl) (by kernel_rfl) (by decide) (fun _ _ _ h => h) (by rfl) (fun W hW => ?_) hS ?_
  · obtain ⟨x0, x1⟩ := HX.out W hW
    clear hW
    go_simp
  simp only [Act.put, List.setIfInBounds_toArray, List.set_cons_zero, List.set_cons_succ]
  refine take_till (i := 4) (some 56) (.bool false) rfl rfl (by kernel_rfl) (by kernel_rfl) (by kernel_rfl) (by kernel_rfl) (by decide) (fun _ _ _ h => h) (by rfl) (fun W hW => ?_) hS ?_
  · obtain ⟨x0, x1⟩ := HX.out W hW
    clear hW
    go_simp
  simp only [Act.put, List.setIfInBounds_toArray, List.set_cons_zero, List.set_cons_succ]
  refine take_till (i := 5) (some 57) (.int .i64 c) rfl rfl (by kernel_rfl) (by kernel_rfl) (by kernel_rfl) (by kernel_rfl) (by decide) (fun _ _ _ h => h) (by rfl) (fun W hW => ?_) hS ?_
  · obtain ⟨x0, x1⟩ := HX.out W hW
    clear hW
    go_simp
  simp only [Act.put, List.setIfInBounds_toArray, List.set_cons_zero, List.set_cons_succ]
  refine take_till (i := 6) (some 58) (.int .i64 c) rfl rfl (by kernel_rfl) (by kernel_rfl) (by kernel_rfl) (by kernel_rfl) (by decide) (fun _ _ _ h => h) (by rfl) (fun W hW => ?_) hS ?_
  · obtain ⟨x0, x1⟩ := HX.out W hW
    clear hW
    go_simp
  simp only [Act.put, List.setIfInBounds_toArray, List.set_cons_zero, List.set_cons_succ]
  refine take_till (i := 7) (some 59) (.bool false) rfl rfl (by kernel_rfl) (by kernel_rfl) (by kernel_rfl) (by kernel_rfl) (by decide) (fun _ _ _ h => h) (by rfl) (fun W hW => ?_) hS ?_
  · obtain ⟨x0, x1⟩ := HX.out W hW
    clear hW
    go_simp
  simp only [Act.put, List.setIfInBounds_toArray, List.set_cons_zero, List.set_cons_succ]
  refine take_till (i := 8) (some 60) (.bool false) rfl rfl (by kernel_rfl) (by kernel_rfl) (by kernel_rfl) (by kernel_rfl) (by decide) (fun _ _ _ h => h) (by rfl) (fun W hW => ?_) hS ?_
  · obtain ⟨x0, x1⟩ := HX.out W hW
    clear hW
    go_simp
  simp only [Act.put, List.setIfInBounds_toArray, List.set_cons_zero, List.set_cons_succ]
  refine take_till (i := 9) (some 61) (.bool false) rfl rfl (by kernel_rfl) (by kernel_rfl) (by kernel_rfl) (by kernel_rfl) (by decide) (fun _ _ _ h => h) (by rfl) (fun W hW => ?_) hS ?_
  · obtain ⟨x0, x1⟩ := HX.out W hW
    clear hW
    go_simp
  simp only [Act.put, List.setIfInBounds_toArray, List.set_cons_zero, List.set_cons_succ]
  refine take_till (i := 10) (some 62) (.agg #[.int .i64 n, .slice va es.length vc]) rfl rfl (by kernel_rfl) (by kernel_rfl) (by kernel_rfl) (by kernel_rfl) (by decide) (fun _ _ _ h => h) (by rfl) (fun W hW => ?_) hS ?_
  · obtain ⟨x0, x1⟩ := HX.out W hW
    clear hW
    go_simp
  simp only [Act.put, List.setIfInBounds_toArray, List.set_cons_zero, List.set_cons_succ]
  refine take_till (i := 11) (some 63) (.slice (some ⟨gl, 0, none⟩) fl.length cl) rfl rfl (by kernel_rfl) (by kernel_rfl) (by kernel_rfl) (by kernel_rfl) (by decide) (fun _ _ _ h => h) (by rfl) (fun W hW => ?_) hS ?_
  · obtain ⟨x0, x1⟩ := HX.out W hW
    clear hW
    go_simp
  simp only [Act.put, List.setIfInBounds_toArray, List.set_cons_zero, List.set_cons_succ]
  refine take_till (i := 12) (some 64) (ov) rfl rfl (by kernel_rfl) (by kernel_rfl) (by kernel_rfl) (by kernel_rfl) (by decide) (fun _ _ _ h => h) (by rfl) (fun W hW => ?_) hS ?_
  · obtain ⟨x0, x1⟩ := HX.out W hW
    clear hW
    go_simp
  simp only [Act.put, List.setIfInBounds_toArray, List.set_cons_zero, List.set_cons_succ]
  refine take_till (i := 14) (some 66) (.agg #[.int .i64 n, .slice va es.length vc]) rfl rfl (by kernel_rfl) (by kernel_rfl) (by kernel_rfl) (by kernel_rfl) (by decide) (fun _ _ _ h => h) (by rfl) (fun W hW => ?_) hS ?_
  · obtain ⟨x0, x1⟩ := HX.out W hW
    clear hW
    go_simp
  simp only [Act.put, List.setIfInBounds_toArray, List.set_cons_zero, List.set_cons_succ]
  refine take_till (i := 15) (some 67) (.slice xa fl.length xc) rfl rfl (by kernel_rfl) (by kernel_rfl) (by kernel_rfl) (by kernel_rfl) (by decide) (fun _ _ _ h => h) (by rfl) (fun W hW => ?_) hS ?_
  · obtain ⟨x0, x1⟩ := HX.out W hW
    clear hW
    go_simp
  simp only [Act.put, List.setIfInBounds_toArray, List.set_cons_zero, List.set_cons_succ]
  refine take_till (i := 16) (some 68) (.slice ya M yc) rfl rfl (by kernel_rfl) (by kernel_rfl) (by kernel_rfl) (by kernel_rfl) (by decide) (fun _ _ _ h => h) (by rfl) (fun W hW => ?_) hS ?_
  · obtain ⟨x0, x1⟩ := HX.out W hW
    clear hW
    go_simp
  simp only [Act.put, List.setIfInBounds_toArray, List.set_cons_zero, List.set_cons_succ]
  refine next_till 13 (by kernel_rfl) rfl (fun K hK => ?_)
  go_simp
  refine (HP.out.2.2.1 _ hS).mono ?_
  rintro _ a2 ⟨rfl, bl⟩
  have hT := hS.go bl
  replace hra := hra.below bl
  replace hrb := hrb.below bl
  clear bl hS
  have hS := hT
  clear hT
  go_simp
  refine hK.out _ _ (fun _ => hS) ?_
  clear hK K
  refine next_till 17 (by kernel_rfl) rfl (fun K hK => ?_)
  go_simp
  refine (HP.out.2.2.2.1 _ hS).mono ?_
  rintro _ a3 ⟨rfl, bl⟩
  have hT := hS.go bl
  replace hra := hra.below bl
  replace hrb := hrb.below bl
  clear bl hS
  have hS := hT
  clear hT
  go_simp
  refine hK.out _ _ (fun _ => hS) ?_
  clear hK K
  refine take_till (i := 18) (some 70) (.bool false) rfl rfl (by kernel_rfl) (by kernel_rfl) (by kernel_rfl) (by kernel_rfl) (by decide) (fun _ _ _ h => h) (by rfl) (fun W hW => ?_) hS ?_
  · obtain ⟨x0, x1⟩ := HX.out W hW
    clear hW
    go_simp
  simp only [Act.put, List.setIfInBounds_toArray, List.set_cons_zero, List.set_cons_succ]
  refine take_till (i := 19) (some 71) (.bool false) rfl rfl (by kernel_rfl) (by kernel_rfl) (by kernel_rfl) (by kernel_rfl) (by decide) (fun _ _ _ h => h) (by rfl) (fun W hW => ?_) hS ?_
  · obtain ⟨x0, x1⟩ := HX.out W hW
    clear hW
    go_simp
  simp only [Act.put, List.setIfInBounds_toArray, List.set_cons_zero, List.set_cons_succ]

  refine done_till (by kernel_rfl) ?_ _
  have HK := Lib.hid hS
  clear hS hra hrb HX HSM
  go_wp2
  go_loopw [15] (fun j wr => ∃ k : Nat, j = .int .i64 (k : Int) ∧ k ≤ M ∧ NQ w w.heap.size n (.slice va es.length vc) es [(ov, arcs), (.slice (some ⟨gl, 0, none⟩) fl.length cl, fl), (.slice xa fl.length xc, fl), (.slice ya M yc, arcs)] wr) (fun j _ => M - (intOf j).toNat)
  case atStart => exact ⟨0, rfl, Nat.zero_le _, HK.out⟩
  case round =>
    obtain ⟨k, rfl, hk, hq⟩ := hrel
    clear HK
    rcases Nat.lt_or_ge k M with hlt | hge
    · obtain ⟨a, hay⟩ : ∃ a, arcs[k]? = some a := ⟨_, List.getElem?_eq_getElem (by have := HM.out; omega)⟩
      obtain ⟨g1, o1, c1, e1, hg1, f1⟩ := fs_at (hq.fl (ov, arcs) (by simp)) hay
      obtain ⟨g2, o2, c2, e2, hg2, f2⟩ := fs_at (hq.fl (.slice ya M yc, arcs) (by simp)) hay
      rw [← HM.out] at e1 e2
      simp only [Value.slice.injEq] at e2
      simp only at e1
      obtain ⟨rfl, -, rfl⟩ := e2
      subst e1
      have hki : (k : Int) < (M : Int) := by omega
      have hk1 : (k : Int) ≤ 9223372036854775806 := by omega
      have hk0 : (0 : Int) ≤ (k : Int) := by omega
      have hqq : (a != a) = false := by simp
      have HQ := Lib.hid (And.intro hq hlt)
      clear hq hlt hk hay hg1 hg2
      go_wp2
      go_quiet (fail)
      go_wp2
      go_roundw
      case rel => exact ⟨k + 1, by go_num, HQ.out.2, HQ.out.1.go (below_drewN (Below.refl _ _) _)⟩
      case measure =>
        have := HQ.out.2
        simp only [intOf]
        omega
    · obtain rfl : M = k := by omega
      have hki : ¬ (M : Int) < (M : Int) := by omega
      have P := HP.out.2.2.2.2 _ hq
      have HQ := Lib.hid hq
      clear hq hge hk
      go_wp2_with fail
      refine P.mono ?_
      rintro _ w8 ⟨rfl, bl⟩
      have hq := HQ.out.go bl
      have HQ := Lib.hid hq
      clear hq bl P
      go_wp2_with fail
      refine (works12_any _).mono ?_
      rintro _ w9 ⟨rfl, bl⟩
      go_wp2
      go_ret
      exact ⟨rfl, (HQ.out.go bl).under⟩
end Go.Proofs.Ytohcoknnalgjnaa
