/- The statement NetTurned: with all edges turned round, with the edges in another order, with another number for each node; no condition. -/
import Derived.Test.YtmdjgkclbjbdiaaNtGrow
import Derived.Test.YtmdjgkclbjbdiaaNtTurnP
import Derived.Test.YtmdjgkclbjbdiaaNtTurnQ
import Derived.BigQuiet
namespace Go.Proofs.Ytmdjgkclbjbdiaa
open Go.RowKit

set_option maxRecDepth 100000 in
set_option maxHeartbeats 40000000 in
theorem netTurned_any (n : Int) (by0 : Nat) (w : World) {v x : Value} {es : List Ed} {fl : List Int} (he : Es w v es) (hf : Fs w x fl) (hby : by0 < 256) : Calls Try.prog 8 #[netV n v, x, .int .u8 (by0 : Int)] w fun e w' => e = .returned (.bool true) ∧ Below w.heap.size w w' := by
  have hsv : es ≠ [] → ∀ q, v.ownBlock = some q → q < w.heap.size := fun h q hq => he.in_heap h hq
  have hsf : fl ≠ [] → ∀ q, x.ownBlock = some q → q < w.heap.size := fun h q hq => hf.in_heap h hq
  obtain ⟨va, vc, rfl, -, -⟩ := he.shape
  obtain ⟨xa, xc, rfl, -, -⟩ := hf.shape
  have hK := NQ.box n he (fls := [(.slice xa fl.length xc, fl)]) (fun p hp => by rw [List.mem_singleton.1 hp]; exact hf)
  have HSV := Lib.hid (And.intro hsv (And.intro hsf hby))
  clear he hf hsv hsf hby
  obtain ⟨n0, n1⟩ := hK.net.net
  have P := vast_any n es fl _ hK.es (hK.fl (.slice xa fl.length xc, fl) (by simp))
  have HK := Lib.hid hK
  clear hK
  go_enter Try.func8, Try.ntmps8
  go_wp2_with fail
  generalize w.alloc (.cells #[.int .i64 n, .slice va es.length vc] 24) = w1 at *
  refine P.mono ?_
  rintro e w2 ⟨rfl, bl⟩
  have h2 := HK.out.go bl
  clear P HK bl n0 n1
  by_cases hv : 2000 < es.length ∨ 2000 < fl.length
  case pos =>
    rw [decide_eq_true hv]
    have HV := Lib.hid (And.intro hv h2)
    clear hv h2
    go_wp2_with fail
    refine (works_any w2).mono ?_
    rintro e w3 ⟨rfl, bl⟩
    go_wp2
    go_ret
    exact ⟨rfl, (HV.out.2.go bl).under⟩
  rw [decide_eq_false hv]
  obtain ⟨n0, n1⟩ := h2.net.net
  have hG := NG.three h2 HSV.out.1 (fun p hp => by rw [List.mem_singleton.1 hp]; exact HSV.out.2.1)
  obtain ⟨m0, m1⟩ := (h2.go ((Below.refl w2.heap.size w2).alloc (Nat.le_refl _) (.cells #[.int .i64 n, .slice none 0 0] 24))).net.net
  obtain ⟨m2, m3⟩ := ((h2.go ((Below.refl w2.heap.size w2).alloc (Nat.le_refl _) (.cells #[.int .i64 n, .slice none 0 0] 24))).go ((Below.refl _ _).alloc (Nat.le_refl _) (.cells #[.int .i64 n, .slice none 0 0] 24))).net.net
  obtain ⟨m4, m5⟩ := hG.q.net.net
  obtain ⟨k, hk⟩ : ∃ k : Nat, k = if 0 < n then by0 % n.toNat else 0 := ⟨_, rfl⟩
  have hk256 : k < 256 := by
    rw [hk]
    split
    · exact Nat.lt_of_le_of_lt (Nat.mod_le _ _) HSV.out.2.2
    · decide
  have HG := Lib.hid (And.intro hG (And.intro hv (And.intro hk hk256)))
  clear hG h2 hv hk hk256
  go_upto_if 37 with fail
  generalize ((w2.alloc (.cells #[.int .i64 n, .slice none 0 0] 24)).alloc (.cells #[.int .i64 n, .slice none 0 0] 24)).alloc (.cells #[.int .i64 n, .slice none 0 0] 24) = w3 at *
  generalize w2.heap.size = d at *
  go_cut [11] from 38 to 43 (fun t11 wx => t11 = .int .i64 (k : Int) ∧ w3 = wx)
  case first =>
    obtain ⟨hG, hv, hk, hk256⟩ := HG.out
    by_cases hn : 0 < n
    · rw [if_pos hn] at hk
      obtain ⟨m, rfl⟩ : ∃ m : Nat, n = (m : Int) := ⟨n.toNat, by omega⟩
      rw [Int.toNat_natCast] at hk
      have t0 : Int.tmod (by0 : Int) (m : Int) = (k : Int) := by rw [hk]; exact (Int.ofNat_tmod by0 m).symm
      have hz : ¬ (m : Int) = 0 := by omega
      have hz2 : ¬ m = 0 := by omega
      have hwb : IntKind.i64.wrap (by0 : Int) = (by0 : Int) := IntWalk.i64_in _ (by have := HSV.out.2.2; omega)
      have hwb2 : wrap64 (by0 : Int) = (by0 : Int) := by have := HSV.out.2.2; unfold wrap64; omega
      clear hG hv hk hk256
      go_wp2_with fail
      go_meet
      case rel => exact ⟨rfl, rfl⟩
    · rw [if_neg hn] at hk
      subst hk
      clear hG hv hk256
      go_wp2_with fail
      go_meet
      case rel => exact ⟨rfl, rfl⟩
  case rest =>
    obtain ⟨rfl, rfl⟩ := hcut
    clear n0 n1 m0 m1 m2 m3 m4 m5
    obtain ⟨L, hL⟩ : ∃ L, L = es.length := ⟨_, rfl⟩
    obtain ⟨hG, hv, -, hk256⟩ := HG.out
    rw [← hL] at hG ⊢
    have hL2 : L ≤ 2000 := by omega
    have H1 := Lib.hid (And.intro hG (And.intro hL (And.intro (show fl.length ≤ 2000 by omega) (And.intro HG.out.2.2.1 hk256))))
    clear hG hL hv hk256 HG
    go_wp2
    go_loopw [12] (fun j wr => ∃ (i : Nat) (e1 e2 e3 : Value), j = .int .i64 (i : Int) ∧ i ≤ L ∧ NG w n (.slice va L vc) es [(.slice xa fl.length xc, fl)] (d + 1 + 1) [(d, e1, (es.take i).map bkE), (d + 1, e2, es.reverse.take i), (d + 1 + 1, e3, (es.take i).map (mvE n k))] wr) (fun j _ => L - (intOf j).toNat)
    case atStart => exact ⟨0, _, _, _, rfl, Nat.zero_le _, H1.out.1⟩
    case round =>
      obtain ⟨i, e1, e2, e3, rfl, hi, hG⟩ := hrel
      obtain ⟨n0, n1⟩ := hG.q.net.net
      rcases Nat.lt_or_ge i L with hil | hig
      · obtain ⟨e, hei⟩ : ∃ e, es[i]? = some e := ⟨_, List.getElem?_eq_getElem (by have := H1.out.2.1; omega)⟩
        obtain ⟨g, o, cap, e0, hg, f0, f1, f2, f3⟩ := es_at hG.q.es hei
        have hel := H1.out.2.1
        rw [← hel] at e0
        simp only [Value.slice.injEq] at e0
        obtain ⟨rfl, -, rfl⟩ := e0
        have hii : (i : Int) < (L : Int) := by omega
        have hi1 : (i : Int) ≤ 9223372036854775806 := by omega
        have hi0 : (0 : Int) ≤ (i : Int) := by omega
        have hb := (Below.refl wr.heap.size wr).alloc (Nat.le_refl _) (.cells #[.int .i64 e.fr, .int .i64 e.to, .int .i64 e.cap, .int .i64 e.cost] 39)
        have hG2 := hG.go hb
        have ce := Cel.new wr #[.int .i64 e.fr, .int .i64 e.to, .int .i64 e.cap, .int .i64 e.cost] 39
        have he1 : e1.ownBlock ≠ some wr.heap.size := fun h => by have := (hG.lot.1 (e1, (es.take i).map bkE) (by simp)).own h; omega
        obtain ⟨v1, w5, hr1, ⟨pa, pm, pc, rfl⟩, hq5, hc5, hG5, hO5, hO6, hV1⟩ := hG2.more (bkE e) (by rw [List.length_map, List.length_take]; omega)
        have hsep : e2.ownBlock ≠ some wr.heap.size ∧ e3.ownBlock ≠ some wr.heap.size ∧ d + 1 ≠ wr.heap.size ∧ d + 1 + 1 ≠ wr.heap.size := ⟨fun h => by have := (hG.lot.1 (e2, es.reverse.take i) (by simp)).own h; omega, fun h => by have := (hG.lot.1 (e3, (es.take i).map (mvE n k)) (by simp)).own h; omega, by have := hG.hd; omega, by have := hG.hd; omega⟩
        have hde : d ≠ wr.heap.size := fun h => by have := (hG.cel (d, e1, (es.take i).map bkE) (by simp)).1.lt; simp only at this; omega
        have ce5 := ce.only hO6 (fun h => h.elim he1 (fun e => hde e.symm))
        obtain ⟨z0, z1⟩ := (hG2.cel (d, e1, (es.take i).map bkE) (by simp)).1.net
        obtain ⟨q0, q1, q2, q3⟩ := Cel.ed ce
        obtain ⟨y0, y1⟩ := hc5.net
        have y2 := hc5.frozen 1
        have hweb : w.heap.size < wr.heap.size := by have h1 := (hG.cel (d, e1, (es.take i).map bkE) (by simp)).2.1; have h2 := hG.hd; simp only at h1; omega
        have HR2 := Lib.hid (And.intro hde hsep)
        have HWE := Lib.hid hweb
        have HR := Lib.hid (And.intro hG5 (And.intro ce5 (And.intro hei hil)))
        unfold bkE at hr1
        simp only at hr1 z0 z1
        have hV1' : ∀ q, (Value.slice pa pm pc).ownBlock = some q → q ≠ wr.heap.size := fun q hq => by
          rcases hV1 q hq with h | h
          · exact fun e => he1 (e ▸ h)
          · rw [World.size_alloc] at h
            omega
        have HV1 := Lib.hid hV1'
        clear hG hG2 hei hel hg hb ce he1 hq5 hc5 hG5 hO5 hO6 hde ce5 hil hi hsep hV1 hV1'
        have HQ0 := Lib.hid (And.intro hr1 (And.intro z0 (And.intro z1 (And.intro y0 (And.intro y1 (And.intro y2 (And.intro q0 (And.intro q1 (And.intro q2 q3)))))))))
        clear hr1 z0 z1 y0 y1 y2 q0 q1 q2 q3
        go_upto_region 14 with fail
        clear n0 n1 f0 f1 f2 f3
        have HSP := Lib.hid HR2.out
        clear HR2
        generalize wr.alloc (.cells #[.int .i64 e.fr, .int .i64 e.to, .int .i64 e.cap, .int .i64 e.cost] 39) = wa at *
        generalize wr.heap.size = eb at *
        obtain ⟨hr1, z0, z1, y0, y1, y2, q0, q1, q2, q3⟩ := HQ0.out
        clear HQ0
        go_upto_region 15 with (at_builtin; refine nlist_append_run rfl (.tmp 56) (.tmp 66) _ rfl rfl rfl hr1 ?_)
        clear hr1 z0 z1 y0 y1 y2
        obtain ⟨hG5, ce5, hei, hil⟩ := HR.out
        generalize w5.setCell ⟨d, 1, none⟩ (.slice pa pm pc) = w6 at *
        have hG6 := (hG5.perm (List.Perm.swap (d + 1, e2, es.reverse.take i) (d, .slice pa pm pc, (es.take i).map bkE ++ [bkE e]) [(d + 1 + 1, e3, (es.take i).map (mvE n k))])).go ((Below.refl w6.heap.size w6).drew)
        obtain ⟨r, hr⟩ : ∃ r, r = L - 1 - i := ⟨_, rfl⟩
        obtain ⟨f, hf⟩ : ∃ f, es[r]? = some f := ⟨_, List.getElem?_eq_getElem (by have := H1.out.2.1; omega)⟩
        have hfr : es.reverse[i]? = some f := by
          have h1 := H1.out.2.1
          rw [List.getElem?_reverse (by omega), ← h1, show L - 1 - i = r from hr.symm]
          exact hf
        have hr1 : (L : Int) - 1 - (i : Int) = (r : Int) := by omega
        have hrl : (r : Int) < (L : Int) := by omega
        have hr0 : (0 : Int) ≤ (r : Int) := by omega
        have hw1 : IntKind.i64.wrap ((L : Int) - 1) = (L : Int) - 1 := IntWalk.i64_in _ (by omega)
        have hw2 : IntKind.i64.wrap ((L : Int) - 1 - (i : Int)) = (r : Int) := by rw [hr1]; exact IntWalk.i64_in _ (by omega)
        have hw3 : wrap64 ((L : Int) - 1) = (L : Int) - 1 := by unfold wrap64; omega
        have hw4 : wrap64 ((L : Int) - 1 - (i : Int)) = (r : Int) := by rw [hr1]; unfold wrap64; omega
        have hEL := H1.out.2.1
        have HS := Lib.hid (show ∀ W, NQ w w.heap.size n (.slice (some ⟨g, o, none⟩) L vc) es [(.slice xa fl.length xc, fl)] W ∧ W.cell? ⟨d + 1, 1, none⟩ = some e2 → (W.cell? ⟨d + 1, 1, none⟩ = some e2 ∧ W.cell? ⟨w.heap.size, 1, none⟩ = some (.slice (some ⟨g, o, none⟩) L vc)) ∧ W.cell? ⟨g, o + r * 4, none⟩ = some (.int .i64 f.fr) ∧ W.cell? ⟨g, o + r * 4 + 1, none⟩ = some (.int .i64 f.to) ∧ W.cell? ⟨g, o + r * 4 + 2, none⟩ = some (.int .i64 f.cap) ∧ W.cell? ⟨g, o + r * 4 + 3, none⟩ = some (.int .i64 f.cost) from by
          intro W hW
          obtain ⟨g', o', cap', e0, -, f0, f1, f2, f3⟩ := es_at hW.1.es hf
          simp only [Value.slice.injEq, Option.some.injEq, Addr.mk.injEq] at e0
          obtain ⟨⟨rfl, rfl, -⟩, -, -⟩ := e0
          exact ⟨⟨hW.2, hW.1.net.net.2⟩, f0, f1, f2, f3⟩)
        have hS0 : NQ w w.heap.size n (.slice (some ⟨g, o, none⟩) L vc) es [(.slice xa fl.length xc, fl)] w6.drew ∧ w6.drew.cell? ⟨d + 1, 1, none⟩ = some e2 := ⟨hG6.q, (hG6.cel (d + 1, e2, es.reverse.take i) (by simp)).1.net.2⟩
        have H6 := Lib.hid (And.intro hG6 (And.intro ce5 (And.intro hei (And.intro hil (And.intro hfr hr)))))
        clear hG5 ce5 hei hil hG6 hr hf hfr hr1 hEL q0 q1 q2 q3 HR
        refine region_till 15 (fun W => NQ w w.heap.size n (.slice (some ⟨g, o, none⟩) L vc) es [(.slice xa fl.length xc, fl)] W ∧ W.cell? ⟨d + 1, 1, none⟩ = some e2) (by kernel_rfl) hS0 (fun hS => ?_)
        clear hS0
        skip
        refine take_till (i := 0) (some 69) (.pointer (some ⟨d + 1, 1, none⟩)) rfl rfl (by kernel_rfl) (by kernel_rfl) (by kernel_rfl) (by kernel_rfl) (by decide) (fun _ _ _ h => h) (by rfl) (fun W hW => ?_) hS ?_
        · obtain ⟨⟨c0, c1⟩, f0, f1, f2, f3⟩ := HS.out W hW
          clear hW
          go_simp
        simp only [Act.put, List.setIfInBounds_toArray, List.set_cons_zero, List.set_cons_succ]
        refine take_till (i := 1) (some 70) (e2) rfl rfl (by kernel_rfl) (by kernel_rfl) (by kernel_rfl) (by kernel_rfl) (by decide) (fun _ _ _ h => h) (by rfl) (fun W hW => ?_) hS ?_
        · obtain ⟨⟨c0, c1⟩, f0, f1, f2, f3⟩ := HS.out W hW
          clear hW
          go_simp
        simp only [Act.put, List.setIfInBounds_toArray, List.set_cons_zero, List.set_cons_succ]
        refine take_till (i := 2) (some 71) (.pointer (some ⟨w.heap.size, 1, none⟩)) rfl rfl (by kernel_rfl) (by kernel_rfl) (by kernel_rfl) (by kernel_rfl) (by decide) (fun _ _ _ h => h) (by rfl) (fun W hW => ?_) hS ?_
        · obtain ⟨⟨c0, c1⟩, f0, f1, f2, f3⟩ := HS.out W hW
          clear hW
          go_simp
        simp only [Act.put, List.setIfInBounds_toArray, List.set_cons_zero, List.set_cons_succ]
        refine take_till (i := 3) (some 72) (.slice (some ⟨g, o, none⟩) L vc) rfl rfl (by kernel_rfl) (by kernel_rfl) (by kernel_rfl) (by kernel_rfl) (by decide) (fun _ _ _ h => h) (by rfl) (fun W hW => ?_) hS ?_
        · obtain ⟨⟨c0, c1⟩, f0, f1, f2, f3⟩ := HS.out W hW
          clear hW
          go_simp
        simp only [Act.put, List.setIfInBounds_toArray, List.set_cons_zero, List.set_cons_succ]
        refine take_till (i := 4) (some 73) (.pointer (some ⟨w.heap.size, 1, none⟩)) rfl rfl (by kernel_rfl) (by kernel_rfl) (by kernel_rfl) (by kernel_rfl) (by decide) (fun _ _ _ h => h) (by rfl) (fun W hW => ?_) hS ?_
        · obtain ⟨⟨c0, c1⟩, f0, f1, f2, f3⟩ := HS.out W hW
          clear hW
          go_simp
        simp only [Act.put, List.setIfInBounds_toArray, List.set_cons_zero, List.set_cons_succ]
        refine take_till (i := 5) (some 74) (.slice (some ⟨g, o, none⟩) L vc) rfl rfl (by kernel_rfl) (by kernel_rfl) (by kernel_rfl) (by kernel_rfl) (by decide) (fun _ _ _ h => h) (by rfl) (fun W hW => ?_) hS ?_
        · obtain ⟨⟨c0, c1⟩, f0, f1, f2, f3⟩ := HS.out W hW
          clear hW
          go_simp
        simp only [Act.put, List.setIfInBounds_toArray, List.set_cons_zero, List.set_cons_succ]
        refine take_till (i := 6) (some 75) (.int .i64 (L : Int)) rfl rfl (by kernel_rfl) (by kernel_rfl) (by kernel_rfl) (by kernel_rfl) (by decide) (fun _ _ _ h => h) (by rfl) (fun W hW => ?_) hS ?_
        · obtain ⟨⟨c0, c1⟩, f0, f1, f2, f3⟩ := HS.out W hW
          clear hW
          go_simp
        simp only [Act.put, List.setIfInBounds_toArray, List.set_cons_zero, List.set_cons_succ]
        refine take_till (i := 7) (some 76) (.int .i64 ((L : Int) - 1)) rfl rfl (by kernel_rfl) (by kernel_rfl) (by kernel_rfl) (by kernel_rfl) (by decide) (fun _ _ _ h => h) (by rfl) (fun W hW => ?_) hS ?_
        · obtain ⟨⟨c0, c1⟩, f0, f1, f2, f3⟩ := HS.out W hW
          clear hW
          go_simp
          all_goals exact hw1
        simp only [Act.put, List.setIfInBounds_toArray, List.set_cons_zero, List.set_cons_succ]
        refine take_till (i := 8) (some 77) (.int .i64 (i : Int)) rfl rfl (by kernel_rfl) (by kernel_rfl) (by kernel_rfl) (by kernel_rfl) (by decide) (fun _ _ _ h => h) (by rfl) (fun W hW => ?_) hS ?_
        · obtain ⟨⟨c0, c1⟩, f0, f1, f2, f3⟩ := HS.out W hW
          clear hW
          go_simp
        simp only [Act.put, List.setIfInBounds_toArray, List.set_cons_zero, List.set_cons_succ]
        refine take_till (i := 9) (some 78) (.int .i64 (r : Int)) rfl rfl (by kernel_rfl) (by kernel_rfl) (by kernel_rfl) (by kernel_rfl) (by decide) (fun _ _ _ h => h) (by rfl) (fun W hW => ?_) hS ?_
        · obtain ⟨⟨c0, c1⟩, f0, f1, f2, f3⟩ := HS.out W hW
          clear hW
          go_simp
          all_goals exact hw2
        simp only [Act.put, List.setIfInBounds_toArray, List.set_cons_zero, List.set_cons_succ]
        refine take_till (i := 10) (some 79) (.pointer (some ⟨g, o + r * 4, none⟩)) rfl rfl (by kernel_rfl) (by kernel_rfl) (by kernel_rfl) (by kernel_rfl) (by decide) (fun _ _ _ h => h) (by rfl) (fun W hW => ?_) hS ?_
        · obtain ⟨⟨c0, c1⟩, f0, f1, f2, f3⟩ := HS.out W hW
          clear hW
          go_simp
        simp only [Act.put, List.setIfInBounds_toArray, List.set_cons_zero, List.set_cons_succ]
        refine take_till (i := 11) (some 80) (edV f) rfl rfl (by kernel_rfl) (by kernel_rfl) (by kernel_rfl) (by kernel_rfl) (by decide) (fun _ _ _ h => h) (by rfl) (fun W hW => ?_) hS ?_
        · obtain ⟨⟨c0, c1⟩, f0, f1, f2, f3⟩ := HS.out W hW
          clear hW
          go_simp
        simp only [Act.put, List.setIfInBounds_toArray, List.set_cons_zero, List.set_cons_succ]
        obtain ⟨hG6, ce5, hei, hil, hfr, hr⟩ := H6.out
        obtain ⟨v2, w7, hr2, ⟨ra, rm, rc, rfl⟩, hq7, hc7, hG7, hO7, hO8, hV2⟩ := hG6.more f (by rw [List.length_take]; omega)
        have ce6 : Cel w6.drew eb [.int .i64 e.fr, .int .i64 e.to, .int .i64 e.cap, .int .i64 e.cost] 39 := ce5.kept rfl
        have ce8 := ce6.only hO8 (fun h => h.elim HSP.out.2.1 (fun e => HSP.out.2.2.2.1 e.symm))
        have hA := hG6.go ((Below.refl w6.drew.heap.size w6.drew).alloc (Nat.le_refl _) (.cells #[.int .i64 f.fr, .int .i64 f.to, .int .i64 f.cap, .int .i64 f.cost] 39))
        have HS1 := Lib.hid (And.intro hA.q (hA.cel (d + 1, e2, es.reverse.take i) (by simp)).1.net.2)
        have HS2 := Lib.hid (And.intro hq7 hc7.net.2)
        obtain ⟨z0, z1⟩ := hc7.net
        have y1 := hc7.frozen 1
        have HE := Lib.hid (And.intro hG7 (And.intro ce8 (And.intro hei (And.intro hil (And.intro hfr hr)))))
        have hV2' : ∀ q, (Value.slice ra rm rc).ownBlock = some q → q ≠ eb := fun q hq => by
          rcases hV2 q hq with h | h
          · exact fun e => HSP.out.2.1 (e ▸ h)
          · have := ce6.lt
            omega
        have HV2 := Lib.hid hV2'
        clear hG6 ce5 hei hil hfr hr hq7 hc7 hG7 hO7 hO8 ce6 ce8 hA H6 HS hS hV2 hV2'
        generalize w6.drew = wd at *
        refine next_till 12 (by kernel_rfl) rfl (fun K hK => ?_)
        go_simp
        refine hK.out _ _ (fun _ => HS1.out) ?_
        clear hK K
        refine next_till 13 (by kernel_rfl) rfl (fun K hK => ?_)
        refine wp_append_run (.tmp 70) (.tmp 81) _ rfl rfl rfl hr2 ?_
        refine hK.out _ _ (fun _ => HS2.out) ?_
        simp only [Act.put, List.setIfInBounds_toArray]
        clear hK K hr2 HS1
        refine next_till 14 (by kernel_rfl) rfl (fun K hK => ?_)
        go_simp
        refine hK.out _ _ (fun _ => HS2.out) ?_
        clear hK K
        refine next_till 15 (by kernel_rfl) rfl (fun K hK => ?_)
        go_simp
        refine hK.out _ _ (fun e => absurd rfl e) ?_
        clear hK K z0 z1 y1 HS2
        refine done_till (by kernel_rfl) ?_ _
        generalize w7.setCell ⟨d + 1, 1, none⟩ (.slice ra rm rc) = w8 at *
        obtain ⟨hG7, ce8, hei, hil, hfr, hr⟩ := HE.out
        have hre : eb ≠ w.heap.size := by have := HWE.out; omega
        have HAP := Lib.hid (show ∀ (W : World) (u : Value) (c : Nat), NG w n (.slice (some ⟨g, o, none⟩) L vc) es [(.slice xa fl.length xc, fl)] (d + 1 + 1) [(d + 1, .slice ra rm rc, es.reverse.take i ++ [f]), (d, .slice pa pm pc, (es.take i).map bkE ++ [bkE e]), (d + 1 + 1, e3, (es.take i).map (mvE n k))] W → NG w n (.slice (some ⟨g, o, none⟩) L vc) es [(.slice xa fl.length xc, fl)] (d + 1 + 1) [(d + 1, .slice ra rm rc, es.reverse.take i ++ [f]), (d, .slice pa pm pc, (es.take i).map bkE ++ [bkE e]), (d + 1 + 1, e3, (es.take i).map (mvE n k))] (W.setCell ⟨eb, c, none⟩ u) from fun W u c h => h.apart (T := fun q => q = eb) ((Only.refl (fun q => q = eb) W).setCell (p := ⟨eb, c, none⟩) (.inl rfl) u) (fun q hq => by have := HWE.out; omega) (fun r hr => by
            obtain ⟨s1, s2, s3, s4, s5⟩ := HSP.out
            simp only [List.mem_cons, List.not_mem_nil, or_false] at hr
            rcases hr with rfl | rfl | rfl
            · exact s4
            · exact s1
            · exact s5) (fun r hr q hq => by
            obtain ⟨s1, s2, s3, s4, s5⟩ := HSP.out
            simp only [List.mem_cons, List.not_mem_nil, or_false] at hr
            rcases hr with rfl | rfl | rfl
            · exact HV2.out q hq
            · exact HV1.out q hq
            · exact fun e => s3 (e ▸ hq)))
        obtain ⟨q0, q1, q2, q3⟩ := Cel.ed ce8
        have fq0 := ce8.frozen 0
        obtain ⟨n0, n1⟩ := hG7.q.net.net
        have HE2 := Lib.hid (And.intro hG7 (And.intro ce8 (And.intro hei (And.intro hil (And.intro hfr hr)))))
        clear hG7 ce8 hei hil hfr hr HE HV1 HV2
        go_upto_region 16 with fail
        go_cut [93] from 84 to 92 (fun s wx => s = .bool (decide (0 ≤ e.fr ∧ e.fr < n)) ∧ wx = w8)
        case first =>
          by_cases hx0 : 0 ≤ e.fr
          · by_cases hx1 : e.fr < n
            · go_wp2
              go_meet
              exact ⟨by simp [hx0, hx1], rfl⟩
            · go_wp2
              go_meet
              exact ⟨by simp [hx0, hx1], rfl⟩
          · go_wp2
            go_meet
            exact ⟨by simp [hx0]; omega, rfl⟩
        case rest =>
        obtain ⟨rfl, rfl⟩ := hcut
        go_upto_if 93 with fail
        go_cut [] from 93 to 101 (fun wx => ∃ W, W = wx ∧ Cel W eb [.int .i64 (mvN n k e.fr), .int .i64 e.to, .int .i64 e.cap, .int .i64 e.cost] 39 ∧ NG w n (.slice (some ⟨g, o, none⟩) L vc) es [(.slice xa fl.length xc, fl)] (d + 1 + 1) [(d + 1, .slice ra rm rc, es.reverse.take i ++ [f]), (d, .slice pa pm pc, (es.take i).map bkE ++ [bkE e]), (d + 1 + 1, e3, (es.take i).map (mvE n k))] W)
        case first =>
          by_cases hx : 0 ≤ e.fr ∧ e.fr < n
          · have hnz : ¬ n = 0 := by omega
            have hxt : decide (0 ≤ e.fr ∧ e.fr < n) = true := decide_eq_true hx
            have hmv : mvN n k e.fr = Int.tmod (wrap64 (e.fr + (k : Int))) n := by unfold mvN; rw [if_pos hx]
            obtain ⟨hG7, ce8, hei, hil, hfr, hr⟩ := HE2.out
            have HO := Lib.hid (And.intro (ce8.set 0 (.int .i64 (Int.tmod (wrap64 (e.fr + (k : Int))) n))) (HAP.out _ (.int .i64 (Int.tmod (wrap64 (e.fr + (k : Int))) n)) 0 hG7))
            have HMV := Lib.hid hmv
            rw [hxt]
            clear hG7 ce8 hei hil hfr hr hx hxt hmv
            go_wp2
            go_meet
            rw [HMV.out]
            exact ⟨_, rfl, HO.out⟩
          · have hxt : decide (0 ≤ e.fr ∧ e.fr < n) = false := decide_eq_false hx
            have hmv : mvN n k e.fr = e.fr := by unfold mvN; rw [if_neg hx]
            obtain ⟨hG7, ce8, hei, hil, hfr, hr⟩ := HE2.out
            have HO := Lib.hid (And.intro ce8 hG7)
            have HMV := Lib.hid hmv
            rw [hxt]
            clear hG7 ce8 hei hil hfr hr hx hxt hmv
            go_wp2
            go_meet
            rw [HMV.out]
            exact ⟨_, rfl, HO.out⟩
        case rest =>
        obtain ⟨-, -, hei, hil, hfr, hr⟩ := HE2.out
        obtain ⟨w9, rfl, ce8, hG7⟩ := hcut
        clear q0 q1 q2 q3 fq0 n0 n1 HE2
        obtain ⟨q0, q1, q2, q3⟩ := Cel.ed (e := ⟨mvN n k e.fr, e.to, e.cap, e.cost⟩) ce8
        have fq0 := ce8.frozen 1
        obtain ⟨n0, n1⟩ := hG7.q.net.net
        have HE2 := Lib.hid (And.intro hG7 (And.intro ce8 (And.intro hei (And.intro hil (And.intro hfr hr)))))
        clear hG7 ce8 hei hil hfr hr
        go_upto_region 18 with fail
        go_cut [111] from 102 to 110 (fun s wx => s = .bool (decide (0 ≤ e.to ∧ e.to < n)) ∧ wx = w9)
        case first =>
          by_cases hx0 : 0 ≤ e.to
          · by_cases hx1 : e.to < n
            · go_wp2
              go_meet
              exact ⟨by simp [hx0, hx1], rfl⟩
            · go_wp2
              go_meet
              exact ⟨by simp [hx0, hx1], rfl⟩
          · go_wp2
            go_meet
            exact ⟨by simp [hx0]; omega, rfl⟩
        case rest =>
        obtain ⟨rfl, rfl⟩ := hcut
        go_upto_if 111 with fail
        go_cut [] from 111 to 119 (fun wx => ∃ W, W = wx ∧ Cel W eb [.int .i64 (mvN n k e.fr), .int .i64 (mvN n k e.to), .int .i64 e.cap, .int .i64 e.cost] 39 ∧ NG w n (.slice (some ⟨g, o, none⟩) L vc) es [(.slice xa fl.length xc, fl)] (d + 1 + 1) [(d + 1, .slice ra rm rc, es.reverse.take i ++ [f]), (d, .slice pa pm pc, (es.take i).map bkE ++ [bkE e]), (d + 1 + 1, e3, (es.take i).map (mvE n k))] W)
        case first =>
          by_cases hx : 0 ≤ e.to ∧ e.to < n
          · have hnz : ¬ n = 0 := by omega
            have hxt : decide (0 ≤ e.to ∧ e.to < n) = true := decide_eq_true hx
            have hmv : mvN n k e.to = Int.tmod (wrap64 (e.to + (k : Int))) n := by unfold mvN; rw [if_pos hx]
            obtain ⟨hG7, ce8, hei, hil, hfr, hr⟩ := HE2.out
            have HO := Lib.hid (And.intro (ce8.set 1 (.int .i64 (Int.tmod (wrap64 (e.to + (k : Int))) n))) (HAP.out _ (.int .i64 (Int.tmod (wrap64 (e.to + (k : Int))) n)) 1 hG7))
            have HMV := Lib.hid hmv
            rw [hxt]
            clear hG7 ce8 hei hil hfr hr hx hxt hmv
            go_wp2
            go_meet
            rw [HMV.out]
            exact ⟨_, rfl, HO.out⟩
          · have hxt : decide (0 ≤ e.to ∧ e.to < n) = false := decide_eq_false hx
            have hmv : mvN n k e.to = e.to := by unfold mvN; rw [if_neg hx]
            obtain ⟨hG7, ce8, hei, hil, hfr, hr⟩ := HE2.out
            have HO := Lib.hid (And.intro ce8 hG7)
            have HMV := Lib.hid hmv
            rw [hxt]
            clear hG7 ce8 hei hil hfr hr hx hxt hmv
            go_wp2
            go_meet
            rw [HMV.out]
            exact ⟨_, rfl, HO.out⟩
        case rest =>
        obtain ⟨-, -, hei, hil, hfr, hr⟩ := HE2.out
        obtain ⟨w10, rfl, ce8, hG7⟩ := hcut
        clear q0 q1 q2 q3 fq0 n0 n1 HE2
        obtain ⟨q0, q1, q2, q3⟩ := Cel.ed (e := ⟨mvN n k e.fr, mvN n k e.to, e.cap, e.cost⟩) ce8
        have fq0 := ce8.frozen 1
        obtain ⟨n0, n1⟩ := hG7.q.net.net
        have HE2 := Lib.hid (And.intro hG7 (And.intro ce8 (And.intro hei (And.intro hil (And.intro hfr hr)))))
        clear hG7 ce8 hei hil hfr hr
        obtain ⟨hG7, ce8, hei, hil, hfr, hr⟩ := HE2.out
        clear HE2
        have hG8 := hG7.perm (List.reverse_perm [(d + 1, Value.slice ra rm rc, es.reverse.take i ++ [f]), (d, .slice pa pm pc, (es.take i).map bkE ++ [bkE e]), (d + 1 + 1, e3, (es.take i).map (mvE n k))]).symm
        obtain ⟨v3, w11, hr3, ⟨sa, sm, sc, rfl⟩, hq8, hc8, hG9, -, -, -⟩ := NG.more (rows := [(d, .slice pa pm pc, (es.take i).map bkE ++ [bkE e]), (d + 1, .slice ra rm rc, es.reverse.take i ++ [f])]) hG8 (mvE n k e) (by rw [List.length_map, List.length_take]; omega)
        obtain ⟨z0, z1⟩ := (hG8.cel (d + 1 + 1, e3, (es.take i).map (mvE n k)) (by simp)).1.net
        have z2 := hc8.net.2
        have z3 := hc8.frozen 1
        unfold mvE at hr3
        simp only at hr3 z0 z1
        have s1 : (es.take i).map bkE ++ [bkE e] = (es.take (i + 1)).map bkE := by rw [List.take_add_one, hei, List.map_append]; rfl
        have s2 : es.reverse.take i ++ [f] = es.reverse.take (i + 1) := by rw [List.take_add_one, hfr]; rfl
        have s3 : (es.take i).map (mvE n k) ++ [mvE n k e] = (es.take (i + 1)).map (mvE n k) := by rw [List.take_add_one, hei, List.map_append]; rfl
        rw [s1, s2, s3] at hG9
        have hG10 := hG9.perm (List.Perm.trans (List.perm_append_comm (l₁ := [(d + 1 + 1, Value.slice sa sm sc, (es.take (i + 1)).map (mvE n k))]) (l₂ := [(d, Value.slice pa pm pc, (es.take (i + 1)).map bkE), (d + 1, Value.slice ra rm rc, es.reverse.take (i + 1))])) (List.Perm.refl [(d, Value.slice pa pm pc, (es.take (i + 1)).map bkE), (d + 1, Value.slice ra rm rc, es.reverse.take (i + 1)), (d + 1 + 1, Value.slice sa sm sc, (es.take (i + 1)).map (mvE n k))]))
        have HF := Lib.hid (And.intro hG10 hil)
        clear hG7 ce8 hei hil hfr hr hG8 hq8 hc8 hG9 hG10 s1 s2 s3 n0 n1 fq0 HAP HSP HWE
        go_wp2_with (at_builtin; refine nlist_append_run rfl (.tmp 121) (.tmp 123) _ rfl rfl rfl hr3 ?_)
        go_roundw
        case rel => exact ⟨i + 1, _, _, _, by go_num, HF.out.2, HF.out.1⟩
        case measure =>
          have := HF.out.2
          simp only [intOf]
          omega
      · have hil2 : i = L := by omega
        rw [hil2] at hG ⊢
        clear hi hig hil2
        clear i
        obtain ⟨hG0, hL, hfl2, hk, hk256⟩ := H1.out
        have hx : es.take L = es := by rw [hL, List.take_length]
        have hx2 : es.reverse.take L = es.reverse := by rw [hL, ← List.length_reverse, List.take_length]
        rw [hx, hx2] at hG
        have hT := hG.ts
        obtain ⟨a1, c1, rfl, -, -⟩ := hT.2.1.es.shape
        obtain ⟨a2, c2, rfl, -, -⟩ := hT.2.2.1.es.shape
        obtain ⟨a3, c3, rfl, -, -⟩ := hT.2.2.2.es.shape
        have HLT := Lib.hid (show TS w d n (.slice va L vc) (.slice a1 L c1) (.slice a2 L c2) (.slice a3 L c3) es (es.map bkE) es.reverse (es.map (mvE n k)) [(.slice xa fl.length xc, fl)] wr from by
          have h := hT
          simp only [List.length_map, List.length_reverse, ← hL] at h
          exact h)
        have HL := Lib.hid (And.intro hL (And.intro hfl2 hk256))
        have hii : ¬ (L : Int) < (L : Int) := by omega
        have hN0 : wrap64 ((fl.length : Int) - 1) = (fl.length : Int) - 1 := by unfold wrap64; omega
        clear hG0 hL hk hk256 hx hx2 hG hT H1
        obtain ⟨N, hN⟩ : ∃ N, N = fl.length := ⟨_, rfl⟩
        rw [← hN] at hN0 hfl2 HLT ⊢
        have HN := Lib.hid hN
        clear hN
        go_wp2
        clear hii n0 n1
        generalize wr = wB at *
        go_loopw [14, 10] (fun j v wx => ∃ i : Nat, j = .int .i64 ((i : Int) - 1) ∧ i ≤ N ∧ OI wB v (fl.reverse.take (N - i)) wx) (fun j _ _ => (intOf j + 1).toNat)
        case atStart => exact ⟨N, rfl, Nat.le_refl _, by rw [Nat.sub_self]; exact OI.start wB⟩
        case round =>
          obtain ⟨i, rfl, hi, hO⟩ := hrel
          rcases Nat.eq_zero_or_pos i with rfl | hpos
          · skip
            have hfs := hO.fs
            rw [show N - 0 = fl.reverse.length by rw [List.length_reverse]; exact HN.out, List.take_length] at hfs
            obtain ⟨rva, rvc, rfl, -, -⟩ := hfs.shape
            have hT0 := HLT.out.go hO.2.2
            rw [List.length_reverse, ← HN.out] at hfs ⊢
            have hT : TS w d n (.slice va L vc) (.slice a1 L c1) (.slice a2 L c2) (.slice a3 L c3) es (es.map bkE) es.reverse (es.map (mvE n k)) [(.slice rva N rvc, fl.reverse), (.slice xa N xc, fl)] wr := ⟨hT0.1.add hfs, hT0.2⟩
            have hki : ¬ (0 : Int) ≤ ((0 : Nat) : Int) - 1 := by omega
            have hkk : (((0 : Nat) : Int) - 1) = -1 := by omega
            have hk256 := HL.out.2.2
            have P := within_any n es fl wr hT.1.es (hT.1.fl (.slice xa N xc, fl) (by simp))
            have HX := Lib.hid (show ∀ W, TS w d n (.slice va L vc) (.slice a1 L c1) (.slice a2 L c2) (.slice a3 L c3) es (es.map bkE) es.reverse (es.map (mvE n k)) [(.slice rva N rvc, fl.reverse), (.slice xa N xc, fl)] W → (W.cell? ⟨w.heap.size, 0, none⟩ = some (.int .i64 n) ∧ W.cell? ⟨w.heap.size, 1, none⟩ = some (.slice va L vc)) ∧ (W.cell? ⟨d, 0, none⟩ = some (.int .i64 n) ∧ W.cell? ⟨d, 1, none⟩ = some (.slice a1 L c1)) ∧ (W.cell? ⟨d + 1, 0, none⟩ = some (.int .i64 n) ∧ W.cell? ⟨d + 1, 1, none⟩ = some (.slice a2 L c2)) ∧ (W.cell? ⟨d + 1 + 1, 0, none⟩ = some (.int .i64 n) ∧ W.cell? ⟨d + 1 + 1, 1, none⟩ = some (.slice a3 L c3)) from fun W h => ⟨h.1.net.net, h.2.1.net.net, h.2.2.1.net.net, h.2.2.2.net.net⟩)
            have fA : ∀ {W}, TS w d n (.slice va L vc) (.slice a1 L c1) (.slice a2 L c2) (.slice a3 L c3) es (es.map bkE) es.reverse (es.map (mvE n k)) [(.slice rva N rvc, fl.reverse), (.slice xa N xc, fl)] W → Fs W (.slice xa N xc) fl := fun h => h.1.fl (.slice xa N xc, fl) (by simp)
            have fB : ∀ {W}, TS w d n (.slice va L vc) (.slice a1 L c1) (.slice a2 L c2) (.slice a3 L c3) es (es.map bkE) es.reverse (es.map (mvE n k)) [(.slice rva N rvc, fl.reverse), (.slice xa N xc, fl)] W → Fs W (.slice rva N rvc) fl.reverse := fun h => h.1.fl (.slice rva N rvc, fl.reverse) (by simp)
            have R0 := fun W (h : TS w d n (.slice va L vc) (.slice a1 L c1) (.slice a2 L c2) (.slice a3 L c3) es (es.map bkE) es.reverse (es.map (mvE n k)) [(.slice rva N rvc, fl.reverse), (.slice xa N xc, fl)] W) => right_any n es W h.1.es
            have R1 := fun W (h : TS w d n (.slice va L vc) (.slice a1 L c1) (.slice a2 L c2) (.slice a3 L c3) es (es.map bkE) es.reverse (es.map (mvE n k)) [(.slice rva N rvc, fl.reverse), (.slice xa N xc, fl)] W) => right_any n (es.map bkE) W h.2.1.es
            have R2 := fun W (h : TS w d n (.slice va L vc) (.slice a1 L c1) (.slice a2 L c2) (.slice a3 L c3) es (es.map bkE) es.reverse (es.map (mvE n k)) [(.slice rva N rvc, fl.reverse), (.slice xa N xc, fl)] W) => right_any n es.reverse W h.2.2.1.es
            have R3 := fun W (h : TS w d n (.slice va L vc) (.slice a1 L c1) (.slice a2 L c2) (.slice a3 L c3) es (es.map bkE) es.reverse (es.map (mvE n k)) [(.slice rva N rvc, fl.reverse), (.slice xa N xc, fl)] W) => right_any n (es.map (mvE n k)) W h.2.2.2.es
            rw [decide_eq_decide.2 right_bk] at R1
            rw [decide_eq_decide.2 (right_rev n es)] at R2
            rw [decide_eq_decide.2 (right_mv hk256)] at R3
            have W1 := fun W (h : TS w d n (.slice va L vc) (.slice a1 L c1) (.slice a2 L c2) (.slice a3 L c3) es (es.map bkE) es.reverse (es.map (mvE n k)) [(.slice rva N rvc, fl.reverse), (.slice xa N xc, fl)] W) => within_any n (es.map bkE) fl W h.2.1.es (fA h)
            have W2 := fun W (h : TS w d n (.slice va L vc) (.slice a1 L c1) (.slice a2 L c2) (.slice a3 L c3) es (es.map bkE) es.reverse (es.map (mvE n k)) [(.slice rva N rvc, fl.reverse), (.slice xa N xc, fl)] W) => within_any n es.reverse fl.reverse W h.2.2.1.es (fB h)
            have W3 := fun W (h : TS w d n (.slice va L vc) (.slice a1 L c1) (.slice a2 L c2) (.slice a3 L c3) es (es.map bkE) es.reverse (es.map (mvE n k)) [(.slice rva N rvc, fl.reverse), (.slice xa N xc, fl)] W) => within_any n (es.map (mvE n k)) fl W h.2.2.2.es (fA h)
            rw [decide_eq_decide.2 within_bk] at W1
            rw [decide_eq_decide.2 (within_rev n es fl)] at W2
            rw [decide_eq_decide.2 (within_mv hk256)] at W3
            have O0 := fun W (h : TS w d n (.slice va L vc) (.slice a1 L c1) (.slice a2 L c2) (.slice a3 L c3) es (es.map bkE) es.reverse (es.map (mvE n k)) [(.slice rva N rvc, fl.reverse), (.slice xa N xc, fl)] W) => over_any n es fl W h.1.es (fA h)
            have O1 := fun W (h : TS w d n (.slice va L vc) (.slice a1 L c1) (.slice a2 L c2) (.slice a3 L c3) es (es.map bkE) es.reverse (es.map (mvE n k)) [(.slice rva N rvc, fl.reverse), (.slice xa N xc, fl)] W) => over_any n (es.map bkE) fl W h.2.1.es (fA h)
            have O2 := fun W (h : TS w d n (.slice va L vc) (.slice a1 L c1) (.slice a2 L c2) (.slice a3 L c3) es (es.map bkE) es.reverse (es.map (mvE n k)) [(.slice rva N rvc, fl.reverse), (.slice xa N xc, fl)] W) => over_any n es.reverse fl.reverse W h.2.2.1.es (fB h)
            have O3 := fun W (h : TS w d n (.slice va L vc) (.slice a1 L c1) (.slice a2 L c2) (.slice a3 L c3) es (es.map bkE) es.reverse (es.map (mvE n k)) [(.slice rva N rvc, fl.reverse), (.slice xa N xc, fl)] W) => over_any n (es.map (mvE n k)) fl W h.2.2.2.es (fA h)
            rw [over_rev] at O2
            have C0 := fun W (h : TS w d n (.slice va L vc) (.slice a1 L c1) (.slice a2 L c2) (.slice a3 L c3) es (es.map bkE) es.reverse (es.map (mvE n k)) [(.slice rva N rvc, fl.reverse), (.slice xa N xc, fl)] W) => cost_any n es fl W h.1.es (fA h)
            have C1 := fun W (h : TS w d n (.slice va L vc) (.slice a1 L c1) (.slice a2 L c2) (.slice a3 L c3) es (es.map bkE) es.reverse (es.map (mvE n k)) [(.slice rva N rvc, fl.reverse), (.slice xa N xc, fl)] W) => cost_any n (es.map bkE) fl W h.2.1.es (fA h)
            have C2 := fun W (h : TS w d n (.slice va L vc) (.slice a1 L c1) (.slice a2 L c2) (.slice a3 L c3) es (es.map bkE) es.reverse (es.map (mvE n k)) [(.slice rva N rvc, fl.reverse), (.slice xa N xc, fl)] W) => cost_any n es.reverse fl.reverse W h.2.2.1.es (fB h)
            have C3 := fun W (h : TS w d n (.slice va L vc) (.slice a1 L c1) (.slice a2 L c2) (.slice a3 L c3) es (es.map bkE) es.reverse (es.map (mvE n k)) [(.slice rva N rvc, fl.reverse), (.slice xa N xc, fl)] W) => cost_any n (es.map (mvE n k)) fl W h.2.2.2.es (fA h)
            rw [cost_bk] at C1
            rw [cost_rev] at C2
            rw [cost_mv hk256] at C3
            have F0 := fun W (h : TS w d n (.slice va L vc) (.slice a1 L c1) (.slice a2 L c2) (.slice a3 L c3) es (es.map bkE) es.reverse (es.map (mvE n k)) [(.slice rva N rvc, fl.reverse), (.slice xa N xc, fl)] W) => flows_any n es fl W h.1.es (fA h)
            have F1 := fun W (h : TS w d n (.slice va L vc) (.slice a1 L c1) (.slice a2 L c2) (.slice a3 L c3) es (es.map bkE) es.reverse (es.map (mvE n k)) [(.slice rva N rvc, fl.reverse), (.slice xa N xc, fl)] W) => flows_any n (es.map bkE) fl W h.2.1.es (fA h)
            have F3 := fun W (h : TS w d n (.slice va L vc) (.slice a1 L c1) (.slice a2 L c2) (.slice a3 L c3) es (es.map bkE) es.reverse (es.map (mvE n k)) [(.slice rva N rvc, fl.reverse), (.slice xa N xc, fl)] W) => flows_any n (es.map (mvE n k)) fl W h.2.2.2.es (fA h)
            rw [decide_eq_decide.2 (flows_bk n es fl)] at F1
            rw [decide_eq_decide.2 (flows_mv hk256 es fl)] at F3
            obtain ⟨BR, hBR⟩ : ∃ BR, BR = decide (RightP n es) := ⟨_, rfl⟩
            rw [← hBR] at R0 R1 R2 R3
            obtain ⟨BF, hBF⟩ : ∃ BF, BF = decide (FlowsP n es fl) := ⟨_, rfl⟩
            rw [← hBF] at F0 F1 F3
            clear hBR hBF
            obtain ⟨BW, hBW⟩ : ∃ BW, BW = decide (WithinP n es fl) := ⟨_, rfl⟩
            rw [← hBW] at P W1 W2 W3
            have hCO : ¬ WithinP n es fl → costP n es fl = 0 := fun h => by unfold costP; rw [if_neg h]
            obtain ⟨CO, hCOe⟩ : ∃ CO, CO = costP n es fl := ⟨_, rfl⟩
            rw [← hCOe] at C0 C1 C2 C3 hCO
            clear hCOe
            have HP := Lib.hid (And.intro (And.intro R0 (And.intro R1 (And.intro R2 R3))) (And.intro (And.intro W1 (And.intro W2 W3)) (And.intro (And.intro O0 (And.intro O1 (And.intro O2 O3))) (And.intro (And.intro C0 (And.intro C1 (And.intro C2 C3))) (And.intro F0 (And.intro F1 F3))))))
            have HBW := Lib.hid (And.intro hBW hCO)
            obtain ⟨⟨n0, n1⟩, -⟩ := HX.out wr hT
            have HT := Lib.hid hT
            clear R0 R1 R2 R3 W1 W2 W3 O0 O1 O2 O3 C0 C1 C2 C3 F0 F1 F3 fA fB hT hT0 hO hfs hi hk256 hBW hCO HLT
            rw [hkk]
            go_wp2_with fail
            refine P.mono ?_
            rintro _ w4 ⟨rfl, bl⟩
            have hS0 := (HT.out.go bl).go ((Below.refl w4.heap.size w4).drew)
            clear P bl HT n0 n1 hki hkk
            go_upto_region 26 with fail
            go_cut [182] from 143 to 181 (fun s wx => s = .bool false ∧ ∃ W, W = wx ∧ TS w d n (.slice va L vc) (.slice a1 L c1) (.slice a2 L c2) (.slice a3 L c3) es (es.map bkE) es.reverse (es.map (mvE n k)) [(.slice rva N rvc, fl.reverse), (.slice xa N xc, fl)] W)
            case first =>
              refine region_till 99 (fun W => TS w d n (.slice va L vc) (.slice a1 L c1) (.slice a2 L c2) (.slice a3 L c3) es (es.map bkE) es.reverse (es.map (mvE n k)) [(.slice rva N rvc, fl.reverse), (.slice xa N xc, fl)] W) (by kernel_rfl) hS0 (fun hS => ?_)
              clear hS0
              have hq1 : (BR != BR) = false := by simp
              have hq2 : (BW != BW) = false := by simp
              skip
              refine take_till (i := 0) (some 143) (.agg #[.int .i64 n, .slice a1 L c1]) rfl rfl (by kernel_rfl) (by kernel_rfl) (by kernel_rfl) (by kernel_rfl) (by decide) (fun _ _ _ h => h) (by rfl) (fun W hW => ?_) hS ?_
              · obtain ⟨⟨x0, x1⟩, ⟨x2, x3⟩, ⟨x4, x5⟩, x6, x7⟩ := HX.out W hW
                clear hW
                go_simp
              simp only [Act.put, List.setIfInBounds_toArray, List.set_cons_zero, List.set_cons_succ]
              refine take_till (i := 2) (some 145) (.agg #[.int .i64 n, .slice va L vc]) rfl rfl (by kernel_rfl) (by kernel_rfl) (by kernel_rfl) (by kernel_rfl) (by decide) (fun _ _ _ h => h) (by rfl) (fun W hW => ?_) hS ?_
              · obtain ⟨⟨x0, x1⟩, ⟨x2, x3⟩, ⟨x4, x5⟩, x6, x7⟩ := HX.out W hW
                clear hW
                go_simp
              simp only [Act.put, List.setIfInBounds_toArray, List.set_cons_zero, List.set_cons_succ]
              refine next_till 1 (by kernel_rfl) rfl (fun K hK => ?_)
              go_simp
              refine (HP.out.1.2.1 _ hS).mono ?_
              rintro _ ya1 ⟨rfl, bl⟩
              have hT := hS.go bl
              clear bl hS
              have hS := hT
              clear hT
              go_simp
              refine hK.out _ _ (fun _ => hS) ?_
              clear hK K
              refine next_till 3 (by kernel_rfl) rfl (fun K hK => ?_)
              go_simp
              refine (HP.out.1.1 _ hS).mono ?_
              rintro _ ya2 ⟨rfl, bl⟩
              have hT := hS.go bl
              clear bl hS
              have hS := hT
              clear hT
              go_simp
              refine hK.out _ _ (fun _ => hS) ?_
              clear hK K
              refine take_till (i := 4) (some 147) (.bool false) rfl rfl (by kernel_rfl) (by kernel_rfl) (by kernel_rfl) (by kernel_rfl) (by decide) (fun _ _ _ h => h) (by rfl) (fun W hW => ?_) hS ?_
              · obtain ⟨⟨x0, x1⟩, ⟨x2, x3⟩, ⟨x4, x5⟩, x6, x7⟩ := HX.out W hW
                clear hW
                go_simp
              simp only [Act.put, List.setIfInBounds_toArray, List.set_cons_zero, List.set_cons_succ]
              refine take_till (i := 5) (some 148) (.bool false) rfl rfl (by kernel_rfl) (by kernel_rfl) (by kernel_rfl) (by kernel_rfl) (by decide) (fun _ _ _ h => h) (by rfl) (fun W hW => ?_) hS ?_
              · obtain ⟨⟨x0, x1⟩, ⟨x2, x3⟩, ⟨x4, x5⟩, x6, x7⟩ := HX.out W hW
                clear hW
                go_simp
              simp only [Act.put, List.setIfInBounds_toArray, List.set_cons_zero, List.set_cons_succ]
              refine take_till (i := 6) (some 149) (.agg #[.int .i64 n, .slice a2 L c2]) rfl rfl (by kernel_rfl) (by kernel_rfl) (by kernel_rfl) (by kernel_rfl) (by decide) (fun _ _ _ h => h) (by rfl) (fun W hW => ?_) hS ?_
              · obtain ⟨⟨x0, x1⟩, ⟨x2, x3⟩, ⟨x4, x5⟩, x6, x7⟩ := HX.out W hW
                clear hW
                go_simp
              simp only [Act.put, List.setIfInBounds_toArray, List.set_cons_zero, List.set_cons_succ]
              refine take_till (i := 8) (some 151) (.agg #[.int .i64 n, .slice va L vc]) rfl rfl (by kernel_rfl) (by kernel_rfl) (by kernel_rfl) (by kernel_rfl) (by decide) (fun _ _ _ h => h) (by rfl) (fun W hW => ?_) hS ?_
              · obtain ⟨⟨x0, x1⟩, ⟨x2, x3⟩, ⟨x4, x5⟩, x6, x7⟩ := HX.out W hW
                clear hW
                go_simp
              simp only [Act.put, List.setIfInBounds_toArray, List.set_cons_zero, List.set_cons_succ]
              refine next_till 7 (by kernel_rfl) rfl (fun K hK => ?_)
              go_simp
              refine (HP.out.1.2.2.1 _ hS).mono ?_
              rintro _ ya3 ⟨rfl, bl⟩
              have hT := hS.go bl
              clear bl hS
              have hS := hT
              clear hT
              go_simp
              refine hK.out _ _ (fun _ => hS) ?_
              clear hK K
              refine next_till 9 (by kernel_rfl) rfl (fun K hK => ?_)
              go_simp
              refine (HP.out.1.1 _ hS).mono ?_
              rintro _ ya4 ⟨rfl, bl⟩
              have hT := hS.go bl
              clear bl hS
              have hS := hT
              clear hT
              go_simp
              refine hK.out _ _ (fun _ => hS) ?_
              clear hK K
              refine take_till (i := 10) (some 153) (.bool false) rfl rfl (by kernel_rfl) (by kernel_rfl) (by kernel_rfl) (by kernel_rfl) (by decide) (fun _ _ _ h => h) (by rfl) (fun W hW => ?_) hS ?_
              · obtain ⟨⟨x0, x1⟩, ⟨x2, x3⟩, ⟨x4, x5⟩, x6, x7⟩ := HX.out W hW
                clear hW
                go_simp
              simp only [Act.put, List.setIfInBounds_toArray, List.set_cons_zero, List.set_cons_succ]
              refine take_till (i := 11) (some 154) (.bool false) rfl rfl (by kernel_rfl) (by kernel_rfl) (by kernel_rfl) (by kernel_rfl) (by decide) (fun _ _ _ h => h) (by rfl) (fun W hW => ?_) hS ?_
              · obtain ⟨⟨x0, x1⟩, ⟨x2, x3⟩, ⟨x4, x5⟩, x6, x7⟩ := HX.out W hW
                clear hW
                go_simp
              simp only [Act.put, List.setIfInBounds_toArray, List.set_cons_zero, List.set_cons_succ]
              refine take_till (i := 12) (some 155) (.bool false) rfl rfl (by kernel_rfl) (by kernel_rfl) (by kernel_rfl) (by kernel_rfl) (by decide) (fun _ _ _ h => h) (by rfl) (fun W hW => ?_) hS ?_
              · obtain ⟨⟨x0, x1⟩, ⟨x2, x3⟩, ⟨x4, x5⟩, x6, x7⟩ := HX.out W hW
                clear hW
                go_simp
              simp only [Act.put, List.setIfInBounds_toArray, List.set_cons_zero, List.set_cons_succ]
              refine take_till (i := 13) (some 156) (.agg #[.int .i64 n, .slice a3 L c3]) rfl rfl (by kernel_rfl) (by kernel_rfl) (by kernel_rfl) (by kernel_rfl) (by decide) (fun _ _ _ h => h) (by rfl) (fun W hW => ?_) hS ?_
              · obtain ⟨⟨x0, x1⟩, ⟨x2, x3⟩, ⟨x4, x5⟩, x6, x7⟩ := HX.out W hW
                clear hW
                go_simp
              simp only [Act.put, List.setIfInBounds_toArray, List.set_cons_zero, List.set_cons_succ]
              refine take_till (i := 15) (some 158) (.agg #[.int .i64 n, .slice va L vc]) rfl rfl (by kernel_rfl) (by kernel_rfl) (by kernel_rfl) (by kernel_rfl) (by decide) (fun _ _ _ h => h) (by rfl) (fun W hW => ?_) hS ?_
              · obtain ⟨⟨x0, x1⟩, ⟨x2, x3⟩, ⟨x4, x5⟩, x6, x7⟩ := HX.out W hW
                clear hW
                go_simp
              simp only [Act.put, List.setIfInBounds_toArray, List.set_cons_zero, List.set_cons_succ]
              refine next_till 14 (by kernel_rfl) rfl (fun K hK => ?_)
              go_simp
              refine (HP.out.1.2.2.2 _ hS).mono ?_
              rintro _ ya5 ⟨rfl, bl⟩
              have hT := hS.go bl
              clear bl hS
              have hS := hT
              clear hT
              go_simp
              refine hK.out _ _ (fun _ => hS) ?_
              clear hK K
              refine next_till 16 (by kernel_rfl) rfl (fun K hK => ?_)
              go_simp
              refine (HP.out.1.1 _ hS).mono ?_
              rintro _ ya6 ⟨rfl, bl⟩
              have hT := hS.go bl
              clear bl hS
              have hS := hT
              clear hT
              go_simp
              refine hK.out _ _ (fun _ => hS) ?_
              clear hK K
              refine take_till (i := 17) (some 160) (.bool false) rfl rfl (by kernel_rfl) (by kernel_rfl) (by kernel_rfl) (by kernel_rfl) (by decide) (fun _ _ _ h => h) (by rfl) (fun W hW => ?_) hS ?_
              · obtain ⟨⟨x0, x1⟩, ⟨x2, x3⟩, ⟨x4, x5⟩, x6, x7⟩ := HX.out W hW
                clear hW
                go_simp
              simp only [Act.put, List.setIfInBounds_toArray, List.set_cons_zero, List.set_cons_succ]
              refine take_till (i := 18) (some 161) (.bool false) rfl rfl (by kernel_rfl) (by kernel_rfl) (by kernel_rfl) (by kernel_rfl) (by decide) (fun _ _ _ h => h) (by rfl) (fun W hW => ?_) hS ?_
              · obtain ⟨⟨x0, x1⟩, ⟨x2, x3⟩, ⟨x4, x5⟩, x6, x7⟩ := HX.out W hW
                clear hW
                go_simp
              simp only [Act.put, List.setIfInBounds_toArray, List.set_cons_zero, List.set_cons_succ]
              refine take_till (i := 19) (some 162) (.bool false) rfl rfl (by kernel_rfl) (by kernel_rfl) (by kernel_rfl) (by kernel_rfl) (by decide) (fun _ _ _ h => h) (by rfl) (fun W hW => ?_) hS ?_
              · obtain ⟨⟨x0, x1⟩, ⟨x2, x3⟩, ⟨x4, x5⟩, x6, x7⟩ := HX.out W hW
                clear hW
                go_simp
              simp only [Act.put, List.setIfInBounds_toArray, List.set_cons_zero, List.set_cons_succ]
              refine take_till (i := 20) (some 163) (.agg #[.int .i64 n, .slice a1 L c1]) rfl rfl (by kernel_rfl) (by kernel_rfl) (by kernel_rfl) (by kernel_rfl) (by decide) (fun _ _ _ h => h) (by rfl) (fun W hW => ?_) hS ?_
              · obtain ⟨⟨x0, x1⟩, ⟨x2, x3⟩, ⟨x4, x5⟩, x6, x7⟩ := HX.out W hW
                clear hW
                go_simp
              simp only [Act.put, List.setIfInBounds_toArray, List.set_cons_zero, List.set_cons_succ]
              refine take_till (i := 21) (some 164) (.slice xa N xc) rfl rfl (by kernel_rfl) (by kernel_rfl) (by kernel_rfl) (by kernel_rfl) (by decide) (fun _ _ _ h => h) (by rfl) (fun W hW => ?_) hS ?_
              · obtain ⟨⟨x0, x1⟩, ⟨x2, x3⟩, ⟨x4, x5⟩, x6, x7⟩ := HX.out W hW
                clear hW
                go_simp
              simp only [Act.put, List.setIfInBounds_toArray, List.set_cons_zero, List.set_cons_succ]
              refine take_till (i := 23) (some 166) (.bool BW) rfl rfl (by kernel_rfl) (by kernel_rfl) (by kernel_rfl) (by kernel_rfl) (by decide) (fun _ _ _ h => h) (by rfl) (fun W hW => ?_) hS ?_
              · obtain ⟨⟨x0, x1⟩, ⟨x2, x3⟩, ⟨x4, x5⟩, x6, x7⟩ := HX.out W hW
                clear hW
                go_simp
              simp only [Act.put, List.setIfInBounds_toArray, List.set_cons_zero, List.set_cons_succ]
              refine next_till 22 (by kernel_rfl) rfl (fun K hK => ?_)
              go_simp
              refine (HP.out.2.1.1 _ hS).mono ?_
              rintro _ ya7 ⟨rfl, bl⟩
              have hT := hS.go bl
              clear bl hS
              have hS := hT
              clear hT
              go_simp
              refine hK.out _ _ (fun _ => hS) ?_
              clear hK K
              refine take_till (i := 24) (some 167) (.bool false) rfl rfl (by kernel_rfl) (by kernel_rfl) (by kernel_rfl) (by kernel_rfl) (by decide) (fun _ _ _ h => h) (by rfl) (fun W hW => ?_) hS ?_
              · obtain ⟨⟨x0, x1⟩, ⟨x2, x3⟩, ⟨x4, x5⟩, x6, x7⟩ := HX.out W hW
                clear hW
                go_simp
              simp only [Act.put, List.setIfInBounds_toArray, List.set_cons_zero, List.set_cons_succ]
              refine take_till (i := 25) (some 168) (.bool false) rfl rfl (by kernel_rfl) (by kernel_rfl) (by kernel_rfl) (by kernel_rfl) (by decide) (fun _ _ _ h => h) (by rfl) (fun W hW => ?_) hS ?_
              · obtain ⟨⟨x0, x1⟩, ⟨x2, x3⟩, ⟨x4, x5⟩, x6, x7⟩ := HX.out W hW
                clear hW
                go_simp
              simp only [Act.put, List.setIfInBounds_toArray, List.set_cons_zero, List.set_cons_succ]
              refine take_till (i := 26) (some 169) (.bool false) rfl rfl (by kernel_rfl) (by kernel_rfl) (by kernel_rfl) (by kernel_rfl) (by decide) (fun _ _ _ h => h) (by rfl) (fun W hW => ?_) hS ?_
              · obtain ⟨⟨x0, x1⟩, ⟨x2, x3⟩, ⟨x4, x5⟩, x6, x7⟩ := HX.out W hW
                clear hW
                go_simp
              simp only [Act.put, List.setIfInBounds_toArray, List.set_cons_zero, List.set_cons_succ]
              refine take_till (i := 27) (some 170) (.agg #[.int .i64 n, .slice a2 L c2]) rfl rfl (by kernel_rfl) (by kernel_rfl) (by kernel_rfl) (by kernel_rfl) (by decide) (fun _ _ _ h => h) (by rfl) (fun W hW => ?_) hS ?_
              · obtain ⟨⟨x0, x1⟩, ⟨x2, x3⟩, ⟨x4, x5⟩, x6, x7⟩ := HX.out W hW
                clear hW
                go_simp
              simp only [Act.put, List.setIfInBounds_toArray, List.set_cons_zero, List.set_cons_succ]
              refine take_till (i := 28) (some 171) (.slice rva N rvc) rfl rfl (by kernel_rfl) (by kernel_rfl) (by kernel_rfl) (by kernel_rfl) (by decide) (fun _ _ _ h => h) (by rfl) (fun W hW => ?_) hS ?_
              · obtain ⟨⟨x0, x1⟩, ⟨x2, x3⟩, ⟨x4, x5⟩, x6, x7⟩ := HX.out W hW
                clear hW
                go_simp
              simp only [Act.put, List.setIfInBounds_toArray, List.set_cons_zero, List.set_cons_succ]
              refine take_till (i := 30) (some 173) (.bool BW) rfl rfl (by kernel_rfl) (by kernel_rfl) (by kernel_rfl) (by kernel_rfl) (by decide) (fun _ _ _ h => h) (by rfl) (fun W hW => ?_) hS ?_
              · obtain ⟨⟨x0, x1⟩, ⟨x2, x3⟩, ⟨x4, x5⟩, x6, x7⟩ := HX.out W hW
                clear hW
                go_simp
              simp only [Act.put, List.setIfInBounds_toArray, List.set_cons_zero, List.set_cons_succ]
              refine next_till 29 (by kernel_rfl) rfl (fun K hK => ?_)
              go_simp
              refine (HP.out.2.1.2.1 _ hS).mono ?_
              rintro _ ya8 ⟨rfl, bl⟩
              have hT := hS.go bl
              clear bl hS
              have hS := hT
              clear hT
              go_simp
              refine hK.out _ _ (fun _ => hS) ?_
              clear hK K
              refine take_till (i := 31) (some 174) (.bool false) rfl rfl (by kernel_rfl) (by kernel_rfl) (by kernel_rfl) (by kernel_rfl) (by decide) (fun _ _ _ h => h) (by rfl) (fun W hW => ?_) hS ?_
              · obtain ⟨⟨x0, x1⟩, ⟨x2, x3⟩, ⟨x4, x5⟩, x6, x7⟩ := HX.out W hW
                clear hW
                go_simp
              simp only [Act.put, List.setIfInBounds_toArray, List.set_cons_zero, List.set_cons_succ]
              refine take_till (i := 32) (some 175) (.bool false) rfl rfl (by kernel_rfl) (by kernel_rfl) (by kernel_rfl) (by kernel_rfl) (by decide) (fun _ _ _ h => h) (by rfl) (fun W hW => ?_) hS ?_
              · obtain ⟨⟨x0, x1⟩, ⟨x2, x3⟩, ⟨x4, x5⟩, x6, x7⟩ := HX.out W hW
                clear hW
                go_simp
              simp only [Act.put, List.setIfInBounds_toArray, List.set_cons_zero, List.set_cons_succ]
              refine take_till (i := 33) (some 176) (.bool false) rfl rfl (by kernel_rfl) (by kernel_rfl) (by kernel_rfl) (by kernel_rfl) (by decide) (fun _ _ _ h => h) (by rfl) (fun W hW => ?_) hS ?_
              · obtain ⟨⟨x0, x1⟩, ⟨x2, x3⟩, ⟨x4, x5⟩, x6, x7⟩ := HX.out W hW
                clear hW
                go_simp
              simp only [Act.put, List.setIfInBounds_toArray, List.set_cons_zero, List.set_cons_succ]
              refine take_till (i := 34) (some 177) (.agg #[.int .i64 n, .slice a3 L c3]) rfl rfl (by kernel_rfl) (by kernel_rfl) (by kernel_rfl) (by kernel_rfl) (by decide) (fun _ _ _ h => h) (by rfl) (fun W hW => ?_) hS ?_
              · obtain ⟨⟨x0, x1⟩, ⟨x2, x3⟩, ⟨x4, x5⟩, x6, x7⟩ := HX.out W hW
                clear hW
                go_simp
              simp only [Act.put, List.setIfInBounds_toArray, List.set_cons_zero, List.set_cons_succ]
              refine take_till (i := 35) (some 178) (.slice xa N xc) rfl rfl (by kernel_rfl) (by kernel_rfl) (by kernel_rfl) (by kernel_rfl) (by decide) (fun _ _ _ h => h) (by rfl) (fun W hW => ?_) hS ?_
              · obtain ⟨⟨x0, x1⟩, ⟨x2, x3⟩, ⟨x4, x5⟩, x6, x7⟩ := HX.out W hW
                clear hW
                go_simp
              simp only [Act.put, List.setIfInBounds_toArray, List.set_cons_zero, List.set_cons_succ]
              refine take_till (i := 37) (some 180) (.bool BW) rfl rfl (by kernel_rfl) (by kernel_rfl) (by kernel_rfl) (by kernel_rfl) (by decide) (fun _ _ _ h => h) (by rfl) (fun W hW => ?_) hS ?_
              · obtain ⟨⟨x0, x1⟩, ⟨x2, x3⟩, ⟨x4, x5⟩, x6, x7⟩ := HX.out W hW
                clear hW
                go_simp
              simp only [Act.put, List.setIfInBounds_toArray, List.set_cons_zero, List.set_cons_succ]
              refine next_till 36 (by kernel_rfl) rfl (fun K hK => ?_)
              go_simp
              refine (HP.out.2.1.2.2 _ hS).mono ?_
              rintro _ ya9 ⟨rfl, bl⟩
              have hT := hS.go bl
              clear bl hS
              have hS := hT
              clear hT
              go_simp
              refine hK.out _ _ (fun _ => hS) ?_
              clear hK K
              refine take_till (i := 38) (some 181) (.bool false) rfl rfl (by kernel_rfl) (by kernel_rfl) (by kernel_rfl) (by kernel_rfl) (by decide) (fun _ _ _ h => h) (by rfl) (fun W hW => ?_) hS ?_
              · obtain ⟨⟨x0, x1⟩, ⟨x2, x3⟩, ⟨x4, x5⟩, x6, x7⟩ := HX.out W hW
                clear hW
                go_simp
              simp only [Act.put, List.setIfInBounds_toArray, List.set_cons_zero, List.set_cons_succ]
              refine take_till (i := 39) (some 182) (.bool false) rfl rfl (by kernel_rfl) (by kernel_rfl) (by kernel_rfl) (by kernel_rfl) (by decide) (fun _ _ _ h => h) (by rfl) (fun W hW => ?_) hS ?_
              · obtain ⟨⟨x0, x1⟩, ⟨x2, x3⟩, ⟨x4, x5⟩, x6, x7⟩ := HX.out W hW
                clear hW
                go_simp
              simp only [Act.put, List.setIfInBounds_toArray, List.set_cons_zero, List.set_cons_succ]
              refine done_till (by kernel_rfl) ?_ _
              go_wp2_with fail
              go_meet
              exact ⟨rfl, _, rfl, hS⟩
            case rest =>
            obtain ⟨rfl, w5, rfl, hT⟩ := hcut
            have P := HP.out.2.2.1.1 _ hT
            obtain ⟨⟨n0, n1⟩, ⟨m0, m1⟩, ⟨m2, m3⟩, m4, m5⟩ := HX.out _ hT
            have HT := Lib.hid hT
            clear hT
            go_wp2_with fail
            refine P.mono ?_
            rintro _ w6 ⟨r0, rfl, h0, bl⟩
            have hT := HT.out.go bl
            have P := HP.out.2.2.1.2.1 _ hT
            obtain ⟨⟨n0, n1⟩, ⟨m0, m1⟩, ⟨m2, m3⟩, m4, m5⟩ := HX.out _ hT
            have HT := Lib.hid (And.intro hT h0)
            clear hT h0 bl
            go_wp2_with fail
            refine P.mono ?_
            rintro _ w7 ⟨r1, rfl, h1, bl⟩
            obtain ⟨hT, h0⟩ := HT.out
            replace hT := hT.go bl
            replace h0 := h0.below bl
            have P := HP.out.2.2.1.2.2.1 _ hT
            obtain ⟨⟨n0, n1⟩, ⟨m0, m1⟩, ⟨m2, m3⟩, m4, m5⟩ := HX.out _ hT
            have HT := Lib.hid (And.intro hT (And.intro h0 h1))
            clear hT h0 h1 bl
            go_wp2_with fail
            refine P.mono ?_
            rintro _ w8 ⟨r2, rfl, h2, bl⟩
            obtain ⟨hT, h0, h1⟩ := HT.out
            replace hT := hT.go bl
            replace h0 := h0.below bl
            replace h1 := h1.below bl
            have P := HP.out.2.2.1.2.2.2 _ hT
            obtain ⟨⟨n0, n1⟩, ⟨m0, m1⟩, ⟨m2, m3⟩, m4, m5⟩ := HX.out _ hT
            have HT := Lib.hid (And.intro hT (And.intro h0 (And.intro h1 h2)))
            clear hT h0 h1 h2 bl
            go_wp2_with fail
            refine P.mono ?_
            rintro _ w9 ⟨r3, rfl, h3, bl⟩
            obtain ⟨hT, h0, h1, h2⟩ := HT.out
            replace hT := hT.go bl
            replace h0 := h0.below bl
            replace h1 := h1.below bl
            replace h2 := h2.below bl
            obtain ⟨⟨n0, n1⟩, ⟨m0, m1⟩, ⟨m2, m3⟩, m4, m5⟩ := HX.out _ hT
            obtain ⟨b0, d0, rfl, -, -⟩ := h0.shape
            obtain ⟨b1, d1, rfl, -, -⟩ := h1.shape
            obtain ⟨b2, d2, rfl, -, -⟩ := h2.shape
            obtain ⟨b3, d3, rfl, -, -⟩ := h3.shape
            by_cases hw : WithinP n es fl
            case neg =>
              have hw1 : ¬ WithinP n (es.map bkE) fl := fun h => hw (within_bk.1 h)
              have hw3 : ¬ WithinP n (es.map (mvE n k)) fl := fun h => hw ((within_mv HL.out.2.2).1 h)
              have hb : BW = false := by rw [HBW.out.1]; exact decide_eq_false hw
              have hco := HBW.out.2 hw
              rw [overP_none hw, overP_none hw1, overP_none hw3]
              simp only [List.length_nil]
              subst hb
              have P := HP.out.2.2.2.1.1 _ hT
              rw [hco] at P
              have HT := Lib.hid hT
              clear hT h0 h1 h2 h3 bl hw hw1 hw3 hco
              go_wp2_with fail
              refine P.mono ?_
              rintro _ w10 ⟨rfl, bl⟩
              have HT := Lib.hid (HT.out.go bl)
              clear P bl n0 n1 m0 m1 m2 m3 m4 m5
              go_wp2_with fail
              refine (works_any _).mono ?_
              rintro _ w11 ⟨rfl, bl⟩
              go_wp2
              go_ret
              exact ⟨rfl, (HT.out.1.go bl).under⟩
            have hb : BW = true := by rw [HBW.out.1]; exact decide_eq_true hw
            subst hb
            obtain ⟨m, rfl⟩ : ∃ m : Nat, n = (m : Int) := ⟨n.toNat, by have := hw.1.1; omega⟩
            have hw1 := within_bk.2 hw
            have hw3 := (within_mv (k := k) HL.out.2.2).2 hw
            have l0 : (overP (m : Int) es fl).length = m := by rw [overP_len hw, Int.toNat_natCast]
            have l1 : (overP (m : Int) (es.map bkE) fl).length = m := by rw [overP_len hw1, Int.toNat_natCast]
            have l3 : (overP (m : Int) (es.map (mvE (m : Int) k)) fl).length = m := by rw [overP_len hw3, Int.toNat_natCast]
            have hX0 : ∀ i : Nat, i < m → (overP (m : Int) es fl)[i]? = some (ovr (es.zip fl) (i : Int)) := fun i hi => overP_at hw (by simpa using hi)
            have hX1 : ∀ i : Nat, i < m → (overP (m : Int) (es.map bkE) fl)[i]? = some (-ovr (es.zip fl) (i : Int)) := fun i hi => bk_at hw (by simpa using hi)
            have hX3 : ∀ i : Nat, i < m → (overP (m : Int) (es.map (mvE (m : Int) k)) fl)[(((i : Int) + (k : Int)) % (m : Int)).toNat]? = some (ovr (es.zip fl) (i : Int)) := fun i hi => mv_at HL.out.2.2 hw (by simpa using hi)
            have hbo : ∀ i : Nat, -900719925474099200 ≤ ovr (es.zip fl) (i : Int) ∧ ovr (es.zip fl) (i : Int) ≤ 900719925474099200 := fun i => by
              have h := ovr_take_le (zip_small hw.1.2.2.2.1 hw.2.2) (by rw [List.length_zip]; have := hw.1.2.2.1; omega) (es.zip fl).length (i : Int)
              rwa [List.take_length] at h
            have hm : 1 ≤ m ∧ m ≤ 40 := by have h1 := hw.1.1; have h2 := hw.1.2.1; omega
            rw [l0, l1, l3]
            rw [l0] at h0 h2
            rw [l1] at h1
            rw [l3] at h3
            obtain ⟨X0, hX0e⟩ : ∃ X0, X0 = overP (m : Int) es fl := ⟨_, rfl⟩
            obtain ⟨X1, hX1e⟩ : ∃ X1, X1 = overP (m : Int) (es.map bkE) fl := ⟨_, rfl⟩
            obtain ⟨X3, hX3e⟩ : ∃ X3, X3 = overP (m : Int) (es.map (mvE (m : Int) k)) fl := ⟨_, rfl⟩
            rw [← hX0e] at h0 h2 hX0
            rw [← hX1e] at h1 hX1
            rw [← hX3e] at h3 hX3
            have P := nsame_any X0 X0 w9 h0 h2
            rw [decide_eq_true rfl] at P
            have hmm : ((m : Int) != (m : Int)) = false := by simp
            have HO := Lib.hid (And.intro hX0 (And.intro hX1 (And.intro hX3 (And.intro hbo hm))))
            have HT := Lib.hid (And.intro hT (And.intro h0 (And.intro h1 h3)))
            clear hT h0 h1 h2 h3 bl hw hw1 hw3 l0 l1 l3 hX0 hX1 hX3 hbo hm hX0e hX1e hX3e m0 m1 m2 m3 m4 m5
            go_wp2_with fail
            refine P.mono ?_
            rintro _ w10 ⟨rfl, bl⟩
            obtain ⟨hT, h0, h1, h3⟩ := HT.out
            have HT := Lib.hid (And.intro (hT.go bl) (And.intro (h0.below bl) (And.intro (h1.below bl) (h3.below bl))))
            clear hT h0 h1 h3 bl P n0 n1
            go_wp2
            go_loopw [20] (fun j wx => ∃ i : Nat, j = .int .i64 (i : Int) ∧ i ≤ m ∧ TS w d (m : Int) (.slice va L vc) (.slice a1 L c1) (.slice a2 L c2) (.slice a3 L c3) es (es.map bkE) es.reverse (es.map (mvE (m : Int) k)) [(.slice rva N rvc, fl.reverse), (.slice xa N xc, fl)] wx ∧ Fs wx (.slice b0 m d0) X0 ∧ Fs wx (.slice b1 m d1) X1 ∧ Fs wx (.slice b3 m d3) X3) (fun j _ => m - (intOf j).toNat)
            case atStart => exact ⟨0, rfl, Nat.zero_le _, HT.out⟩
            case round =>
              obtain ⟨i, rfl, hi, hT, h0, h1, h3⟩ := hrel
              clear HT
              obtain ⟨hX0, hX1, hX3, hbo, hm⟩ := HO.out
              obtain ⟨⟨n0, n1⟩, -⟩ := HX.out _ hT
              rcases Nat.lt_or_ge i m with hlt | hge
              · have hk256 := HL.out.2.2
                have b := hbo i
                have hwo : wrap64 (-ovr (es.zip fl) (i : Int)) = -ovr (es.zip fl) (i : Int) := by unfold wrap64; omega
                have y0 := hX0 i hlt
                have y1 := hX1 i hlt
                have y3 := hX3 i hlt
                obtain ⟨u, hu⟩ : ∃ u, u = (((i : Int) + (k : Int)) % (m : Int)).toNat := ⟨_, rfl⟩
                rw [← hu] at y3
                obtain ⟨hu1, hu2, hu3, hu4, hu5⟩ := mod_facts (i := i) (k := k) (m := m) (by omega) (by omega) (by omega) hu
                generalize ovr (es.zip fl) (i : Int) = ov at *
                obtain ⟨g0, o0, cp0, e0, -, f0⟩ := fs_at h0 y0
                obtain ⟨g1, o1, cp1, e1, -, f1⟩ := fs_at h1 y1
                obtain ⟨g3, o3, cp3, e3, -, f3⟩ := fs_at h3 y3
                simp only [Value.slice.injEq] at e0 e1 e3
                obtain ⟨rfl, -, rfl⟩ := e0
                obtain ⟨rfl, -, rfl⟩ := e1
                obtain ⟨rfl, -, rfl⟩ := e3
                have hki : (i : Int) < (m : Int) := by omega
                have hk1 : (i : Int) ≤ 9223372036854775806 := by omega
                have hk0 : (0 : Int) ≤ (i : Int) := by omega
                have hmz : ¬ (m : Int) = 0 := by omega
                have hmz2 : ¬ m = 0 := by omega
                have hq1 : (-ov != -ov) = false := by simp
                have hq2 : (ov != ov) = false := by simp
                have HZ := Lib.hid (And.intro hlt (And.intro hT (And.intro h0 (And.intro h1 h3))))
                clear hT h0 h1 h3 hX0 hX1 hX3 hbo hm hlt hi y0 y1 y3 b hu hk256
                go_wp2
                go_quiet (fail)
                go_wp2
                go_roundw
                case rel =>
                  obtain ⟨hlt, hT, h0, h1, h3⟩ := HZ.out
                  have bl : ∀ q, Below wr.heap.size wr (wr.drewN q) := fun q => below_drewN (Below.refl _ _) q
                  exact ⟨i + 1, by go_num, hlt, hT.go (bl _), h0.below (bl _), h1.below (bl _), h3.below (bl _)⟩
                case measure =>
                  have := HZ.out.1
                  simp only [intOf]
                  omega
              · obtain rfl : m = i := by omega
                have hki : ¬ (m : Int) < (m : Int) := by omega
                have P := HP.out.2.2.2.1.1 _ hT
                have HT := Lib.hid hT
                clear hT h0 h1 h3 hX0 hX1 hX3 hbo hm hge hi
                go_wp2_with fail
                refine P.mono ?_
                rintro _ w11 ⟨rfl, bl⟩
                have hS0 := (HT.out.go bl).go ((Below.refl w11.heap.size w11).drew)
                clear P bl HT n0 n1 hki
                go_upto_region 42 with fail
                refine region_till 99 (fun W => TS w d (m : Int) (.slice va L vc) (.slice a1 L c1) (.slice a2 L c2) (.slice a3 L c3) es (es.map bkE) es.reverse (es.map (mvE (m : Int) k)) [(.slice rva N rvc, fl.reverse), (.slice xa N xc, fl)] W) (by kernel_rfl) hS0 (fun hS => ?_)
                clear hS0
                have hq1 : (CO == CO) = true := by simp
                have hq2 : (BF == BF) = true := by simp
                skip
                refine take_till (i := 0) (some 278) (.agg #[.int .i64 (m : Int), .slice a1 L c1]) rfl rfl (by kernel_rfl) (by kernel_rfl) (by kernel_rfl) (by kernel_rfl) (by decide) (fun _ _ _ h => h) (by rfl) (fun W hW => ?_) hS ?_
                · obtain ⟨⟨x0, x1⟩, ⟨x2, x3⟩, ⟨x4, x5⟩, x6, x7⟩ := HX.out W hW
                  clear hW
                  go_simp
                simp only [Act.put, List.setIfInBounds_toArray, List.set_cons_zero, List.set_cons_succ]
                refine take_till (i := 1) (some 279) (.slice xa N xc) rfl rfl (by kernel_rfl) (by kernel_rfl) (by kernel_rfl) (by kernel_rfl) (by decide) (fun _ _ _ h => h) (by rfl) (fun W hW => ?_) hS ?_
                · obtain ⟨⟨x0, x1⟩, ⟨x2, x3⟩, ⟨x4, x5⟩, x6, x7⟩ := HX.out W hW
                  clear hW
                  go_simp
                simp only [Act.put, List.setIfInBounds_toArray, List.set_cons_zero, List.set_cons_succ]
                refine take_till (i := 3) (some 281) (.int .i64 CO) rfl rfl (by kernel_rfl) (by kernel_rfl) (by kernel_rfl) (by kernel_rfl) (by decide) (fun _ _ _ h => h) (by rfl) (fun W hW => ?_) hS ?_
                · obtain ⟨⟨x0, x1⟩, ⟨x2, x3⟩, ⟨x4, x5⟩, x6, x7⟩ := HX.out W hW
                  clear hW
                  go_simp
                simp only [Act.put, List.setIfInBounds_toArray, List.set_cons_zero, List.set_cons_succ]
                refine next_till 2 (by kernel_rfl) rfl (fun K hK => ?_)
                go_simp
                refine (HP.out.2.2.2.1.2.1 _ hS).mono ?_
                rintro _ yc1 ⟨rfl, bl⟩
                have hT := hS.go bl
                clear bl hS
                have hS := hT
                clear hT
                go_simp
                refine hK.out _ _ (fun _ => hS) ?_
                clear hK K
                refine take_till (i := 4) (some 282) (.bool true) rfl rfl (by kernel_rfl) (by kernel_rfl) (by kernel_rfl) (by kernel_rfl) (by decide) (fun _ _ _ h => h) (by rfl) (fun W hW => ?_) hS ?_
                · obtain ⟨⟨x0, x1⟩, ⟨x2, x3⟩, ⟨x4, x5⟩, x6, x7⟩ := HX.out W hW
                  clear hW
                  go_simp
                simp only [Act.put, List.setIfInBounds_toArray, List.set_cons_zero, List.set_cons_succ]
                refine take_till (i := 5) (some 283) (.bool true) rfl rfl (by kernel_rfl) (by kernel_rfl) (by kernel_rfl) (by kernel_rfl) (by decide) (fun _ _ _ h => h) (by rfl) (fun W hW => ?_) hS ?_
                · obtain ⟨⟨x0, x1⟩, ⟨x2, x3⟩, ⟨x4, x5⟩, x6, x7⟩ := HX.out W hW
                  clear hW
                  go_simp
                simp only [Act.put, List.setIfInBounds_toArray, List.set_cons_zero, List.set_cons_succ]
                refine take_till (i := 6) (some 284) (.agg #[.int .i64 (m : Int), .slice a2 L c2]) rfl rfl (by kernel_rfl) (by kernel_rfl) (by kernel_rfl) (by kernel_rfl) (by decide) (fun _ _ _ h => h) (by rfl) (fun W hW => ?_) hS ?_
                · obtain ⟨⟨x0, x1⟩, ⟨x2, x3⟩, ⟨x4, x5⟩, x6, x7⟩ := HX.out W hW
                  clear hW
                  go_simp
                simp only [Act.put, List.setIfInBounds_toArray, List.set_cons_zero, List.set_cons_succ]
                refine take_till (i := 7) (some 285) (.slice rva N rvc) rfl rfl (by kernel_rfl) (by kernel_rfl) (by kernel_rfl) (by kernel_rfl) (by decide) (fun _ _ _ h => h) (by rfl) (fun W hW => ?_) hS ?_
                · obtain ⟨⟨x0, x1⟩, ⟨x2, x3⟩, ⟨x4, x5⟩, x6, x7⟩ := HX.out W hW
                  clear hW
                  go_simp
                simp only [Act.put, List.setIfInBounds_toArray, List.set_cons_zero, List.set_cons_succ]
                refine take_till (i := 9) (some 287) (.int .i64 CO) rfl rfl (by kernel_rfl) (by kernel_rfl) (by kernel_rfl) (by kernel_rfl) (by decide) (fun _ _ _ h => h) (by rfl) (fun W hW => ?_) hS ?_
                · obtain ⟨⟨x0, x1⟩, ⟨x2, x3⟩, ⟨x4, x5⟩, x6, x7⟩ := HX.out W hW
                  clear hW
                  go_simp
                simp only [Act.put, List.setIfInBounds_toArray, List.set_cons_zero, List.set_cons_succ]
                refine next_till 8 (by kernel_rfl) rfl (fun K hK => ?_)
                go_simp
                refine (HP.out.2.2.2.1.2.2.1 _ hS).mono ?_
                rintro _ yc2 ⟨rfl, bl⟩
                have hT := hS.go bl
                clear bl hS
                have hS := hT
                clear hT
                go_simp
                refine hK.out _ _ (fun _ => hS) ?_
                clear hK K
                refine take_till (i := 10) (some 288) (.bool true) rfl rfl (by kernel_rfl) (by kernel_rfl) (by kernel_rfl) (by kernel_rfl) (by decide) (fun _ _ _ h => h) (by rfl) (fun W hW => ?_) hS ?_
                · obtain ⟨⟨x0, x1⟩, ⟨x2, x3⟩, ⟨x4, x5⟩, x6, x7⟩ := HX.out W hW
                  clear hW
                  go_simp
                simp only [Act.put, List.setIfInBounds_toArray, List.set_cons_zero, List.set_cons_succ]
                refine take_till (i := 11) (some 289) (.bool true) rfl rfl (by kernel_rfl) (by kernel_rfl) (by kernel_rfl) (by kernel_rfl) (by decide) (fun _ _ _ h => h) (by rfl) (fun W hW => ?_) hS ?_
                · obtain ⟨⟨x0, x1⟩, ⟨x2, x3⟩, ⟨x4, x5⟩, x6, x7⟩ := HX.out W hW
                  clear hW
                  go_simp
                simp only [Act.put, List.setIfInBounds_toArray, List.set_cons_zero, List.set_cons_succ]
                refine take_till (i := 12) (some 290) (.bool true) rfl rfl (by kernel_rfl) (by kernel_rfl) (by kernel_rfl) (by kernel_rfl) (by decide) (fun _ _ _ h => h) (by rfl) (fun W hW => ?_) hS ?_
                · obtain ⟨⟨x0, x1⟩, ⟨x2, x3⟩, ⟨x4, x5⟩, x6, x7⟩ := HX.out W hW
                  clear hW
                  go_simp
                simp only [Act.put, List.setIfInBounds_toArray, List.set_cons_zero, List.set_cons_succ]
                refine take_till (i := 13) (some 291) (.agg #[.int .i64 (m : Int), .slice a3 L c3]) rfl rfl (by kernel_rfl) (by kernel_rfl) (by kernel_rfl) (by kernel_rfl) (by decide) (fun _ _ _ h => h) (by rfl) (fun W hW => ?_) hS ?_
                · obtain ⟨⟨x0, x1⟩, ⟨x2, x3⟩, ⟨x4, x5⟩, x6, x7⟩ := HX.out W hW
                  clear hW
                  go_simp
                simp only [Act.put, List.setIfInBounds_toArray, List.set_cons_zero, List.set_cons_succ]
                refine take_till (i := 14) (some 292) (.slice xa N xc) rfl rfl (by kernel_rfl) (by kernel_rfl) (by kernel_rfl) (by kernel_rfl) (by decide) (fun _ _ _ h => h) (by rfl) (fun W hW => ?_) hS ?_
                · obtain ⟨⟨x0, x1⟩, ⟨x2, x3⟩, ⟨x4, x5⟩, x6, x7⟩ := HX.out W hW
                  clear hW
                  go_simp
                simp only [Act.put, List.setIfInBounds_toArray, List.set_cons_zero, List.set_cons_succ]
                refine take_till (i := 16) (some 294) (.int .i64 CO) rfl rfl (by kernel_rfl) (by kernel_rfl) (by kernel_rfl) (by kernel_rfl) (by decide) (fun _ _ _ h => h) (by rfl) (fun W hW => ?_) hS ?_
                · obtain ⟨⟨x0, x1⟩, ⟨x2, x3⟩, ⟨x4, x5⟩, x6, x7⟩ := HX.out W hW
                  clear hW
                  go_simp
                simp only [Act.put, List.setIfInBounds_toArray, List.set_cons_zero, List.set_cons_succ]
                refine next_till 15 (by kernel_rfl) rfl (fun K hK => ?_)
                go_simp
                refine (HP.out.2.2.2.1.2.2.2 _ hS).mono ?_
                rintro _ yc3 ⟨rfl, bl⟩
                have hT := hS.go bl
                clear bl hS
                have hS := hT
                clear hT
                go_simp
                refine hK.out _ _ (fun _ => hS) ?_
                clear hK K
                refine take_till (i := 17) (some 295) (.bool true) rfl rfl (by kernel_rfl) (by kernel_rfl) (by kernel_rfl) (by kernel_rfl) (by decide) (fun _ _ _ h => h) (by rfl) (fun W hW => ?_) hS ?_
                · obtain ⟨⟨x0, x1⟩, ⟨x2, x3⟩, ⟨x4, x5⟩, x6, x7⟩ := HX.out W hW
                  clear hW
                  go_simp
                simp only [Act.put, List.setIfInBounds_toArray, List.set_cons_zero, List.set_cons_succ]
                refine take_till (i := 18) (some 296) (.bool true) rfl rfl (by kernel_rfl) (by kernel_rfl) (by kernel_rfl) (by kernel_rfl) (by decide) (fun _ _ _ h => h) (by rfl) (fun W hW => ?_) hS ?_
                · obtain ⟨⟨x0, x1⟩, ⟨x2, x3⟩, ⟨x4, x5⟩, x6, x7⟩ := HX.out W hW
                  clear hW
                  go_simp
                simp only [Act.put, List.setIfInBounds_toArray, List.set_cons_zero, List.set_cons_succ]
                refine take_till (i := 19) (some 297) (.bool true) rfl rfl (by kernel_rfl) (by kernel_rfl) (by kernel_rfl) (by kernel_rfl) (by decide) (fun _ _ _ h => h) (by rfl) (fun W hW => ?_) hS ?_
                · obtain ⟨⟨x0, x1⟩, ⟨x2, x3⟩, ⟨x4, x5⟩, x6, x7⟩ := HX.out W hW
                  clear hW
                  go_simp
                simp only [Act.put, List.setIfInBounds_toArray, List.set_cons_zero, List.set_cons_succ]
                refine take_till (i := 20) (some 298) (.agg #[.int .i64 (m : Int), .slice a1 L c1]) rfl rfl (by kernel_rfl) (by kernel_rfl) (by kernel_rfl) (by kernel_rfl) (by decide) (fun _ _ _ h => h) (by rfl) (fun W hW => ?_) hS ?_
                · obtain ⟨⟨x0, x1⟩, ⟨x2, x3⟩, ⟨x4, x5⟩, x6, x7⟩ := HX.out W hW
                  clear hW
                  go_simp
                simp only [Act.put, List.setIfInBounds_toArray, List.set_cons_zero, List.set_cons_succ]
                refine take_till (i := 21) (some 299) (.slice xa N xc) rfl rfl (by kernel_rfl) (by kernel_rfl) (by kernel_rfl) (by kernel_rfl) (by decide) (fun _ _ _ h => h) (by rfl) (fun W hW => ?_) hS ?_
                · obtain ⟨⟨x0, x1⟩, ⟨x2, x3⟩, ⟨x4, x5⟩, x6, x7⟩ := HX.out W hW
                  clear hW
                  go_simp
                simp only [Act.put, List.setIfInBounds_toArray, List.set_cons_zero, List.set_cons_succ]
                refine take_till (i := 23) (some 301) (.agg #[.int .i64 (m : Int), .slice va L vc]) rfl rfl (by kernel_rfl) (by kernel_rfl) (by kernel_rfl) (by kernel_rfl) (by decide) (fun _ _ _ h => h) (by rfl) (fun W hW => ?_) hS ?_
                · obtain ⟨⟨x0, x1⟩, ⟨x2, x3⟩, ⟨x4, x5⟩, x6, x7⟩ := HX.out W hW
                  clear hW
                  go_simp
                simp only [Act.put, List.setIfInBounds_toArray, List.set_cons_zero, List.set_cons_succ]
                refine take_till (i := 24) (some 302) (.slice xa N xc) rfl rfl (by kernel_rfl) (by kernel_rfl) (by kernel_rfl) (by kernel_rfl) (by decide) (fun _ _ _ h => h) (by rfl) (fun W hW => ?_) hS ?_
                · obtain ⟨⟨x0, x1⟩, ⟨x2, x3⟩, ⟨x4, x5⟩, x6, x7⟩ := HX.out W hW
                  clear hW
                  go_simp
                simp only [Act.put, List.setIfInBounds_toArray, List.set_cons_zero, List.set_cons_succ]
                refine next_till 22 (by kernel_rfl) rfl (fun K hK => ?_)
                go_simp
                refine (HP.out.2.2.2.2.2.1 _ hS).mono ?_
                rintro _ yc4 ⟨rfl, bl⟩
                have hT := hS.go bl
                clear bl hS
                have hS := hT
                clear hT
                go_simp
                refine hK.out _ _ (fun _ => hS) ?_
                clear hK K
                refine next_till 25 (by kernel_rfl) rfl (fun K hK => ?_)
                go_simp
                refine (HP.out.2.2.2.2.1 _ hS).mono ?_
                rintro _ yc5 ⟨rfl, bl⟩
                have hT := hS.go bl
                clear bl hS
                have hS := hT
                clear hT
                go_simp
                refine hK.out _ _ (fun _ => hS) ?_
                clear hK K
                refine take_till (i := 26) (some 304) (.bool true) rfl rfl (by kernel_rfl) (by kernel_rfl) (by kernel_rfl) (by kernel_rfl) (by decide) (fun _ _ _ h => h) (by rfl) (fun W hW => ?_) hS ?_
                · obtain ⟨⟨x0, x1⟩, ⟨x2, x3⟩, ⟨x4, x5⟩, x6, x7⟩ := HX.out W hW
                  clear hW
                  go_simp
                simp only [Act.put, List.setIfInBounds_toArray, List.set_cons_zero, List.set_cons_succ]
                refine take_till (i := 27) (some 305) (.bool true) rfl rfl (by kernel_rfl) (by kernel_rfl) (by kernel_rfl) (by kernel_rfl) (by decide) (fun _ _ _ h => h) (by rfl) (fun W hW => ?_) hS ?_
                · obtain ⟨⟨x0, x1⟩, ⟨x2, x3⟩, ⟨x4, x5⟩, x6, x7⟩ := HX.out W hW
                  clear hW
                  go_simp
                simp only [Act.put, List.setIfInBounds_toArray, List.set_cons_zero, List.set_cons_succ]
                refine take_till (i := 28) (some 306) (.bool true) rfl rfl (by kernel_rfl) (by kernel_rfl) (by kernel_rfl) (by kernel_rfl) (by decide) (fun _ _ _ h => h) (by rfl) (fun W hW => ?_) hS ?_
                · obtain ⟨⟨x0, x1⟩, ⟨x2, x3⟩, ⟨x4, x5⟩, x6, x7⟩ := HX.out W hW
                  clear hW
                  go_simp
                simp only [Act.put, List.setIfInBounds_toArray, List.set_cons_zero, List.set_cons_succ]
                refine take_till (i := 29) (some 307) (.agg #[.int .i64 (m : Int), .slice a3 L c3]) rfl rfl (by kernel_rfl) (by kernel_rfl) (by kernel_rfl) (by kernel_rfl) (by decide) (fun _ _ _ h => h) (by rfl) (fun W hW => ?_) hS ?_
                · obtain ⟨⟨x0, x1⟩, ⟨x2, x3⟩, ⟨x4, x5⟩, x6, x7⟩ := HX.out W hW
                  clear hW
                  go_simp
                simp only [Act.put, List.setIfInBounds_toArray, List.set_cons_zero, List.set_cons_succ]
                refine take_till (i := 30) (some 308) (.slice xa N xc) rfl rfl (by kernel_rfl) (by kernel_rfl) (by kernel_rfl) (by kernel_rfl) (by decide) (fun _ _ _ h => h) (by rfl) (fun W hW => ?_) hS ?_
                · obtain ⟨⟨x0, x1⟩, ⟨x2, x3⟩, ⟨x4, x5⟩, x6, x7⟩ := HX.out W hW
                  clear hW
                  go_simp
                simp only [Act.put, List.setIfInBounds_toArray, List.set_cons_zero, List.set_cons_succ]
                refine take_till (i := 32) (some 310) (.agg #[.int .i64 (m : Int), .slice va L vc]) rfl rfl (by kernel_rfl) (by kernel_rfl) (by kernel_rfl) (by kernel_rfl) (by decide) (fun _ _ _ h => h) (by rfl) (fun W hW => ?_) hS ?_
                · obtain ⟨⟨x0, x1⟩, ⟨x2, x3⟩, ⟨x4, x5⟩, x6, x7⟩ := HX.out W hW
                  clear hW
                  go_simp
                simp only [Act.put, List.setIfInBounds_toArray, List.set_cons_zero, List.set_cons_succ]
                refine take_till (i := 33) (some 311) (.slice xa N xc) rfl rfl (by kernel_rfl) (by kernel_rfl) (by kernel_rfl) (by kernel_rfl) (by decide) (fun _ _ _ h => h) (by rfl) (fun W hW => ?_) hS ?_
                · obtain ⟨⟨x0, x1⟩, ⟨x2, x3⟩, ⟨x4, x5⟩, x6, x7⟩ := HX.out W hW
                  clear hW
                  go_simp
                simp only [Act.put, List.setIfInBounds_toArray, List.set_cons_zero, List.set_cons_succ]
                refine next_till 31 (by kernel_rfl) rfl (fun K hK => ?_)
                go_simp
                refine (HP.out.2.2.2.2.2.2 _ hS).mono ?_
                rintro _ yc6 ⟨rfl, bl⟩
                have hT := hS.go bl
                clear bl hS
                have hS := hT
                clear hT
                go_simp
                refine hK.out _ _ (fun _ => hS) ?_
                clear hK K
                refine next_till 34 (by kernel_rfl) rfl (fun K hK => ?_)
                go_simp
                refine (HP.out.2.2.2.2.1 _ hS).mono ?_
                rintro _ yc7 ⟨rfl, bl⟩
                have hT := hS.go bl
                clear bl hS
                have hS := hT
                clear hT
                go_simp
                refine hK.out _ _ (fun _ => hS) ?_
                clear hK K
                refine take_till (i := 35) (some 313) (.bool true) rfl rfl (by kernel_rfl) (by kernel_rfl) (by kernel_rfl) (by kernel_rfl) (by decide) (fun _ _ _ h => h) (by rfl) (fun W hW => ?_) hS ?_
                · obtain ⟨⟨x0, x1⟩, ⟨x2, x3⟩, ⟨x4, x5⟩, x6, x7⟩ := HX.out W hW
                  clear hW
                  go_simp
                simp only [Act.put, List.setIfInBounds_toArray, List.set_cons_zero, List.set_cons_succ]
                refine take_till (i := 36) (some 314) (.bool true) rfl rfl (by kernel_rfl) (by kernel_rfl) (by kernel_rfl) (by kernel_rfl) (by decide) (fun _ _ _ h => h) (by rfl) (fun W hW => ?_) hS ?_
                · obtain ⟨⟨x0, x1⟩, ⟨x2, x3⟩, ⟨x4, x5⟩, x6, x7⟩ := HX.out W hW
                  clear hW
                  go_simp
                simp only [Act.put, List.setIfInBounds_toArray, List.set_cons_zero, List.set_cons_succ]
                refine take_till (i := 37) (some 315) (.bool true) rfl rfl (by kernel_rfl) (by kernel_rfl) (by kernel_rfl) (by kernel_rfl) (by decide) (fun _ _ _ h => h) (by rfl) (fun W hW => ?_) hS ?_
                · obtain ⟨⟨x0, x1⟩, ⟨x2, x3⟩, ⟨x4, x5⟩, x6, x7⟩ := HX.out W hW
                  clear hW
                  go_simp
                simp only [Act.put, List.setIfInBounds_toArray, List.set_cons_zero, List.set_cons_succ]
                refine next_till 38 (by kernel_rfl) rfl (fun K hK => ?_)
                go_simp
                refine (works_any _).mono ?_
                rintro _ yc8 ⟨rfl, bl⟩
                have hT := hS.go bl
                clear bl hS
                have hS := hT
                clear hT
                go_simp
                refine hK.out _ _ (fun _ => hS) ?_
                clear hK K
                refine take_till (i := 39) (some 317) (.bool true) rfl rfl (by kernel_rfl) (by kernel_rfl) (by kernel_rfl) (by kernel_rfl) (by decide) (fun _ _ _ h => h) (by rfl) (fun W hW => ?_) hS ?_
                · obtain ⟨⟨x0, x1⟩, ⟨x2, x3⟩, ⟨x4, x5⟩, x6, x7⟩ := HX.out W hW
                  clear hW
                  go_simp
                simp only [Act.put, List.setIfInBounds_toArray, List.set_cons_zero, List.set_cons_succ]
                refine take_till (i := 40) (some 6) (.bool true) rfl rfl (by kernel_rfl) (by kernel_rfl) (by kernel_rfl) (by kernel_rfl) (by decide) (fun _ _ _ h => h) (by rfl) (fun W hW => ?_) hS ?_
                · obtain ⟨⟨x0, x1⟩, ⟨x2, x3⟩, ⟨x4, x5⟩, x6, x7⟩ := HX.out W hW
                  clear hW
                  go_simp
                simp only [Act.put, List.setIfInBounds_toArray, List.set_cons_zero, List.set_cons_succ]
                refine done_till (by kernel_rfl) ?_ _
                have HT := Lib.hid hS.1.under
                clear hS
                go_wp2
                go_ret
                exact ⟨rfl, HT.out⟩
          · obtain ⟨i, rfl⟩ : ∃ i', i = i' + 1 := ⟨i - 1, by omega⟩
            obtain ⟨y, hy⟩ : ∃ y, fl[i]? = some y := ⟨_, List.getElem?_eq_getElem (by have := HN.out; omega)⟩
            obtain ⟨g, o, cp, e0, hg, f0⟩ := fs_at ((HLT.out.go hO.2.2).1.fl (.slice xa N xc, fl) (by simp)) hy
            rw [← HN.out] at e0
            simp only [Value.slice.injEq] at e0
            obtain ⟨rfl, -, rfl⟩ := e0
            obtain ⟨v', w', hap, hO'⟩ := hO.more y (by rw [List.length_take]; omega)
            have hst : fl.reverse.take (N - (i + 1)) ++ [y] = fl.reverse.take (N - i) := by
              have h1 : N - i = (N - (i + 1)) + 1 := by omega
              have h2 : fl.reverse[N - (i + 1)]? = some y := by
                rw [List.getElem?_reverse (by have := HN.out; omega), ← HN.out, show N - 1 - (N - (i + 1)) = i by omega]
                exact hy
              rw [h1, List.take_add_one, h2]
              rfl
            rw [hst] at hO'
            have hc : (((i + 1 : Nat) : Int) - 1) = (i : Int) := by omega
            rw [hc]
            have hi0 : (0 : Int) ≤ (i : Int) := by omega
            have hiN : (i : Int) < (N : Int) := by omega
            have hiw : wrap64 ((i : Int) - 1) = (i : Int) - 1 := by unfold wrap64; omega
            have HZ := Lib.hid (And.intro hO' (show i ≤ N by omega))
            clear hO hO' hst hi hy hg hpos hc
            go_wp2_with (at_builtin; refine nlist_append_run rfl (.tmp 133) (.tmp 138) _ rfl rfl rfl hap ?_)
            go_roundw
            case rel => exact ⟨i, rfl, HZ.out.2, HZ.out.1⟩
            case measure =>
              simp only [intOf]
              omega
end Go.Proofs.Ytmdjgkclbjbdiaa
