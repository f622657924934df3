/- How much may be pushed along a way: the program's Bottle; no condition. -/
import Derived.Test.YtohcoknnalgjnaaRsEnds
import Derived.Test.YtohcoknnalgjnaaRsIMap
namespace Go.Proofs.Ytohcoknnalgjnaa
open Go.RowKit

theorem cnt_next {arcs : List Int} {k : Nat} {a : Int} (h : arcs[k]? = some a) {m : Nat} (hm : (a / 2).toNat = m) {x : Int} (hx : x = cnt (arcs.take k) m + (if a % 2 = 0 then 1 else -1)) : (fun e => if e = m then x else cnt (arcs.take k) e) = cnt (arcs.take (k + 1)) := by
  funext e
  rw [cnt_take h, hx]
  unfold cntT
  rw [hm]
  by_cases he : e = m
  · rw [if_pos he, if_pos he.symm, he]
  · rw [if_neg he, if_neg (fun h => he h.symm)]
    omega
theorem even_has {es : List Ed} {a : Int} (h : HasP es a) : HasP es (a / 2 * 2) ∧ HasP es (a / 2 * 2 + 1) := by
  unfold HasP at *
  omega
theorem even_room {es : List Ed} {fl : List Int} {a : Int} : roomL es fl (a / 2 * 2) = (edI es a).cap - flI fl a ∧ roomL es fl (a / 2 * 2 + 1) = flI fl a := by
  unfold roomL
  rw [if_pos (by omega), if_neg (by omega), edI_eq (a := a / 2 * 2) (c := a) (by omega), flI_eq (a := a / 2 * 2) (c := a) (by omega), flI_eq (a := a / 2 * 2 + 1) (c := a) (by omega)]
  exact ⟨rfl, rfl⟩
theorem least_of (q z : Int) : (if q < z then q else z) = min z q := by
  rw [Int.min_def]
  split <;> split <;> omega
theorem quo_pos {x t : Int} (h0 : 0 ≤ x) (h1 : x ≤ 4503599627370496) (ht : 0 < t) : wrap64 (x.tdiv t) = x / t := by
  rw [Int.tdiv_eq_ediv_of_nonneg h0]
  have h2 := Int.ediv_nonneg h0 (show 0 ≤ t by omega)
  have h3 := Int.ediv_le_self t h0
  unfold wrap64
  omega

set_option maxRecDepth 100000 in
set_option maxHeartbeats 8000000 in
theorem bottle_any (n : Int) (es : List Ed) (fl arcs : List Int) (w : World) {v x y : Value} (he : Es w v es) (hf : Fs w x fl) (hy : Fs w y arcs) :
    Calls Try.prog 23 #[netV n v, x, y] w fun e w' => e = .returned (.int .i64 (bottleP n es fl arcs)) ∧ Below w.heap.size w w' := by
  obtain ⟨va, vc, rfl, -, -⟩ := he.shape
  obtain ⟨xa, xc, rfl, -, -⟩ := hf.shape
  obtain ⟨ya, yc, rfl, hyc1, hyc2⟩ := hy.shape
  obtain ⟨R, hR⟩ : ∃ R, R = bottleP n es fl arcs := ⟨_, rfl⟩
  have hR1 : ¬ (WithinP n es fl ∧ WayP es arcs) → R = 0 := fun h => by rw [hR]; unfold bottleP; rw [if_neg h]
  have hR2 : WithinP n es fl ∧ WayP es arcs → R = bot es fl arcs arcs.length := fun h => by rw [hR]; unfold bottleP; rw [if_pos h]
  rw [← hR]
  clear hR
  obtain ⟨M, hM⟩ : ∃ M, M = arcs.length := ⟨_, rfl⟩
  rw [← hM] at hy hyc1 hR2 ⊢
  have hyl : M ≤ maxLen := Nat.le_trans hyc1 hyc2
  clear hyc1 hyc2
  have hK := NQ.box n he (fls := [(.slice xa fl.length xc, fl), (.slice ya M yc, arcs)]) (fun p hp => by
    rcases List.mem_cons.1 hp with rfl | hp
    · exact hf
    · rw [List.mem_singleton.1 hp]; exact hy)
  have HR := Lib.hid (And.intro hR1 (And.intro hR2 (And.intro hM hyl)))
  have HNQ := Lib.hid (show ∀ W, Below w.heap.size w W → Cel W w.heap.size [.int .i64 n, .slice va es.length vc] 24 → NQ w w.heap.size n (.slice va es.length vc) es [(.slice xa fl.length xc, fl), (.slice ya M yc, arcs)] W from fun W hb hc => ⟨hb, hc, he.below hb, fun p hp => by
    rcases List.mem_cons.1 hp with rfl | hp
    · exact hf.below hb
    · rw [List.mem_singleton.1 hp]; exact hy.below hb⟩)
  clear he hf hy hR1 hR2 hM hyl
  have P := within_any n es fl _ hK.es (hK.fl (.slice xa fl.length xc, fl) (by simp))
  have HK := Lib.hid hK
  clear hK
  go_enter Try.func23, Try.ntmps23
  go_wp2_with fail
  generalize w.alloc (.cells #[.int .i64 n, .slice va es.length vc] 24) = w1 at *
  refine P.mono ?_
  rintro _ w2 ⟨rfl, bl⟩
  have h2 := HK.out.go bl
  clear P HK bl
  by_cases hw : WithinP n es fl
  case neg =>
    rw [decide_eq_false hw]
    obtain rfl := HR.out.1 (fun h => hw h.1)
    have HK := Lib.hid h2
    clear hw h2
    go_wp2
    go_ret
    exact ⟨rfl, HK.out.under⟩
  rw [decide_eq_true hw]
  have P := joined_any n es arcs w2 h2.es (h2.fl (.slice ya M yc, arcs) (by simp)) hw.1
  obtain ⟨n0, n1⟩ := h2.net.net
  have HK := Lib.hid (And.intro h2 hw)
  clear h2 hw
  go_wp2_with fail
  refine P.mono ?_
  rintro _ w3 ⟨rfl, bl⟩
  have h3 := HK.out.1.go bl
  have hw := HK.out.2
  clear P HK bl n0 n1
  by_cases hj : WayP es arcs
  case neg =>
    rw [decide_eq_false hj]
    obtain rfl := HR.out.1 (fun h => hj h.2)
    have HK := Lib.hid h3
    clear hw h3 hj
    go_wp2
    go_ret
    exact ⟨rfl, HK.out.under⟩
  rw [decide_eq_true hj]
  obtain rfl := HR.out.2.1 ⟨hw, hj⟩
  have HM := Lib.hid HR.out.2.2
  have h4 := h3.go ((Below.refl w3.heap.size w3).alloc (Nat.le_refl _) (.map #[] 0))
  have hI := imap_new w3
  have hcm : w.heap.size < w3.heap.size := h3.net.lt
  have hmm := @run_makeMap Try.prog
  have HC := Lib.hid (And.intro h4 hI)
  have HG := Lib.hid (And.intro hw (And.intro hj hcm))
  clear h3 h4 hI hw hj hcm HR
  go_wp2
  generalize w3.alloc (.map #[] 0) = w4 at *
  generalize w3.heap.size = mb at *
  clear hmm
  go_loopw [26, 7] (fun j q wr => ∃ k : Nat, j = .int .i64 (k : Int) ∧ k ≤ M ∧ (∃ z, z = bot es fl arcs k ∧ q = .int .i64 z) ∧ IMap wr mb k (cnt (arcs.take k)) ∧ NQ w w.heap.size n (.slice va es.length vc) es [(.slice xa fl.length xc, fl), (.slice ya M yc, arcs)] wr) (fun j _ _ => M - (intOf j).toNat)
  case atStart => exact ⟨0, rfl, Nat.zero_le _, ⟨_, rfl, rfl⟩, HC.out.2, HC.out.1⟩
  case round =>
    obtain ⟨k, rfl, hk, ⟨z, hz, rfl⟩, hi, hq⟩ := hrel
    clear HC
    have hM := HM.out.1
    rcases Nat.lt_or_ge k M with hlt | hge
    · obtain ⟨a, hay⟩ : ∃ a, arcs[k]? = some a := ⟨_, List.getElem?_eq_getElem (by omega)⟩
      have hh := WayP.has HG.out.2.1 hay
      have hfit := hh.fits HG.out.1
      obtain ⟨g3, o3, cap3, e0, hg3, f0⟩ := fs_at (hq.fl (.slice ya M yc, arcs) (by simp)) hay
      rw [← hM] at e0
      simp only [Value.slice.injEq] at e0
      obtain ⟨rfl, -, rfl⟩ := e0
      have hki : (k : Int) < (M : Int) := by omega
      have hkM := HM.out.2
      have hMl : M ≤ 9223372036854775807 := by unfold maxLen at hkM; omega
      have hk1 : (k : Int) ≤ 9223372036854775806 := by omega
      have hk0 : (0 : Int) ≤ (k : Int) := by omega
      have ha0 : 0 ≤ a := hh.1
      have hm : a ≤ 9223372036854775807 := by have := HG.out.1.1.2.2.1; have := hh.2; omega
      obtain ⟨m, hm2⟩ : ∃ m : Nat, (a / 2).toNat = m := ⟨_, rfl⟩
      have hm3 : a / 2 = (m : Int) := by omega
      have hm4 : m ≤ 9223372036854775807 := by omega
      have PE := fun W => edgeOf_any a W
      rw [hm3] at PE
      have PL := leadsBack_any ha0 hm wr
      have L1 := hi.look hm4
      have hcl := cnt_take_le arcs m k
      have hbz : bot es fl arcs (k + 1) = botT es fl a (cnt (arcs.take (k + 1)) m) z := by
        show botT es fl (arcs.getD k 0) (cnt (arcs.take (k + 1)) (arcs.getD k 0 / 2).toNat) (bot es fl arcs k) = _
        rw [List.getD_eq_getElem?_getD, hay, ← hz]
        simp only [Option.getD_some, hm2]
      have hnot := arc_not ha0 hm
      have hor := arc_or ha0 hm
      have hev := even_has hh
      have her := even_room (es := es) (fl := fl) (a := a)
      obtain ⟨n0, n1⟩ := hq.net.net
      by_cases hpar : a % 2 = 0
      · have e5 : decide (¬ a % 2 = 0) = false := by simp [hpar]
        rw [e5] at PL
        have hw1 : wrap64 (cnt (arcs.take k) m + 1) = cnt (arcs.take k) m + 1 := by unfold wrap64; omega
        obtain ⟨w5, hup, hi5, ho5⟩ := hi.put hm4 (x := cnt (arcs.take k) m + 1) (by omega) (by omega) (by omega)
        rw [cnt_next hay hm2 (by rw [if_pos hpar])] at hi5
        have hq5 := HNQ.out w5 (hq.under.trans (ho5.below hq.under.size (fun q hq => by have := HG.out.2.2; omega))) (hq.net.only ho5 (by have := HG.out.2.2; omega))
        have L2 := hi5.look hm4
        have ht : cnt (arcs.take (k + 1)) m = cnt (arcs.take k) m + 1 := by rw [cnt_take hay]; unfold cntT; rw [if_pos hm2, if_pos hpar]
        obtain ⟨t, htt⟩ : ∃ t, t = cnt (arcs.take (k + 1)) m := ⟨_, rfl⟩
        rw [← htt] at L2 hbz
        have htb := cnt_take_le arcs m (k + 1)
        rw [← htt] at htb
        have PR1 := aroom_any n es fl (a / 2 * 2) w5 hq5.es (hq5.fl (.slice xa fl.length xc, fl) (by simp)) hev.1 HG.out.1
        have PR2 := aroom_any n es fl (a / 2 * 2 + 1) w5 hq5.es (hq5.fl (.slice xa fl.length xc, fl) (by simp)) hev.2 HG.out.1
        rw [her.1] at PR1
        rw [her.2] at PR2
        rw [← hnot] at PR1
        rw [← hor] at PR2
        obtain ⟨n2, n3⟩ := hq5.net.net
        obtain ⟨c, hc⟩ : ∃ c, c = cnt (arcs.take k) m := ⟨_, rfl⟩
        rw [← hc] at L1 hup hw1
        have HQ := Lib.hid (And.intro hi5 (And.intro hq5 (And.intro hlt (And.intro hbz (And.intro hz (And.intro hfit (And.intro htb hMl)))))))
        clear hi5 hq5 hlt hbz hz hfit htb hi hq ho5 hev her hh hcl ht hc htt hay hM hkM hMl hg3 hk e5 hm2 hm3 hpar hnot hor
        go_wp2_with fail
        refine (PE _).mono ?_
        rintro _ _ ⟨rfl, rfl⟩
        go_wp2_with fail
        refine PL.mono ?_
        rintro _ _ ⟨rfl, rfl⟩
        have htr : t < 0 ∨ t = 0 ∨ 0 < t := by omega
        rcases htr with ht1 | ht1 | ht1
        · have ht2 : ¬ 0 < t := by omega
          have ht3 : ¬ -t = 0 := by omega
          have htw : wrap64 (-t) = -t := by have := HQ.out.2.2.2.2.2.2.1; have := HQ.out.2.2.2.2.2.2.2; unfold wrap64; omega
          have hqu := quo_pos HQ.out.2.2.2.2.2.1.1 (by have := HQ.out.2.2.2.2.2.1; omega) (show 0 < -t by omega)
          rw [Int.tdiv_neg] at hqu
          obtain ⟨q, hq⟩ : ∃ q, q = flI fl a / -t := ⟨_, rfl⟩
          rw [← hq] at hqu
          have HQQ := Lib.hid hq
          clear hq
          clear PR1
          go_wp2_with fail
          refine PR2.mono ?_
          rintro _ w6 ⟨rfl, bl⟩
          go_wp2
          go_roundw
          case rel =>
            obtain ⟨hi5, hq5, hlt, hbz, hz, -⟩ := HQ.out
            exact ⟨k + 1, by go_num, hlt, ⟨_, by rw [hbz]; unfold botT; rw [if_neg (show ¬ 0 < t by omega), if_pos ht1, ← HQQ.out]; exact least_of _ _, rfl⟩, hi5.below bl, hq5.go bl⟩
          case measure =>
            have := HQ.out.2.2.1
            simp only [intOf]
            omega
        · subst ht1
          clear PR1 PR2
          go_wp2
          go_roundw
          case rel =>
            obtain ⟨hi5, hq5, hlt, hbz, hz, -⟩ := HQ.out
            exact ⟨k + 1, by go_num, hlt, ⟨_, by rw [hbz]; unfold botT; simp, rfl⟩, hi5, hq5⟩
          case measure =>
            have := HQ.out.2.2.1
            simp only [intOf]
            omega
        · have ht2 : ¬ t = 0 := by omega
          have hqu := quo_pos (x := (edI es a).cap - flI fl a) (by have := HQ.out.2.2.2.2.2.1; omega) (by have := HQ.out.2.2.2.2.2.1; omega) ht1
          clear PR2
          go_wp2_with fail
          refine PR1.mono ?_
          rintro _ w6 ⟨rfl, bl⟩
          go_wp2
          go_roundw
          case rel =>
            obtain ⟨hi5, hq5, hlt, hbz, hz, -⟩ := HQ.out
            exact ⟨k + 1, by go_num, hlt, ⟨_, by rw [hbz]; unfold botT; rw [if_pos ht1]; exact least_of _ _, rfl⟩, hi5.below bl, hq5.go bl⟩
          case measure =>
            have := HQ.out.2.2.1
            simp only [intOf]
            omega
      · have e5 : decide (¬ a % 2 = 0) = true := by simp [hpar]
        rw [e5] at PL
        have hw1 : wrap64 (cnt (arcs.take k) m - 1) = cnt (arcs.take k) m - 1 := by unfold wrap64; omega
        obtain ⟨w5, hup, hi5, ho5⟩ := hi.put hm4 (x := cnt (arcs.take k) m - 1) (by omega) (by omega) (by omega)
        rw [cnt_next hay hm2 (by rw [if_neg hpar]; omega)] at hi5
        have hq5 := HNQ.out w5 (hq.under.trans (ho5.below hq.under.size (fun q hq => by have := HG.out.2.2; omega))) (hq.net.only ho5 (by have := HG.out.2.2; omega))
        have L2 := hi5.look hm4
        have ht : cnt (arcs.take (k + 1)) m = cnt (arcs.take k) m - 1 := by rw [cnt_take hay]; unfold cntT; rw [if_pos hm2, if_neg hpar]; omega
        obtain ⟨t, htt⟩ : ∃ t, t = cnt (arcs.take (k + 1)) m := ⟨_, rfl⟩
        rw [← htt] at L2 hbz
        have htb := cnt_take_le arcs m (k + 1)
        rw [← htt] at htb
        have PR1 := aroom_any n es fl (a / 2 * 2) w5 hq5.es (hq5.fl (.slice xa fl.length xc, fl) (by simp)) hev.1 HG.out.1
        have PR2 := aroom_any n es fl (a / 2 * 2 + 1) w5 hq5.es (hq5.fl (.slice xa fl.length xc, fl) (by simp)) hev.2 HG.out.1
        rw [her.1] at PR1
        rw [her.2] at PR2
        rw [← hnot] at PR1
        rw [← hor] at PR2
        obtain ⟨n2, n3⟩ := hq5.net.net
        obtain ⟨c, hc⟩ : ∃ c, c = cnt (arcs.take k) m := ⟨_, rfl⟩
        rw [← hc] at L1 hup hw1
        have HQ := Lib.hid (And.intro hi5 (And.intro hq5 (And.intro hlt (And.intro hbz (And.intro hz (And.intro hfit (And.intro htb hMl)))))))
        clear hi5 hq5 hlt hbz hz hfit htb hi hq ho5 hev her hh hcl ht hc htt hay hM hkM hMl hg3 hk e5 hm2 hm3 hpar hnot hor
        go_wp2_with fail
        refine (PE _).mono ?_
        rintro _ _ ⟨rfl, rfl⟩
        go_wp2_with fail
        refine PL.mono ?_
        rintro _ _ ⟨rfl, rfl⟩
        have htr : t < 0 ∨ t = 0 ∨ 0 < t := by omega
        rcases htr with ht1 | ht1 | ht1
        · have ht2 : ¬ 0 < t := by omega
          have ht3 : ¬ -t = 0 := by omega
          have htw : wrap64 (-t) = -t := by have := HQ.out.2.2.2.2.2.2.1; have := HQ.out.2.2.2.2.2.2.2; unfold wrap64; omega
          have hqu := quo_pos HQ.out.2.2.2.2.2.1.1 (by have := HQ.out.2.2.2.2.2.1; omega) (show 0 < -t by omega)
          rw [Int.tdiv_neg] at hqu
          obtain ⟨q, hq⟩ : ∃ q, q = flI fl a / -t := ⟨_, rfl⟩
          rw [← hq] at hqu
          have HQQ := Lib.hid hq
          clear hq
          clear PR1
          go_wp2_with fail
          refine PR2.mono ?_
          rintro _ w6 ⟨rfl, bl⟩
          go_wp2
          go_roundw
          case rel =>
            obtain ⟨hi5, hq5, hlt, hbz, hz, -⟩ := HQ.out
            exact ⟨k + 1, by go_num, hlt, ⟨_, by rw [hbz]; unfold botT; rw [if_neg (show ¬ 0 < t by omega), if_pos ht1, ← HQQ.out]; exact least_of _ _, rfl⟩, hi5.below bl, hq5.go bl⟩
          case measure =>
            have := HQ.out.2.2.1
            simp only [intOf]
            omega
        · subst ht1
          clear PR1 PR2
          go_wp2
          go_roundw
          case rel =>
            obtain ⟨hi5, hq5, hlt, hbz, hz, -⟩ := HQ.out
            exact ⟨k + 1, by go_num, hlt, ⟨_, by rw [hbz]; unfold botT; simp, rfl⟩, hi5, hq5⟩
          case measure =>
            have := HQ.out.2.2.1
            simp only [intOf]
            omega
        · have ht2 : ¬ t = 0 := by omega
          have hqu := quo_pos (x := (edI es a).cap - flI fl a) (by have := HQ.out.2.2.2.2.2.1; omega) (by have := HQ.out.2.2.2.2.2.1; omega) ht1
          clear PR2
          go_wp2_with fail
          refine PR1.mono ?_
          rintro _ w6 ⟨rfl, bl⟩
          go_wp2
          go_roundw
          case rel =>
            obtain ⟨hi5, hq5, hlt, hbz, hz, -⟩ := HQ.out
            exact ⟨k + 1, by go_num, hlt, ⟨_, by rw [hbz]; unfold botT; rw [if_pos ht1]; exact least_of _ _, rfl⟩, hi5.below bl, hq5.go bl⟩
          case measure =>
            have := HQ.out.2.2.1
            simp only [intOf]
            omega
    · obtain rfl : k = M := by omega
      have hki : ¬ (k : Int) < (k : Int) := by omega
      have HB := Lib.hid hq.under
      clear hi hq hge hk hM
      subst hz
      go_wp2
      go_ret
      exact ⟨rfl, HB.out⟩
end Go.Proofs.Ytohcoknnalgjnaa
