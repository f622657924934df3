/- The walk of TreeKeeps: it returns true and writes nothing that was there; no condition. -/
import Derived.Test.YtgekeemhbnhelaaGreatM47
import Derived.Deep.CutBlock
namespace Go.Proofs.YtgekeemhbnhelaaGreat
open Go.RowKit

/-- Between two rounds of what comes first. -/
def KeepA (w1 : World) (xb tb db pb : Nat) (r : Nat) (wr : World) (rv av : Value) : Prop := ∃ (root : Int) (prs : List Pr) (D : Dv) (ps : List Pg) (pgs : List Nat) (S : Nat → Prop) (n : Nat),
  rv = .int .i64 root ∧ Dx w1 wr xb tb db pb 800 n D ps root prs pgs S ∧ Rd kdPr wr S av prs ∧ prs.length ≤ r ∧ (∀ (k : Nat) (x : Pg), ps[k]? = some x → x.1 = x.2) ∧ n ≤ 21 * r
/-- Between two rounds of what comes then. -/
def KeepB (w1 : World) (xb tb db pb : Nat) (root0 : Int) (av0 : Value) (prs0 : List Pr) (pgs0 : List Nat) (r : Nat) (wr : World) (rv av : Value) : Prop := ∃ (root : Int) (prs : List Pr) (D : Dv) (ps : List Pg) (pgs : List Nat) (S : Nat → Prop) (n : Nat),
  rv = .int .i64 root ∧ Dx w1 wr xb tb db pb 800 n D ps root prs pgs S ∧ Rd kdPr wr S av prs ∧ prs.length ≤ 300 + r ∧ n ≤ 6300 + 21 * r ∧ Old D ps root0 prs0 pgs0 ∧ Sure D pgs0 ∧ Rd kdPr wr S av0 prs0

set_option maxRecDepth 100000 in
set_option maxHeartbeats 16000000 in
theorem treeKeeps_any {lv mv : Value} {ls ms : List Sp} {cr : Bool} (w : World) (hl : Rd kdSp w (fun _ => False) lv ls) (hm : Rd kdSp w (fun _ => False) mv ms) :
    Calls Tryz.prog 4 #[lv, mv, .bool cr] w (Yes w) := by
  obtain ⟨la, lc, rfl, _⟩ := hl.shape
  obtain ⟨ma, mc, rfl, _⟩ := hm.shape
  obtain ⟨ln, hln⟩ : ∃ ln, ln = ls.length := ⟨_, rfl⟩
  obtain ⟨mn, hmn⟩ : ∃ mn, mn = ms.length := ⟨_, rfl⟩
  have HV := heavy_any w hl
  rw [← hln] at hl HV ⊢
  rw [← hmn] at hm ⊢
  have HH := Lib.hid (And.intro hl (And.intro hm (And.intro hln hmn)))
  clear hl hm hln hmn
  go_enter Tryz.func4, Tryz.ntmps4
  go_wp2_with fail
  refine HV.mono ?_
  rintro e w1 ⟨hb, rfl, hb1, hfew1⟩
  clear HV
  rcases hb with _ | _
  · replace hfew1 := hfew1 rfl
    have HV2 := heavy_any w1 (HH.out.2.1.step (Step.of_below hb1 _))
    rw [← HH.out.2.2.2] at HV2
    have H1 := Lib.hid (And.intro hb1 hfew1)
    clear hb1 hfew1
    go_wp2_with fail
    refine HV2.mono ?_
    rintro e w2 ⟨hb, rfl, hb2, hfew2⟩
    clear HV2
    rcases hb with _ | _
    · replace hfew2 := hfew2 rfl
      have H2 := Lib.hid (And.intro (H1.out.1.trans (hb2.mono H1.out.1.size)) hfew2)
      have DK := desk_any 800 (by decide) (by decide) w2
      clear hb2 hfew2
      go_wp2_with fail
      refine DK.mono ?_
      rintro e w3 ⟨xb, tb, rfl, hk⟩
      clear DK
      obtain ⟨db, pb, D, pgs, S, hd⟩ := hk.dx
      have HD := Lib.hid hd
      clear hk hd
      go_wp2
      go_loopw [8, 9, 10] (fun rv av i wr => ∃ r : Nat, r ≤ ln ∧ i = .int .i64 (r : Int) ∧ KeepA w2 xb tb db pb r wr rv av) (fun _ _ i _ => ln - (intOf i).toNat)
      case atStart =>
        exact ⟨0, Nat.zero_le _, rfl, -1, [], D, _, pgs, S, 0, rfl, HD.out, Rd.nil _ _ _, Nat.le_refl _, fresh_eq _, Nat.zero_le _⟩
      case round =>
        obtain ⟨r, hr, rfl, root, prs, D, ps, pgs, S, n, rfl, hd, hav, hpl, heq, hn⟩ := hrel
        obtain ⟨hl, hm, hln, hmn⟩ := HH.out
        obtain ⟨hb1, hfew1⟩ := H1.out
        obtain ⟨hb2, hfew2⟩ := H2.out
        by_cases hlt : r < ln
        · obtain ⟨s, hs⟩ : ∃ s, ls[r]? = some s := ⟨_, List.getElem?_eq_getElem (by omega)⟩
          obtain ⟨g, o, cap, ka, kc, va, vc, e0, hg, k0, k1, k2, k3, bk, bv⟩ := (hl.step (Step.of_below hb2 _)).stp hs
          rw [← hln] at e0
          simp only [Value.slice.injEq] at e0
          obtain ⟨rfl, -, rfl⟩ := e0
          have hfs := hd.free_same heq
          have hpg := hd.hold.rt.few
          have DO := does_both (K := 21) hd hav s (hd.old bk.1) (hd.old bv.1) (fun lvl h => few800 h) (by omega) (by omega) (by omega)
          obtain ⟨kn, hkn⟩ : ∃ kn, kn = s.key.length := ⟨_, rfl⟩
          obtain ⟨vn, hvn⟩ : ∃ vn, vn = s.val.length := ⟨_, rfl⟩
          rw [← hkn] at k1 DO
          rw [← hvn] at k2 DO
          obtain ⟨cv, hcv⟩ : ∃ cv, cv = s.cut := ⟨_, rfl⟩
          rw [← hcv] at k0 DO
          obtain ⟨sv, hsv⟩ : ∃ sv, sv = s.settle := ⟨_, rfl⟩
          rw [← hsv] at k3 DO
          obtain ⟨aa, ac, rfl, _⟩ := hav.shape
          have hil : (r : Int) < (ln : Int) := by omega
          have hr0 : (0 : Int) ≤ (r : Int) := by omega
          have hrl : ln ≤ 300 := hfew1
          have m0 := (hd.bw.cell (p := ⟨g, o + r * 4, none⟩) hg).trans k0
          have m1 := (hd.bw.cell (p := ⟨g, o + r * 4 + 1, none⟩) hg).trans k1
          have m2 := (hd.bw.cell (p := ⟨g, o + r * 4 + 2, none⟩) hg).trans k2
          have m3 := (hd.bw.cell (p := ⟨g, o + r * 4 + 3, none⟩) hg).trans k3
          have HP := Lib.hid (And.intro hpl (And.intro hn (And.intro hkn (And.intro hvn (And.intro hcv hsv)))))
          clear hl hm hln hmn hb1 hfew1 hb2 hfew2 hs hg k0 k1 k2 k3 bk bv hav hd heq hpl hn hfs hpg hkn hvn hcv hsv
          go_wp2_with fail
          refine DO.mono ?_
          rintro e w5 ⟨r5, av5, D5, ps5, pgs5, S5, rfl, st5, hf5, -, hd5, ha5⟩
          clear DO m0 m1 m2 m3
          obtain ⟨prs5, hprs5⟩ : ∃ p, p = stepP prs s := ⟨_, rfl⟩
          rw [← hprs5] at hd5 ha5
          obtain ⟨a5, c5, rfl, _⟩ := ha5.shape
          have hl5 : prs5.length ≤ r + 1 := by
            have h1 := stepP_few prs s
            have h2 := HP.out.1
            rw [hprs5]
            omega
          have SE := dx_settle hd5
          have c1 := hd5.cel.cell 1
          have H5 := Lib.hid (And.intro ha5 hl5)
          clear st5 hf5 hd5 ha5 hl5 hprs5
          go_wp2_with fail
          refine SE.mono ?_
          rintro e w6 ⟨rfl, st6, hd6⟩
          clear SE c1
          have H6 := Lib.hid (And.intro hd6 (H5.out.1.step st6))
          clear st6 hd6
          go_wp2
          go_roundw
          case rel => exact ⟨r + 1, by omega, by go_num, r5, prs5, D5, _, pgs5, S5, n + 21, rfl, H6.out.1, H6.out.2, H5.out.2, settled_eq ps5, by have := HP.out.2.1; omega⟩
          case measure => simp [intOf]; omega
        · obtain rfl : r = ln := by omega
          have hil : ¬ (r : Int) < (r : Int) := by omega
          have FL := dx_flush hd (by omega)
          have c0 := hd.cel.cell 0
          obtain ⟨aa, ac, rfl, _⟩ := hav.shape
          have hpl' : prs.length ≤ 300 := by omega
          have hn' : n ≤ 6300 := by omega
          have HA := Lib.hid (And.intro hav (And.intro heq (And.intro hpl' hn')))
          have hrl : r ≤ 300 := hfew1
          clear hl hm hln hmn hb1 hfew1 hb2 hfew2 hav hd heq hpl hn hpl' hn'
          go_wp2_with fail
          refine FL.mono ?_
          rintro e w4 ⟨rfl, D4, S4, st4, hd4, hsu⟩
          clear FL c0
          have H4 := Lib.hid (And.intro hd4 (And.intro hsu (HA.out.1.step st4)))
          clear st4 hd4 hsu
          go_upto_block 2 with fail
          go_cut [14, 15, 16, 17, 18, 19] from 71 to 107 (fun t14 t15 _ _ _ _ wx => ∃ q, q ≤ 300 ∧ KeepB w2 xb tb db pb root (.slice aa prs.length ac) prs pgs q wx t14 t15)
          case first =>
            go_wp2_with fail
            go_loopw [14, 15, 16] (fun rv av i wr => ∃ q : Nat, q ≤ mn ∧ i = .int .i64 (q : Int) ∧ KeepB w2 xb tb db pb root (.slice aa prs.length ac) prs pgs q wr rv av) (fun _ _ i _ => mn - (intOf i).toNat)
            case atStart =>
              obtain ⟨hd4, hsu, ha4⟩ := H4.out
              obtain ⟨_, heq, hpl, hn⟩ := HA.out
              exact ⟨0, Nat.zero_le _, rfl, root, prs, D4, ps, pgs, S4, n, rfl, hd4, ha4, by omega, by omega, Old.of_hold hd4.hold heq, hsu, ha4⟩
            case round =>
              obtain ⟨q, hq, rfl, root2, prs2, D2, ps2, pgs2, S2, n2, rfl, hd, hav, hpl, hn, hold, hsu, hav0⟩ := hrel
              obtain ⟨hl, hm, hln, hmn⟩ := HH.out
              obtain ⟨hb1, hfew1⟩ := H1.out
              obtain ⟨hb2, hfew2⟩ := H2.out
              obtain ⟨a2, c2, rfl, _⟩ := hav.shape
              have FR := dx_free hd
              have q1 := hd.cel.cell 1
              have hrl : mn ≤ 300 := hfew2
              have HB := Lib.hid (And.intro hd (And.intro hav (And.intro hpl (And.intro hn (And.intro hold (And.intro hsu hav0))))))
              by_cases hlt : q < mn
              · have hil : (q : Int) < (mn : Int) := by omega
                have hr0 : (0 : Int) ≤ (q : Int) := by omega
                by_cases hfr : 100 ≤ freeP ps2
                · have h1 : (100 : Int) ≤ (freeP ps2 : Int) := by omega
                  obtain ⟨s, hs⟩ : ∃ s, ms[q]? = some s := ⟨_, List.getElem?_eq_getElem (by omega)⟩
                  obtain ⟨g, o, cap, ka, kc, va, vc, e0, hg, k0, k1, k2, k3, bk, bv⟩ := (hm.step (Step.of_below hb2 _)).stp hs
                  rw [← hmn] at e0
                  simp only [Value.slice.injEq] at e0
                  obtain ⟨rfl, -, rfl⟩ := e0
                  have DO := does_both (K := 21) hd hav s (hd.old bk.1) (hd.old bv.1) (fun lvl h => few800 h) (by omega) (by omega) (by omega)
                  obtain ⟨kn, hkn⟩ : ∃ kn, kn = s.key.length := ⟨_, rfl⟩
                  obtain ⟨vn, hvn⟩ : ∃ vn, vn = s.val.length := ⟨_, rfl⟩
                  rw [← hkn] at k1 DO
                  rw [← hvn] at k2 DO
                  obtain ⟨cv, hcv⟩ : ∃ cv, cv = s.cut := ⟨_, rfl⟩
                  rw [← hcv] at k0 DO
                  obtain ⟨sv, hsv⟩ : ∃ sv, sv = s.settle := ⟨_, rfl⟩
                  rw [← hsv] at k3 DO
                  have m0 := (hd.bw.cell (p := ⟨g, o + q * 4, none⟩) hg).trans k0
                  have m1 := (hd.bw.cell (p := ⟨g, o + q * 4 + 1, none⟩) hg).trans k1
                  have m2 := (hd.bw.cell (p := ⟨g, o + q * 4 + 2, none⟩) hg).trans k2
                  have m3 := (hd.bw.cell (p := ⟨g, o + q * 4 + 3, none⟩) hg).trans k3
                  have HN := Lib.hid (And.intro hkn (And.intro hvn (And.intro hcv hsv)))
                  clear hl hm hln hmn hb1 hfew1 hb2 hfew2 hs hg k0 k1 k2 k3 bk bv hav hd hpl hn hold hsu hav0 hfr hkn hvn hcv hsv
                  go_wp2_with fail
                  refine FR.mono ?_
                  rintro e w4 ⟨rfl, rfl⟩
                  clear FR q1
                  go_wp2_with fail
                  refine DO.mono ?_
                  rintro e w5 ⟨r5, av5, D5, ps5, pgs5, S5, rfl, st5, hf5, hc5, hd5, ha5⟩
                  clear DO m0 m1 m2 m3
                  obtain ⟨prs5, hprs5⟩ : ∃ p, p = stepP prs2 s := ⟨_, rfl⟩
                  rw [← hprs5] at hd5 ha5
                  obtain ⟨a5, c5, rfl, _⟩ := ha5.shape
                  obtain ⟨hd, hav, hpl, hn, hold, hsu, hav0⟩ := HB.out
                  have hl5 : prs5.length ≤ 300 + (q + 1) := by
                    have h1 := stepP_few prs2 s
                    rw [hprs5]
                    omega
                  obtain ⟨ho5, hs5⟩ := hold.chg hc5
                  replace hs5 := hs5 hsu
                  have ha05 := hav0.step st5
                  have hpg : pgs.length ≤ 4096 := by
                    have h1 := hold.rt.few
                    have h2 := HA.out.2.2.1
                    omega
                  have LA := lhas_any (hd5.cel.cell 2) hd5.tr hd5.on ho5.rt hpg ha05
                  rw [decide_eq_true rfl] at LA
                  have H5 := Lib.hid (And.intro hd5 (And.intro ha5 (And.intro hl5 (And.intro ho5 (And.intro hs5 ha05)))))
                  clear hd hav hpl hn hold hsu hav0 hl5 ho5 hs5 ha05 hpg st5 hf5 hc5 hd5 ha5 hprs5
                  go_wp2_with fail
                  refine LA.mono ?_
                  rintro e w6 ⟨rfl, hb6⟩
                  clear LA
                  have H6 := Lib.hid hb6
                  clear hb6
                  go_wp2
                  go_roundw
                  case rel =>
                    obtain ⟨hd5, ha5, hl5, ho5, hs5, ha05⟩ := H5.out
                    have st6 := Step.of_below H6.out S5
                    exact ⟨q + 1, by omega, by go_num, r5, prs5, D5, ps5, pgs5, S5, n2 + 21, rfl, hd5.later H6.out, ha5.step st6, hl5, by have := HB.out.2.2.2.1; omega, ho5, hs5, ha05.step st6⟩
                  case measure => simp [intOf]; omega
                · have h1 : ¬ (100 : Int) ≤ (freeP ps2 : Int) := by omega
                  clear hl hm hln hmn hb1 hfew1 hb2 hfew2 hav hd hpl hn hold hsu hav0 hfr
                  go_wp2_with fail
                  refine FR.mono ?_
                  rintro e w4 ⟨rfl, rfl⟩
                  clear FR q1
                  go_wp2_with fail
                  go_meet
                  case rel =>
                    obtain ⟨hd, hav, hpl, hn, hold, hsu, hav0⟩ := HB.out
                    exact ⟨q, by omega, root2, prs2, D2, ps2, pgs2, S2, n2, rfl, hd, hav, hpl, hn, hold, hsu, hav0⟩
              · have hil : ¬ (q : Int) < (mn : Int) := by omega
                clear FR q1 hl hm hln hmn hb1 hfew1 hb2 hfew2 hav hd hpl hn hold hsu hav0
                go_wp2_with fail
                go_meet
                case rel =>
                  obtain ⟨hd, hav, hpl, hn, hold, hsu, hav0⟩ := HB.out
                  exact ⟨q, by omega, root2, prs2, D2, ps2, pgs2, S2, n2, rfl, hd, hav, hpl, hn, hold, hsu, hav0⟩
          case rest =>
            obtain ⟨q, hq, root2, prs2, D2, ps2, pgs2, S2, n2, rfl, hd, hav, hpl, hn, hold, hsu, hav0⟩ := hcut
            have LA := lhas_any (hd.cel.cell 2) hd.tr hd.on hd.hold.rt hd.few hav
            rw [decide_eq_true rfl] at LA
            have HB := Lib.hid (And.intro hd (And.intro (show n2 ≤ 12600 by omega) (And.intro hold (And.intro hsu hav0))))
            clear hd hav hpl hn hold hsu hav0
            go_wp2_with fail
            refine LA.mono ?_
            rintro e w5 ⟨rfl, hb5⟩
            clear LA
            have H5 := Lib.hid hb5
            clear hb5
            go_upto_region 30 with fail
            go_cut [129] from 33 to 176 (fun t129 wy => t129 = .bool false ∧ ∃ D3 S3 n3, n3 ≤ 12600 ∧ Rdy w2 wy xb tb db pb 800 n3 D3 ps2 S3 ∧ Old D3 ps2 root prs pgs ∧ Rd kdPr wy S3 (.slice aa prs.length ac) prs)
            case first =>
              obtain ⟨hd, hn, hold, hsu, hav0⟩ := HB.out
              rcases cr with _ | _
              · clear hd hn hold hsu hav0
                go_wp2_with fail
                go_meet
                case rel =>
                  obtain ⟨hd, hn, hold, hsu, hav0⟩ := HB.out
                  exact ⟨rfl, D2, S2, n2, hn, hd.rdy.later H5.out, hold, hav0.step (Step.of_below H5.out S2)⟩
              · have hd5 := hd.rdy.later H5.out
                have OF := rdy_off hd5
                have c0 := hd5.cel.cell 0
                have hup := hd.up
                have hlen := hd.tr.room
                clear hd hn hold hsu hav0
                have H6 := Lib.hid hd5
                clear hd5
                go_wp2_with fail
                refine OF.mono ?_
                rintro e w6 ⟨rfl, S6, ht6, st6⟩
                clear OF c0
                have c0 := (H6.out.cel.only st6.only H6.out.xs).cell 0
                have ON := tr_on ht6 hup (by have := HB.out.2.1; omega)
                have H7 := Lib.hid (And.intro st6 hlen)
                clear st6 hlen ht6
                go_wp2_with fail
                refine ON.mono ?_
                rintro e w7 ⟨rfl, S7, ht7, st7⟩
                clear ON c0 hup
                have H8 := Lib.hid (And.intro ht7 (H7.out.1.trans st7))
                clear ht7 st7
                go_wp2_with fail
                go_meet
                case rel =>
                  obtain ⟨hd, hn, hold, hsu, hav0⟩ := HB.out
                  obtain ⟨ht7, st7⟩ := H8.out
                  exact ⟨rfl, _, S7, 0, Nat.zero_le _, H6.out.to ht7 st7 rfl rfl (upto_comes [] 0) hd.len, hold.crash hsu H7.out.2 [] (-1), (hav0.step (Step.of_below H5.out S2)).step st7⟩
            case rest =>
              obtain ⟨rfl, D3, S3, n3, hn3, hy, ho3, ha3⟩ := hcut
              have BK := rdy_back hy ho3
              have c1 := hy.cel.cell 1
              have H6 := Lib.hid (And.intro hn3 (And.intro ha3 hy.len))
              clear hn3 hy ho3 ha3
              go_wp2_with fail
              refine BK.mono ?_
              rintro e w6 ⟨rfl, st6, hd6, ho6⟩
              clear BK c1
              have ha6 := H6.out.2.1.step st6
              have LA := lhas_any (hd6.cel.cell 2) hd6.tr hd6.on hd6.hold.rt hd6.few ha6
              rw [decide_eq_true rfl] at LA
              have H7 := Lib.hid (And.intro hd6 (And.intro ho6 ha6))
              clear st6 hd6 ho6 ha6
              go_wp2_with fail
              refine LA.mono ?_
              rintro e w7 ⟨rfl, hb7⟩
              clear LA
              have LH := lheld_any (H7.out.1.later hb7)
              have H8 := Lib.hid hb7
              clear hb7
              go_wp2_with fail
              refine LH.mono ?_
              rintro e w8 ⟨rfl, hb8⟩
              clear LH
              have hb68 := H8.out.trans (hb8.mono H8.out.size)
              have B1 : Calls Tryz.prog 26 #[.string { data := #[111, 110] }] w8 _ := bl_str [111, 110] w8 (by decide)
              have H9 := Lib.hid hb68
              clear hb8 hb68
              go_wp2_with fail
              refine B1.mono ?_
              rintro e w9 ⟨v9, rfl, hv9, hb9, hq9⟩
              obtain ⟨a9, n9, c9, rfl⟩ : ∃ a n c, v9 = .slice a n c := (fun ⟨a, c, h, _⟩ => ⟨a, _, c, h⟩) hv9.shape
              clear B1
              have B2 : Calls Tryz.prog 26 #[.string { data := #[97, 110, 100, 32, 111, 110] }] w9 _ := bl_str [97, 110, 100, 32, 111, 110] w9 (by decide)
              have H10 := Lib.hid (And.intro hv9 (And.intro hb9 hq9))
              clear hv9 hb9 hq9
              go_wp2_with fail
              refine B2.mono ?_
              rintro e w10 ⟨v10, rfl, hv10, hb10, hq10⟩
              obtain ⟨a10, n10, c10, rfl⟩ : ∃ a n c, v10 = .slice a n c := (fun ⟨a, c, h, _⟩ => ⟨a, _, c, h⟩) hv10.shape
              clear B2
              obtain ⟨hd, ho, hav⟩ := H7.out
              obtain ⟨hv9, hb9, hq9⟩ := H10.out
              have hb69 := H9.out.trans (hb9.mono H9.out.size)
              have hb610 := hb69.trans (hb10.mono hb69.size)
              have hd10 := hd.later hb610
              have k9 : Bsf w10 S3 (.slice a9 n9 c9) [111, 110] := Bsf.fresh (hv9.below hb10) fun q hq hs => by
                have h1 := hd.tr.lt q hs
                have h2 := hq9 q hq
                have h3 := H9.out.size
                omega
              have k10 : Bsf w10 S3 (.slice a10 n10 c10) [97, 110, 100, 32, 111, 110] := Bsf.fresh hv10 fun q hq hs => by
                have h1 := hd.tr.lt q hs
                have h2 := hq10 q hq
                have h3 := hb69.size
                omega
              have hfree := back_free H6.out.2.2 hd.hold
              have hpg := hd.hold.rt.few
              have hpl := HA.out.2.2.1
              have hn3 := H6.out.1
              have DO := does_both (K := 21) hd10 (hav.step (Step.of_below hb610 S3)) ⟨false, [111, 110], [97, 110, 100, 32, 111, 110], false⟩ k9 k10 (fun lvl h => few800 h) (by omega) (by omega) (by omega)
              have H11 := Lib.hid (And.intro ho (hav.step (Step.of_below hb610 S3)))
              clear hd ho hav hv9 hb9 hq9 hb69 hb610 hd10 k9 k10 hfree hpg hpl hn3 hv10 hb10 hq10
              go_wp2_with fail
              refine DO.mono ?_
              rintro e w11 ⟨r5, av5, D5, ps5, pgs5, S5, rfl, st5, hf5, hc5, hd5, ha5⟩
              clear DO
              obtain ⟨prs5, hprs5⟩ : ∃ p, p = stepP prs ⟨false, [111, 110], [97, 110, 100, 32, 111, 110], false⟩ := ⟨_, rfl⟩
              rw [← hprs5] at hd5 ha5
              obtain ⟨a5, c5, rfl, _⟩ := ha5.shape
              obtain ⟨ho, hav⟩ := H11.out
              have LA := lhas_any (hd5.cel.cell 2) hd5.tr hd5.on hd5.hold.rt hd5.few ha5
              rw [decide_eq_true rfl] at LA
              have H12 := Lib.hid (And.intro hd5 (And.intro (ho.chg hc5).1 (hav.step st5)))
              clear ho hav st5 hf5 hc5 hd5 ha5 hprs5
              go_wp2_with fail
              refine LA.mono ?_
              rintro e w12 ⟨rfl, hb12⟩
              clear LA
              obtain ⟨hd5, ho5, ha5⟩ := H12.out
              have hd12 := hd5.later hb12
              have hpg : pgs.length ≤ 4096 := by
                have h1 := ho5.rt.few
                have h2 := HA.out.2.2.1
                omega
              have LA := lhas_any (hd12.cel.cell 2) hd12.tr hd12.on ho5.rt hpg (ha5.step (Step.of_below hb12 S5))
              rw [decide_eq_true rfl] at LA
              have H13 := Lib.hid hd12
              clear hd5 ho5 ha5 hd12 hpg hb12
              go_wp2_with fail
              refine LA.mono ?_
              rintro e w13 ⟨rfl, hb13⟩
              clear LA
              have WK := tworks_any w13
              have H14 := Lib.hid hb13
              clear hb13
              go_wp2_with fail
              refine WK.mono ?_
              rintro e w14 ⟨rfl, hb14⟩
              clear WK
              have H15 := Lib.hid hb14
              clear hb14
              go_wp2
              go_ret
              have hb1 := H2.out.1.trans (H13.out.bw.mono H2.out.1.size)
              have hb2 := hb1.trans (H14.out.mono hb1.size)
              exact ⟨rfl, hb2.trans (H15.out.mono hb2.size)⟩
    · clear hfew2
      have WK := tworks_any w2
      have H2 := Lib.hid (H1.out.1.trans (hb2.mono H1.out.1.size))
      clear hb2
      go_wp2_with fail
      refine WK.mono ?_
      rintro e w3 ⟨rfl, hb3⟩
      clear WK
      go_wp2
      go_ret
      exact ⟨rfl, H2.out.trans (hb3.mono H2.out.size)⟩
  · clear hfew1
    have WK := tworks_any w1
    have H1 := Lib.hid hb1
    clear hb1
    go_wp2_with fail
    refine WK.mono ?_
    rintro e w3 ⟨rfl, hb3⟩
    clear WK
    go_wp2
    go_ret
    exact ⟨rfl, H1.out.trans (hb3.mono H1.out.size)⟩
end Go.Proofs.YtgekeemhbnhelaaGreat
