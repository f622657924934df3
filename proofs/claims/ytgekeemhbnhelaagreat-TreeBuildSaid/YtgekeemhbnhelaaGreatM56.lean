/- The walk of TreeBuild: it returns true and writes nothing that was there; no condition. -/
import Derived.Test.YtgekeemhbnhelaaGreatM55
import Derived.Deep.CutBlock
namespace Go.Proofs.YtgekeemhbnhelaaGreat
open Go.RowKit

/-- Between two rounds. -/
def BuildR (w1 : World) (xb tb db pb : Nat) (r : Nat) (wr : World) (rv av : Value) : Prop := ∃ (root : Int) (prs : List Pr) (D : Dv) (ps : List Pg) (pgs : List Nat) (S : Nat → Prop) (n : Nat),
  rv = .int .i64 root ∧ Dx w1 wr xb tb db pb 1500 n D ps root prs pgs S ∧ Rd kdPr wr S av prs ∧ prs.length ≤ 1000 + r ∧ n ≤ 800 + 23 * r

set_option maxRecDepth 100000 in
set_option maxHeartbeats 16000000 in
theorem treeBuild_any {lv mv : Value} {ls : List Pr} {ms : List Sp} (w : World) (hl : Rd kdPr w (fun _ => False) lv ls) (hm : Rd kdSp w (fun _ => False) mv ms) :
    Calls Tryz.prog 5 #[lv, mv] w (Yes w) := by
  obtain ⟨la, lc, rfl, _⟩ := hl.shape
  obtain ⟨ma, mc, rfl, _⟩ := hm.shape
  obtain ⟨ln, hln⟩ : ∃ ln, ln = ls.length := ⟨_, rfl⟩
  obtain ⟨mn, hmn⟩ : ∃ mn, mn = ms.length := ⟨_, rfl⟩
  have HV := heavy_any w hm
  have WK := tworks_any w
  rw [← hln] at hl ⊢
  rw [← hmn] at hm HV ⊢
  have HH := Lib.hid (And.intro hl (And.intro hm (And.intro hln hmn)))
  clear hl hm hln hmn
  by_cases hbig : ln ≤ 1000
  · have hb0 : ¬ (1000 : Int) < (ln : Int) := by omega
    clear WK
    go_enter Tryz.func5, Tryz.ntmps5
    go_wp2_with fail
    refine HV.mono ?_
    rintro e w1 ⟨hb, rfl, hb1, hfew⟩
    clear HV
    rcases hb with _ | _
    · replace hfew := hfew rfl
      have H1 := Lib.hid (And.intro hb1 hfew)
      clear hb1 hfew
      go_wp2
      go_loopw [5] (fun i wr => ∃ r : Nat, r ≤ ln ∧ i = .int .i64 (r : Int) ∧ (∀ p ∈ ls.take r, p.1.length ≤ 200 ∧ p.2.length ≤ 500) ∧ wr = w1) (fun i _ => ln - (intOf i).toNat)
      case atStart => exact ⟨0, Nat.zero_le _, rfl, (fun p hp => by simp at hp), rfl⟩
      case round =>
        obtain ⟨r, hr, rfl, hall, rfl⟩ := hrel
        obtain ⟨hl, hm, hln, hmn⟩ := HH.out
        obtain ⟨hb1, hfew⟩ := H1.out
        by_cases hlt : r < ln
        · obtain ⟨p, hp⟩ : ∃ p, ls[r]? = some p := ⟨_, List.getElem?_eq_getElem (by omega)⟩
          obtain ⟨g, o, cap, ka, kc, va, vc, e0, hg, k0, k1, bk, bv⟩ := (hl.step (Step.of_below hb1 _)).par hp
          rw [← hln] at e0
          simp only [Value.slice.injEq] at e0
          obtain ⟨rfl, -, rfl⟩ := e0
          have hil : (r : Int) < (ln : Int) := by omega
          have hr0 : (0 : Int) ≤ (r : Int) := by omega
          obtain ⟨pkn, hpk⟩ : ∃ x, x = p.1.length := ⟨_, rfl⟩
          obtain ⟨pvn, hpv⟩ : ∃ x, x = p.2.length := ⟨_, rfl⟩
          rw [← hpk] at k0
          rw [← hpv] at k1
          have WK := tworks_any wr
          by_cases h1 : pkn ≤ 200
          · have h1' : ¬ (200 : Int) < (pkn : Int) := by omega
            by_cases h2 : pvn ≤ 500
            · have h2' : ¬ (500 : Int) < (pvn : Int) := by omega
              have HN := Lib.hid (show ∀ q ∈ ls.take (r + 1), q.1.length ≤ 200 ∧ q.2.length ≤ 500 from fun q hq => by
                rw [take_snoc hp] at hq
                rcases List.mem_append.1 hq with h3 | h3
                · exact hall q h3
                · rw [List.mem_singleton.1 h3]
                  omega)
              clear hl hm hln hmn hb1 hfew hp hg bk bv hpk hpv WK hall h1 h2
              go_wp2
              go_roundw
              case rel => exact ⟨r + 1, by omega, by go_num, HN.out, by trivial⟩
              case measure => simp [intOf]; omega
            · have h2' : (500 : Int) < (pvn : Int) := by omega
              clear hl hm hln hmn hb1 hfew hp hg bk bv hpk hpv hall h1 h2
              go_wp2_with fail
              refine WK.mono ?_
              rintro e w3 ⟨rfl, hb3⟩
              clear WK
              go_wp2
              go_ret
              exact ⟨rfl, H1.out.1.trans (hb3.mono H1.out.1.size)⟩
          · have h1' : (200 : Int) < (pkn : Int) := by omega
            clear hl hm hln hmn hb1 hfew hp hg bk bv hpk hpv hall h1
            go_wp2_with fail
            refine WK.mono ?_
            rintro e w3 ⟨rfl, hb3⟩
            clear WK
            go_wp2
            go_ret
            exact ⟨rfl, H1.out.1.trans (hb3.mono H1.out.1.size)⟩
        · obtain rfl : r = ln := by omega
          rw [List.take_of_length_le (by omega)] at hall
          have hil : ¬ (r : Int) < (r : Int) := by omega
          have DK := desk_any 1500 (by decide) (by decide) wr
          have HA := Lib.hid hall
          clear hl hm hln hmn hb1 hfew hall
          go_wp2_with fail
          refine DK.mono ?_
          rintro e w3 ⟨xb, tb, rfl, hk⟩
          clear DK
          obtain ⟨db, pb, D, pgs, S, hd⟩ := hk.dx
          obtain rfl : pgs = [] := by
            rcases hd.hold.rt.at_ with ⟨_, _, h3⟩ | ⟨l, k, hs, h1, _⟩
            · exact h3
            · omega
          have hl3 : Rd kdPr w3 S (.slice la r lc) ls := HH.out.1.step ⟨Only.of_below (H1.out.1.trans (hd.bw.mono H1.out.1.size)) _, fun q hq => .inr (Nat.le_trans H1.out.1.size (hd.s0 q hq))⟩
          have BD := dx_build hd (Nat.zero_le _) hl3 (by rw [← HH.out.2.2.1]; exact hbig) (by rw [free_new]; decide)
          have c2 := hd.cel.cell 2
          have HD := Lib.hid (And.intro hd hl3)
          clear hk hd hl3
          go_wp2_with fail
          refine BD.mono ?_
          rintro e w4 hbd
          clear BD c2
          rcases hbd with ⟨hno, rfl, hb4⟩ | ⟨hyes, root', D4, ps4, pgs4, S4, rfl, st4, hp4, hf4, hd4⟩
          · have RR := rrise_any w4 (HD.out.2.step (Step.of_below hb4 S)) (by rw [← HH.out.2.2.1]; omega)
            have H4 := Lib.hid (And.intro hno hb4)
            clear hno hb4
            go_wp2_with fail
            refine RR.mono ?_
            rintro e w5 ⟨b, rfl, hiff, hb5⟩
            clear RR
            obtain rfl : b = false := by
              rcases b with _ | _
              · rfl
              · exact absurd (hiff.1 rfl) H4.out.1
            have hb35 := H4.out.2.trans (hb5.mono H4.out.2.size)
            have hd5 := HD.out.1.later hb35
            have FR := dx_free hd5
            rw [free_new] at FR
            have c1 := hd5.cel.cell 1
            have H5 := Lib.hid hd5.bw
            clear hiff hb5 hb35 hd5
            go_wp2_with fail
            refine FR.mono ?_
            rintro e w6 ⟨rfl, rfl⟩
            clear FR c1
            go_wp2_with fail
            refine (tworks_any _).mono ?_
            rintro e w7 ⟨rfl, hb7⟩
            have H7 := Lib.hid hb7
            clear hb7
            go_wp2
            go_ret
            have hbw := H1.out.1.trans (H5.out.mono H1.out.1.size)
            exact ⟨rfl, hbw.trans (H7.out.mono hbw.size)⟩
          · have ha4 := HD.out.2.step st4
            have RR := rrise_any w4 ha4 (by rw [← HH.out.2.2.1]; omega)
            have H4 := Lib.hid (And.intro hyes (And.intro hp4 (And.intro hf4 (And.intro hd4 ha4))))
            clear hyes st4 hp4 hf4 hd4 ha4
            go_wp2_with fail
            refine RR.mono ?_
            rintro e w5 ⟨b, rfl, hiff, hb5⟩
            clear RR
            obtain rfl : b = true := hiff.2 H4.out.1
            have hd5 := H4.out.2.2.2.1.later hb5
            have WA := dx_walk hd5
            have c2 := hd5.cel.cell 2
            have H5 := Lib.hid hb5
            clear hiff hb5 hd5
            go_wp2_with fail
            refine WA.mono ?_
            rintro e w6 ⟨v6, rfl, hv6, hb6⟩
            clear WA c2
            obtain ⟨a6, c6, rfl, _⟩ := hv6.shape
            have hn6 : (sortedI (ints pgs4)).length = pgs4.length := by simp [sortedI, ints]
            obtain ⟨n6, hn6'⟩ : ∃ x, x = (sortedI (ints pgs4)).length := ⟨_, rfl⟩
            rw [← hn6']
            have hb46 := H5.out.trans (hb6.mono H5.out.size)
            have hd6 := H4.out.2.2.2.1.later hb46
            have ha6 := H4.out.2.2.2.2.step (Step.of_below hb46 S4)
            have LA := lhas_any (hd6.cel.cell 2) hd6.tr hd6.on hd6.hold.rt hd6.few ha6
            rw [decide_eq_true rfl] at LA
            obtain ⟨mo, hmo⟩ : ∃ x, x = mostP ls := ⟨_, rfl⟩
            have hmm : decide (mo < n6) = false := decide_eq_false (by
              have := H4.out.2.1
              omega)
            have HMO := Lib.hid hmo
            have H6 := Lib.hid (And.intro hd6 ha6)
            clear hv6 hb6 hn6 hn6' hb46 hd6 ha6 hmo
            go_wp2_with fail
            refine LA.mono ?_
            rintro e w7 ⟨rfl, hb7⟩
            clear LA
            have LH := lheld_any (H6.out.1.later hb7)
            have H7 := Lib.hid hb7
            clear hb7
            go_wp2_with fail
            refine LH.mono ?_
            rintro e w8 ⟨rfl, hb8⟩
            clear LH
            have hb68 := H7.out.trans (hb8.mono H7.out.size)
            have RM := rmost_any w8 (H6.out.2.step (Step.of_below hb68 S4)) (by rw [← HH.out.2.2.1]; exact hbig) (fun p hp => by have := HA.out p hp; omega)
            rw [← HMO.out] at RM
            have H8 := Lib.hid hb68
            clear hb8 hb68
            go_wp2_with fail
            refine RM.mono ?_
            rintro e w9 ⟨rfl, hb9⟩
            clear RM
            have hb69 := H8.out.trans (hb9.mono H8.out.size)
            have H9 := Lib.hid (And.intro (H6.out.1.later hb69) (H6.out.2.step (Step.of_below hb69 S4)))
            clear hb9 hb69
            go_upto_block 2 with fail
            clear hmm
            go_cut [7, 11, 12, 13, 14, 15] from 111 to 140 (fun t7 t11 _ _ _ _ wx => ∃ q, q ≤ 300 ∧ BuildR wr xb tb db pb q wx t7 t11)
            case first => as_aux_lemma =>
              go_wp2_with fail
              go_loopw [7, 11, 12] (fun rv av i wx => ∃ q : Nat, q ≤ mn ∧ i = .int .i64 (q : Int) ∧ BuildR wr xb tb db pb q wx rv av) (fun _ _ i _ => mn - (intOf i).toNat)
              case atStart => exact ⟨0, Nat.zero_le _, rfl, root', ls, D4, ps4, pgs4, S4, _, rfl, H9.out.1, H9.out.2, by rw [← HH.out.2.2.1]; omega, by have := mostP_few H4.out.1 (by rw [← HH.out.2.2.1]; exact hbig); omega⟩
              case round =>
                obtain ⟨q, hq, rfl, root2, prs2, D2, ps2, pgs2, S2, n2, rfl, hd, hav, hpl, hn⟩ := hrel
                obtain ⟨hl, hm, hln, hmn⟩ := HH.out
                obtain ⟨hb1, hfew⟩ := H1.out
                obtain ⟨a2, c2, rfl, _⟩ := hav.shape
                have FR := dx_free hd
                have q1 := hd.cel.cell 1
                have hrl : mn ≤ 300 := hfew
                have HB := Lib.hid (And.intro hd (And.intro hav (And.intro hpl hn)))
                by_cases hlt : q < mn
                · have hil : (q : Int) < (mn : Int) := by omega
                  have hr0 : (0 : Int) ≤ (q : Int) := by omega
                  by_cases hfr : 100 ≤ freeP ps2
                  · have h1 : (100 : Int) ≤ (freeP ps2 : Int) := by omega
                    obtain ⟨s, hs⟩ : ∃ s, ms[q]? = some s := ⟨_, List.getElem?_eq_getElem (by omega)⟩
                    obtain ⟨g, o, cap, ka, kc, va, vc, e0, hg, k0, k1, k2, k3, bk, bv⟩ := (hm.step (Step.of_below hb1 _)).stp hs
                    rw [← hmn] at e0
                    simp only [Value.slice.injEq] at e0
                    obtain ⟨rfl, -, rfl⟩ := e0
                    have DO := does_both (K := 23) hd hav s (hd.old bk.1) (hd.old bv.1) (fun lvl h => few1500 h) (by omega) (by omega) (by omega)
                    obtain ⟨kn, hkn⟩ : ∃ kn, kn = s.key.length := ⟨_, rfl⟩
                    obtain ⟨vn, hvn⟩ : ∃ vn, vn = s.val.length := ⟨_, rfl⟩
                    rw [← hkn] at k1 DO
                    rw [← hvn] at k2 DO
                    obtain ⟨cv, hcv⟩ : ∃ cv, cv = s.cut := ⟨_, rfl⟩
                    rw [← hcv] at k0 DO
                    obtain ⟨sv, hsv⟩ : ∃ sv, sv = s.settle := ⟨_, rfl⟩
                    rw [← hsv] at k3 DO
                    have m0 := (hd.bw.cell (p := ⟨g, o + q * 4, none⟩) hg).trans k0
                    have m1 := (hd.bw.cell (p := ⟨g, o + q * 4 + 1, none⟩) hg).trans k1
                    have m2 := (hd.bw.cell (p := ⟨g, o + q * 4 + 2, none⟩) hg).trans k2
                    have m3 := (hd.bw.cell (p := ⟨g, o + q * 4 + 3, none⟩) hg).trans k3
                    clear hl hm hln hmn hb1 hfew hs hg k0 k1 k2 k3 bk bv hav hd hpl hn hfr hkn hvn hcv hsv
                    go_wp2_with fail
                    refine FR.mono ?_
                    rintro e w4 ⟨rfl, rfl⟩
                    clear FR q1
                    go_wp2_with fail
                    refine DO.mono ?_
                    rintro e w5 ⟨r5, av5, D5, ps5, pgs5, S5, rfl, st5, hf5, hc5, hd5, ha5⟩
                    clear DO m0 m1 m2 m3
                    obtain ⟨prs5, hprs5⟩ : ∃ p, p = stepP prs2 s := ⟨_, rfl⟩
                    rw [← hprs5] at hd5 ha5
                    obtain ⟨a5, c5, rfl, _⟩ := ha5.shape
                    have hl5 : prs5.length ≤ 1000 + (q + 1) := by
                      have h1 := stepP_few prs2 s
                      have h2 := HB.out.2.2.1
                      rw [hprs5]
                      omega
                    have H5 := Lib.hid (And.intro hd5 (And.intro ha5 hl5))
                    clear st5 hf5 hc5 hd5 ha5 hprs5 hl5
                    go_wp2
                    go_roundw
                    case rel => exact ⟨q + 1, by omega, by go_num, r5, prs5, D5, ps5, pgs5, S5, n2 + 23, rfl, H5.out.1, H5.out.2.1, H5.out.2.2, by have := HB.out.2.2.2; omega⟩
                    case measure => simp [intOf]; omega
                  · have h1 : ¬ (100 : Int) ≤ (freeP ps2 : Int) := by omega
                    clear hl hm hln hmn hb1 hfew hav hd hpl hn hfr
                    go_wp2_with fail
                    refine FR.mono ?_
                    rintro e w4 ⟨rfl, rfl⟩
                    clear FR q1
                    go_wp2_with fail
                    go_meet
                    case rel =>
                      obtain ⟨hd, hav, hpl, hn⟩ := HB.out
                      exact ⟨q, by omega, root2, prs2, D2, ps2, pgs2, S2, n2, rfl, hd, hav, hpl, hn⟩
                · have hil : ¬ (q : Int) < (mn : Int) := by omega
                  clear FR q1 hl hm hln hmn hb1 hfew hav hd hpl hn
                  go_wp2_with fail
                  go_meet
                  case rel =>
                    obtain ⟨hd, hav, hpl, hn⟩ := HB.out
                    exact ⟨q, by omega, root2, prs2, D2, ps2, pgs2, S2, n2, rfl, hd, hav, hpl, hn⟩
            case rest =>
              obtain ⟨q, hq, root2, prs2, D2, ps2, pgs2, S2, n2, rfl, hd, hav, hpl, hn⟩ := hcut
              have LA := lhas_any (hd.cel.cell 2) hd.tr hd.on hd.hold.rt hd.few hav
              rw [decide_eq_true rfl] at LA
              have HB := Lib.hid hd
              clear hd hav hpl hn
              go_wp2_with fail
              refine LA.mono ?_
              rintro e w10 ⟨rfl, hb10⟩
              clear LA
              have hd10 := HB.out.later hb10
              have LH := lheld_any hd10
              have H10 := Lib.hid hd10.bw
              clear hd10 hb10
              go_wp2_with fail
              refine LH.mono ?_
              rintro e w11 ⟨rfl, hb11⟩
              clear LH
              have H11 := Lib.hid hb11
              clear hb11
              go_wp2_with fail
              refine (tworks_any _).mono ?_
              rintro e w12 ⟨rfl, hb12⟩
              have H12 := Lib.hid hb12
              clear hb12
              go_wp2
              go_ret
              have hb1 := H1.out.1.trans (H10.out.mono H1.out.1.size)
              have hb2 := hb1.trans (H11.out.mono hb1.size)
              exact ⟨rfl, hb2.trans (H12.out.mono hb2.size)⟩
    · clear hfew
      have H1 := Lib.hid hb1
      clear hb1
      go_wp2_with fail
      refine (tworks_any _).mono ?_
      rintro e w3 ⟨rfl, hb3⟩
      go_wp2
      go_ret
      exact ⟨rfl, H1.out.trans (hb3.mono H1.out.size)⟩
  · have hb0 : (1000 : Int) < (ln : Int) := by omega
    clear HV
    go_enter Tryz.func5, Tryz.ntmps5
    go_wp2_with fail
    refine WK.mono ?_
    rintro e w3 ⟨rfl, hb3⟩
    clear WK
    go_wp2
    go_ret
    exact ⟨rfl, hb3⟩
end Go.Proofs.YtgekeemhbnhelaaGreat
