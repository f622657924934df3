/- The walk of ShadowKeeps: it returns true and writes nothing that was there; no condition. -/
import Derived.Test.YtcpapdpnnlnemaaShHeavy
namespace Go.Proofs.Ytcpapdpnnlnemaa
open Go.RowKit Go.Maps

abbrev strV (l : Bytes) : Value := .string ⟨l.toArray⟩
abbrev rest3 : List Bk := [⟨noughts, []⟩]

set_option maxRecDepth 1000000 in
theorem keeps_few {v : Value} {ls : List Stp} (g : Nat) (w : World) (hv : Sv w v ls) (h : g < 1 ∨ 2305843009213693952 < g) : Calls Try.prog 4 #[.int .u64 (g : Int), v] w (Yes w) := by
  have hh := heavy_any w hv
  obtain ⟨la, lc, rfl⟩ := hv.shape
  have H := Lib.hid hh
  clear hv hh
  go_enter Try.func4, Try.ntmps4
  go_wp2_with fail
  refine H.out.mono ?_
  rintro e w1 ⟨B, rfl, b1, -⟩
  cases B with
  | true =>
    clear h
    go_wp2_with fail
    refine (works_any _).mono ?_
    rintro e w2 ⟨rfl, b2⟩
    go_wp2
    go_ret
    exact ⟨rfl, b1.trans (b2.mono b1.size)⟩
  | false =>
    by_cases h3 : g < 1
    · have h3' : (g : Int) < 1 := by omega
      clear h h3
      go_wp2_with fail
      refine (works_any _).mono ?_
      rintro e w2 ⟨rfl, b2⟩
      go_wp2
      go_ret
      exact ⟨rfl, b1.trans (b2.mono b1.size)⟩
    · have h3' : ¬ (g : Int) < 1 := by omega
      have h4' : (2305843009213693952 : Int) < (g : Int) := by omega
      clear h h3
      go_wp2_with fail
      refine (works_any _).mono ?_
      rintro e w2 ⟨rfl, b2⟩
      go_wp2
      go_ret
      exact ⟨rfl, b1.trans (b2.mono b1.size)⟩

theorem arm_fits (n : Int) : n.tmod 4 ≤ 9223372036854775807 := by have := Int.tmod_lt_of_pos n (show (0 : Int) < 4 by decide); omega

theorem first_bytes : strV [102, 105, 114, 115, 116] = .string ⟨#[102, 105, 114, 115, 116]⟩ := rfl

set_option maxRecDepth 1000000 in
set_option maxHeartbeats 8000000 in
theorem keeps_go {v : Value} {ls : List Stp} (g : Nat) (w : World) (hv : Sv w v ls) (hg1 : 1 ≤ g) (hg2 : g ≤ 2305843009213693952) : Calls Try.prog 4 #[.int .u64 (g : Int), v] w (Yes w) := by
  have hh := heavy_any w hv
  obtain ⟨la, lc, rfl⟩ := hv.shape
  obtain ⟨n, hn⟩ : ∃ n, ls.length = n := ⟨_, rfl⟩
  have G1 : genB g = true := genB_iff.2 ⟨hg1, by omega⟩
  have f3 : ¬ (g : Int) < 1 := by omega
  have f4 : (g : Int) ≤ 2305843009213693952 := by omega
  have hfs := fresh_save (calm_one noughts) (l := [102, 105, 114, 115, 116]) G1 (by decide)
  rw [← fresh_three] at hfs
  have hU : Upto (fresh 3) 0 := by rw [fresh_three]; exact calm_upto (calm_one noughts)
  have hcv := fun (w : World) (C : Array Value) (n c : Nat) => Lib.run_convert_bytes_const (P := Try.prog) w 33 5 C n c Try.underlying33 Try.underlying5
  have H := Lib.hid (And.intro hh (And.intro hv (And.intro hn (And.intro hfs hU))))
  clear hv hh hfs hU G1
  have HN := Lib.hid hn
  rw [hn] at H ⊢
  clear hn
  go_enter Try.func4, Try.ntmps4
  go_wp2_with fail
  refine H.out.1.mono ?_
  rintro e w1 ⟨B, rfl, b1, hB⟩
  cases B with
  | true =>
    go_wp2_with fail
    refine (works_any _).mono ?_
    rintro e w2 ⟨rfl, b2⟩
    go_wp2
    go_ret
    exact ⟨rfl, b1.trans (b2.mono b1.size)⟩
  | false =>
    have HB := Lib.hid (And.intro b1 (hB rfl))
    clear b1 hB
    go_wp2_with fail
    refine (own_new 3 w1 (by decide) (by decide)).mono ?_
    rintro e w2 ⟨d, rfl, h2⟩
    have H2 := Lib.hid (h2.base HB.out.1)
    clear h2
    go_wp2_with fail
    refine (own_save g (H2.out.later (below_text w2 #[.int .u8 102, .int .u8 105, .int .u8 114, .int .u8 115, .int .u8 116] (5, 6))) H.out.2.2.2.2 (by decide) (by omega) (bs_text w2 _ [102, 105, 114, 115, 116] 5 (5, 6) rfl rfl (by decide))).mono ?_
    rintro e w3 ⟨he, h3⟩
    rw [H.out.2.2.2.1.1] at he
    subst he
    have H3 := Lib.hid (And.intro h3 H.out.2.2.2.1.2)
    have HL := Lib.hid (And.intro H.out.2.1 (And.intro H.out.2.2.1 HB.out.2))
    clear h3 H2 H HB
    go_wp2
    go_loopw [7, 8, 9] (fun gv bv i wr => ∃ (r G : Nat) (L : Bytes) (D : Dv), r ≤ n ∧ gv = .int .u64 (G : Int) ∧ bv = strV L ∧ i = .int .i64 (r : Int) ∧ 1 ≤ G ∧ G ≤ 2305843009213693952 + r ∧ Own w wr d D (fun _ => True) ∧ Kept D rest3 G L) (fun _ _ i _ => n - (intOf i).toNat)
    case atStart => exact ⟨0, g, [102, 105, 114, 115, 116], _, by omega, rfl, rfl, rfl, hg1, by omega, H3.out.1, H3.out.2⟩
    case round =>
      obtain ⟨r, G, L, D, hr, rfl, rfl, rfl, hG1, hG2, ho, hk⟩ := hrel
      by_cases hlt : r < n
      · have hlt' : (r : Int) < (n : Int) := by omega
        have hr0 : (0 : Int) ≤ (r : Int) := by omega
        have hn40 : n ≤ 40 := by have := HN.out; have := HL.out.2.2.1; omega
        have hr40 : (r : Int) ≤ 40 := by omega
        have hGI : (G : Int) ≤ 2305843009213694000 := by have := HN.out; omega
        have hGI0 : (0 : Int) ≤ (G : Int) := by omega
        obtain ⟨s, hs⟩ : ∃ s, ls[r]? = some s := ⟨_, List.getElem?_eq_getElem (by have := HN.out; omega)⟩
        obtain ⟨gb, o, cap, e, hgb, hc, hi⟩ := HL.out.1.open hs
        simp only [Value.slice.injEq] at e
        obtain ⟨rfl, -, rfl⟩ := e
        have hsB := HL.out.2.2.2 s (List.mem_of_getElem? hs)
        obtain ⟨ba, bc, hbv, -⟩ := hi.body.shape
        obtain ⟨pa, pc, hpv⟩ := hi.picks.shape
        obtain ⟨so, sg, sbv, sb, sn, sat, st, spv, sps⟩ := s
        simp only at hbv hpv hsB
        subst hbv
        subst hpv
        have hc0 := (ho.under.cell (p := ⟨gb, o + r * 7, none⟩) hgb).trans (hc 0 _ rfl)
        have hc1 := (ho.under.cell (p := ⟨gb, o + r * 7 + 1, none⟩) hgb).trans (hc 1 _ rfl)
        have hc2 := (ho.under.cell (p := ⟨gb, o + r * 7 + 2, none⟩) hgb).trans (hc 2 _ rfl)
        have hc3 := (ho.under.cell (p := ⟨gb, o + r * 7 + 3, none⟩) hgb).trans (hc 3 _ rfl)
        have hc4 := (ho.under.cell (p := ⟨gb, o + r * 7 + 4, none⟩) hgb).trans (hc 4 _ rfl)
        have hc5 := (ho.under.cell (p := ⟨gb, o + r * 7 + 5, none⟩) hgb).trans (hc 5 _ rfl)
        have hc6 := (ho.under.cell (p := ⟨gb, o + r * 7 + 6, none⟩) hgb).trans (hc 6 _ rfl)
        have HO := Lib.hid (And.intro ho (And.intro hk (And.intro hi (And.intro hG1 hsB))))
        clear hs hc hi ho hk hsB hG1
        by_cases h480 : 480 < sb.length
        · have h480' : (480 : Int) < (sb.length : Int) := by omega
          have HW := Lib.hid (HO.out.1.later ((Below.refl wr.heap.size wr).alloc (Nat.le_refl _) (.cells (stepCs so sn sg sat st (.slice ba sb.length bc) (.slice pa sps.length pc)) 37)))
          clear h480
          go_wp2_with fail
          go_roundw
          case rel => exact ⟨r + 1, G, L, D, by omega, rfl, rfl, by go_num, HO.out.2.2.2.1, by omega, HW.out, HO.out.2.1⟩
          case measure => simp [intOf]; omega
        · have h480' : (sb.length : Int) ≤ 480 := by omega
          have hx : sb.length ≤ 480 := by omega
          have HW := Lib.hid (own_cells HO.out.1 (stepCs so sn sg sat st (.slice ba sb.length bc) (.slice pa sps.length pc)) 37)
          clear h480
          have HE := Lib.hid (show ((G + 1 : Nat) : Int) = (G : Int) + 1 by omega)
          have HGB := Lib.hid (show genB (G + 1) = true from genB_iff.2 ⟨by omega, by omega⟩)
          go_wp2_with fail
          refine (own_arm HW.out (sn.tmod 4) (arm_fits sn)).mono ?_
          rintro e W2 ⟨he, h2⟩
          have hon := HO.out.2.1.on
          rw [show acode D = 0 by unfold acode; rw [if_neg (by simp [hon])]] at he
          rw [show adev D (sn.tmod 4) = armed D (sn.tmod 4) by unfold adev armed; rw [if_neg (by simp [hon])]] at h2
          subst he
          have hup : Upto (armed D (sn.tmod 4)) 1 := fun k x hx => Nat.le_trans (HO.out.2.1.upto (calm_one noughts) k x hx) (Nat.zero_le 1)
          obtain ⟨k2, -, -⟩ := step_get h2.now.2
          have hsv := HO.out.2.1.saves (calm_one noughts) HGB.out hx (sn.tmod 4)
          have hbs := HO.out.2.2.1.body.below h2.under
          have H2 := Lib.hid (And.intro h2 (And.intro hup (And.intro hsv hbs)))
          clear h2 hup hsv hbs hon HW
          go_wp2_with fail
          rw [← HE.out]
          refine (own_save (G + 1) H2.out.1 H2.out.2.1 (by decide) (by omega) H2.out.2.2.2).mono ?_
          rintro e W3 ⟨he, h3⟩
          have hup3 := (sDev_upto H2.out.2.1 (G + 1) sb).1
          obtain ⟨k2, -, k6⟩ := step_get h3.now.2
          have hbs := HO.out.2.2.1.body.below h3.under
          rcases H2.out.2.2.1 with ⟨hc, hst, -, hkp⟩ | ⟨hc, hst, -, hkp⟩
          · rw [hc] at he
            subst he
            have r3 := run_string_bs bt (d := 9) Try.underlying9 W3 hbs
            have H3 := Lib.hid (And.intro h3 (And.intro hup3 (And.intro hst hkp)))
            clear h3 hup3 hst hkp hbs hc H2
            go_wp2_with fail
            refine (own_off H3.out.1).mono ?_
            rintro e W4 ⟨rfl, h4⟩
            rw [show odev (sDev (armed D (sn.tmod 4)) (G + 1) sb) = ⟨(sDev (armed D (sn.tmod 4)) (G + 1) sb).bk, false, (sDev (armed D (sn.tmod 4)) (G + 1) sb).left⟩ by unfold odev; rw [if_neg (by simp [H3.out.2.2.1])]] at h4
            have hup4 : Upto ⟨(sDev (armed D (sn.tmod 4)) (G + 1) sb).bk, false, (sDev (armed D (sn.tmod 4)) (G + 1) sb).left⟩ 3 := fun k x hx => H3.out.2.1 k x hx
            obtain ⟨-, -, k6⟩ := step_get h4.now.2
            have H4 := Lib.hid (And.intro h4 (And.intro hup4 H3.out.2.2.2))
            clear h4 hup4 H3 r3
            go_wp2_with fail
            refine (own_on H4.out.1 H4.out.2.1 (by decide) HO.out.2.2.1.picks).mono ?_
            rintro e W5 ⟨he, h5⟩
            rw [show ncode ⟨(sDev (armed D (sn.tmod 4)) (G + 1) sb).bk, false, (sDev (armed D (sn.tmod 4)) (G + 1) sb).left⟩ = 0 from if_pos rfl] at he
            rw [show ndev ⟨(sDev (armed D (sn.tmod 4)) (G + 1) sb).bk, false, (sDev (armed D (sn.tmod 4)) (G + 1) sb).left⟩ sps = ⟨comes (sDev (armed D (sn.tmod 4)) (G + 1) sb).bk sps, true, -1⟩ from if_pos rfl] at h5
            subst he
            have hk5 := H4.out.2.2 sps
            generalize (⟨comes (sDev (armed D (sn.tmod 4)) (G + 1) sb).bk sps, true, -1⟩ : Dv) = D5 at h5 hk5
            have H5 := Lib.hid (And.intro h5 (And.intro hk5 hk5.load))
            clear h5 hk5 H4 k2 k6
            go_wp2_with fail
            refine (own_load H5.out.1).mono ?_
            rintro e W6 ⟨v6, he, h6⟩
            rw [H5.out.2.2] at he h6
            obtain ⟨a6, c6, rfl, -⟩ := h6.now.2.shape
            simp only [HE.out] at he
            subst he
            have H6 := Lib.hid h6
            clear h6
            go_wp2_with fail
            refine (own_load H6.out).mono ?_
            rintro e W7 ⟨v7, he, h7⟩
            rw [H5.out.2.2] at he h7
            obtain ⟨a7, c7, rfl, -⟩ := h7.now.2.shape
            simp only [HE.out] at he
            subst he
            have r6 := run_string_bs bt (d := 9) Try.underlying9 W7 h7.now.1.2
            have r7 := run_string_bs bt (d := 9) Try.underlying9 W7 h7.now.2
            obtain ⟨k2, -, -⟩ := step_get h7.now.1.1.2
            have H7 := Lib.hid h7
            clear h7 H6
            go_wp2_with fail
            go_roundw
            case rel => exact ⟨r + 1, G + 1, sb, D5, by omega, by rw [HE.out], rfl, by go_num, by omega, by omega, H7.out.forget fun _ _ => trivial, H5.out.2.1⟩
            case measure => simp [intOf]; omega
          · rw [hc] at he
            subst he
            have H3 := Lib.hid (And.intro h3 (And.intro hup3 (And.intro hst hkp)))
            clear h3 hup3 hst hkp hbs hc H2
            go_wp2_with fail
            refine (own_on H3.out.1 H3.out.2.1 (by decide) HO.out.2.2.1.picks).mono ?_
            rintro e W5 ⟨he, h5⟩
            rw [show ncode (sDev (armed D (sn.tmod 4)) (G + 1) sb) = 0 from if_pos H3.out.2.2.1] at he
            rw [show ndev (sDev (armed D (sn.tmod 4)) (G + 1) sb) sps = ⟨comes (sDev (armed D (sn.tmod 4)) (G + 1) sb).bk sps, true, -1⟩ from if_pos H3.out.2.2.1] at h5
            subst he
            have hor := H3.out.2.2.2 sps
            generalize (⟨comes (sDev (armed D (sn.tmod 4)) (G + 1) sb).bk sps, true, -1⟩ : Dv) = D5 at h5 hor
            clear H3 k2 k6
            rcases hor with hk5 | hk5
            · have H5 := Lib.hid (And.intro h5 (And.intro hk5 hk5.load))
              clear h5 hk5
              go_wp2_with fail
              refine (own_load H5.out.1).mono ?_
              rintro e W6 ⟨v6, he, h6⟩
              rw [H5.out.2.2] at he h6
              obtain ⟨a6, c6, rfl, -⟩ := h6.now.2.shape
              subst he
              have H6 := Lib.hid h6
              clear h6
              go_wp2_with fail
              refine (own_load H6.out).mono ?_
              rintro e W7 ⟨v7, he, h7⟩
              rw [H5.out.2.2] at he h7
              obtain ⟨a7, c7, rfl, -⟩ := h7.now.2.shape
              subst he
              have r6 := run_string_bs bt (d := 9) Try.underlying9 W7 h7.now.1.2
              have r7 := run_string_bs bt (d := 9) Try.underlying9 W7 h7.now.2
              obtain ⟨k2, -, -⟩ := step_get h7.now.1.1.2
              have H7 := Lib.hid h7
              clear h7 H6
              go_wp2_with fail
              go_roundw
              case rel => exact ⟨r + 1, G, L, D5, by omega, rfl, rfl, by go_num, HO.out.2.2.2.1, by omega, H7.out.forget fun _ _ => trivial, H5.out.2.1⟩
              case measure => simp [intOf]; omega
            · have H5 := Lib.hid (And.intro h5 (And.intro hk5 hk5.load))
              clear h5 hk5
              go_wp2_with fail
              refine (own_load H5.out.1).mono ?_
              rintro e W6 ⟨v6, he, h6⟩
              rw [H5.out.2.2] at he h6
              obtain ⟨a6, c6, rfl, -⟩ := h6.now.2.shape
              simp only [HE.out] at he
              subst he
              have H6 := Lib.hid h6
              clear h6
              go_wp2_with fail
              refine (own_load H6.out).mono ?_
              rintro e W7 ⟨v7, he, h7⟩
              rw [H5.out.2.2] at he h7
              obtain ⟨a7, c7, rfl, -⟩ := h7.now.2.shape
              simp only [HE.out] at he
              subst he
              have r6 := run_string_bs bt (d := 9) Try.underlying9 W7 h7.now.1.2
              have r7 := run_string_bs bt (d := 9) Try.underlying9 W7 h7.now.2
              obtain ⟨k2, -, -⟩ := step_get h7.now.1.1.2
              have H7 := Lib.hid h7
              clear h7 H6
              have rB := run_string_bs bt (d := 9) Try.underlying9 W7 (HO.out.2.2.1.body.below H7.out.under)
              have hag := H5.out.2.1.again (calm_one noughts)
              go_wp2_with fail
              rw [← HE.out]
              refine (own_save (G + 1) H7.out (H5.out.2.1.upto (calm_one noughts)) (by decide) (by omega) (HO.out.2.2.1.body.below H7.out.under)).mono ?_
              rintro e W8 ⟨he, h8⟩
              rw [hag.1] at he
              subst he
              have H8 := Lib.hid (And.intro h8 hag.2)
              clear h8 hag rB r6 r7 H7
              go_wp2_with fail
              go_roundw
              case rel => exact ⟨r + 1, G + 1, sb, _, by omega, by rw [HE.out], rfl, by go_num, by omega, by omega, H8.out.1.forget fun _ _ => trivial, H8.out.2⟩
              case measure => simp [intOf]; omega
      · obtain rfl : r = n := by omega
        have HU := Lib.hid ho.under
        clear ho hk
        go_wp2_with fail
        refine (works_any _).mono ?_
        rintro e w9 ⟨rfl, b9⟩
        go_wp2
        go_ret
        exact ⟨rfl, HU.out.trans (b9.mono HU.out.size)⟩

theorem shadowKeeps_any {v : Value} {ls : List Stp} (g : Nat) (w : World) (hv : Sv w v ls) (_ : g < 18446744073709551616) : Calls Try.prog 4 #[.int .u64 (g : Int), v] w (Yes w) := by
  by_cases h : g < 1 ∨ 2305843009213693952 < g
  · exact keeps_few g w hv h
  · exact keeps_go g w hv (by omega) (by omega)
end Go.Proofs.Ytcpapdpnnlnemaa
