/- The walk of ShadowPlays: it returns true and writes nothing that was there; no condition. -/
import Derived.Test.YtcpapdpnnlnemaaM14
import Derived.Deep.CutBlock
namespace Go.Proofs.Ytcpapdpnnlnemaa
open Go.RowKit Go.Maps

set_option maxRecDepth 1000000 in
set_option maxHeartbeats 2000000 in
theorem plays_edges {v : Value} {ls : List Stp} (nbl : Int) (w : World) (hv : Sv w v ls) (hok : ¬ (1 ≤ nbl ∧ nbl ≤ 20)) : Calls Try.prog 3 #[.int .i64 nbl, v] w (Yes w) := by
  have hh := heavy_any w hv
  obtain ⟨la, lc, rfl⟩ := hv.shape
  have H := Lib.hid hh
  clear hv hh
  go_enter Try.func3, Try.ntmps3
  go_wp2_with fail
  refine H.out.mono ?_
  rintro e w1 ⟨B, rfl, b1, -⟩
  cases B with
  | true =>
    clear hok
    go_wp2_with fail
    refine (works_any _).mono ?_
    rintro e w2 ⟨rfl, b2⟩
    go_wp2
    go_ret
    exact ⟨rfl, b1.trans (b2.mono b1.size)⟩
  | false =>
    by_cases h1 : nbl < 1
    · have hq : ¬ (20 : Int) < nbl := by omega
      have hnew := new_no nbl w1 (.inl h1)
      have hrnew := rnew_no nbl w1 (.inl h1)
      have HN := Lib.hid (And.intro hnew hrnew)
      clear hok h1 hnew hrnew
      go_wp2_with fail
      refine HN.out.1.mono ?_
      rintro e w2 ⟨rfl, rfl⟩
      go_wp2_with fail
      refine HN.out.2.mono ?_
      rintro e w2 ⟨rfl, rfl⟩
      go_wp2_with fail
      refine (works_any _).mono ?_
      rintro e w2 ⟨rfl, b2⟩
      go_wp2
      go_ret
      exact ⟨rfl, b1.trans (b2.mono b1.size)⟩
    · have hq : (20 : Int) < nbl := by omega
      by_cases h2 : nbl ≤ 4096
      · clear hok h1
        go_wp2_with fail
        refine (works_any _).mono ?_
        rintro e w2 ⟨rfl, b2⟩
        go_wp2
        go_ret
        exact ⟨rfl, b1.trans (b2.mono b1.size)⟩
      · have hnew := new_no nbl w1 (.inr (by omega))
        have hrnew := rnew_no nbl w1 (.inr (by omega))
        have HN := Lib.hid (And.intro hnew hrnew)
        clear hok h1 hnew hrnew
        go_wp2_with fail
        refine HN.out.1.mono ?_
        rintro e w2 ⟨rfl, rfl⟩
        go_wp2_with fail
        refine HN.out.2.mono ?_
        rintro e w2 ⟨rfl, rfl⟩
        go_wp2_with fail
        refine (works_any _).mono ?_
        rintro e w2 ⟨rfl, b2⟩
        go_wp2
        go_ret
        exact ⟨rfl, b1.trans (b2.mono b1.size)⟩

theorem step_all {W : World} {q : Nat} {so sn : Int} {sg sat : Nat} {st : UInt8} {bv pv : Value} {T : TypeId} (h : Cel W q (stepCs so sn sg sat st bv pv).toList T) :
    W.cell? ⟨q, 0, none⟩ = some (.int .i64 so) ∧ W.cell? ⟨q, 1, none⟩ = some (.int .u64 (sg : Int)) ∧ W.cell? ⟨q, 2, none⟩ = some bv ∧ W.cell? ⟨q, 3, none⟩ = some (.int .i64 sn) ∧ W.cell? ⟨q, 4, none⟩ = some (.int .u16 (sat : Int)) ∧ W.cell? ⟨q, 5, none⟩ = some (.int .u8 (st.toNat : Int)) ∧ W.cell? ⟨q, 6, none⟩ = some pv :=
  ⟨by rw [h.cell]; rfl, by rw [h.cell]; rfl, by rw [h.cell]; rfl, by rw [h.cell]; rfl, by rw [h.cell]; rfl, by rw [h.cell]; rfl, by rw [h.cell]; rfl⟩

set_option maxRecDepth 1000000 in
set_option maxHeartbeats 8000000 in
theorem plays_go {v : Value} {ls : List Stp} (k : Nat) (w : World) (hv : Sv w v ls) (hk1 : 1 ≤ k) (hk2 : k ≤ 20) : Calls Try.prog 3 #[.int .i64 (k : Int), v] w (Yes w) := by
  have hh := heavy_any w hv
  obtain ⟨la, lc, rfl⟩ := hv.shape
  obtain ⟨n, hn⟩ : ∃ n, ls.length = n := ⟨_, rfl⟩
  have HN := Lib.hid hn
  have hq : ¬ (20 : Int) < (k : Int) := by omega
  have hq2 : (k : Int) ≤ 20 := by omega
  have H := Lib.hid (And.intro hh hv)
  rw [hn] at H ⊢
  clear hn hv hh
  go_enter Try.func3, Try.ntmps3
  go_wp2_with fail
  refine H.out.1.mono ?_
  rintro e w1 ⟨B, rfl, b1, hB⟩
  cases B with
  | true =>
    go_wp2_with fail
    refine (works_any _).mono ?_
    rintro e w2 ⟨rfl, b2⟩
    go_wp2
    go_ret
    exact ⟨rfl, b1.trans (b2.mono b1.size)⟩
  | false =>
    have HB := Lib.hid (And.intro b1 (hB rfl))
    clear b1 hB
    go_wp2_with fail
    refine (p_new w1 k hk1 (by omega)).mono ?_
    rintro e w2 ⟨d, rfl, b2, hr⟩
    have HR := Lib.hid hr
    clear hr
    go_wp2_with fail
    refine HR.out.mono ?_
    rintro e w3 ⟨rb, rfl, h3, hu3⟩
    have H3 := Lib.hid (And.intro (h3.base HB.out.1) hu3)
    have HL := Lib.hid (And.intro H.out.2 HB.out.2)
    clear h3 hu3 HR H HB b2
    go_wp2
    go_loopw [9] (fun i wr => ∃ (j : Nat) (D : Dv), j ≤ n ∧ i = .int .i64 (j : Int) ∧ Pr2 w wr d rb D D (fun _ => True) ∧ Upto D (10 * j)) (fun i _ => n - (intOf i).toNat)
    case atStart => exact ⟨0, _, by omega, rfl, H3.out.1, H3.out.2⟩
    case round =>
      obtain ⟨j, D, hj, rfl, ho, hup⟩ := hrel
      have hn40 : n ≤ 40 := by have := HN.out; have := HL.out.2.1; omega
      have hj40 : (j : Int) ≤ 40 := by omega
      by_cases hlt : j < n
      · have hlt' : (j : Int) < (n : Int) := by omega
        have hj0 : (0 : Int) ≤ (j : Int) := by omega
        obtain ⟨s, hs⟩ : ∃ s, ls[j]? = some s := ⟨_, List.getElem?_eq_getElem (by have := HN.out; omega)⟩
        obtain ⟨gb, o, cap, e, hgb, hc, hi⟩ := HL.out.1.open hs
        simp only [Value.slice.injEq] at e
        obtain ⟨rfl, -, rfl⟩ := e
        have hsB := HL.out.2.2 s (List.mem_of_getElem? hs)
        obtain ⟨ba, bc, hbv, -⟩ := hi.body.shape
        obtain ⟨pa, pc, hpv⟩ := hi.picks.shape
        have hraw := fun W (hW : Below w.heap.size w W) => raw_any s W (hi.below hW) hsB.1
        have hrl := rawL_length s
        generalize rawL s = RW at hraw hrl
        obtain ⟨so, sg, sbv, sb, sn, sat, st, spv, sps⟩ := s
        simp only at hbv hpv hsB
        subst hbv
        subst hpv
        have hc0 := (ho.under.cell (p := ⟨gb, o + j * 7, none⟩) hgb).trans (hc 0 _ rfl)
        have hc1 := (ho.under.cell (p := ⟨gb, o + j * 7 + 1, none⟩) hgb).trans (hc 1 _ rfl)
        have hc2 := (ho.under.cell (p := ⟨gb, o + j * 7 + 2, none⟩) hgb).trans (hc 2 _ rfl)
        have hc3 := (ho.under.cell (p := ⟨gb, o + j * 7 + 3, none⟩) hgb).trans (hc 3 _ rfl)
        have hc4 := (ho.under.cell (p := ⟨gb, o + j * 7 + 4, none⟩) hgb).trans (hc 4 _ rfl)
        have hc5 := (ho.under.cell (p := ⟨gb, o + j * 7 + 5, none⟩) hgb).trans (hc 5 _ rfl)
        have hc6 := (ho.under.cell (p := ⟨gb, o + j * 7 + 6, none⟩) hgb).trans (hc 6 _ rfl)
        have HO := Lib.hid (And.intro ho (And.intro hup (And.intro hi (And.intro hsB (And.intro hraw hrl)))))
        have HW := Lib.hid (ho.cells (stepCs so sn sg sat st (.slice ba sb.length bc) (.slice pa sps.length pc)) 37)
        clear hs hc hi ho hup hsB hraw hrl
        go_upto_block 2 with fail
        clear hc0 hc1 hc2 hc3 hc4 hc5 hc6
        go_cut [11] from 63 to 131 (fun _ wx => ∃ D', Pr2 w wx d rb D' D' (fun _ => True) ∧ Upto D' (10 * (j + 1)))
        case first =>
          have hsn1 := HO.out.2.2.1.high
          have hsg1 := HO.out.2.2.1.gen
          simp only at hsn1 hsg1
          have hlt1 : wr.heap.size < (wr.alloc (.cells (stepCs so sn sg sat st (.slice ba sb.length bc) (.slice pa sps.length pc)) 37)).heap.size := by simp
          obtain ⟨m0, m1, m2, m3, m4, m5, m6⟩ := step_all HW.out.now.2
          generalize wr.alloc (.cells (stepCs so sn sg sat st (.slice ba sb.length bc) (.slice pa sps.length pc)) 37) = w4 at *
          have hup := HO.out.2.1
          by_cases h1 : so = 1
          · subst h1
            have hE := ow_empty w4
            have b6 : Below w4.heap.size w4 (w4.alloc (.cells #[] 5)) := (Below.refl _ _).alloc (Nat.le_refl _) _
            have hb4 := HO.out.2.2.1.body.below HW.out.under
            simp only at hb4
            have hm := hb4.below b6
            have hz6 := b6.size
            have hsz6 : ([] : Bytes).length + sb.length ≤ 140737488355328 := by have := HO.out.2.2.2.1.1; simp only [List.length_nil]; omega
            have HUP := Lib.hid hup
            clear hup hb4
            go_wp2_with (at_builtin; refine wpList_append_bs bt rfl _ _ rfl _ rfl rfl hE hm hsz6 hz6 ?_; intro v10 w7 o10 g10)
            rw [List.nil_append] at o10
            have b7 := below_own b6 hE g10
            have h7 := HW.out.bytes (l := sb) (v := v10) ⟨o10.bs, fun q hq => (o10.own hq).1⟩ b7
            obtain ⟨a10, c10, rfl, -⟩ := o10.bs.shape
            have H7 := Lib.hid h7
            clear h7 b7 o10 g10 hE b6 hm hz6 hsz6 m0 m1 m2 m3 m4 m5 m6 hlt1
            go_wp2
            have HX := Lib.hid (fun (W : World) (hW : Cel W wr.heap.size (stepCs 1 sn sg sat st (.slice ba sb.length bc) (.slice pa sps.length pc)).toList 37 ∧ Bs W (.slice a10 sb.length c10) sb ∧ Bs W (.slice ba sb.length bc) sb) => And.intro (step_all hW.1) (And.intro (run_string_bs bt (d := 9) Try.underlying9 W hW.2.1) (run_string_bs bt (d := 9) Try.underlying9 W hW.2.2)))
            have hbx := fun W (hW : Below w.heap.size w W) => HO.out.2.2.1.body.below hW
            simp only at hbx
            have h8 := H7.out.later (below_drewN (Below.refl w7.heap.size w7) 1)
            have S7 := And.intro h8.now.1.2 (And.intro h8.now.2 (hbx _ h8.under))
            refine region_till 99 (fun W => Cel W wr.heap.size (stepCs 1 sn sg sat st (.slice ba sb.length bc) (.slice pa sps.length pc)).toList 37 ∧ Bs W (.slice a10 sb.length c10) sb ∧ Bs W (.slice ba sb.length bc) sb) (by kernel_rfl) S7 (fun hS => ?_)
            clear S7
            have H8 := Lib.hid (And.intro h8 hbx)
            clear h8 H7 hbx
            skip
            refine take_till (i := 0) (some 70) (ptr d) rfl rfl (by kernel_rfl) (by kernel_rfl) (by kernel_rfl) (by kernel_rfl) (by decide) (fun _ _ _ h => h) (by rfl) (fun W hW => ?_) hS ?_
            · obtain ⟨⟨x0, x1, x2, x3, x4, x5, x6⟩, y1, y2⟩ := HX.out W hW
              clear hW
              go_simp
            simp only [Act.put, List.setIfInBounds_toArray, List.set_cons_zero, List.set_cons_succ]
            refine take_till (i := 1) (some 71) (.pointer (some ⟨wr.heap.size, 1, none⟩)) rfl rfl (by kernel_rfl) (by kernel_rfl) (by kernel_rfl) (by kernel_rfl) (by decide) (fun _ _ _ h => h) (by rfl) (fun W hW => ?_) hS ?_
            · obtain ⟨⟨x0, x1, x2, x3, x4, x5, x6⟩, y1, y2⟩ := HX.out W hW
              clear hW
              go_simp
            simp only [Act.put, List.setIfInBounds_toArray, List.set_cons_zero, List.set_cons_succ]
            refine take_till (i := 2) (some 72) (.int .u64 (sg : Int)) rfl rfl (by kernel_rfl) (by kernel_rfl) (by kernel_rfl) (by kernel_rfl) (by decide) (fun _ _ _ h => h) (by rfl) (fun W hW => ?_) hS ?_
            · obtain ⟨⟨x0, x1, x2, x3, x4, x5, x6⟩, y1, y2⟩ := HX.out W hW
              clear hW
              go_simp
            simp only [Act.put, List.setIfInBounds_toArray, List.set_cons_zero, List.set_cons_succ]
            refine take_till (i := 3) (some 73) (.slice a10 sb.length c10) rfl rfl (by kernel_rfl) (by kernel_rfl) (by kernel_rfl) (by kernel_rfl) (by decide) (fun _ _ _ h => h) (by rfl) (fun W hW => ?_) hS ?_
            · obtain ⟨⟨x0, x1, x2, x3, x4, x5, x6⟩, y1, y2⟩ := HX.out W hW
              clear hW
              go_simp
            simp only [Act.put, List.setIfInBounds_toArray, List.set_cons_zero, List.set_cons_succ]
            refine take_till (i := 5) (some 75) (ptr rb) rfl rfl (by kernel_rfl) (by kernel_rfl) (by kernel_rfl) (by kernel_rfl) (by decide) (fun _ _ _ h => h) (by rfl) (fun W hW => ?_) hS ?_
            · obtain ⟨⟨x0, x1, x2, x3, x4, x5, x6⟩, y1, y2⟩ := HX.out W hW
              clear hW
              go_simp
            simp only [Act.put, List.setIfInBounds_toArray, List.set_cons_zero, List.set_cons_succ]
            refine take_till (i := 6) (some 76) (.pointer (some ⟨wr.heap.size, 1, none⟩)) rfl rfl (by kernel_rfl) (by kernel_rfl) (by kernel_rfl) (by kernel_rfl) (by decide) (fun _ _ _ h => h) (by rfl) (fun W hW => ?_) hS ?_
            · obtain ⟨⟨x0, x1, x2, x3, x4, x5, x6⟩, y1, y2⟩ := HX.out W hW
              clear hW
              go_simp
            simp only [Act.put, List.setIfInBounds_toArray, List.set_cons_zero, List.set_cons_succ]
            refine take_till (i := 7) (some 77) (.int .u64 (sg : Int)) rfl rfl (by kernel_rfl) (by kernel_rfl) (by kernel_rfl) (by kernel_rfl) (by decide) (fun _ _ _ h => h) (by rfl) (fun W hW => ?_) hS ?_
            · obtain ⟨⟨x0, x1, x2, x3, x4, x5, x6⟩, y1, y2⟩ := HX.out W hW
              clear hW
              go_simp
            simp only [Act.put, List.setIfInBounds_toArray, List.set_cons_zero, List.set_cons_succ]
            refine take_till (i := 8) (some 78) (.pointer (some ⟨wr.heap.size, 2, none⟩)) rfl rfl (by kernel_rfl) (by kernel_rfl) (by kernel_rfl) (by kernel_rfl) (by decide) (fun _ _ _ h => h) (by rfl) (fun W hW => ?_) hS ?_
            · obtain ⟨⟨x0, x1, x2, x3, x4, x5, x6⟩, y1, y2⟩ := HX.out W hW
              clear hW
              go_simp
            simp only [Act.put, List.setIfInBounds_toArray, List.set_cons_zero, List.set_cons_succ]
            refine take_till (i := 9) (some 79) (.slice ba sb.length bc) rfl rfl (by kernel_rfl) (by kernel_rfl) (by kernel_rfl) (by kernel_rfl) (by decide) (fun _ _ _ h => h) (by rfl) (fun W hW => ?_) hS ?_
            · obtain ⟨⟨x0, x1, x2, x3, x4, x5, x6⟩, y1, y2⟩ := HX.out W hW
              clear hW
              go_simp
            simp only [Act.put, List.setIfInBounds_toArray, List.set_cons_zero, List.set_cons_succ]
            clear hS
            refine next_till 4 (by kernel_rfl) rfl (fun K hK => ?_)
            go_simp
            refine (p_save sg H8.out.1 HUP.out (by omega) hsg1 H8.out.1.now.2).mono ?_
            rintro e w9 ⟨rfl, h9⟩
            have S9 := And.intro h9.now.1.2 (And.intro h9.now.2 (H8.out.2 _ h9.under))
            refine hK.out _ _ (fun _ => S9) ?_
            clear hK K S9
            have H9 := Lib.hid h9
            clear h9
            refine next_till 10 (by kernel_rfl) rfl (fun K hK => ?_)
            go_simp
            refine (p_rsave sg H9.out HUP.out (by omega) (H8.out.2 _ H9.out.under) (by have := HO.out.2.2.2.1.1; omega)).mono ?_
            rintro e w10 ⟨rfl, h10⟩
            have hS := And.intro h10.now.1.2 (And.intro h10.now.2 (H8.out.2 _ h10.under))
            refine hK.out _ _ (fun _ => hS) ?_
            clear hK K
            have H10 := Lib.hid (And.intro (h10.forget (R := fun _ => True) fun _ _ => trivial) ((sDev_upto HUP.out sg sb).1.more (m := 10 * (j + 1)) (by omega)))
            clear h10 H9
            generalize sCode D sg sb = C at *
            refine next_till 11 (by kernel_rfl) rfl (fun K hK => ?_)
            go_simp
            refine hK.out _ _ (fun _ => hS) ?_
            clear hK K
            refine next_till 12 (by kernel_rfl) rfl (fun K hK => ?_)
            go_simp
            refine hK.out _ _ (fun _ => hS) ?_
            clear hK K
            refine take_till (i := 13) (some 83) (.slice a10 sb.length c10) rfl rfl (by kernel_rfl) (by kernel_rfl) (by kernel_rfl) (by kernel_rfl) (by decide) (fun _ _ _ h => h) (by rfl) (fun W hW => ?_) hS ?_
            · obtain ⟨⟨x0, x1, x2, x3, x4, x5, x6⟩, y1, y2⟩ := HX.out W hW
              clear hW
              go_simp
            simp only [Act.put, List.setIfInBounds_toArray, List.set_cons_zero, List.set_cons_succ]
            refine take_till (i := 15) (some 85) (.pointer (some ⟨wr.heap.size, 2, none⟩)) rfl rfl (by kernel_rfl) (by kernel_rfl) (by kernel_rfl) (by kernel_rfl) (by decide) (fun _ _ _ h => h) (by rfl) (fun W hW => ?_) hS ?_
            · obtain ⟨⟨x0, x1, x2, x3, x4, x5, x6⟩, y1, y2⟩ := HX.out W hW
              clear hW
              go_simp
            simp only [Act.put, List.setIfInBounds_toArray, List.set_cons_zero, List.set_cons_succ]
            refine take_till (i := 16) (some 86) (.slice ba sb.length bc) rfl rfl (by kernel_rfl) (by kernel_rfl) (by kernel_rfl) (by kernel_rfl) (by decide) (fun _ _ _ h => h) (by rfl) (fun W hW => ?_) hS ?_
            · obtain ⟨⟨x0, x1, x2, x3, x4, x5, x6⟩, y1, y2⟩ := HX.out W hW
              clear hW
              go_simp
            simp only [Act.put, List.setIfInBounds_toArray, List.set_cons_zero, List.set_cons_succ]
            refine take_till (i := 14) (some 84) (.string ⟨sb.toArray⟩) rfl rfl (by kernel_rfl) (by kernel_rfl) (by kernel_rfl) (by kernel_rfl) (by decide) (fun _ _ _ h => h) (by rfl) (fun W hW => ?_) hS ?_
            · obtain ⟨⟨x0, x1, x2, x3, x4, x5, x6⟩, y1, y2⟩ := HX.out W hW
              clear hW
              go_simp
            simp only [Act.put, List.setIfInBounds_toArray, List.set_cons_zero, List.set_cons_succ]
            refine take_till (i := 17) (some 87) (.string ⟨sb.toArray⟩) rfl rfl (by kernel_rfl) (by kernel_rfl) (by kernel_rfl) (by kernel_rfl) (by decide) (fun _ _ _ h => h) (by rfl) (fun W hW => ?_) hS ?_
            · obtain ⟨⟨x0, x1, x2, x3, x4, x5, x6⟩, y1, y2⟩ := HX.out W hW
              clear hW
              go_simp
            simp only [Act.put, List.setIfInBounds_toArray, List.set_cons_zero, List.set_cons_succ]
            refine next_till 18 (by kernel_rfl) rfl (fun K hK => ?_)
            go_simp
            refine hK.out _ _ (fun _ => hS) ?_
            clear hK K
            refine next_till 19 (by kernel_rfl) rfl (fun K hK => ?_)
            go_simp
            refine hK.out _ _ (fun _ => hS) ?_
            clear hK K
            refine done_till (by kernel_rfl) ?_ _
            clear hS HX
            go_wp2_with fail
            go_meet
            case rel => exact ⟨_, H10.out⟩
          by_cases h3 : so = 3
          · subst h3
            clear h1
            have HUP := Lib.hid hup
            clear hup hlt1
            go_wp2
            clear m0 m1 m2 m3 m4 m5 m6
            have HX := Lib.hid (fun (W : World) (hW : Cel W wr.heap.size (stepCs 3 sn sg sat st (.slice ba sb.length bc) (.slice pa sps.length pc)).toList 37) => step_all hW)
            have h8 := HW.out.later (below_drewN (Below.refl w4.heap.size w4) 1)
            refine region_till 99 (fun W => Cel W wr.heap.size (stepCs 3 sn sg sat st (.slice ba sb.length bc) (.slice pa sps.length pc)).toList 37) (by kernel_rfl) h8.now.2 (fun hS => ?_)
            have H8 := Lib.hid h8
            clear h8
            skip
            refine take_till (i := 0) (some 92) (ptr d) rfl rfl (by kernel_rfl) (by kernel_rfl) (by kernel_rfl) (by kernel_rfl) (by decide) (fun _ _ _ h => h) (by rfl) (fun W hW => ?_) hS ?_
            · obtain ⟨x0, x1, x2, x3, x4, x5, x6⟩ := HX.out W hW
              clear hW
              go_simp
            simp only [Act.put, List.setIfInBounds_toArray, List.set_cons_zero, List.set_cons_succ]
            refine take_till (i := 1) (some 93) (.pointer (some ⟨wr.heap.size, 3, none⟩)) rfl rfl (by kernel_rfl) (by kernel_rfl) (by kernel_rfl) (by kernel_rfl) (by decide) (fun _ _ _ h => h) (by rfl) (fun W hW => ?_) hS ?_
            · obtain ⟨x0, x1, x2, x3, x4, x5, x6⟩ := HX.out W hW
              clear hW
              go_simp
            simp only [Act.put, List.setIfInBounds_toArray, List.set_cons_zero, List.set_cons_succ]
            refine take_till (i := 2) (some 94) (.int .i64 sn) rfl rfl (by kernel_rfl) (by kernel_rfl) (by kernel_rfl) (by kernel_rfl) (by decide) (fun _ _ _ h => h) (by rfl) (fun W hW => ?_) hS ?_
            · obtain ⟨x0, x1, x2, x3, x4, x5, x6⟩ := HX.out W hW
              clear hW
              go_simp
            simp only [Act.put, List.setIfInBounds_toArray, List.set_cons_zero, List.set_cons_succ]
            refine take_till (i := 4) (some 96) (ptr rb) rfl rfl (by kernel_rfl) (by kernel_rfl) (by kernel_rfl) (by kernel_rfl) (by decide) (fun _ _ _ h => h) (by rfl) (fun W hW => ?_) hS ?_
            · obtain ⟨x0, x1, x2, x3, x4, x5, x6⟩ := HX.out W hW
              clear hW
              go_simp
            simp only [Act.put, List.setIfInBounds_toArray, List.set_cons_zero, List.set_cons_succ]
            refine take_till (i := 5) (some 97) (.pointer (some ⟨wr.heap.size, 3, none⟩)) rfl rfl (by kernel_rfl) (by kernel_rfl) (by kernel_rfl) (by kernel_rfl) (by decide) (fun _ _ _ h => h) (by rfl) (fun W hW => ?_) hS ?_
            · obtain ⟨x0, x1, x2, x3, x4, x5, x6⟩ := HX.out W hW
              clear hW
              go_simp
            simp only [Act.put, List.setIfInBounds_toArray, List.set_cons_zero, List.set_cons_succ]
            refine take_till (i := 6) (some 98) (.int .i64 sn) rfl rfl (by kernel_rfl) (by kernel_rfl) (by kernel_rfl) (by kernel_rfl) (by decide) (fun _ _ _ h => h) (by rfl) (fun W hW => ?_) hS ?_
            · obtain ⟨x0, x1, x2, x3, x4, x5, x6⟩ := HX.out W hW
              clear hW
              go_simp
            simp only [Act.put, List.setIfInBounds_toArray, List.set_cons_zero, List.set_cons_succ]
            clear hS
            refine next_till 3 (by kernel_rfl) rfl (fun K hK => ?_)
            go_simp
            refine (p_arm H8.out sn hsn1).mono ?_
            rintro e w9 ⟨rfl, h9⟩
            refine hK.out _ _ (fun _ => h9.now.2) ?_
            clear hK K
            have H9 := Lib.hid h9
            clear h9
            refine next_till 7 (by kernel_rfl) rfl (fun K hK => ?_)
            go_simp
            refine (p_rarm H9.out sn hsn1).mono ?_
            rintro e w10 ⟨rfl, h10⟩
            have hS := h10.now.2
            refine hK.out _ _ (fun _ => hS) ?_
            clear hK K
            have H10 := Lib.hid (And.intro (h10.forget (R := fun _ => True) fun _ _ => trivial) ((adev_upto HUP.out sn).1.more (m := 10 * (j + 1)) (by omega)))
            clear h10 H9
            generalize acode D = C at *
            refine next_till 8 (by kernel_rfl) rfl (fun K hK => ?_)
            go_simp
            refine hK.out _ _ (fun _ => hS) ?_
            clear hK K
            refine done_till (by kernel_rfl) ?_ _
            clear hS HX
            go_wp2_with fail
            go_meet
            case rel => exact ⟨_, H10.out⟩
          by_cases h4 : so = 4
          · subst h4
            clear h1 h3
            have HUP := Lib.hid hup
            have HOF := Lib.hid (odev_upto hup).1
            clear hup hlt1 m0 m1 m2 m3 m4 m5 m6
            have m0 : w4.cell? ⟨wr.heap.size, 0, none⟩ = some (.int .i64 4) := (step_all HW.out.now.2).1
            go_wp2_with fail
            clear m0
            refine (p_off HW.out).mono ?_
            rintro e w5 ⟨rfl, h5⟩
            have H5 := Lib.hid h5
            clear h5
            go_wp2_with fail
            refine (p_roff H5.out).mono ?_
            rintro e w6 ⟨rfl, h6⟩
            have H6 := Lib.hid h6
            clear h6 H5
            go_wp2
            have HX := Lib.hid (fun (W : World) (hW : Cel W wr.heap.size (stepCs 4 sn sg sat st (.slice ba sb.length bc) (.slice pa sps.length pc)).toList 37) => step_all hW)
            have h8 := H6.out.later (below_drewN (Below.refl w6.heap.size w6) 1)
            refine region_till 99 (fun W => Cel W wr.heap.size (stepCs 4 sn sg sat st (.slice ba sb.length bc) (.slice pa sps.length pc)).toList 37) (by kernel_rfl) h8.now.2 (fun hS => ?_)
            have H8 := Lib.hid h8
            clear h8
            skip
            refine take_till (i := 0) (some 107) (ptr d) rfl rfl (by kernel_rfl) (by kernel_rfl) (by kernel_rfl) (by kernel_rfl) (by decide) (fun _ _ _ h => h) (by rfl) (fun W hW => ?_) hS ?_
            · obtain ⟨x0, x1, x2, x3, x4, x5, x6⟩ := HX.out W hW
              clear hW
              go_simp
            simp only [Act.put, List.setIfInBounds_toArray, List.set_cons_zero, List.set_cons_succ]
            refine take_till (i := 1) (some 108) (.pointer (some ⟨wr.heap.size, 6, none⟩)) rfl rfl (by kernel_rfl) (by kernel_rfl) (by kernel_rfl) (by kernel_rfl) (by decide) (fun _ _ _ h => h) (by rfl) (fun W hW => ?_) hS ?_
            · obtain ⟨x0, x1, x2, x3, x4, x5, x6⟩ := HX.out W hW
              clear hW
              go_simp
            simp only [Act.put, List.setIfInBounds_toArray, List.set_cons_zero, List.set_cons_succ]
            refine take_till (i := 2) (some 109) (.slice pa sps.length pc) rfl rfl (by kernel_rfl) (by kernel_rfl) (by kernel_rfl) (by kernel_rfl) (by decide) (fun _ _ _ h => h) (by rfl) (fun W hW => ?_) hS ?_
            · obtain ⟨x0, x1, x2, x3, x4, x5, x6⟩ := HX.out W hW
              clear hW
              go_simp
            simp only [Act.put, List.setIfInBounds_toArray, List.set_cons_zero, List.set_cons_succ]
            refine take_till (i := 4) (some 111) (ptr rb) rfl rfl (by kernel_rfl) (by kernel_rfl) (by kernel_rfl) (by kernel_rfl) (by decide) (fun _ _ _ h => h) (by rfl) (fun W hW => ?_) hS ?_
            · obtain ⟨x0, x1, x2, x3, x4, x5, x6⟩ := HX.out W hW
              clear hW
              go_simp
            simp only [Act.put, List.setIfInBounds_toArray, List.set_cons_zero, List.set_cons_succ]
            refine take_till (i := 5) (some 112) (.pointer (some ⟨wr.heap.size, 6, none⟩)) rfl rfl (by kernel_rfl) (by kernel_rfl) (by kernel_rfl) (by kernel_rfl) (by decide) (fun _ _ _ h => h) (by rfl) (fun W hW => ?_) hS ?_
            · obtain ⟨x0, x1, x2, x3, x4, x5, x6⟩ := HX.out W hW
              clear hW
              go_simp
            simp only [Act.put, List.setIfInBounds_toArray, List.set_cons_zero, List.set_cons_succ]
            refine take_till (i := 6) (some 113) (.slice pa sps.length pc) rfl rfl (by kernel_rfl) (by kernel_rfl) (by kernel_rfl) (by kernel_rfl) (by decide) (fun _ _ _ h => h) (by rfl) (fun W hW => ?_) hS ?_
            · obtain ⟨x0, x1, x2, x3, x4, x5, x6⟩ := HX.out W hW
              clear hW
              go_simp
            simp only [Act.put, List.setIfInBounds_toArray, List.set_cons_zero, List.set_cons_succ]
            clear hS
            refine next_till 3 (by kernel_rfl) rfl (fun K hK => ?_)
            go_simp
            refine (p_on H8.out HOF.out (by omega) HO.out.2.2.1.picks).mono ?_
            rintro e w9 ⟨rfl, h9⟩
            refine hK.out _ _ (fun _ => h9.now.2) ?_
            clear hK K
            have H9 := Lib.hid h9
            clear h9
            refine next_till 7 (by kernel_rfl) rfl (fun K hK => ?_)
            go_simp
            refine (p_ron H9.out HOF.out (by omega) HO.out.2.2.1.picks).mono ?_
            rintro e w10 ⟨rfl, h10⟩
            have hS := h10.now.2
            refine hK.out _ _ (fun _ => hS) ?_
            clear hK K
            have H10 := Lib.hid (And.intro (h10.forget (R := fun _ => True) fun _ _ => trivial) ((ndev_upto HOF.out sps).1.more (m := 10 * (j + 1)) (by omega)))
            clear h10 H9
            generalize ncode (odev D) = C at *
            refine next_till 8 (by kernel_rfl) rfl (fun K hK => ?_)
            go_simp
            refine hK.out _ _ (fun _ => hS) ?_
            clear hK K
            refine done_till (by kernel_rfl) ?_ _
            clear hS HX
            go_wp2_with fail
            go_meet
            case rel => exact ⟨_, H10.out⟩
          by_cases h5 : so = 5
          · subst h5
            clear h1 h3 h4
            have HUP := Lib.hid hup
            clear hup hlt1
            go_wp2
            clear m0 m1 m2 m3 m4 m5 m6
            have HX := Lib.hid (fun (W : World) (hW : Cel W wr.heap.size (stepCs 5 sn sg sat st (.slice ba sb.length bc) (.slice pa sps.length pc)).toList 37) => step_all hW)
            have h8 := HW.out.later (below_drewN (Below.refl w4.heap.size w4) 1)
            refine region_till 99 (fun W => Cel W wr.heap.size (stepCs 5 sn sg sat st (.slice ba sb.length bc) (.slice pa sps.length pc)).toList 37) (by kernel_rfl) h8.now.2 (fun hS => ?_)
            have H8 := Lib.hid h8
            clear h8
            skip
            refine take_till (i := 0) (some 118) (ptr d) rfl rfl (by kernel_rfl) (by kernel_rfl) (by kernel_rfl) (by kernel_rfl) (by decide) (fun _ _ _ h => h) (by rfl) (fun W hW => ?_) hS ?_
            · obtain ⟨x0, x1, x2, x3, x4, x5, x6⟩ := HX.out W hW
              clear hW
              go_simp
            simp only [Act.put, List.setIfInBounds_toArray, List.set_cons_zero, List.set_cons_succ]
            refine take_till (i := 1) (some 119) (.pointer (some ⟨wr.heap.size, 3, none⟩)) rfl rfl (by kernel_rfl) (by kernel_rfl) (by kernel_rfl) (by kernel_rfl) (by decide) (fun _ _ _ h => h) (by rfl) (fun W hW => ?_) hS ?_
            · obtain ⟨x0, x1, x2, x3, x4, x5, x6⟩ := HX.out W hW
              clear hW
              go_simp
            simp only [Act.put, List.setIfInBounds_toArray, List.set_cons_zero, List.set_cons_succ]
            refine take_till (i := 2) (some 120) (.int .i64 sn) rfl rfl (by kernel_rfl) (by kernel_rfl) (by kernel_rfl) (by kernel_rfl) (by decide) (fun _ _ _ h => h) (by rfl) (fun W hW => ?_) hS ?_
            · obtain ⟨x0, x1, x2, x3, x4, x5, x6⟩ := HX.out W hW
              clear hW
              go_simp
            simp only [Act.put, List.setIfInBounds_toArray, List.set_cons_zero, List.set_cons_succ]
            refine take_till (i := 3) (some 121) ((Stp.mk 5 sg (.slice ba sb.length bc) sb sn sat st (.slice pa sps.length pc) sps).val) rfl rfl (by kernel_rfl) (by kernel_rfl) (by kernel_rfl) (by kernel_rfl) (by decide) (fun _ _ _ h => h) (by rfl) (fun W hW => ?_) hS ?_
            · obtain ⟨x0, x1, x2, x3, x4, x5, x6⟩ := HX.out W hW
              clear hW
              go_simp
            simp only [Act.put, List.setIfInBounds_toArray, List.set_cons_zero, List.set_cons_succ]
            refine take_till (i := 6) (some 124) (ptr rb) rfl rfl (by kernel_rfl) (by kernel_rfl) (by kernel_rfl) (by kernel_rfl) (by decide) (fun _ _ _ h => h) (by rfl) (fun W hW => ?_) hS ?_
            · obtain ⟨x0, x1, x2, x3, x4, x5, x6⟩ := HX.out W hW
              clear hW
              go_simp
            simp only [Act.put, List.setIfInBounds_toArray, List.set_cons_zero, List.set_cons_succ]
            refine take_till (i := 7) (some 125) (.pointer (some ⟨wr.heap.size, 3, none⟩)) rfl rfl (by kernel_rfl) (by kernel_rfl) (by kernel_rfl) (by kernel_rfl) (by decide) (fun _ _ _ h => h) (by rfl) (fun W hW => ?_) hS ?_
            · obtain ⟨x0, x1, x2, x3, x4, x5, x6⟩ := HX.out W hW
              clear hW
              go_simp
            simp only [Act.put, List.setIfInBounds_toArray, List.set_cons_zero, List.set_cons_succ]
            refine take_till (i := 8) (some 126) (.int .i64 sn) rfl rfl (by kernel_rfl) (by kernel_rfl) (by kernel_rfl) (by kernel_rfl) (by decide) (fun _ _ _ h => h) (by rfl) (fun W hW => ?_) hS ?_
            · obtain ⟨x0, x1, x2, x3, x4, x5, x6⟩ := HX.out W hW
              clear hW
              go_simp
            simp only [Act.put, List.setIfInBounds_toArray, List.set_cons_zero, List.set_cons_succ]
            refine take_till (i := 9) (some 127) ((Stp.mk 5 sg (.slice ba sb.length bc) sb sn sat st (.slice pa sps.length pc) sps).val) rfl rfl (by kernel_rfl) (by kernel_rfl) (by kernel_rfl) (by kernel_rfl) (by decide) (fun _ _ _ h => h) (by rfl) (fun W hW => ?_) hS ?_
            · obtain ⟨x0, x1, x2, x3, x4, x5, x6⟩ := HX.out W hW
              clear hW
              go_simp
            simp only [Act.put, List.setIfInBounds_toArray, List.set_cons_zero, List.set_cons_succ]
            clear hS
            refine next_till 4 (by kernel_rfl) rfl (fun K hK => ?_)
            go_simp
            refine (HO.out.2.2.2.2.1 _ H8.out.under).mono ?_
            rintro e w9 ⟨v9, rfl, hn9, b9⟩
            refine hK.out _ _ (fun _ => (H8.out.later b9).now.2) ?_
            clear hK K
            have hw9 := p_write H8.out hn9 b9 HUP.out (by omega) sn
            obtain ⟨p9, n9, c9, rfl⟩ := hn9.slice
            have H9 := Lib.hid hw9
            clear hw9 hn9 b9
            refine next_till 5 (by kernel_rfl) rfl (fun K hK => ?_)
            go_simp
            refine H9.out.mono ?_
            rintro e w10 ⟨rfl, h10⟩
            refine hK.out _ _ (fun _ => h10.now.2) ?_
            clear hK K
            have H10 := Lib.hid h10
            clear h10 H9
            refine next_till 10 (by kernel_rfl) rfl (fun K hK => ?_)
            go_simp
            refine (HO.out.2.2.2.2.1 _ H10.out.under).mono ?_
            rintro e w11 ⟨v11, rfl, hn11, b11⟩
            refine hK.out _ _ (fun _ => (H10.out.later b11).now.2) ?_
            clear hK K
            have hw11 := p_rwrite H10.out hn11 b11 HUP.out (by omega) sn
            obtain ⟨p11, n11, c11, rfl⟩ := hn11.slice
            have H11 := Lib.hid hw11
            clear hw11 hn11 b11 H10
            refine next_till 11 (by kernel_rfl) rfl (fun K hK => ?_)
            go_simp
            refine H11.out.mono ?_
            rintro e w12 ⟨rfl, h12⟩
            have hS := h12.now.2
            refine hK.out _ _ (fun _ => hS) ?_
            clear hK K
            have H10 := Lib.hid (And.intro (h12.forget (R := fun _ => True) fun _ _ => trivial) ((wdev_upto HUP.out sn RW).1.more (m := 10 * (j + 1)) (by omega)))
            clear h12 H11
            generalize wcode D sn RW = C at *
            refine next_till 12 (by kernel_rfl) rfl (fun K hK => ?_)
            go_simp
            refine hK.out _ _ (fun _ => hS) ?_
            clear hK K
            refine done_till (by kernel_rfl) ?_ _
            clear hS HX
            go_wp2_with fail
            go_meet
            case rel => exact ⟨_, H10.out⟩
          · have q1 : (so == 1) = false := by rw [beq_eq_false_iff_ne]; exact h1
            have q3 : (so == 3) = false := by rw [beq_eq_false_iff_ne]; exact h3
            have q4 : (so == 4) = false := by rw [beq_eq_false_iff_ne]; exact h4
            have q5 : (so == 5) = false := by rw [beq_eq_false_iff_ne]; exact h5
            have HU := Lib.hid (And.intro (HW.out.forget (R := fun _ => True) fun _ _ => trivial) (hup.more (m := 10 * (j + 1)) (by omega)))
            clear h1 h3 h4 h5 hup
            go_wp2_with fail
            go_meet
            case rel => exact ⟨D, HU.out⟩
        case rest =>
          obtain ⟨D', hp, hu⟩ := hcut
          have HP := Lib.hid (And.intro hp hu)
          clear hp hu
          go_wp2_with fail
          refine (p_load HP.out.1).mono ?_
          rintro e w5 ⟨v5, rfl, h5⟩
          have H5 := Lib.hid h5
          obtain ⟨a5, c5, rfl, -⟩ := h5.now.2.shape
          clear h5
          go_wp2_with fail
          refine (p_rload H5.out).mono ?_
          rintro e w6 ⟨v6, rfl, h6⟩
          obtain ⟨a6, c6, rfl, -⟩ := h6.now.2.shape
          have r5 := run_string_bs bt (d := 9) Try.underlying9 w6 h6.now.1.2
          have r6 := run_string_bs bt (d := 9) Try.underlying9 w6 h6.now.2
          have H6 := Lib.hid (h6.forget (R := fun _ => True) fun _ _ => trivial)
          clear h6 H5
          generalize loadV D' = L at *
          go_wp2_with fail
          go_roundw
          case rel => exact ⟨j + 1, D', by omega, by go_num, H6.out, HP.out.2⟩
          case measure => simp [intOf]; omega
      · obtain rfl : j = n := by omega
        have HU := Lib.hid ho.under
        clear ho hup
        go_wp2_with fail
        refine (works_any _).mono ?_
        rintro e w9 ⟨rfl, b9⟩
        go_wp2
        go_ret
        exact ⟨rfl, HU.out.trans (b9.mono HU.out.size)⟩

theorem shadowPlays_any {v : Value} {ls : List Stp} (nbl : Int) (w : World) (hv : Sv w v ls) (_ : (Lit.int .i64 nbl).wf = true) : Calls Try.prog 3 #[.int .i64 nbl, v] w (Yes w) := by
  by_cases hok : 1 ≤ nbl ∧ nbl ≤ 20
  · obtain ⟨k, rfl⟩ : ∃ k : Nat, nbl = (k : Int) := ⟨nbl.toNat, by omega⟩
    exact plays_go k w hv (by omega) (by omega)
  · exact plays_edges nbl w hv hok
end Go.Proofs.Ytcpapdpnnlnemaa
