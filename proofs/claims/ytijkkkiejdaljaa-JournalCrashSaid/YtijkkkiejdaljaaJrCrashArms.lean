/- The walk of JournalCrash where at least one power loss is laid; no condition. -/
import Derived.Test.YtijkkkiejdaljaaJrSteps
namespace Go.Proofs.Ytijkkkiejdaljaa
open Go.RowKit Go.Maps

set_option maxRecDepth 1000000 in
set_option maxHeartbeats 16000000 in
theorem crashArms_any (x : Case) {g1 o1 cap1 : Nat} {l1 : Bytes} (w : World) (hx : CaseIn w x) (h1 : Bs w (.slice (some ⟨g1, o1, none⟩) l1.length cap1) l1) (hne : 0 < l1.length) : Calls Try.prog 4 #[caseV x, .slice (some ⟨g1, o1, none⟩) l1.length cap1] w (Yes w) := by
  have hfew := fun w' (h : CaseIn w' x) => few_any x w' h
  have hbeg := fun w' (h : CaseIn w' x) (h' : FewOk x) => begin_any False x w' h h'
  have hag := fun w0 w b jb rb z n s l h h2 => back_again (k := False) (w0 := w0) (w := w) (b := b) (jb := jb) (rb := rb) (f := x.from_.toNat % 5) (z := z) (n := n) (s := s) (l := l) h id x rfl h2
  have hag2 := fun w0 w b jb rb z n s l M L' lv h h2 => twin_again (k := False) (w0 := w0) (w := w) (b := b) (jb := jb) (rb := rb) (f := x.from_.toNat % 5) (z := z) (n := n) (s := s) (l := l) (L := M) (lv := lv) (L' := L') h x rfl h2
  obtain ⟨fr, sz, a, sq, lv, L⟩ := x
  obtain ⟨la, lc, hlv⟩ := hx.1.shape
  simp only at hlv
  subst hlv
  have hl1 := h1.len
  have hl1' : (l1.length : Int) ≤ 9223372036854775807 := by omega
  have hb0 := (Below.refl w.heap.size w).alloc (Nat.le_refl _) (.cells #[.int .u8 (fr.toNat : Int), .int .u8 (sz.toNat : Int), .int .u8 (a.toNat : Int), .int .u64 (sq : Int), .slice la L.length lc] 25)
  have hc0 := Cel.new w #[.int .u8 (fr.toNat : Int), .int .u8 (sz.toNat : Int), .int .u8 (a.toNat : Int), .int .u64 (sq : Int), .slice la L.length lc] 25
  have H0 := Lib.hid (And.intro hb0 (And.intro hc0 (And.intro (hx.below hb0) (And.intro hfew (And.intro hbeg (And.intro hag hag2))))))
  have HV0 := Lib.hid (And.intro (h1.below hb0) hne)
  clear h1 hne hl1
  clear hb0 hc0 hx hfew hbeg hag hag2
  go_enter Try.func4, Try.ntmps4
  go_wp2_with fail
  generalize w.alloc (.cells #[.int .u8 (fr.toNat : Int), .int .u8 (sz.toNat : Int), .int .u8 (a.toNat : Int), .int .u64 (sq : Int), .slice la L.length lc] 25) = w1 at *
  refine (H0.out.2.2.2.1 _ H0.out.2.2.1).mono ?_
  rintro e w2 ⟨B, rfl, hB, b2⟩
  have hbw2 := H0.out.1.trans (b2.mono H0.out.1.size)
  have hlt1 := H0.out.2.1.lt
  have hc2 := H0.out.2.1.kept (b2.block w.heap.size hlt1)
  have hx2 := H0.out.2.2.1.below b2
  have hlt2 : w.heap.size < w2.heap.size := by have := b2.size; omega
  have H2 := Lib.hid (And.intro hbw2 (And.intro hc2 (And.intro hx2 (And.intro hlt2 H0.out.2.2.2.2))))
  have HV := Lib.hid (And.intro (HV0.out.1.below b2) HV0.out.2)
  clear HV0
  clear b2 hbw2 hc2 hx2 hlt2 H0 hlt1
  cases B with
  | false =>
    clear hB
    go_wp2_with fail
    refine (works_any _).mono ?_
    rintro e w9 ⟨rfl, b9⟩
    go_wp2
    go_ret
    exact ⟨rfl, H2.out.1.trans (b9.mono H2.out.1.size)⟩
  | true =>
    have HF := Lib.hid (hB rfl)
    clear hB
    by_cases h30 : 30 < l1.length
    · have h30' : (30 : Int) < (l1.length : Int) := by omega
      clear h30
      go_wp2_with fail
      refine (works_any _).mono ?_
      rintro e w9 ⟨rfl, b9⟩
      go_wp2
      go_ret
      exact ⟨rfl, H2.out.1.trans (b9.mono H2.out.1.size)⟩
    have h30' : (l1.length : Int) ≤ 30 := by omega
    clear h30
    have hu0 := Below.refl w2.heap.size w2
    have hcx := H2.out.2.1.below hu0 H2.out.2.2.2.1
    have k00 : w2.cell? ⟨w.heap.size, 0, none⟩ = some (.int .u8 (fr.toNat : Int)) := by rw [hcx.cell]; rfl
    have k01 : w2.cell? ⟨w.heap.size, 1, none⟩ = some (.int .u8 (sz.toNat : Int)) := by rw [hcx.cell]; rfl
    have k02 : w2.cell? ⟨w.heap.size, 2, none⟩ = some (.int .u8 (a.toNat : Int)) := by rw [hcx.cell]; rfl
    have k03 : w2.cell? ⟨w.heap.size, 3, none⟩ = some (.int .u64 (sq : Int)) := by rw [hcx.cell]; rfl
    have k04 : w2.cell? ⟨w.heap.size, 4, none⟩ = some (.slice la L.length lc) := by rw [hcx.cell]; rfl
    clear hcx
    go_wp2_with fail
    clear k00 k01 k02 k03 k04 hu0
    refine (H2.out.2.2.2.2.1 _ H2.out.2.2.1 HF.out).mono ?_
    rintro e w3 ⟨b, jb, rb, rfl, hst⟩
    simp only at hst
    have H3 := Lib.hid hst
    clear hst
    have hll : (L.length : Int) ≤ 60 := by have := HF.out.1; simp only at this; omega
    obtain ⟨y0, hy0⟩ : ∃ y, l1[0]? = some y := ⟨_, List.getElem?_eq_getElem HV.out.2⟩
    obtain ⟨g', o', cp', e', -, -, hcell⟩ := (HV.out.1.below H3.out.under).open HV.out.2
    simp only [Value.slice.injEq, Option.some.injEq, Addr.mk.injEq] at e'
    obtain ⟨⟨rfl, rfl, -⟩, -⟩ := e'
    have d0 : w3.cell? ⟨g1, o1, none⟩ = some (.int .u8 (y0.toNat : Int)) := hcell 0 y0 hy0
    have hyl := y0.toNat_lt
    have hl0 : (0 : Int) < (l1.length : Int) := by have := HV.out.2; omega
    clear hcell hy0
    go_wp2_with fail
    refine (st_arm H3.out id (y0.toNat : Int) (by omega)).mono ?_
    rintro e w4 ⟨rfl, hst⟩
    have HL := Lib.hid hst
    clear hst d0 H3 hyl hl0
    go_wp2
    go_loopw [6, 9, 10] (fun jv kv i wr => ∃ r kk jb : Nat, r ≤ L.length ∧ kk ≤ r + 1 ∧ jv = ptr jb ∧ kv = .int .i64 (kk : Int) ∧ i = .int .i64 (r : Int) ∧ St False w2 wr b jb rb (fr.toNat % 5) (2 + sz.toNat % 30) (40 * r + 1) (sq + 1 + r)) (fun _ _ i _ => L.length - (intOf i).toNat)
    case atStart => exact ⟨0, 1, jb, by omega, by omega, rfl, rfl, rfl, HL.out⟩
    case round =>
      clear HL
      obtain ⟨r, kk, jb, hr, hkr, rfl, rfl, rfl, hst⟩ := hrel
      have hcw := H2.out.2.1.below hst.under H2.out.2.2.2.1
      have k4 : wr.cell? ⟨w.heap.size, 4, none⟩ = some (.slice la L.length lc) := by rw [hcw.cell]; rfl
      by_cases hlt : r < L.length
      · have hlt' : (r : Int) < (L.length : Int) := by omega
        have hr0 : (0 : Int) ≤ (r : Int) := by omega
        have hk0 : (0 : Int) ≤ (kk : Int) := by omega
        have hk1 : (kk : Int) ≤ 61 := by omega
        obtain ⟨st, hs5⟩ : ∃ s, L[r]? = some s := ⟨_, List.getElem?_eq_getElem hlt⟩
        have hx2 := H2.out.2.2.1.1
        simp only at hx2
        obtain ⟨g, o, cap, e, hg, -, hi0, -⟩ := hx2.open hs5
        obtain ⟨g', o', cap', e', -, ⟨c0, c1, c2, c3, c4⟩, hi, hn⟩ := (hx2.below hst.under).open hs5
        rw [e] at e'
        simp only [Value.slice.injEq, Option.some.injEq, Addr.mk.injEq] at e e'
        obtain ⟨rfl, _, rfl⟩ := e
        obtain ⟨⟨rfl, rfl, -⟩, -⟩ := e'
        have HU := Lib.hid (And.intro hst (And.intro hcw (And.intro hg (And.intro hi0 (And.intro hn (HF.out.2.2 st (List.mem_of_getElem? hs5)))))))
        obtain ⟨pa, pc, hpv⟩ := hi.shape
        clear hst hcw hg hi hi0 hn hx2 hs5
        obtain ⟨so, sn, sc, soff, pv, picks⟩ := st
        simp only at c0 c1 c2 c3 c4 hpv
        subst hpv
        by_cases h2 : so = 2
        · subst h2
          go_wp2_with fail
          have b4 := (Below.refl wr.heap.size wr).alloc (Nat.le_refl _) (.cells #[.int .i64 2, .int .u16 (sn : Int), .int .u8 (sc.toNat : Int), .bool soff, .slice pa picks.length pc] 36)
          have hc4 := Cel.new wr #[.int .i64 2, .int .u16 (sn : Int), .int .u8 (sc.toNat : Int), .bool soff, .slice pa picks.length pc] 36
          have hz4 : wr.heap.size < (wr.alloc (.cells #[.int .i64 2, .int .u16 (sn : Int), .int .u8 (sc.toNat : Int), .bool soff, .slice pa picks.length pc] 36)).heap.size := hc4.lt
          have H4 := Lib.hid (And.intro b4 (And.intro hc4 hz4))
          generalize wr.alloc (.cells #[.int .i64 2, .int .u16 (sn : Int), .int .u8 (sc.toNat : Int), .bool soff, .slice pa picks.length pc] 36) = w4 at *
          clear b4 hc4 hz4 c0 c1 c2 c3 c4 k4
          refine (st_forget (HU.out.1.later H4.out.1) (by have : sq ≤ 2305843009213693952 := HF.out.2.1; omega)).mono ?_
          rintro e w5 ⟨rfl, hmf⟩
          have H5 := Lib.hid hmf
          clear hmf
          go_wp2_with fail
          refine (mid_refforget H5.out).mono ?_
          rintro e w6 ⟨rfl, hst⟩
          have H6 := Lib.hid hst
          clear hst H5
          go_wp2_with (with_reducible refine And.intro ?_ ?measure
                       (repeat apply Exists.intro)
                       refine ⟨?rel, rfl⟩
                       (case rel => exact ⟨r + 1, kk, jb, by omega, by omega, rfl, rfl, by go_num, H6.out.more (by omega) (by omega)⟩)
                       (case measure => simp [intOf]; omega))
        · have d2 : (so == 2) = false := by rw [beq_eq_false_iff_ne]; exact h2
          clear h2
          have hn5 : (sn : Int) < 65536 := by have := HU.out.2.2.2.2.1; simp only at this; omega
          have hsn : (sn : Int) % 4000 = ((sn % 4000 : Nat) : Int) := by omega
          have HSN := Lib.hid hsn
          clear hsn
          go_wp2_with fail
          rw [HSN.out]
          clear hn5
          have b4 := (Below.refl wr.heap.size wr).alloc (Nat.le_refl _) (.cells #[.int .i64 so, .int .u16 (sn : Int), .int .u8 (sc.toNat : Int), .bool soff, .slice pa picks.length pc] 36)
          have hc4 := Cel.new wr #[.int .i64 so, .int .u16 (sn : Int), .int .u8 (sc.toNat : Int), .bool soff, .slice pa picks.length pc] 36
          have hz4 : wr.heap.size < (wr.alloc (.cells #[.int .i64 so, .int .u16 (sn : Int), .int .u8 (sc.toNat : Int), .bool soff, .slice pa picks.length pc] 36)).heap.size := hc4.lt
          have H4 := Lib.hid (And.intro b4 (And.intro hc4 hz4))
          generalize wr.alloc (.cells #[.int .i64 so, .int .u16 (sn : Int), .int .u8 (sc.toNat : Int), .bool soff, .slice pa picks.length pc] 36) = w4 at *
          clear b4 hc4 hz4 c0 c1 c2 c3 c4 k4
          refine (text_any (sn % 4000) sc w4 (by omega)).mono ?_
          rintro e w5 ⟨v12, rfl, o12, b5⟩
          obtain ⟨T, hT⟩ : ∃ T, textL (sn % 4000) sc = T := ⟨_, rfl⟩
          have hTl : T.length ≤ 4000 := by rw [← hT, textL_length]; omega
          rw [hT] at o12
          have bA := H4.out.1.trans (b5.mono H4.out.1.size)
          have hz5 := b5.size
          have hz4 := H4.out.2.2
          have hr60 : r ≤ 60 := by omega
          have hq61 : sq ≤ 2305843009213693952 := HF.out.2.1
          have hap := st_append (P := fun q => q = wr.heap.size ∨ v12.ownBlock = some q) HU.out.1 bA o12.bs (fun q hq => by
            rcases hq with hq | hq
            · omega
            · have h1 := o12.own hq; omega) (fun q hq => .inr hq) hTl (by omega) (by omega)
          have H5 := Lib.hid (And.intro o12 (And.intro hap (And.intro hTl (H4.out.2.1.kept (b5.block _ H4.out.2.2)))))
          clear hT o12 b5 hTl bA hz5 hz4 hap hq61 H4
          go_wp2_with fail
          refine H5.out.2.1.mono ?_
          rintro e w8 ⟨c, rfl, -, hkeep, hor⟩
          have o12 := ow_kept H5.out.1 fun q hq => hkeep q (.inr hq)
          have hc8 := H5.out.2.2.2.kept (hkeep _ (.inl rfl))
          have c4 : w8.cell? ⟨wr.heap.size, 4, none⟩ = some (.slice pa picks.length pc) := by rw [hc8.cell]; rfl
          have HTL := Lib.hid H5.out.2.2.1
          have HB := Lib.hid o12
          clear hkeep hc8 H5 o12
          rcases hor with ⟨hmid, rfl | rfl⟩ | ⟨rfl, -, hgone⟩
          · have H9 := Lib.hid hmid
            clear hmid c4
            go_wp2_with fail
            refine (mid_refappend H9.out HB.out.bs HTL.out).mono ?_
            rintro e w9 ⟨rfl, hst⟩
            have H10 := Lib.hid hst
            clear hst H9
            go_wp2_with (with_reducible refine And.intro ?_ ?measure
                         (repeat apply Exists.intro)
                         refine ⟨?rel, rfl⟩
                         (case rel => exact ⟨r + 1, kk, jb, by omega, by omega, rfl, rfl, by go_num, H10.out.more (by omega) (by omega)⟩)
                         (case measure => simp [intOf]; omega))
          · have H9 := Lib.hid hmid
            clear hmid c4
            go_wp2_with fail
            refine (mid_refappend H9.out HB.out.bs HTL.out).mono ?_
            rintro e w9 ⟨rfl, hst⟩
            have H10 := Lib.hid hst
            clear hst H9
            go_wp2_with (with_reducible refine And.intro ?_ ?measure
                         (repeat apply Exists.intro)
                         refine ⟨?rel, rfl⟩
                         (case rel => exact ⟨r + 1, kk, jb, by omega, by omega, rfl, rfl, by go_num, H10.out.more (by omega) (by omega)⟩)
                         (case measure => simp [intOf]; omega))
          · have H9 := Lib.hid hgone
            clear hgone
            go_wp2_with fail
            refine (gone_append H9.out _).mono ?_
            rintro e w9 ⟨rfl, rfl⟩
            go_wp2_with fail
            refine (gone_forget H9.out).mono ?_
            rintro e w9 ⟨rfl, rfl⟩
            go_wp2_with fail
            refine (gone_on H9.out HU.out.2.2.2.1 (by omega)).mono ?_
            rintro e w10 ⟨rfl, hback, hkeep⟩
            have o12 := ow_kept HB.out fun q hq => hkeep q (.inr hq)
            have H10 := Lib.hid (And.intro hback o12)
            clear hback hkeep o12 H9 c4 HB
            have hcx := H2.out.2.1.below H10.out.1.under H2.out.2.2.2.1
            have k00 : w10.cell? ⟨w.heap.size, 0, none⟩ = some (.int .u8 (fr.toNat : Int)) := by rw [hcx.cell]; rfl
            have k01 : w10.cell? ⟨w.heap.size, 1, none⟩ = some (.int .u8 (sz.toNat : Int)) := by rw [hcx.cell]; rfl
            have k02 : w10.cell? ⟨w.heap.size, 2, none⟩ = some (.int .u8 (a.toNat : Int)) := by rw [hcx.cell]; rfl
            have k03 : w10.cell? ⟨w.heap.size, 3, none⟩ = some (.int .u64 (sq : Int)) := by rw [hcx.cell]; rfl
            have k04 : w10.cell? ⟨w.heap.size, 4, none⟩ = some (.slice (some ⟨g, o, none⟩) L.length lc) := by rw [hcx.cell]; rfl
            clear hcx
            have hag := H2.out.2.2.2.2.2.1 w2 w10 b jb rb _ _ _ T H10.out.1 (by have : sq ≤ 2305843009213693952 := HF.out.2.1; omega)
            have HG := Lib.hid hag
            clear hag
            go_wp2_with fail
            clear k00 k01 k02 k03 k04
            refine HG.out.mono ?_
            rintro e w11 ⟨jb2, lv2, M, M', rfl, htw, hb11⟩
            have H11 := Lib.hid (And.intro htw (H10.out.2.below hb11))
            clear htw hb11 H10 HG
            have hcx := H2.out.2.1.below H11.out.1.under H2.out.2.2.2.1
            have k00 : w11.cell? ⟨w.heap.size, 0, none⟩ = some (.int .u8 (fr.toNat : Int)) := by rw [hcx.cell]; rfl
            have k01 : w11.cell? ⟨w.heap.size, 1, none⟩ = some (.int .u8 (sz.toNat : Int)) := by rw [hcx.cell]; rfl
            have k02 : w11.cell? ⟨w.heap.size, 2, none⟩ = some (.int .u8 (a.toNat : Int)) := by rw [hcx.cell]; rfl
            have k03 : w11.cell? ⟨w.heap.size, 3, none⟩ = some (.int .u64 (sq : Int)) := by rw [hcx.cell]; rfl
            have k04 : w11.cell? ⟨w.heap.size, 4, none⟩ = some (.slice (some ⟨g, o, none⟩) L.length lc) := by rw [hcx.cell]; rfl
            clear hcx
            have hag := H2.out.2.2.2.2.2.2 w2 w11 b jb2 rb _ _ _ T M M' lv2 H11.out.1 (by have : sq ≤ 2305843009213693952 := HF.out.2.1; omega)
            have HG := Lib.hid hag
            clear hag
            go_wp2_with fail
            clear k00 k01 k02 k03 k04
            refine HG.out.mono ?_
            rintro e w12 ⟨jb3, lv3, Hr, rfl, hrow3, htw, hb12⟩
            obtain ⟨Hg, hrow2⟩ := htw.row
            obtain ⟨a2, c2', hlv2⟩ := hrow2.shape
            obtain ⟨a3, c3', hlv3⟩ := hrow3.shape
            have hsame := sames_any w12 hrow2 hrow3 (by have := htw.few; omega)
            rw [decide_eq_true rfl] at hsame
            have H12 := Lib.hid (And.intro hsame (And.intro htw (H11.out.2.below hb12)))
            clear hsame htw hb12 H11 HG hrow2 hrow3
            subst hlv2
            subst hlv3
            go_wp2_with fail
            refine H12.out.1.mono ?_
            rintro e w13 ⟨rfl, b13⟩
            have htw := H12.out.2.1.later b13
            have o12 := H12.out.2.2.below b13
            obtain ⟨rv, Gr, kr, hrr⟩ := htw.list
            obtain ⟨Hg, hrow⟩ := htw.row
            obtain ⟨ar, cr, hrv⟩ := hrr.shape
            have hfw := htw.few
            clear H12 b13
            rcases htw.or with hM | hM
            · subst hM
              have hsame := sames_any w13 hrow hrr (by omega)
              rw [decide_eq_true rfl] at hsame
              have H13 := Lib.hid (And.intro hsame htw.st)
              clear hsame htw o12 hrr hrow hfw
              subst hrv
              go_wp2_with fail
              refine H13.out.1.mono ?_
              rintro e w14 ⟨rfl, b14⟩
              have hst := H13.out.2.later b14
              clear H13 b14 kr
              have H15 := Lib.hid hst
              clear hst
              go_wp2_with fail
              refine (st_alike H15.out).mono ?_
              rintro e wz ⟨rfl, hst⟩
              have HZ := Lib.hid hst
              clear H15
              by_cases hkl : kk < l1.length
              · have hkl' : (kk : Int) < (l1.length : Int) := by omega
                obtain ⟨yk, hyk⟩ : ∃ y, l1[kk]? = some y := ⟨_, List.getElem?_eq_getElem hkl⟩
                obtain ⟨g', o', cp', e', -, -, hcell⟩ := (HV.out.1.below hst.under).open HV.out.2
                simp only [Value.slice.injEq, Option.some.injEq, Addr.mk.injEq] at e'
                obtain ⟨⟨rfl, rfl, -⟩, -⟩ := e'
                have dk : wz.cell? ⟨g1, o1 + kk, none⟩ = some (.int .u8 (yk.toNat : Int)) := hcell kk yk hyk
                have hyl := yk.toNat_lt
                clear hcell hyk hst hkl
                go_wp2_with fail
                refine (st_arm HZ.out id (yk.toNat : Int) (by omega)).mono ?_
                rintro e wa ⟨rfl, hst⟩
                have HA := Lib.hid hst
                clear hst HZ dk hyl
                go_wp2_with (with_reducible refine And.intro ?_ ?measure
                             (repeat apply Exists.intro)
                             refine ⟨?rel, rfl⟩
                             (case rel => exact ⟨r + 1, kk + 1, jb2, by omega, by omega, rfl, by go_num, by go_num, HA.out.more (by omega) (by omega)⟩)
                             (case measure => simp [intOf]; omega))
              · have hkl' : (l1.length : Int) ≤ (kk : Int) := by omega
                clear hkl hst
                go_wp2_with (with_reducible refine And.intro ?_ ?measure
                             (repeat apply Exists.intro)
                             refine ⟨?rel, rfl⟩
                             (case rel => exact ⟨r + 1, kk + 1, jb2, by omega, by omega, rfl, by go_num, by go_num, HZ.out.more (by omega) (by omega)⟩)
                             (case measure => simp [intOf]; omega))
            · subst hM
              have hM1 : (M ++ [T]).length = M.length + 1 := by rw [List.length_append, List.length_singleton]
              have H13 := Lib.hid (And.intro htw o12)
              clear htw o12 hrr hrow hfw
              rw [hM1]
              clear hM1
              subst hrv
              go_wp2_with fail
              refine (twin_refappend H13.out.1 H13.out.2.bs HTL.out).mono ?_
              rintro e w14 ⟨rfl, htw⟩
              obtain ⟨rv, Gr, kr2, hrr⟩ := htw.list
              obtain ⟨Hg, hrow⟩ := htw.row
              obtain ⟨ar2, cr2, hrv⟩ := hrr.shape
              have hsame := sames_any w14 hrow hrr (by have := htw.few; omega)
              rw [decide_eq_true rfl] at hsame
              have hM1 : (M ++ [T]).length = M.length + 1 := by rw [List.length_append, List.length_singleton]
              rw [hM1] at hrv hsame
              have H14 := Lib.hid (And.intro hsame htw.st)
              clear hsame htw hrr hrow H13 kr hM1
              subst hrv
              go_wp2_with fail
              refine H14.out.1.mono ?_
              rintro e w15 ⟨rfl, b15⟩
              have hst := H14.out.2.later b15
              clear H14 b15 kr2
              have H15 := Lib.hid hst
              clear hst
              go_wp2_with fail
              refine (st_alike H15.out).mono ?_
              rintro e wz ⟨rfl, hst⟩
              have HZ := Lib.hid hst
              clear H15
              by_cases hkl : kk < l1.length
              · have hkl' : (kk : Int) < (l1.length : Int) := by omega
                obtain ⟨yk, hyk⟩ : ∃ y, l1[kk]? = some y := ⟨_, List.getElem?_eq_getElem hkl⟩
                obtain ⟨g', o', cp', e', -, -, hcell⟩ := (HV.out.1.below hst.under).open HV.out.2
                simp only [Value.slice.injEq, Option.some.injEq, Addr.mk.injEq] at e'
                obtain ⟨⟨rfl, rfl, -⟩, -⟩ := e'
                have dk : wz.cell? ⟨g1, o1 + kk, none⟩ = some (.int .u8 (yk.toNat : Int)) := hcell kk yk hyk
                have hyl := yk.toNat_lt
                clear hcell hyk hst hkl
                go_wp2_with fail
                refine (st_arm HZ.out id (yk.toNat : Int) (by omega)).mono ?_
                rintro e wa ⟨rfl, hst⟩
                have HA := Lib.hid hst
                clear hst HZ dk hyl
                go_wp2_with (with_reducible refine And.intro ?_ ?measure
                             (repeat apply Exists.intro)
                             refine ⟨?rel, rfl⟩
                             (case rel => exact ⟨r + 1, kk + 1, jb2, by omega, by omega, rfl, by go_num, by go_num, HA.out.more (by omega) (by omega)⟩)
                             (case measure => simp [intOf]; omega))
              · have hkl' : (l1.length : Int) ≤ (kk : Int) := by omega
                clear hkl hst
                go_wp2_with (with_reducible refine And.intro ?_ ?measure
                             (repeat apply Exists.intro)
                             refine ⟨?rel, rfl⟩
                             (case rel => exact ⟨r + 1, kk + 1, jb2, by omega, by omega, rfl, by go_num, by go_num, HZ.out.more (by omega) (by omega)⟩)
                             (case measure => simp [intOf]; omega))
      · obtain rfl : r = L.length := by omega
        have hu := hst.under
        have HU := Lib.hid hu
        clear hst hcw hu
        go_wp2_with fail
        refine (works_any _).mono ?_
        rintro e w9 ⟨rfl, b9⟩
        go_wp2
        go_ret
        have hz := H2.out.1.size
        exact ⟨rfl, H2.out.1.trans ((HU.out.mono hz).trans (b9.mono (Nat.le_trans hz HU.out.size)))⟩
end Go.Proofs.Ytijkkkiejdaljaa
