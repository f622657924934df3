/- JournalPlays: the journal answers as the document's one, step by step; no condition. -/
import Derived.Test.YtijkkkiejdaljaaJrSteps
namespace Go.Proofs.Ytijkkkiejdaljaa
open Go.RowKit Go.Maps

set_option maxRecDepth 1000000 in
set_option maxHeartbeats 8000000 in
theorem journalPlays_any (x : Case) (w : World) (hx : CaseIn w x) : Calls Try.prog 3 #[caseV x] w (Yes w) := by
  have hfew := fun w' (h : CaseIn w' x) => few_any x w' h
  have hbeg := fun w' (h : CaseIn w' x) (h' : FewOk x) => begin_any True x w' h h'
  have hag := fun k w0 w b jb rb z n s h1 h2 => st_again (k := k) (w0 := w0) (w := w) (b := b) (jb := jb) (rb := rb) (f := x.from_.toNat % 5) (z := z) (n := n) (s := s) h1 x rfl h2
  obtain ⟨fr, sz, a, sq, lv, L⟩ := x
  obtain ⟨la, lc, hlv⟩ := hx.1.shape
  simp only at hlv
  subst hlv
  have hb0 := (Below.refl w.heap.size w).alloc (Nat.le_refl _) (.cells #[.int .u8 (fr.toNat : Int), .int .u8 (sz.toNat : Int), .int .u8 (a.toNat : Int), .int .u64 (sq : Int), .slice la L.length lc] 25)
  have hc0 := Cel.new w #[.int .u8 (fr.toNat : Int), .int .u8 (sz.toNat : Int), .int .u8 (a.toNat : Int), .int .u64 (sq : Int), .slice la L.length lc] 25
  have H0 := Lib.hid (And.intro hb0 (And.intro hc0 (And.intro (hx.below hb0) (And.intro hfew (And.intro hbeg hag)))))
  clear hb0 hc0 hx hfew hbeg hag
  go_enter Try.func3, Try.ntmps3
  go_wp2_with fail
  generalize w.alloc (.cells #[.int .u8 (fr.toNat : Int), .int .u8 (sz.toNat : Int), .int .u8 (a.toNat : Int), .int .u64 (sq : Int), .slice la L.length lc] 25) = w1 at *
  refine (H0.out.2.2.2.1 _ H0.out.2.2.1).mono ?_
  rintro e w2 ⟨B, rfl, hB, b2⟩
  have hbw2 := H0.out.1.trans (b2.mono H0.out.1.size)
  have hlt1 := H0.out.2.1.lt
  have hc2 := H0.out.2.1.kept (b2.block w.heap.size hlt1)
  have hx2 := H0.out.2.2.1.below b2
  have hlt2 : w.heap.size < w2.heap.size := by have := b2.size; omega
  have H2 := Lib.hid (And.intro hbw2 (And.intro hc2 (And.intro hx2 (And.intro hlt2 H0.out.2.2.2.2))))
  clear b2 hbw2 hc2 hx2 hlt2 H0 hlt1
  cases B with
  | false =>
    clear hB
    go_wp2_with fail
    refine (works_any _).mono ?_
    rintro e w3 ⟨rfl, b3⟩
    go_wp2
    go_ret
    exact ⟨rfl, H2.out.1.trans (b3.mono H2.out.1.size)⟩
  | true =>
    have HF := Lib.hid (hB rfl)
    clear hB
    have k0 : ∀ i, w2.cell? ⟨w.heap.size, i, none⟩ = (#[.int .u8 (fr.toNat : Int), .int .u8 (sz.toNat : Int), .int .u8 (a.toNat : Int), .int .u64 (sq : Int), .slice la L.length lc] : Array Value).toList[i]? := fun i => H2.out.2.1.cell i
    have k00 := k0 0
    have k01 := k0 1
    have k02 := k0 2
    have k03 := k0 3
    have k04 := k0 4
    simp only [List.getElem?_cons_zero, List.getElem?_cons_succ] at k00 k01 k02 k03 k04
    clear k0
    go_wp2_with fail
    clear k00 k01 k02 k03 k04
    refine (H2.out.2.2.2.2.1 _ H2.out.2.2.1 HF.out).mono ?_
    rintro e w3 ⟨b, jb, rb, rfl, hst⟩
    simp only at hst
    have H3 := Lib.hid hst
    clear hst
    have hll : (L.length : Int) ≤ 60 := by have := HF.out.1; simp only at this; omega
    go_wp2
    generalize fr.toNat % 5 = f at *
    generalize 2 + sz.toNat % 30 = z at *
    go_loopw [4, 7] (fun jv i wr => ∃ r jb : Nat, r ≤ L.length ∧ jv = ptr jb ∧ i = .int .i64 (r : Int) ∧ St True w2 wr b jb rb f z (30 * r) (sq + 1 + r)) (fun _ i _ => L.length - (intOf i).toNat)
    case atStart => exact ⟨0, jb, by omega, rfl, rfl, H3.out⟩
    case round =>
      clear H3
      obtain ⟨r, jb, hr, rfl, rfl, hst⟩ := hrel
      have hcw := H2.out.2.1.below hst.under H2.out.2.2.2.1
      have k4 : wr.cell? ⟨w.heap.size, 4, none⟩ = some (.slice la L.length lc) := by rw [hcw.cell]; rfl
      by_cases hlt : r < L.length
      · have hlt' : (r : Int) < (L.length : Int) := by omega
        have hr0 : (0 : Int) ≤ (r : Int) := by omega
        obtain ⟨st, hs5⟩ : ∃ s, L[r]? = some s := ⟨_, List.getElem?_eq_getElem hlt⟩
        have hx2 := H2.out.2.2.1.1
        simp only at hx2
        obtain ⟨g, o, cap, e, hg, -, hi0, -⟩ := hx2.open hs5
        obtain ⟨g', o', cap', e', -, ⟨c0, c1, c2, c3, c4⟩, hi, hn⟩ := (hx2.below hst.under).open hs5
        rw [e] at e'
        simp only [Value.slice.injEq, Option.some.injEq, Addr.mk.injEq] at e e'
        obtain ⟨rfl, _, rfl⟩ := e
        obtain ⟨⟨rfl, rfl, -⟩, -⟩ := e'
        have HU := Lib.hid (And.intro hst (And.intro hcw (And.intro hg (And.intro hi0 (And.intro hn (HF.out.2.2 st (List.mem_of_getElem? hs5)))))))
        obtain ⟨pa, pc, hpv⟩ := hi.shape
        clear hst hcw hg hi hi0 hn hx2 hs5
        obtain ⟨so, sn, sc, soff, pv, picks⟩ := st
        simp only at c0 c1 c2 c3 c4 hpv
        subst hpv
        by_cases h1 : so = 1
        · subst h1
          have hn5 : (sn : Int) < 65536 := by have := HU.out.2.2.2.2.1; simp only at this; omega
          have hsn : (sn : Int) % 4000 = ((sn % 4000 : Nat) : Int) := by omega
          have HSN := Lib.hid hsn
          clear hsn
          go_wp2_with fail
          rw [HSN.out]
          have b4 := (Below.refl wr.heap.size wr).alloc (Nat.le_refl _) (.cells #[.int .i64 1, .int .u16 (sn : Int), .int .u8 (sc.toNat : Int), .bool soff, .slice pa picks.length pc] 36)
          generalize wr.alloc (.cells #[.int .i64 1, .int .u16 (sn : Int), .int .u8 (sc.toNat : Int), .bool soff, .slice pa picks.length pc] 36) = w4 at *
          have H4 := Lib.hid b4
          clear b4 c0 c1 c2 c3 c4 k4
          refine (text_any (sn % 4000) sc w4 (by omega)).mono ?_
          rintro e w5 ⟨v9, rfl, o9, b5⟩
          obtain ⟨T, hT⟩ : ∃ T, textL (sn % 4000) sc = T := ⟨_, rfl⟩
          have hTl : T.length ≤ 4000 := by rw [← hT, textL_length]; omega
          rw [hT] at o9
          have hE := ow_empty w5
          have b6 : Below w5.heap.size w5 (w5.alloc (.cells #[] 5)) := (Below.refl _ _).alloc (Nat.le_refl _) _
          have hm9 := o9.bs.below b6
          have hz6 := b6.size
          have hsz6 : ([] : Bytes).length + T.length ≤ 140737488355328 := by simp; omega
          have H5 := Lib.hid (And.intro o9 (And.intro b5 hTl))
          clear hT o9 b5 hTl
          go_wp2_with (at_builtin; refine wpList_append_bs bt rfl _ _ rfl _ rfl rfl hE hm9 hsz6 hz6 ?_; intro v10 w7 o10 g10)
          rw [List.nil_append] at o10
          have b57 := below_own b6 hE g10
          have o9' := H5.out.1.below b57
          have bA := H4.out.trans ((H5.out.2.1.trans (b57.mono H5.out.2.1.size)).mono H4.out.size)
          have hz5 := H5.out.2.1.size
          have hz4 := H4.out.size
          have hz7 := b57.size
          have hr60 : r ≤ 60 := by omega
          have hq61 : sq ≤ 2305843009213693952 := by have := HF.out.2.1; simp only at this; omega
          have hap := st_append (P := fun q => v9.ownBlock = some q ∨ v10.ownBlock = some q) HU.out.1 bA o10.bs (fun q hq => by
            rcases hq with hq | hq
            · have h1 := H5.out.1.own hq; omega
            · have h1 := o10.own hq; omega) (fun q hq => .inr hq) H5.out.2.2 (by omega) (by omega)
          have H7 := Lib.hid (And.intro o9' (And.intro o10 (And.intro hap hz5)))
          clear b6 hm9 hz6 hsz6 g10 o10 b57 o9' bA hz5 hz4 hz7 hap hE hq61
          refine H7.out.2.2.1.mono ?_
          rintro e w8 ⟨c, rfl, -, hkeep, hor⟩
          obtain ⟨hmid, -⟩ := hor.resolve_right fun h => h.2.1 trivial
          clear hor
          have o9 := ow_kept H7.out.1 fun q hq => hkeep q (.inl hq)
          have o10 := ow_kept H7.out.2.1 fun q hq => hkeep q (.inr hq)
          have hTl := H5.out.2.2
          have hTl' : (T.length : Int) ≤ 4000 := by omega
          have hd : ∀ q, v9.ownBlock = some q → v10.ownBlock ≠ some q := fun q hq hq' => by
            have h1 := H5.out.1.own hq
            have h2 := o10.own hq'
            omega
          obtain ⟨a9, c9, hv9, -⟩ := o9.bs.shape
          obtain ⟨a10, c10, hv10, -⟩ := o10.bs.shape
          have H8 := Lib.hid (And.intro o9 (And.intro o10 (And.intro hmid hd)))
          have HTL := Lib.hid hTl
          clear hkeep H7 o9 o10 hmid hd hTl H5 H4
          subst hv9
          subst hv10
          go_wp2
          go_loopw [12] (fun i wq => ∃ q : Nat, q ≤ T.length ∧ i = .int .i64 (q : Int) ∧ Mid True w2 wq b jb rb f z (30 * r + 20) (sq + 1 + r + 1) T (fun q => (Value.slice a9 T.length c9).ownBlock = some q ∨ (Value.slice a10 T.length c10).ownBlock = some q) c ∧ Ow wq w4.heap.size 5 (.slice a9 T.length c9) T ∧ ∃ m, m.length = T.length ∧ Ow wq w5.heap.size 5 (.slice a10 T.length c10) m) (fun i _ => T.length - (intOf i).toNat)
          case atStart => exact ⟨0, by omega, rfl, H8.out.2.2.1, H8.out.1, T, rfl, H8.out.2.1⟩
          case round =>
            obtain ⟨q, hq, rfl, hm, o9, m, hml, om⟩ := hrel
            by_cases hqt : q < T.length
            · have hqt' : (q : Int) < (T.length : Int) := by omega
              have hq0 : (0 : Int) ≤ (q : Int) := by omega
              obtain ⟨g10, cc, hgv, -⟩ := om.form (by omega)
              simp only [Value.slice.injEq] at hgv
              obtain ⟨rfl, -, -⟩ := hgv
              have hat := om.at q (by omega)
              obtain ⟨y, hy⟩ : ∃ y, m[q]? = some y := ⟨_, List.getElem?_eq_getElem (by omega)⟩
              have hyy : m[q]'(by omega) = y := by rw [List.getElem?_eq_getElem (by omega)] at hy; exact Option.some.inj hy
              have d4 : wr.cell? ⟨g10, q, none⟩ = some (.int .u8 (y.toNat : Int)) := by rw [hat.1, hyy]; rfl
              have d5 := hat.2.1
              have H9 := Lib.hid (And.intro hm (And.intro o9 (And.intro hml om)))
              clear hat hyy hy hm o9 hml om
              go_wp2
              go_roundw
              case rel =>
                refine ⟨q + 1, by omega, by go_num, H9.out.1.own ((Only.refl _ wr).setCell (p := ⟨g10, q, none⟩) (.inl (.inr rfl)) _), ow_only H9.out.2.1 ((Only.refl (· = g10) wr).setCell (p := ⟨g10, q, none⟩) (.inl rfl) _) (fun k hk e => H8.out.2.2.2 k hk (by rw [e]; rfl)), m.set q (UInt8.ofNat (y.toNat ^^^ 9)), by rw [List.length_set]; exact H9.out.2.2.1, ?_⟩
                rw [xor_nine]
                exact H9.out.2.2.2.set q _
              case measure => simp [intOf]; omega
            · obtain rfl : q = T.length := by omega
              have H9 := Lib.hid (And.intro hm o9.bs)
              clear hm o9 om hml H8 m
              go_wp2_with fail
              refine (mid_refappend H9.out.1 H9.out.2 HTL.out).mono ?_
              rintro e w10 ⟨rfl, hst⟩
              have H10 := Lib.hid hst
              clear hst H9
              go_wp2_with fail
              refine (st_alike H10.out).mono ?_
              rintro e w11 ⟨rfl, hst⟩
              have H11 := Lib.hid hst
              clear hst H10
              go_wp2
              go_roundw
              case rel => exact ⟨r + 1, jb, by omega, rfl, by go_num, H11.out.more (by omega) (by omega)⟩
              case measure => simp [intOf]; omega
        by_cases h2 : so = 2
        · subst h2
          clear h1
          go_wp2_with fail
          have b4 := (Below.refl wr.heap.size wr).alloc (Nat.le_refl _) (.cells #[.int .i64 2, .int .u16 (sn : Int), .int .u8 (sc.toNat : Int), .bool soff, .slice pa picks.length pc] 36)
          have hc4 := Cel.new wr #[.int .i64 2, .int .u16 (sn : Int), .int .u8 (sc.toNat : Int), .bool soff, .slice pa picks.length pc] 36
          have hz4 : wr.heap.size < (wr.alloc (.cells #[.int .i64 2, .int .u16 (sn : Int), .int .u8 (sc.toNat : Int), .bool soff, .slice pa picks.length pc] 36)).heap.size := hc4.lt
          have H4 := Lib.hid (And.intro b4 (And.intro hc4 hz4))
          generalize wr.alloc (.cells #[.int .i64 2, .int .u16 (sn : Int), .int .u8 (sc.toNat : Int), .bool soff, .slice pa picks.length pc] 36) = w4 at *
          clear b4 hc4 hz4 c0 c1 c2 c3 c4 k4
          refine (st_forget (HU.out.1.later H4.out.1) (by have : sq ≤ 2305843009213693952 := HF.out.2.1; omega)).mono ?_
          rintro e w5 ⟨rfl, hmf⟩
          have H5 := Lib.hid hmf
          clear hmf
          go_wp2_with fail
          refine (mid_refforget H5.out).mono ?_
          rintro e w6 ⟨rfl, hst⟩
          have H6 := Lib.hid hst
          clear hst H5
          go_wp2_with fail
          refine (st_alike H6.out).mono ?_
          rintro e wz ⟨rfl, hst⟩
          have HZ := Lib.hid hst
          clear hst
          go_wp2
          go_roundw
          case rel => exact ⟨r + 1, jb, by omega, rfl, by go_num, HZ.out.more (by omega) (by omega)⟩
          case measure => simp [intOf]; omega
        by_cases h3 : so = 3
        · subst h3
          clear h1 h2
          cases soff with
          | true =>
            go_wp2_with fail
            have b4 := (Below.refl wr.heap.size wr).alloc (Nat.le_refl _) (.cells #[.int .i64 3, .int .u16 (sn : Int), .int .u8 (sc.toNat : Int), .bool true, .slice pa picks.length pc] 36)
            have hc4 := Cel.new wr #[.int .i64 3, .int .u16 (sn : Int), .int .u8 (sc.toNat : Int), .bool true, .slice pa picks.length pc] 36
            have hz4 : wr.heap.size < (wr.alloc (.cells #[.int .i64 3, .int .u16 (sn : Int), .int .u8 (sc.toNat : Int), .bool true, .slice pa picks.length pc] 36)).heap.size := hc4.lt
            have H4 := Lib.hid (And.intro b4 (And.intro hc4 hz4))
            generalize wr.alloc (.cells #[.int .i64 3, .int .u16 (sn : Int), .int .u8 (sc.toNat : Int), .bool true, .slice pa picks.length pc] 36) = w4 at *
            clear b4 hc4 hz4 c0 c1 c2 c3 c4 k4
            refine (st_off HU.out.1 H4.out.1).mono ?_
            rintro e w5 ⟨rfl, hoff, hkeep⟩
            have hc5 := H4.out.2.1.kept (hkeep wr.heap.size (Nat.le_refl _) H4.out.2.2)
            have c4 : w5.cell? ⟨wr.heap.size, 4, none⟩ = some (.slice pa picks.length pc) := by rw [hc5.cell]; rfl
            have H5 := Lib.hid hoff
            clear hoff hkeep hc5
            go_wp2_with fail
            refine (offst_on (k := True) H5.out HU.out.2.2.2.1 (by omega)).mono ?_
            rintro e w6 ⟨rfl, hst⟩
            have HS := Lib.hid hst
            clear hst H5 c4
            have hcx := H2.out.2.1.below HS.out.under H2.out.2.2.2.1
            have k00 : w6.cell? ⟨w.heap.size, 0, none⟩ = some (.int .u8 (fr.toNat : Int)) := by rw [hcx.cell]; rfl
            have k01 : w6.cell? ⟨w.heap.size, 1, none⟩ = some (.int .u8 (sz.toNat : Int)) := by rw [hcx.cell]; rfl
            have k02 : w6.cell? ⟨w.heap.size, 2, none⟩ = some (.int .u8 (a.toNat : Int)) := by rw [hcx.cell]; rfl
            have k03 : w6.cell? ⟨w.heap.size, 3, none⟩ = some (.int .u64 (sq : Int)) := by rw [hcx.cell]; rfl
            have k04 : w6.cell? ⟨w.heap.size, 4, none⟩ = some (.slice (some ⟨g, o, none⟩) L.length lc) := by rw [hcx.cell]; rfl
            clear hcx
            have hag := H2.out.2.2.2.2.2 True w2 w6 b jb rb z _ _ HS.out (by have : sq ≤ 2305843009213693952 := HF.out.2.1; omega)
            have HG := Lib.hid hag
            clear hag
            go_wp2_with fail
            clear k00 k01 k02 k03 k04
            refine HG.out.mono ?_
            rintro e wg ⟨jb2, lg, Lg, rfl, htw⟩
            obtain ⟨rv, Gr, kr, hrr⟩ := htw.list
            obtain ⟨Hg, hrg⟩ := htw.row
            obtain ⟨ar, cr, hrv⟩ := hrr.shape
            have hsame := sames_any wg hrg hrr (by have := htw.few; omega)
            rw [decide_eq_true rfl] at hsame
            have H6 := Lib.hid (And.intro hsame htw.st)
            clear hsame htw hrr hrg HG
            subst hrv
            go_wp2_with fail
            refine H6.out.1.mono ?_
            rintro e wh ⟨rfl, bh⟩
            have hsh := H6.out.2.later bh
            have H7 := Lib.hid hsh
            clear hsh bh H6 kr
            go_wp2_with fail
            refine (st_alike H7.out).mono ?_
            rintro e wz ⟨rfl, hst⟩
            have HZ := Lib.hid hst
            clear hst
            go_wp2
            go_roundw
            case rel => exact ⟨r + 1, jb2, by omega, rfl, by go_num, HZ.out.more (by omega) (by omega)⟩
            case measure => simp [intOf]; omega
          | false =>
            have hst0 := HU.out.1.later ((Below.refl wr.heap.size wr).alloc (Nat.le_refl _) (.cells #[.int .i64 3, .int .u16 (sn : Int), .int .u8 (sc.toNat : Int), .bool false, .slice pa picks.length pc] 36))
            have hsz0 : (wr.alloc (.cells #[.int .i64 3, .int .u16 (sn : Int), .int .u8 (sc.toNat : Int), .bool false, .slice pa picks.length pc] 36)).heap.size = wr.heap.size + 1 := by simp
            have HS := Lib.hid hst0
            clear hst0 hsz0
            have hcx := H2.out.2.1.below HS.out.under H2.out.2.2.2.1
            have k00 : (wr.alloc (.cells #[.int .i64 3, .int .u16 (sn : Int), .int .u8 (sc.toNat : Int), .bool false, .slice pa picks.length pc] 36)).cell? ⟨w.heap.size, 0, none⟩ = some (.int .u8 (fr.toNat : Int)) := by rw [hcx.cell]; rfl
            have k01 : (wr.alloc (.cells #[.int .i64 3, .int .u16 (sn : Int), .int .u8 (sc.toNat : Int), .bool false, .slice pa picks.length pc] 36)).cell? ⟨w.heap.size, 1, none⟩ = some (.int .u8 (sz.toNat : Int)) := by rw [hcx.cell]; rfl
            have k02 : (wr.alloc (.cells #[.int .i64 3, .int .u16 (sn : Int), .int .u8 (sc.toNat : Int), .bool false, .slice pa picks.length pc] 36)).cell? ⟨w.heap.size, 2, none⟩ = some (.int .u8 (a.toNat : Int)) := by rw [hcx.cell]; rfl
            have k03 : (wr.alloc (.cells #[.int .i64 3, .int .u16 (sn : Int), .int .u8 (sc.toNat : Int), .bool false, .slice pa picks.length pc] 36)).cell? ⟨w.heap.size, 3, none⟩ = some (.int .u64 (sq : Int)) := by rw [hcx.cell]; rfl
            have k04 : (wr.alloc (.cells #[.int .i64 3, .int .u16 (sn : Int), .int .u8 (sc.toNat : Int), .bool false, .slice pa picks.length pc] 36)).cell? ⟨w.heap.size, 4, none⟩ = some (.slice (some ⟨g, o, none⟩) L.length lc) := by rw [hcx.cell]; rfl
            clear hcx
            have hag := H2.out.2.2.2.2.2 True w2 _ b jb rb z _ _ HS.out (by have : sq ≤ 2305843009213693952 := HF.out.2.1; omega)
            have HG := Lib.hid hag
            clear hag
            go_wp2_with fail
            clear k00 k01 k02 k03 k04
            refine HG.out.mono ?_
            rintro e wg ⟨jb2, lg, Lg, rfl, htw⟩
            obtain ⟨rv, Gr, kr, hrr⟩ := htw.list
            obtain ⟨Hg, hrg⟩ := htw.row
            obtain ⟨ar, cr, hrv⟩ := hrr.shape
            have hsame := sames_any wg hrg hrr (by have := htw.few; omega)
            rw [decide_eq_true rfl] at hsame
            have H6 := Lib.hid (And.intro hsame htw.st)
            clear hsame htw hrr hrg HG
            subst hrv
            go_wp2_with fail
            refine H6.out.1.mono ?_
            rintro e wh ⟨rfl, bh⟩
            have hsh := H6.out.2.later bh
            have H7 := Lib.hid hsh
            clear hsh bh H6 kr
            go_wp2_with fail
            refine (st_alike H7.out).mono ?_
            rintro e wz ⟨rfl, hst⟩
            have HZ := Lib.hid hst
            clear hst
            go_wp2
            go_roundw
            case rel => exact ⟨r + 1, jb2, by omega, rfl, by go_num, HZ.out.more (by omega) (by omega)⟩
            case measure => simp [intOf]; omega
        have d1 : (so == 1) = false := by rw [beq_eq_false_iff_ne]; exact h1
        have d2 : (so == 2) = false := by rw [beq_eq_false_iff_ne]; exact h2
        have d3 : (so == 3) = false := by rw [beq_eq_false_iff_ne]; exact h3
        clear h1 h2 h3
        go_wp2_with fail
        have b4 := (Below.refl wr.heap.size wr).alloc (Nat.le_refl _) (.cells #[.int .i64 so, .int .u16 (sn : Int), .int .u8 (sc.toNat : Int), .bool soff, .slice pa picks.length pc] 36)
        have hc4 := Cel.new wr #[.int .i64 so, .int .u16 (sn : Int), .int .u8 (sc.toNat : Int), .bool soff, .slice pa picks.length pc] 36
        have hz4 : wr.heap.size < (wr.alloc (.cells #[.int .i64 so, .int .u16 (sn : Int), .int .u8 (sc.toNat : Int), .bool soff, .slice pa picks.length pc] 36)).heap.size := hc4.lt
        have H4 := Lib.hid (And.intro b4 (And.intro hc4 hz4))
        generalize wr.alloc (.cells #[.int .i64 so, .int .u16 (sn : Int), .int .u8 (sc.toNat : Int), .bool soff, .slice pa picks.length pc] 36) = w4 at *
        clear b4 hc4 hz4 c0 c1 c2 c3 c4 k4
        refine (st_alike (HU.out.1.later H4.out.1)).mono ?_
        rintro e wz ⟨rfl, hst⟩
        have HZ := Lib.hid hst
        clear hst
        go_wp2
        go_roundw
        case rel => exact ⟨r + 1, jb, by omega, rfl, by go_num, HZ.out.more (by omega) (by omega)⟩
        case measure => simp [intOf]; omega
      · obtain rfl : r = L.length := by omega
        have hu := hst.under
        have HU := Lib.hid hu
        clear hst hcw hu
        go_wp2_with fail
        refine (works_any _).mono ?_
        rintro e w9 ⟨rfl, b9⟩
        go_wp2
        go_ret
        have hz := H2.out.1.size
        exact ⟨rfl, H2.out.1.trans ((HU.out.mono hz).trans (b9.mono (Nat.le_trans hz HU.out.size)))⟩
end Go.Proofs.Ytijkkkiejdaljaa
